/-
  Parts of a slice of octets; octets copied into a row; a row of 32 zeros.
  What the comparison of two numbers answers.
-/
import Derived.Test.YtopcefhncildnaaGreatDoorZ11
import Derived.Laws.CopyOwn
import Derived.Deep.OwnRows
set_option maxRecDepth 100000
set_option maxHeartbeats 1000000
namespace Go.Proofs.YtopcefhncildnaaGreatDoor.F
open Go.RowKit
theorem part_length (l : List Int) (i j : Nat) (hj : j ≤ l.length) : ((l.take j).drop i).length = j - i := by
 rw [List.length_drop, List.length_take, Nat.min_eq_left hj]
end Go.Proofs.YtopcefhncildnaaGreatDoor.F
namespace Go.Proofs.YtopcefhncildnaaGreatDoor
open Go.RowKit
open F
theorem Arg.sub {n0 : Nat} {w : World} {a : Option Addr} {len cap : Nat} {l : List Int} (h : Arg n0 w (.slice a len cap) l) (i j : Nat) (hij : i ≤ j) (hj : j ≤ l.length) : Arg n0 w (sliced a i j cap 1) ((l.take j).drop i) := by
 have ho : Oct ((l.take j).drop i) := fun y hy => h.oct y (List.mem_of_mem_take (List.mem_of_mem_drop hy))
 have hl := part_length l i j hj
 obtain ⟨_, ⟨hv, h0⟩ | ⟨x, c, hv, hcap, hm, hb, hc⟩⟩ := h.cells
 · obtain ⟨rfl, rfl, rfl⟩ := Value.slice.inj hv
   obtain rfl : j = 0 := by omega
   obtain rfl : i = 0 := by omega
   exact .mk ⟨by simp, .inl ⟨by simp [sliced], by simp⟩⟩ (by simpa using ho)
 · obtain ⟨rfl, rfl, rfl⟩ := Value.slice.inj hv
   refine .mk ⟨by simp, .inr ?_⟩ ho
   by_cases e : cap = i
   · refine ⟨x, cap - i, ?_, by omega, by omega, hb, fun k u hk => ?_⟩
     · unfold sliced
       rw [if_pos e, hl]
     · have : k < ((l.take j).drop i).length := by
         have := (List.getElem?_eq_some_iff.1 hk).1
         simpa using this
       omega
   · have hblk : (x.add (i * 1)).block = x.block := by unfold Addr.add; split <;> rfl
     refine ⟨x.add (i * 1), cap - i, ?_, by omega, by omega, by rw [hblk]; exact hb, fun k u hk => ?_⟩
     · unfold sliced
       rw [if_neg e, hl]
       rfl
     · have hk0 : k < j - i := by
         have := (List.getElem?_eq_some_iff.1 hk).1
         rw [List.length_map, hl] at this
         exact this
       have h1 := hc (i + k) u (by
         rw [List.getElem?_map] at hk ⊢
         rw [List.getElem?_drop, List.getElem?_take, if_pos (by omega)] at hk
         exact hk)
       have hpos : 0 < l.length := by omega
       have h0 := hc 0 (.int .u8 (l.getD 0 0)) (by simp [hpos])
       obtain ⟨b, off, spot⟩ := x
       have hspot : spot = none := by simpa [Addr.add] using World.cell?_spot h0
       subst hspot
       rw [add_plain] at h1
       rw [add_plain, add_plain, Nat.mul_one, Nat.add_assoc, h1]
end Go.Proofs.YtopcefhncildnaaGreatDoor
namespace Go.Proofs.YtopcefhncildnaaGreatDoor.F
open Go.RowKit
theorem elem25 : Tryz.prog.underlying 25 = some (.slice (Tryz.prog.elem 25)) := by kernel_rfl
theorem elem25_is : Tryz.prog.elem 25 = 5 := by kernel_rfl
theorem size5 (W : World) : (sizeOf (Tryz.prog.elem 25)).run Tryz.prog W = .ok 1 W := by
 obtain ⟨i0, hi, hz0, hz1, hz2⟩ := info_parts Tryz.info5
 rw [elem25_is]
 simp [sizeOf, typeInfo, hi, hz1]
end Go.Proofs.YtopcefhncildnaaGreatDoor.F
namespace Go.Proofs.YtopcefhncildnaaGreatDoor
open Go.RowKit
open F
open F
theorem Arg.cut {n0 : Nat} {w : World} {v : Value} {l : List Int} (h : Arg n0 w v l) (i j : Nat) (hij : i ≤ j) (hj : j ≤ l.length) :
   ∃ v', Arg n0 w v' ((l.take j).drop i) ∧ ∀ W, (Instr.slice 25 v (some (.int .i64 i)) (some (.int .i64 j)) none).run Tryz.prog W = .ok v' W := by
 obtain ⟨a, cap, rfl, hcap, _⟩ := h.shape
 refine ⟨_, h.sub i j hij hj, fun W => ?_⟩
 rw [run_slice_lh W 25 a l.length cap elem25 .i64 .i64 i j (by omega) (by omega) (by omega), size5]
 simp [Result.andThen]
end Go.Proofs.YtopcefhncildnaaGreatDoor
namespace Go.Proofs.YtopcefhncildnaaGreatDoor.F
open Go.RowKit
open F
end Go.Proofs.YtopcefhncildnaaGreatDoor.F
namespace Go.Proofs.YtopcefhncildnaaGreatDoor
open Go.RowKit
open F
open F
theorem Arg.ahead {n0 : Nat} {w : World} {v : Value} {l : List Int} (h : Arg n0 w v l) (j : Nat) (hj : j ≤ l.length) :
   ∃ v', Arg n0 w v' (l.take j) ∧ ∀ W, (Instr.slice 25 v none (some (.int .i64 j)) none).run Tryz.prog W = .ok v' W := by
 obtain ⟨a, cap, rfl, hcap, _⟩ := h.shape
 refine ⟨_, by simpa using h.sub 0 j (by omega) hj, fun W => ?_⟩
 rw [run_slice_h W 25 a l.length cap elem25 .i64 j (by omega) (by omega), size5]
 simp [Result.andThen]
end Go.Proofs.YtopcefhncildnaaGreatDoor
namespace Go.Proofs.YtopcefhncildnaaGreatDoor.F
open Go.RowKit
open F
end Go.Proofs.YtopcefhncildnaaGreatDoor.F
namespace Go.Proofs.YtopcefhncildnaaGreatDoor
open Go.RowKit
open F
open F
theorem Arg.behind {n0 : Nat} {w : World} {v : Value} {l : List Int} (h : Arg n0 w v l) (i : Nat) (hi : i ≤ l.length) :
   ∃ v', Arg n0 w v' (l.drop i) ∧ ∀ W, (Instr.slice 25 v (some (.int .i64 i)) none none).run Tryz.prog W = .ok v' W := by
 obtain ⟨a, cap, rfl, hcap, _⟩ := h.shape
 refine ⟨_, by simpa using h.sub i l.length hi (Nat.le_refl _), fun W => ?_⟩
 rw [run_slice_l W 25 a l.length cap elem25 .i64 i (by omega) (by omega), size5]
 simp [Result.andThen]
end Go.Proofs.YtopcefhncildnaaGreatDoor
namespace Go.Proofs.YtopcefhncildnaaGreatDoor.F
open Go.RowKit
open F
def Row (w : World) (g : Nat) (l : List Int) : Prop := w.heap[g]? = some (.cells (l.map (Value.int .u8)).toArray 5 (0, 0)) ∧ l.length = 32 ∧ Oct l
def rowV (g : Nat) : Value := .slice (some ⟨g, 0, none⟩) 32 32
theorem Row.lt {w : World} {g : Nat} {l : List Int} (h : Row w g l) : g < w.heap.size := (Array.getElem?_eq_some_iff.1 h.1).1
theorem Row.kept {w w' : World} {g : Nat} {l : List Int} (h : Row w g l) (hs : w'.heap[g]? = w.heap[g]?) : Row w' g l := ⟨hs.trans h.1, h.2⟩
theorem Row.grown {w w' : World} {g : Nat} {l : List Int} {row : Option Nat} (h : Row w g l) (hg : w.grownBy w' row) (hne : some g ≠ row) : Row w' g l := h.kept (hg.block g h.lt hne)
theorem Row.below {w w' : World} {g n : Nat} {l : List Int} (h : Row w g l) (hb : Below n w w') (hn : g < n) : Row w' g l := h.kept (hb.block g hn)
theorem Row.alloc {w : World} {g : Nat} {l : List Int} (h : Row w g l) (o : Obj) : Row (w.alloc o) g l := h.kept (Below.heap_alloc w o g h.lt)
theorem Row.own {w : World} {g base : Nat} {l : List Int} (h : Row w g l) (hb : base ≤ g) : Own1 base w (rowV g) l :=
 .mk (by
   rw [h.2.1]
   exact ⟨by simp [h.2.1], .inr ⟨g, 32, (l.map (Value.int .u8)).toArray, rfl, hb, h.1, Nat.le_refl _, by unfold maxLen; omega, by simp [h.2.1], by
     have : (l.map (Value.int .u8)).length = 32 := by rw [List.length_map]; exact h.2.1
     exact List.take_of_length_le (by show (l.map (Value.int .u8)).length ≤ 32 * 1; omega)⟩⟩) h.2.2
theorem Row.arg {w : World} {g base : Nat} {l : List Int} (h : Row w g l) (hb : base ≤ g) : Arg base w (rowV g) l := (h.own hb).arg
theorem zs_oct : Oct zs := fun x hx => by
 rw [(List.mem_replicate.1 hx).2]; decide
theorem run_copy_into {n0 : Nat} (W : World) (g off dLen dCap : Nat) (v : Value) (l : List Int) (cur : List Value) (t : TypeId) (hg : W.heap[g]? = some (.cells cur.toArray t (0, 0)))
   (h : Arg n0 W v l) (hl : l.length ≤ dLen) (hf : off + l.length ≤ cur.length) :
   ∃ W', (Builtin.copy_ #[25, 25] 3 #[.slice (some ⟨g, off, none⟩) dLen dCap, v]).run Tryz.prog W = .ok (.int .i64 l.length) W' ∧
     W'.heap[g]? = some (.cells (splice cur off (l.map (Value.int .u8))).toArray t (0, 0)) ∧ W.grownBy W' (some g) ∧ W'.heap.size = W.heap.size := by
 have hsz : (Tryz.prog.info? 5).map (·.size) = some 1 := by kernel_rfl
 obtain ⟨_, ⟨hv, h0⟩ | ⟨x, c, hv, _, _, _, hc⟩⟩ := h.cells
 · subst hv
   obtain rfl := List.eq_nil_of_length_eq_zero h0
   refine ⟨W, ?_, ?_, ⟨rfl, rfl, rfl, Nat.le_refl _, fun _ _ _ => rfl⟩, rfl⟩
   · have := run_copy_none (P := Tryz.prog) W 25 25 3 5 (some ⟨g, off, none⟩) none dLen dCap 0 0 Tryz.underlying25 hsz (by simp)
     simpa [goInt] using this
   · simpa [splice] using hg
 · subst hv
   have hrun := run_copy_row (P := Tryz.prog) W 25 25 3 5 g off dLen dCap x l.length c cur.toArray t (l.map (Value.int .u8)) Tryz.underlying25 hsz hg (by rw [List.length_map]; exact (Nat.min_eq_left hl).symm) hc (by simpa using hf) (one_cells l)
   refine ⟨_, hrun.trans (by rw [List.length_map]; rfl), ?_, ?_, ?_⟩
   · rw [setRow_heap W g _ _ t _ hg]; simp [splice]
   · exact ⟨rfl, rfl, rfl, by simp [World.setRow], fun k _ hk => setRow_other W g k _ (fun e => hk (by rw [e]))⟩
   · simp [World.setRow]
theorem splice_map (a b : List Int) (off : Nat) (f : Int → Value) : splice (a.map f) off (b.map f) = (splice a off b).map f := by
 simp [splice]
theorem splice_length (a b : List Int) (off : Nat) (h : off + b.length ≤ a.length) : (splice a off b).length = a.length := by
 simp [splice]; omega
theorem splice_get (a b : List Int) (off i : Nat) (h : off + b.length ≤ a.length) : (splice a off b).getD i 0 = if off ≤ i ∧ i < off + b.length then b.getD (i - off) 0 else a.getD i 0 := by
 simp only [splice, List.getD_eq_getElem?_getD]
 by_cases h1 : i < off
 · rw [if_neg (by omega), List.getElem?_append_left (by rw [List.length_take]; omega), List.getElem?_take, if_pos h1]
 · have e : (a.take off).length = off := by rw [List.length_take]; omega
   rw [List.getElem?_append_right (by omega), e]
   by_cases h2 : i < off + b.length
   · rw [if_pos (by omega), List.getElem?_append_left (by omega)]
   · rw [if_neg (by omega), List.getElem?_append_right (by omega), List.getElem?_drop]
     congr 2
     omega
end Go.Proofs.YtopcefhncildnaaGreatDoor.F
namespace Go.Proofs.YtopcefhncildnaaGreatDoor.F
open Go.RowKit
def cmpI (x y : Int) : Int := if x < y then -1 else if y < x then 1 else 0
theorem nan_any (x : Int) (w : World) : Calls Tryz.prog 221 #[.int .i64 x] w fun e w' => e = .returned (.bool false) ∧ w = w' := by
 go_enter Tryz.func221, Tryz.ntmps221
 go_wp2
 go_ret
 exact ⟨by simp, rfl⟩
theorem compare_any (x y : Int) (w : World) : Calls Tryz.prog 156 #[.int .i64 x, .int .i64 y] w fun e w' => e = .returned (.int .i64 (cmpI x y)) ∧ w = w' := by
 have HN := nan_any
 by_cases h1 : x < y
 · rw [show cmpI x y = -1 from if_pos h1]
   go_enter Tryz.func156, Tryz.ntmps156
   go_wp2_with (go_at_call 221; refine (HN _ _).mono ?_; rintro e w1 ⟨rfl, rfl⟩)
   go_ret
   exact ⟨rfl, rfl⟩
 · by_cases h2 : y < x
   · rw [show cmpI x y = 1 by unfold cmpI; rw [if_neg h1, if_pos h2]]
     go_enter Tryz.func156, Tryz.ntmps156
     go_wp2_with (go_at_call 221; refine (HN _ _).mono ?_; rintro e w1 ⟨rfl, rfl⟩)
     go_ret
     exact ⟨rfl, rfl⟩
   · rw [show cmpI x y = 0 by unfold cmpI; rw [if_neg h1, if_neg h2]]
     go_enter Tryz.func156, Tryz.ntmps156
     go_wp2_with (go_at_call 221; refine (HN _ _).mono ?_; rintro e w1 ⟨rfl, rfl⟩)
     go_ret
     exact ⟨rfl, rfl⟩
end Go.Proofs.YtopcefhncildnaaGreatDoor.F
