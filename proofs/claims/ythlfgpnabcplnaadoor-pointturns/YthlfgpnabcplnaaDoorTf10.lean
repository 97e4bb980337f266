/-
  What whole and blank make: a write of 64 octets, zeros behind those that are given; and so many sectors of zeros.
-/
import Derived.Test.YthlfgpnabcplnaaDoorTf7
import Derived.Laws.CopyOwn
import Derived.Deep.OwnRows
namespace Go.Proofs.YthlfgpnabcplnaaDoor.Dk
open Go.RowKit
set_option maxRecDepth 100000

/-- Octets, and zeros up to 64. -/
def pad (l : List Int) : List Int := l ++ List.replicate (64 - l.length) 0
theorem pad_length (l : List Int) (h : l.length ≤ 64) : (pad l).length = 64 := by simp [pad]; omega
theorem pad_oct {l : List Int} (h : Oct l) : Oct (pad l) := by
  intro x hx
  rcases List.mem_append.1 hx with h1 | h1
  · exact h x h1
  · rw [(List.mem_replicate.1 h1).2]; omega
theorem pad_full (l : List Int) (h : l.length = 64) : pad l = l := by simp [pad, h]

/-- A sector of zeros, as cells. -/
def zeros64 : List Value := (List.replicate 64 (0 : Int)).map (Value.int .u8)

theorem made64 : madeCells #[Value.int .u8 0] 64 = zeros64.toArray := by
  apply Array.ext'
  rw [toList_madeCells_one]
  rfl

theorem make64 (W : World) : (Instr.makeSlice 22 (.int .i64 64) (.int .i64 64)).run Tryd.prog W = .ok (.slice (some ⟨W.heap.size, 0, none⟩) 64 64) (W.alloc (.cells zeros64.toArray 5)) := by
  have := run_make_row' (P := Tryd.prog) 22 5 (.int .u8 0) 1 Tryd.underlying22 Tryd.info5 rfl .i64 .i64 64 (by omega) (by omega) W
  rw [made64] at this
  exact this

theorem alloc64_own (W : World) (base : Nat) (h : base ≤ W.heap.size) : (W.alloc (.cells zeros64.toArray 5)).ownsRow base 5 1 (.slice (some ⟨W.heap.size, 0, none⟩) 64 64) 64 zeros64 :=
  ⟨by simp [zeros64], .inr ⟨_, 64, zeros64.toArray, rfl, h, heap_alloc_new W _, Nat.le_refl _, by unfold maxLen; omega, by simp [zeros64], by simp [zeros64]⟩⟩

theorem splice_pad (l : List Int) (h : l.length ≤ 64) : splice zeros64 0 (l.map (Value.int .u8)) = (pad l).map (Value.int .u8) := by
  have e : (64 : Nat) = l.length + (64 - l.length) := by omega
  simp only [splice, pad, List.take_zero, List.nil_append, List.map_append, List.length_map, Nat.zero_add]
  congr 1
  rw [zeros64, List.map_replicate, List.map_replicate, List.drop_replicate]

/-- copy(d, s) of octets, where all of s finds room: the row behind it; all else stays. -/
theorem run_copy_into {n0 : Nat} (W : World) (g off dLen dCap : Nat) (a : Option Addr) (cap : Nat) (l : List Int) (cur : List Value) (t : TypeId) (hg : W.heap[g]? = some (.cells cur.toArray t (0, 0)))
    (h : Arg n0 W (.slice a l.length cap) l) (hl : l.length ≤ dLen) (hf : off + l.length ≤ cur.length) :
    ∃ W', (Builtin.copy_ #[22, 22] 3 #[.slice (some ⟨g, off, none⟩) dLen dCap, .slice a l.length cap]).run Tryd.prog W = .ok (.int .i64 l.length) W' ∧
      W'.heap[g]? = some (.cells (splice cur off (l.map (Value.int .u8))).toArray t (0, 0)) ∧ W.grownBy W' (some g) ∧ W'.heap.size = W.heap.size := by
  have hsz : (Tryd.prog.info? 5).map (·.size) = some 1 := by kernel_rfl
  obtain ⟨⟨_, ⟨hv, h0⟩ | ⟨x, c, hv, _, _, _, hc⟩⟩, _⟩ := h
  · obtain ⟨rfl, _, rfl⟩ := Value.slice.inj hv
    obtain rfl := List.eq_nil_of_length_eq_zero h0
    refine ⟨W, ?_, ?_, ⟨rfl, rfl, rfl, Nat.le_refl _, fun _ _ _ => rfl⟩, rfl⟩
    · have := run_copy_none (P := Tryd.prog) W 22 22 3 5 (some ⟨g, off, none⟩) none dLen dCap 0 0 Tryd.underlying22 hsz (by simp)
      simpa [goInt] using this
    · simpa [splice] using hg
  · obtain ⟨rfl, _, rfl⟩ := Value.slice.inj hv
    have hrun := run_copy_row (P := Tryd.prog) W 22 22 3 5 g off dLen dCap x l.length cap cur.toArray t (l.map (Value.int .u8)) Tryd.underlying22 hsz hg (by rw [List.length_map]; exact (Nat.min_eq_left hl).symm) hc (by simpa using hf) (one_cells l)
    refine ⟨_, hrun.trans (by rw [List.length_map]; rfl), ?_, ?_, ?_⟩
    · rw [setRow_heap W g _ _ t _ hg]; simp [splice]
    · exact ⟨rfl, rfl, rfl, by simp [World.setRow], fun k _ hk => setRow_other W g k _ (fun e => hk (by rw [e]))⟩
    · simp [World.setRow]

theorem heap_set2 (W : World) (B k : Nat) (u v : Value) (h : k ≠ B) : ((W.setCell ⟨B, 0, none⟩ u).setCell ⟨B, 1, none⟩ v).heap[k]? = W.heap[k]? := by
  rw [Below.heap_setCell _ _ _ _ h, Below.heap_setCell _ _ _ _ h]
theorem below_set2 {B n : Nat} {w W : World} (h : Below n w W) (hn : n ≤ B) (u v : Value) : Below n w ((W.setCell ⟨B, 0, none⟩ u).setCell ⟨B, 1, none⟩ v) := (h.setCell (p := ⟨B, 0, none⟩) hn u).setCell (p := ⟨B, 1, none⟩) hn v
theorem row_own {W : World} {g base n : Nat} {e : TypeId} {cs : List Value} (hg : W.heap[g]? = some (.cells cs.toArray e (0, 0))) (hb : base ≤ g) (hn : cs.length = n) (hm : n ≤ maxLen) : W.ownsRow base e 1 (.slice (some ⟨g, 0, none⟩) n n) n cs :=
  ⟨by omega, .inr ⟨g, n, cs.toArray, rfl, hb, hg, Nat.le_refl _, hm, by simpa using hn, by rw [Nat.mul_one, ← hn]; simp⟩⟩

set_option maxHeartbeats 400000 in
theorem whole_any (n0 : Nat) (v : Value) (l : List Int) (s : Int) (w : World) (h : Arg n0 w v l) (hl : l.length ≤ 64) :
    Calls Tryd.prog 45 #[.int .i64 s, v] w fun e w' => ∃ g, e = .returned (.agg #[.int .i64 s, .slice (some ⟨g, 0, none⟩) 64 64]) ∧ w'.ownsRow w.heap.size 5 1 (.slice (some ⟨g, 0, none⟩) 64 64) 64 ((pad l).map (Value.int .u8)) ∧ Below w.heap.size w w' := by
  have hmk := make64
  obtain ⟨a, cap, rfl, _, _, hnone⟩ := h.shape
  obtain ⟨W, hW⟩ : ∃ W, W = ((w.alloc (.cells #[.int .i64 0, .slice none 0 0] 81)).alloc (.cells zeros64.toArray 5)).alloc (.cells #[.int .i64 s, .slice (some ⟨w.heap.size + 1, 0, none⟩) 64 64] 81) := ⟨_, rfl⟩
  have hb : Below w.heap.size w W := by
    rw [hW]; exact (((Below.refl _ w).alloc (Nat.le_refl _) _).alloc (by simp) _).alloc (by simp; omega) _
  have hA : Arg n0 W (.slice a l.length cap) l := h.below hb
  have hg : W.heap[w.heap.size + 1]? = some (.cells zeros64.toArray 5 (0, 0)) := by
    rw [hW, Below.heap_alloc _ _ _ (by simp)]
    have := heap_alloc_new (w.alloc (.cells #[.int .i64 0, .slice none 0 0] 81)) (.cells zeros64.toArray 5)
    simpa using this
  have e0 : W.cell? ⟨w.heap.size, 0, none⟩ = some (.int .i64 0) := by rw [hW]; simp [go_sem]
  have e1 : W.cell? ⟨w.heap.size, 1, none⟩ = some (.slice none 0 0) := by rw [hW]; simp [go_sem]
  have e2 : W.cell? ⟨w.heap.size + 1 + 1, 0, none⟩ = some (.int .i64 s) := by rw [hW]; simp [go_sem]
  have e3 : W.cell? ⟨w.heap.size + 1 + 1, 1, none⟩ = some (.slice (some ⟨w.heap.size + 1, 0, none⟩) 64 64) := by rw [hW]; simp [go_sem]
  have e4 : W.frozen? ⟨w.heap.size, 0, none⟩ = false := by rw [hW]; simp [go_sem]
  have e5 : W.frozen? ⟨w.heap.size, 1, none⟩ = false := by rw [hW]; simp [go_sem]
  obtain ⟨W', hrun, hg', hgrow, hsz⟩ := run_copy_into W (w.heap.size + 1) 0 64 64 a cap l zeros64 5 hg hA hl (by simp [zeros64]; omega)
  rw [splice_pad l hl] at hg'
  have f0 : W'.cell? ⟨w.heap.size, 0, none⟩ = some (.int .i64 0) := hgrow.cell e0 (by simp)
  have f1 : W'.cell? ⟨w.heap.size, 1, none⟩ = some (.slice none 0 0) := hgrow.cell e1 (by simp)
  have f2 : W'.cell? ⟨w.heap.size + 1 + 1, 0, none⟩ = some (.int .i64 s) := hgrow.cell e2 (by simp)
  have f3 : W'.cell? ⟨w.heap.size + 1 + 1, 1, none⟩ = some (.slice (some ⟨w.heap.size + 1, 0, none⟩) 64 64) := hgrow.cell e3 (by simp)
  have f4 : W'.frozen? ⟨w.heap.size, 0, none⟩ = false := (World.frozen?_of_block (hgrow.block _ (cell_lt e0) (by simp))).trans e4
  have f5 : W'.frozen? ⟨w.heap.size, 1, none⟩ = false := (World.frozen?_of_block (hgrow.block _ (cell_lt e1) (by simp))).trans e5
  have HB : Hid (Below w.heap.size w W') := hb.grown hgrow hb.size (fun k hk => by cases hk; omega)
  have HG : Hid (W'.heap[w.heap.size + 1]? = some (.cells ((pad l).map (Value.int .u8)).toArray 5 (0, 0))) := hg'
  rw [hW] at hrun
  clear hA hg e0 e1 e2 e3 e4 e5 hgrow hsz hg' hb hW h hnone
  go_enter Tryd.func45, Tryd.ntmps45
  go_wp2
  refine bodyPost_ret (v := .agg #[.int .i64 s, .slice (some ⟨w.heap.size + 1, 0, none⟩) 64 64]) (by simp [results, Tryd.results45, go_sem, *]) rfl ⟨w.heap.size + 1, rfl, ?_, ?_⟩
  · exact row_own (by rw [heap_set2 _ _ _ _ _ (by omega)]; exact HG.out) (by omega) (by rw [List.length_map, pad_length l hl]) (by unfold maxLen; omega)
  · exact below_set2 HB.out (Nat.le_refl _) _ _

/-- Rows of octets, each in a block of its own, all 64 long: their slices lie in one block. -/
def Grid (base : Nat) (w : World) (v : Value) (ls : List (List Int)) : Prop :=
  ∃ bs : List Nat, w.ownsRow base 22 1 v ls.length (bs.map fun b => Value.slice (some ⟨b, 0, none⟩) 64 64) ∧ bs.Nodup ∧
    Each (fun b l => base ≤ b ∧ l.length = 64 ∧ Oct l ∧ w.heap[b]? = some (.cells (l.map (Value.int .u8)).toArray 5 (0, 0))) bs ls

theorem Grid.lists {base : Nat} {w : World} {v : Value} {ls : List (List Int)} (h : Grid base w v ls) : Lists base w v ls := by
  obtain ⟨bs, h1, _, h3⟩ := h
  refine ⟨_, .own h1, ?_⟩
  clear h1
  induction bs generalizing ls with
  | nil => cases ls with
    | nil => trivial
    | cons => exact h3.elim
  | cons b bs ih => cases ls with
    | nil => exact h3.elim
    | cons l ls =>
      refine ⟨.own ?_ h3.1.2.2.1, ih (by simp_all) h3.2⟩
      have := row_own h3.1.2.2.2 h3.1.1 (n := l.length) (by simp) (by rw [h3.1.2.1]; unfold maxLen; omega)
      rwa [h3.1.2.1] at this ⊢


end Go.Proofs.YthlfgpnabcplnaaDoor.Dk
