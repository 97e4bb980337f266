/-
  What blank and New make: so many sectors of zeros, each in a block of its own.
-/
import Derived.Test.YtkeaillmcfnnkaaWhole
import Derived.Deep.RegionHeld3
import Derived.Deep.RegionLaw
import Derived.Deep.AppendLies
import Derived.Deep.DrawnRows
namespace Go.Proofs.Ytkeaillmcfnnkaa
open Go.RowKit

/-- Block B is a variable of two cells. -/
def Box (w : World) (B : Nat) (t : TypeId) (u v : Value) : Prop := w.heap[B]? = some (.cells #[u, v] t (0, 0))
theorem Box.cell0 {w : World} {B : Nat} {t : TypeId} {u v : Value} (h : Box w B t u v) : w.cell? ⟨B, 0, none⟩ = some u := by simp [World.cell?, show w.heap[B]? = _ from h]
theorem Box.cell1 {w : World} {B : Nat} {t : TypeId} {u v : Value} (h : Box w B t u v) : w.cell? ⟨B, 1, none⟩ = some v := by simp [World.cell?, show w.heap[B]? = _ from h]
theorem Box.frozen0 {w : World} {B : Nat} {t : TypeId} {u v : Value} (h : Box w B t u v) : w.frozen? ⟨B, 0, none⟩ = false := by simp [World.frozen?, show w.heap[B]? = _ from h]
theorem Box.frozen1 {w : World} {B : Nat} {t : TypeId} {u v : Value} (h : Box w B t u v) : w.frozen? ⟨B, 1, none⟩ = false := by simp [World.frozen?, show w.heap[B]? = _ from h]
theorem Box.lt {w : World} {B : Nat} {t : TypeId} {u v : Value} (h : Box w B t u v) : B < w.heap.size := (Array.getElem?_eq_some_iff.1 h).1
theorem Box.new (w : World) (t : TypeId) (u v : Value) : Box (w.alloc (.cells #[u, v] t)) w.heap.size t u v := heap_alloc_new w _
theorem Box.kept {w w' : World} {B : Nat} {t : TypeId} {u v : Value} (h : Box w B t u v) (hs : w'.heap[B]? = w.heap[B]?) : Box w' B t u v := hs.trans h
theorem Box.grown {w w' : World} {row : Option Nat} {B : Nat} {t : TypeId} {u v : Value} (h : Box w B t u v) (hg : w.grownBy w' row) (hne : some B ≠ row) : Box w' B t u v := h.kept (hg.block B h.lt hne)
theorem Box.below {w w' : World} {B n : Nat} {t : TypeId} {u v : Value} (h : Box w B t u v) (hb : Below n w w') (hn : B < n) : Box w' B t u v := h.kept (hb.block B hn)
theorem Box.alloc {w : World} {B : Nat} {t : TypeId} {u v : Value} (h : Box w B t u v) (o : Obj) : Box (w.alloc o) B t u v := h.kept (Below.heap_alloc w o B h.lt)
theorem Box.drew {w : World} {B : Nat} {t : TypeId} {u v : Value} (h : Box w B t u v) : Box w.drew B t u v := h
theorem Box.set0 {w : World} {B : Nat} {t : TypeId} {u v : Value} (h : Box w B t u v) (x : Value) : Box (w.setCell ⟨B, 0, none⟩ x) B t x v := by
  obtain ⟨hlt, hk⟩ := Array.getElem?_eq_some_iff.1 h
  show (w.heap.modify B _)[B]? = _
  rw [Array.getElem?_eq_getElem (by rw [Array.size_modify]; exact hlt), Array.getElem_modify_self, hk]
  rfl
theorem Box.set1 {w : World} {B : Nat} {t : TypeId} {u v : Value} (h : Box w B t u v) (x : Value) : Box (w.setCell ⟨B, 1, none⟩ x) B t u x := by
  obtain ⟨hlt, hk⟩ := Array.getElem?_eq_some_iff.1 h
  show (w.heap.modify B _)[B]? = _
  rw [Array.getElem?_eq_getElem (by rw [Array.size_modify]; exact hlt), Array.getElem_modify_self, hk]
  rfl
theorem Box.other {w : World} {B B' i : Nat} {t : TypeId} {u v x : Value} (h : Box w B t u v) (hne : B ≠ B') : Box (w.setCell ⟨B', i, none⟩ x) B t u v := h.kept (Below.heap_setCell _ _ _ _ hne)

theorem own_shape {w : World} {base : Nat} {e : TypeId} {size : Nat} {v : Value} {n : Nat} {xs : List Value} (h : w.ownsRow base e size v n xs) : ∃ a cap, v = .slice a n cap := by
  rcases h.2 with ⟨rfl, rfl⟩ | ⟨g, cap, cur, rfl, _⟩
  · exact ⟨none, 0, rfl⟩
  · exact ⟨_, cap, rfl⟩

def zeros : List Int := List.replicate 64 0
theorem zeros_oct : Oct zeros := fun x hx => by rw [(List.mem_replicate.1 hx).2]; omega

/-- Another row of zeros. -/
theorem Grid.push {base : Nat} {wr w3 : World} {gg k cap cap' : Nat} {a : Option Addr} {ls : List (List Int)} (bs : List Nat) (hk : ls.length = k) (hnd : bs.Nodup) (hE : Each (fun b l => base ≤ b ∧ l.length = 64 ∧ Oct l ∧ wr.heap[b]? = some (.cells (l.map (Value.int .u8)).toArray 5 (0, 0))) bs ls)
    (hown : wr.ownsRow base 26 1 (.slice a k cap) k (bs.map fun b => Value.slice (some ⟨b, 0, none⟩) 64 64))
    (hb : base ≤ wr.heap.size) (hZ : w3.heap[wr.heap.size]? = some (.cells zeros64.toArray 5 (0, 0)))
    (hown3 : w3.ownsRow base 26 1 (.slice (some ⟨gg, 0, none⟩) (k + 1) cap') (k + 1) ((bs.map fun b => Value.slice (some ⟨b, 0, none⟩) 64 64) ++ [.slice (some ⟨wr.heap.size, 0, none⟩) 64 64]))
    (hblk : ∀ j, j < wr.heap.size → some j ≠ (Value.slice a k cap).ownBlock → w3.heap[j]? = wr.heap[j]?) : Grid base w3 (.slice (some ⟨gg, 0, none⟩) (k + 1) cap') (ls ++ [zeros]) := by
  refine ⟨bs ++ [wr.heap.size], ?_, ?_, ?_⟩
  · rw [List.length_append, hk]
    simpa using hown3
  · refine List.nodup_append.2 ⟨hnd, by simp, fun x hx y hy => ?_⟩
    obtain rfl : y = wr.heap.size := by simpa using hy
    obtain ⟨i, hi, rfl⟩ := List.mem_iff_getElem.1 hx
    have hlt : i < ls.length := by rw [← hE.length]; exact hi
    obtain ⟨b, hb', _, _, _, hh⟩ := hE.get (List.getElem?_eq_getElem hlt)
    rw [List.getElem?_eq_getElem hi] at hb'
    cases hb'
    have := (Array.getElem?_eq_some_iff.1 hh).1
    omega
  · refine Each.snoc (hE.mono fun b l h => ⟨h.1, h.2.1, h.2.2.1, ?_⟩) ⟨hb, by simp [zeros], zeros_oct, hZ⟩
    rw [hblk b (Array.getElem?_eq_some_iff.1 h.2.2.2).1 ?_]
    · exact h.2.2.2
    · intro e
      rcases hown.2 with ⟨hv, _⟩ | ⟨g, cp, cur, hv, _, hg, _⟩
      · cases hv; simp [Value.ownBlock] at e
      · cases hv
        simp [Value.ownBlock] at e
        subst e
        rw [h.2.2.2] at hg
        simp at hg

theorem heap_two (wr : World) (o o' : Obj) : ((wr.alloc o).alloc o').drew.heap[wr.heap.size + 1]? = some o' := by
  have := heap_alloc_new (wr.alloc o) o'
  rw [World.size_alloc] at this
  exact this

theorem row_ne {w : World} {base : Nat} {e : TypeId} {size : Nat} {v : Value} {n : Nat} {xs : List Value} (h : w.ownsRow base e size v n xs) {B : Nat} (hB : B < base) : some B ≠ v.ownBlock := fun e' => by
  have := (h.lt B e'.symm).1
  omega
theorem row_ne' {w : World} {base : Nat} {e : TypeId} {size : Nat} {v : Value} {n : Nat} {xs : List Value} (h : w.ownsRow base e size v n xs) {B : Nat} (hB : w.heap.size ≤ B) : some B ≠ v.ownBlock := fun e' => by
  have := (h.lt B e'.symm).2
  omega

theorem Grid.same {base : Nat} {w w' : World} {v : Value} {ls : List (List Int)} (h : Grid base w v ls) (hs : Same base w w') : Grid base w' v ls := by
  obtain ⟨bs, h1, h2, h3⟩ := h
  refine ⟨bs, ⟨h1.1, ?_⟩, h2, h3.mono fun b l h => ⟨h.1, h.2.1, h.2.2.1, ?_⟩⟩
  · rcases h1.2 with h | ⟨g, cap, cur, hv, hb, hg, r⟩
    · exact .inl h
    · exact .inr ⟨g, cap, cur, hv, hb, by rw [hs g hb (Array.getElem?_eq_some_iff.1 hg).1]; exact hg, r⟩
  · rw [hs b h.1 (Array.getElem?_eq_some_iff.1 h.2.2.2).1]; exact h.2.2.2
theorem Grid.set {base : Nat} {w : World} {v x : Value} {ls : List (List Int)} {B i : Nat} (h : Grid base w v ls) (hB : B < base) : Grid base (w.setCell ⟨B, i, none⟩ x) v ls :=
  h.same fun k hk _ => Below.heap_setCell _ _ _ _ (by simp; omega)
theorem Grid.weaken {n0 n1 : Nat} {w : World} {v : Value} {ls : List (List Int)} (h : Grid n0 w v ls) (hn : n1 ≤ n0) : Grid n1 w v ls := by
  obtain ⟨bs, h1, h2, h3⟩ := h
  refine ⟨bs, ⟨h1.1, ?_⟩, h2, h3.mono fun b l h => ⟨Nat.le_trans hn h.1, h.2⟩⟩
  rcases h1.2 with h | ⟨g, cap, cur, hv, hb, r⟩
  · exact .inl h
  · exact .inr ⟨g, cap, cur, hv, Nat.le_trans hn hb, r⟩

attribute [local go_sem ↓] Go.wp_at_zero Go.wp_at_succ

set_option maxRecDepth 100000 in
set_option maxHeartbeats 4000000 in
theorem blank_any (n : Nat) (w : World) (hn : n ≤ 2048) :
    Calls Try.prog 44 #[.int .i64 n] w fun e w' => ∃ v, e = .returned (.agg #[v, .slice none 0 0]) ∧ Grid w.heap.size w' v (List.replicate n zeros) ∧ Below w.heap.size w w' := by
  have hmk := make64
  obtain ⟨i0, hi, hz0, hz1, hz2⟩ := info_parts Try.info26
  go_enter Try.func44, Try.ntmps44
  go_wp2
  go_loopw [5] (fun i wr => ∃ (k : Nat) (v : Value), k ≤ n ∧ i = .int .i64 k ∧ Box wr (w.heap.size + 1) 30 v (.slice none 0 0) ∧ Box wr w.heap.size 30 (.slice none 0 0) (.slice none 0 0) ∧ Grid (w.heap.size + 2) wr v (List.replicate k zeros) ∧ Below w.heap.size w wr ∧ w.heap.size + 2 ≤ wr.heap.size) (fun i _ => n - (intOf i).toNat)
  case atStart =>
    refine ⟨0, _, Nat.zero_le _, rfl, ?_, ?_, ⟨[], World.ownsRow_nil _ _ _ _, by simp, trivial⟩, ?_, ?_⟩
    · have := Box.new (w.alloc (.cells #[.slice none 0 0, .slice none 0 0] 30)) 30 (.slice none 0 0) (.slice none 0 0)
      simpa using this
    · exact (Box.new w 30 _ _).alloc _
    · exact ((Below.refl _ w).alloc (Nat.le_refl _) _).alloc (by simp) _
    · simp
  case round =>
    obtain ⟨k, v, hk, rfl, hB1, hB0, hG, hbel, hsz⟩ := hrel
    by_cases hlt : k < n
    · obtain ⟨bs, hown, hnd, hE⟩ := hG
      rw [List.length_replicate] at hown
      obtain ⟨a, cap, rfl⟩ := own_shape hown
      have hc := hB1.cell0
      have hf := hB1.frozen0
      have HB1 : Hid (Box wr (w.heap.size + 1) 30 (.slice a k cap) (.slice none 0 0)) := hB1
      have HB0 : Hid (Box wr w.heap.size 30 (.slice none 0 0) (.slice none 0 0)) := hB0
      have HE : Hid (bs.Nodup ∧ Each (fun b l => w.heap.size + 2 ≤ b ∧ l.length = 64 ∧ Oct l ∧ wr.heap[b]? = some (.cells (l.map (Value.int .u8)).toArray 5 (0, 0))) bs (List.replicate k zeros)) := ⟨hnd, hE⟩
      have HO : Hid (wr.ownsRow (w.heap.size + 2) 26 1 (.slice a k cap) k (bs.map fun b => Value.slice (some ⟨b, 0, none⟩) 64 64)) := hown
      have HBL : Hid (Below w.heap.size w wr) := hbel
      obtain ⟨us, hus⟩ : ∃ us, us = bs.map fun b => Value.slice (some ⟨b, 0, none⟩) 64 64 := ⟨_, rfl⟩
      rw [← hus] at hown
      have HU : Hid (us = bs.map fun b => Value.slice (some ⟨b, 0, none⟩) 64 64) := hus
      clear hB1 hB0 hnd hE hbel hus
      have hki : (k : Int) < (n : Int) := by omega
      have hca : ∀ o, (wr.alloc o).cell? ⟨w.heap.size + 1, 0, none⟩ = some (.slice a k cap) := fun o => (HB1.out.alloc o).cell0
      have hcb : ∀ o o', ((wr.alloc o).alloc o').cell? ⟨w.heap.size + 1, 0, none⟩ = some (.slice a k cap) := fun o o' => ((HB1.out.alloc o).alloc o').cell0
      go_wp2
      go_region_law
        ((refine step_append_lies _ (by rfl) _ _ _ (by rfl) (w.heap.size + 2) 26 i0 _ 1 24 Try.underlying22 hi hz0 hz1 hz2 rfl (by omega) _ k _ (by rfl) (((hown.alloc _).alloc _).drew)
            ⟨wr.heap.size + 1, 0, none⟩ 1 1 [.slice (some ⟨wr.heap.size, 0, none⟩) 64 64] (by rfl) (by rfl) (World.news_of_block (cs := #[.slice (some ⟨wr.heap.size, 0, none⟩) 64 64]) (t := 26) (fr := (0, 0)) (heap_two wr _ _)) (by simp [Value.oneCell'])
            (by omega) (by unfold maxLen; omega) (by omega) (by simp; omega) (wr.heap.size + 2) (by simp) ?_; intro gg cap' w3 hown3 hgrow3 hat hltg
          have hb1 : Box w3 (w.heap.size + 1) 30 (.slice a k cap) (.slice none 0 0) := Box.grown (((HB1.out.alloc _).alloc _).drew) hgrow3 (row_ne hown (by omega))
          have hb0 : Box w3 w.heap.size 30 (.slice none 0 0) (.slice none 0 0) := Box.grown (((HB0.out.alloc _).alloc _).drew) hgrow3 (row_ne hown (by omega))
          have hcc := hb1.cell0
          have hff := hb1.frozen0))
      all_goals
        have hG3 : Grid (w.heap.size + 2) w3 (.slice (some ⟨gg, 0, none⟩) (k + 1) cap') (List.replicate (k + 1) zeros) := by
          rw [List.replicate_succ']
          refine Grid.push bs (by simp) HE.out.1 HE.out.2 HO.out hsz ?_ (by rw [← HU.out]; exact hown3) (fun j hj hne => ?_)
          · rw [hgrow3.block wr.heap.size (by simp; omega) (row_ne' hown (by omega))]
            show ((wr.alloc _).alloc _).heap[wr.heap.size]? = _
            rw [Below.heap_alloc _ _ _ (by simp)]
            exact heap_alloc_new wr _
          · rw [hgrow3.block j (by simp; omega) hne]
            show ((wr.alloc _).alloc _).heap[j]? = _
            rw [Below.heap_alloc _ _ _ (by simp; omega), Below.heap_alloc _ _ _ hj]
        have hbe3 : Below w.heap.size w w3 := (((HBL.out.alloc (by omega) _).alloc (by simp; omega) _).drew).grown hgrow3 (by simp; omega) (fun j hj => by have := (hown.lt j hj).1; omega)
        have hs3 := hgrow3.size
        have HS3 : Hid (w.heap.size + 2 ≤ w3.heap.size) := by show _ ≤ _; simp at hs3; omega
        have HG3 : Hid (Grid (w.heap.size + 2) w3 (.slice (some ⟨gg, 0, none⟩) (k + 1) cap') (List.replicate (k + 1) zeros)) := hG3
        have HBB : Hid (Box w3 (w.heap.size + 1) 30 (.slice a k cap) (.slice none 0 0) ∧ Box w3 w.heap.size 30 (.slice none 0 0) (.slice none 0 0)) := ⟨hb1, hb0⟩
        clear hown3 hgrow3 hat hltg hown hG3 hs3 hb1 hb0
        go_wp2
        go_roundw
        case rel =>
          refine ⟨k + 1, _, by omega, by go_num, HBB.out.1.set0 _, HBB.out.2.other (by omega), HG3.out.set (by omega), hbe3.setCell (p := ⟨w.heap.size + 1, 0, none⟩) (Nat.le_succ _) _, by simpa [World.setCell] using HS3.out⟩
        case measure => simp [intOf]; omega
    · obtain rfl : k = n := by omega
      have hc0 := hB1.cell0
      have hc1 := hB1.cell1
      have hd0 := hB0.cell0
      have hd1 := hB0.cell1
      have hf0 := hB0.frozen0
      have hf1 := hB0.frozen1
      have HG : Hid (Grid (w.heap.size + 2) wr v (List.replicate k zeros)) := hG
      have HBL : Hid (Below w.heap.size w wr) := hbel
      obtain ⟨bs, hown, _, _⟩ := hG
      rw [List.length_replicate] at hown
      obtain ⟨a, cap, rfl⟩ := own_shape hown
      clear hown hbel
      go_wp2
      refine bodyPost_ret (v := .agg #[.slice a k cap, .slice none 0 0]) (by simp [results, Try.results44, go_sem, *]) rfl ⟨_, rfl, ?_, ?_⟩
      · exact Grid.weaken (n0 := w.heap.size + 2) (Grid.set (Grid.set HG.out (by omega)) (by omega)) (by omega)
      · exact below_set2 HBL.out (Nat.le_refl _) _ _

set_option maxHeartbeats 1000000 in
theorem new_any (n : Nat) (w : World) (h1 : 1 ≤ n) (hn : n ≤ 2048) :
    Calls Try.prog 29 #[.int .i64 n] w fun e w' => ∃ v, e = .returned (.tuple #[.agg #[v, .slice none 0 0], .int .i64 0]) ∧ Grid w.heap.size w' v (List.replicate n zeros) ∧ Below w.heap.size w w' := by
  have g1 : ¬ (n : Int) < 1 := by omega
  have g2 : ¬ (2048 : Int) < n := by omega
  go_enter Try.func29, Try.ntmps29
  go_wp2_with fail
  refine (blank_any n _ hn).mono ?_
  rintro e w1 ⟨v, rfl, hG, hb⟩
  obtain ⟨bs, hown, _, _⟩ := id hG
  obtain ⟨a, cap, rfl⟩ := own_shape hown
  have hB0 : Box w1 w.heap.size 30 (.slice none 0 0) (.slice none 0 0) := (Box.new w 30 _ _).below hb (by simp)
  have hd0 := hB0.cell0
  have hd1 := hB0.cell1
  have hf0 := hB0.frozen0
  have hf1 := hB0.frozen1
  have HG : Hid (Grid (w.alloc (.cells #[.slice none 0 0, .slice none 0 0] 30)).heap.size w1 (.slice a (List.replicate n zeros).length cap) (List.replicate n zeros)) := hG
  have HB : Hid (Below w.heap.size w w1) := below_any ((Below.refl _ w).alloc (Nat.le_refl _) _) hb
  clear hown hG hb hB0
  go_wp2
  refine bodyPost_ret (v := .tuple #[.agg #[.slice a n cap, .slice none 0 0], .int .i64 0]) (by simp [results, Try.results29, go_sem, *]) rfl ⟨_, rfl, ?_, ?_⟩
  · have h2 := Grid.set (B := w.heap.size) (i := 1) (x := .slice none 0 0) (Grid.set (B := w.heap.size) (i := 0) (x := .slice a n cap) HG.out (by simp)) (by simp)
    rw [List.length_replicate] at h2
    exact h2.weaken (by simp)
  · exact below_set2 HB.out (Nat.le_refl _) _ _

end Go.Proofs.Ytkeaillmcfnnkaa
