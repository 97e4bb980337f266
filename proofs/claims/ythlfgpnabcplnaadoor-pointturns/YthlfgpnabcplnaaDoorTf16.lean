import Derived.Test.YthlfgpnabcplnaaDoorTf10
import Derived.Deep.RegionHeld3
import Derived.Deep.RegionLaw
import Derived.Deep.AppendLies
import Derived.Deep.DrawnRows
/-
  What blank and New make: so many sectors of zeros, each in a block of its own.
-/
namespace Go.Proofs.YthlfgpnabcplnaaDoor.Dk
open Go.RowKit
set_option maxRecDepth 100000

/-- Block B is a variable of two cells. -/
def Box (w : World) (B : Nat) (t : TypeId) (u v : Value) : Prop := w.heap[B]? = some (.cells #[u, v] t (0, 0))
theorem Box.cell0 {w : World} {B : Nat} {t : TypeId} {u v : Value} (h : Box w B t u v) : w.cell? ⟨B, 0, none⟩ = some u := by simp [World.cell?, show w.heap[B]? = _ from h]
theorem Box.cell1 {w : World} {B : Nat} {t : TypeId} {u v : Value} (h : Box w B t u v) : w.cell? ⟨B, 1, none⟩ = some v := by simp [World.cell?, show w.heap[B]? = _ from h]
theorem Box.frozen0 {w : World} {B : Nat} {t : TypeId} {u v : Value} (h : Box w B t u v) : w.frozen? ⟨B, 0, none⟩ = false := by simp [World.frozen?, show w.heap[B]? = _ from h]
theorem Box.frozen1 {w : World} {B : Nat} {t : TypeId} {u v : Value} (h : Box w B t u v) : w.frozen? ⟨B, 1, none⟩ = false := by simp [World.frozen?, show w.heap[B]? = _ from h]
theorem Box.lt {w : World} {B : Nat} {t : TypeId} {u v : Value} (h : Box w B t u v) : B < w.heap.size := (Array.getElem?_eq_some_iff.1 h).1
theorem Box.new (w : World) (t : TypeId) (u v : Value) : Box (w.alloc (.cells #[u, v] t)) w.heap.size t u v := heap_alloc_new w _
theorem Box.kept {w w' : World} {B : Nat} {t : TypeId} {u v : Value} (h : Box w B t u v) (hs : w'.heap[B]? = w.heap[B]?) : Box w' B t u v := hs.trans h
theorem Box.grown {w w' : World} {row : Option Nat} {B : Nat} {t : TypeId} {u v : Value} (h : Box w B t u v) (hg : w.grownBy w' row) (hne : some B ≠ row) : Box w' B t u v := h.kept (hg.block B h.lt hne)
theorem Box.below {w w' : World} {B n : Nat} {t : TypeId} {u v : Value} (h : Box w B t u v) (hb : Below n w w') (hn : B < n) : Box w' B t u v := h.kept (hb.block B hn)
theorem Box.alloc {w : World} {B : Nat} {t : TypeId} {u v : Value} (h : Box w B t u v) (o : Obj) : Box (w.alloc o) B t u v := h.kept (Below.heap_alloc w o B h.lt)
theorem Box.drew {w : World} {B : Nat} {t : TypeId} {u v : Value} (h : Box w B t u v) : Box w.drew B t u v := h
theorem Box.set0 {w : World} {B : Nat} {t : TypeId} {u v : Value} (h : Box w B t u v) (x : Value) : Box (w.setCell ⟨B, 0, none⟩ x) B t x v := by
  obtain ⟨hlt, hk⟩ := Array.getElem?_eq_some_iff.1 h
  show (w.heap.modify B _)[B]? = _
  rw [Array.getElem?_eq_getElem (by rw [Array.size_modify]; exact hlt), Array.getElem_modify_self, hk]
  rfl
theorem Box.set1 {w : World} {B : Nat} {t : TypeId} {u v : Value} (h : Box w B t u v) (x : Value) : Box (w.setCell ⟨B, 1, none⟩ x) B t u x := by
  obtain ⟨hlt, hk⟩ := Array.getElem?_eq_some_iff.1 h
  show (w.heap.modify B _)[B]? = _
  rw [Array.getElem?_eq_getElem (by rw [Array.size_modify]; exact hlt), Array.getElem_modify_self, hk]
  rfl
theorem Box.other {w : World} {B B' i : Nat} {t : TypeId} {u v x : Value} (h : Box w B t u v) (hne : B ≠ B') : Box (w.setCell ⟨B', i, none⟩ x) B t u v := h.kept (Below.heap_setCell _ _ _ _ hne)

theorem own_shape {w : World} {base : Nat} {e : TypeId} {size : Nat} {v : Value} {n : Nat} {xs : List Value} (h : w.ownsRow base e size v n xs) : ∃ a cap, v = .slice a n cap := by
  rcases h.2 with ⟨rfl, rfl⟩ | ⟨g, cap, cur, rfl, _⟩
  · exact ⟨none, 0, rfl⟩
  · exact ⟨_, cap, rfl⟩

def zeros : List Int := List.replicate 64 0
theorem zeros_oct : Oct zeros := fun x hx => by rw [(List.mem_replicate.1 hx).2]; omega

/-- Another row of zeros. -/
theorem Grid.push {base : Nat} {wr w3 : World} {gg k cap cap' : Nat} {a : Option Addr} {ls : List (List Int)} (bs : List Nat) (hk : ls.length = k) (hnd : bs.Nodup) (hE : Each (fun b l => base ≤ b ∧ l.length = 64 ∧ Oct l ∧ wr.heap[b]? = some (.cells (l.map (Value.int .u8)).toArray 5 (0, 0))) bs ls)
    (hown : wr.ownsRow base 22 1 (.slice a k cap) k (bs.map fun b => Value.slice (some ⟨b, 0, none⟩) 64 64))
    (hb : base ≤ wr.heap.size) (hZ : w3.heap[wr.heap.size]? = some (.cells zeros64.toArray 5 (0, 0)))
    (hown3 : w3.ownsRow base 22 1 (.slice (some ⟨gg, 0, none⟩) (k + 1) cap') (k + 1) ((bs.map fun b => Value.slice (some ⟨b, 0, none⟩) 64 64) ++ [.slice (some ⟨wr.heap.size, 0, none⟩) 64 64]))
    (hblk : ∀ j, j < wr.heap.size → some j ≠ (Value.slice a k cap).ownBlock → w3.heap[j]? = wr.heap[j]?) : Grid base w3 (.slice (some ⟨gg, 0, none⟩) (k + 1) cap') (ls ++ [zeros]) := by
  refine ⟨bs ++ [wr.heap.size], ?_, ?_, ?_⟩
  · rw [List.length_append, hk]
    simpa using hown3
  · refine List.nodup_append.2 ⟨hnd, by simp, fun x hx y hy => ?_⟩
    obtain rfl : y = wr.heap.size := by simpa using hy
    obtain ⟨i, hi, rfl⟩ := List.mem_iff_getElem.1 hx
    have hlt : i < ls.length := by rw [← hE.length]; exact hi
    obtain ⟨b, hb', _, _, _, hh⟩ := hE.get (List.getElem?_eq_getElem hlt)
    rw [List.getElem?_eq_getElem hi] at hb'
    cases hb'
    have := (Array.getElem?_eq_some_iff.1 hh).1
    omega
  · refine Each.snoc (hE.mono fun b l h => ⟨h.1, h.2.1, h.2.2.1, ?_⟩) ⟨hb, by simp [zeros], zeros_oct, hZ⟩
    rw [hblk b (Array.getElem?_eq_some_iff.1 h.2.2.2).1 ?_]
    · exact h.2.2.2
    · intro e
      rcases hown.2 with ⟨hv, _⟩ | ⟨g, cp, cur, hv, _, hg, _⟩
      · cases hv; simp [Value.ownBlock] at e
      · cases hv
        simp [Value.ownBlock] at e
        subst e
        rw [h.2.2.2] at hg
        simp at hg

theorem heap_two (wr : World) (o o' : Obj) : ((wr.alloc o).alloc o').drew.heap[wr.heap.size + 1]? = some o' := by
  have := heap_alloc_new (wr.alloc o) o'
  rw [World.size_alloc] at this
  exact this

theorem row_ne {w : World} {base : Nat} {e : TypeId} {size : Nat} {v : Value} {n : Nat} {xs : List Value} (h : w.ownsRow base e size v n xs) {B : Nat} (hB : B < base) : some B ≠ v.ownBlock := fun e' => by
  have := (h.lt B e'.symm).1
  omega
theorem row_ne' {w : World} {base : Nat} {e : TypeId} {size : Nat} {v : Value} {n : Nat} {xs : List Value} (h : w.ownsRow base e size v n xs) {B : Nat} (hB : w.heap.size ≤ B) : some B ≠ v.ownBlock := fun e' => by
  have := (h.lt B e'.symm).2
  omega

theorem Grid.same {base : Nat} {w w' : World} {v : Value} {ls : List (List Int)} (h : Grid base w v ls) (hs : Same base w w') : Grid base w' v ls := by
  obtain ⟨bs, h1, h2, h3⟩ := h
  refine ⟨bs, ⟨h1.1, ?_⟩, h2, h3.mono fun b l h => ⟨h.1, h.2.1, h.2.2.1, ?_⟩⟩
  · rcases h1.2 with h | ⟨g, cap, cur, hv, hb, hg, r⟩
    · exact .inl h
    · exact .inr ⟨g, cap, cur, hv, hb, by rw [hs g hb (Array.getElem?_eq_some_iff.1 hg).1]; exact hg, r⟩
  · rw [hs b h.1 (Array.getElem?_eq_some_iff.1 h.2.2.2).1]; exact h.2.2.2
theorem Grid.set {base : Nat} {w : World} {v x : Value} {ls : List (List Int)} {B i : Nat} (h : Grid base w v ls) (hB : B < base) : Grid base (w.setCell ⟨B, i, none⟩ x) v ls :=
  h.same fun k hk _ => Below.heap_setCell _ _ _ _ (by simp; omega)
theorem Grid.weaken {n0 n1 : Nat} {w : World} {v : Value} {ls : List (List Int)} (h : Grid n0 w v ls) (hn : n1 ≤ n0) : Grid n1 w v ls := by
  obtain ⟨bs, h1, h2, h3⟩ := h
  refine ⟨bs, ⟨h1.1, ?_⟩, h2, h3.mono fun b l h => ⟨Nat.le_trans hn h.1, h.2⟩⟩
  rcases h1.2 with h | ⟨g, cap, cur, hv, hb, r⟩
  · exact .inl h
  · exact .inr ⟨g, cap, cur, hv, Nat.le_trans hn hb, r⟩

attribute [local go_sem ↓] Go.wp_at_zero Go.wp_at_succ

set_option maxHeartbeats 4000000 in
theorem blank_any (n : Nat) (w : World) (hn : n ≤ 2048) :
    Calls Tryd.prog 26 #[.int .i64 n] w fun e w' => ∃ v, e = .returned (.agg #[v, .slice none 0 0]) ∧ Grid w.heap.size w' v (List.replicate n zeros) ∧ Below w.heap.size w w' := by
  have hmk := make64
  obtain ⟨i0, hi, hz0, hz1, hz2⟩ := info_parts Tryd.info22
  go_enter Tryd.func26, Tryd.ntmps26
  go_wp2
  go_loopw [5] (fun i wr => ∃ (k : Nat) (v : Value), k ≤ n ∧ i = .int .i64 k ∧ Box wr (w.heap.size + 1) 40 v (.slice none 0 0) ∧ Box wr w.heap.size 40 (.slice none 0 0) (.slice none 0 0) ∧ Grid (w.heap.size + 2) wr v (List.replicate k zeros) ∧ Below w.heap.size w wr ∧ w.heap.size + 2 ≤ wr.heap.size) (fun i _ => n - (intOf i).toNat)
  case atStart =>
    refine ⟨0, _, Nat.zero_le _, rfl, ?_, ?_, ⟨[], World.ownsRow_nil _ _ _ _, by simp, trivial⟩, ?_, ?_⟩
    · have := Box.new (w.alloc (.cells #[.slice none 0 0, .slice none 0 0] 40)) 40 (.slice none 0 0) (.slice none 0 0)
      simpa using this
    · exact (Box.new w 40 _ _).alloc _
    · exact ((Below.refl _ w).alloc (Nat.le_refl _) _).alloc (by simp) _
    · simp
  case round =>
    obtain ⟨k, v, hk, rfl, hB1, hB0, hG, hbel, hsz⟩ := hrel
    by_cases hlt : k < n
    · obtain ⟨bs, hown, hnd, hE⟩ := hG
      rw [List.length_replicate] at hown
      obtain ⟨a, cap, rfl⟩ := own_shape hown
      have hc := hB1.cell0
      have hf := hB1.frozen0
      have HB1 : Hid (Box wr (w.heap.size + 1) 40 (.slice a k cap) (.slice none 0 0)) := hB1
      have HB0 : Hid (Box wr w.heap.size 40 (.slice none 0 0) (.slice none 0 0)) := hB0
      have HE : Hid (bs.Nodup ∧ Each (fun b l => w.heap.size + 2 ≤ b ∧ l.length = 64 ∧ Oct l ∧ wr.heap[b]? = some (.cells (l.map (Value.int .u8)).toArray 5 (0, 0))) bs (List.replicate k zeros)) := ⟨hnd, hE⟩
      have HO : Hid (wr.ownsRow (w.heap.size + 2) 22 1 (.slice a k cap) k (bs.map fun b => Value.slice (some ⟨b, 0, none⟩) 64 64)) := hown
      have HBL : Hid (Below w.heap.size w wr) := hbel
      obtain ⟨us, hus⟩ : ∃ us, us = bs.map fun b => Value.slice (some ⟨b, 0, none⟩) 64 64 := ⟨_, rfl⟩
      rw [← hus] at hown
      have HU : Hid (us = bs.map fun b => Value.slice (some ⟨b, 0, none⟩) 64 64) := hus
      clear hB1 hB0 hnd hE hbel hus
      have hki : (k : Int) < (n : Int) := by omega
      have hca : ∀ o, (wr.alloc o).cell? ⟨w.heap.size + 1, 0, none⟩ = some (.slice a k cap) := fun o => (HB1.out.alloc o).cell0
      have hcb : ∀ o o', ((wr.alloc o).alloc o').cell? ⟨w.heap.size + 1, 0, none⟩ = some (.slice a k cap) := fun o o' => ((HB1.out.alloc o).alloc o').cell0
      go_wp2
      go_region_law
        ((refine step_append_lies _ (by rfl) _ _ _ (by rfl) (w.heap.size + 2) 22 i0 _ 1 24 Tryd.underlying37 hi hz0 hz1 hz2 rfl (by omega) _ k _ (by rfl) (((hown.alloc _).alloc _).drew)
            ⟨wr.heap.size + 1, 0, none⟩ 1 1 [.slice (some ⟨wr.heap.size, 0, none⟩) 64 64] (by rfl) (by rfl) (World.news_of_block (cs := #[.slice (some ⟨wr.heap.size, 0, none⟩) 64 64]) (t := 22) (fr := (0, 0)) (heap_two wr _ _)) (by simp [Value.oneCell'])
            (by omega) (by unfold maxLen; omega) (by omega) (by simp; omega) (wr.heap.size + 2) (by simp) ?_; intro gg cap' w3 hown3 hgrow3 hat hltg
          have hb1 : Box w3 (w.heap.size + 1) 40 (.slice a k cap) (.slice none 0 0) := Box.grown (((HB1.out.alloc _).alloc _).drew) hgrow3 (row_ne hown (by omega))
          have hb0 : Box w3 w.heap.size 40 (.slice none 0 0) (.slice none 0 0) := Box.grown (((HB0.out.alloc _).alloc _).drew) hgrow3 (row_ne hown (by omega))
          have hcc := hb1.cell0
          have hff := hb1.frozen0))
      all_goals
        have hG3 : Grid (w.heap.size + 2) w3 (.slice (some ⟨gg, 0, none⟩) (k + 1) cap') (List.replicate (k + 1) zeros) := by
          rw [List.replicate_succ']
          refine Grid.push bs (by simp) HE.out.1 HE.out.2 HO.out hsz ?_ (by rw [← HU.out]; exact hown3) (fun j hj hne => ?_)
          · rw [hgrow3.block wr.heap.size (by simp; omega) (row_ne' hown (by omega))]
            show ((wr.alloc _).alloc _).heap[wr.heap.size]? = _
            rw [Below.heap_alloc _ _ _ (by simp)]
            exact heap_alloc_new wr _
          · rw [hgrow3.block j (by simp; omega) hne]
            show ((wr.alloc _).alloc _).heap[j]? = _
            rw [Below.heap_alloc _ _ _ (by simp; omega), Below.heap_alloc _ _ _ hj]
        have hbe3 : Below w.heap.size w w3 := (((HBL.out.alloc (by omega) _).alloc (by simp; omega) _).drew).grown hgrow3 (by simp; omega) (fun j hj => by have := (hown.lt j hj).1; omega)
        have hs3 := hgrow3.size
        have HS3 : Hid (w.heap.size + 2 ≤ w3.heap.size) := by show _ ≤ _; simp at hs3; omega
        have HG3 : Hid (Grid (w.heap.size + 2) w3 (.slice (some ⟨gg, 0, none⟩) (k + 1) cap') (List.replicate (k + 1) zeros)) := hG3
        have HBB : Hid (Box w3 (w.heap.size + 1) 40 (.slice a k cap) (.slice none 0 0) ∧ Box w3 w.heap.size 40 (.slice none 0 0) (.slice none 0 0)) := ⟨hb1, hb0⟩
        clear hown3 hgrow3 hat hltg hown hG3 hs3 hb1 hb0
        go_wp2
        go_roundw
        case rel =>
          refine ⟨k + 1, _, by omega, by go_num, HBB.out.1.set0 _, HBB.out.2.other (by omega), HG3.out.set (by omega), hbe3.setCell (p := ⟨w.heap.size + 1, 0, none⟩) (Nat.le_succ _) _, by simpa [World.setCell] using HS3.out⟩
        case measure => simp [intOf]; omega
    · obtain rfl : k = n := by omega
      have hc0 := hB1.cell0
      have hc1 := hB1.cell1
      have hd0 := hB0.cell0
      have hd1 := hB0.cell1
      have hf0 := hB0.frozen0
      have hf1 := hB0.frozen1
      have HG : Hid (Grid (w.heap.size + 2) wr v (List.replicate k zeros)) := hG
      have HBL : Hid (Below w.heap.size w wr) := hbel
      obtain ⟨bs, hown, _, _⟩ := hG
      rw [List.length_replicate] at hown
      obtain ⟨a, cap, rfl⟩ := own_shape hown
      clear hown hbel
      go_wp2
      refine bodyPost_ret (v := .agg #[.slice a k cap, .slice none 0 0]) (by simp [results, Tryd.results26, go_sem, *]) rfl ⟨_, rfl, ?_, ?_⟩
      · exact Grid.weaken (n0 := w.heap.size + 2) (Grid.set (Grid.set HG.out (by omega)) (by omega)) (by omega)
      · exact below_set2 HBL.out (Nat.le_refl _) _ _

set_option maxHeartbeats 1000000 in
theorem new_any (n : Nat) (w : World) (h1 : 1 ≤ n) (hn : n ≤ 2048) :
    Calls Tryd.prog 12 #[.int .i64 n] w fun e w' => ∃ v, e = .returned (.tuple #[.agg #[v, .slice none 0 0], .int .i64 0]) ∧ Grid w.heap.size w' v (List.replicate n zeros) ∧ Below w.heap.size w w' := by
  have g1 : ¬ (n : Int) < 1 := by omega
  have g2 : ¬ (2048 : Int) < n := by omega
  go_enter Tryd.func12, Tryd.ntmps12
  go_wp2_with fail
  refine (blank_any n _ hn).mono ?_
  rintro e w1 ⟨v, rfl, hG, hb⟩
  obtain ⟨bs, hown, _, _⟩ := id hG
  obtain ⟨a, cap, rfl⟩ := own_shape hown
  have hB0 : Box w1 w.heap.size 40 (.slice none 0 0) (.slice none 0 0) := (Box.new w 40 _ _).below hb (by simp)
  have hd0 := hB0.cell0
  have hd1 := hB0.cell1
  have hf0 := hB0.frozen0
  have hf1 := hB0.frozen1
  have HG : Hid (Grid (w.alloc (.cells #[.slice none 0 0, .slice none 0 0] 40)).heap.size w1 (.slice a (List.replicate n zeros).length cap) (List.replicate n zeros)) := hG
  have HB : Hid (Below w.heap.size w w1) := below_any ((Below.refl _ w).alloc (Nat.le_refl _) _) hb
  clear hown hG hb hB0
  go_wp2
  refine bodyPost_ret (v := .tuple #[.agg #[.slice a n cap, .slice none 0 0], .int .i64 0]) (by simp [results, Tryd.results12, go_sem, *]) rfl ⟨_, rfl, ?_, ?_⟩
  · have h2 := Grid.set (B := w.heap.size) (i := 1) (x := .slice none 0 0) (Grid.set (B := w.heap.size) (i := 0) (x := .slice a n cap) HG.out (by simp)) (by simp)
    rw [List.length_replicate] at h2
    exact h2.weaken (by simp)
  · exact below_set2 HB.out (Nat.le_refl _) _ _

end Go.Proofs.YthlfgpnabcplnaaDoor.Dk

/-
  What clone makes: the same disk in memory of its own.
-/
namespace Go.Proofs.YthlfgpnabcplnaaDoor.Dk
open Go.RowKit
set_option maxRecDepth 100000

/-- Octets in a block of their own. -/
def Own1 (base : Nat) (w : World) (u : Value) (l : List Int) : Prop := w.ownsRow base 5 1 u l.length (l.map (Value.int .u8)) ∧ Oct l
def OwnLists (base : Nat) (w : World) (v : Value) (ls : List (List Int)) : Prop := ∃ us, w.ownsRow base 22 1 v ls.length us ∧ Each (Own1 base w) us ls
def OwnW1 (base : Nat) (w : World) (p : Int × Value) (q : Int × List Int) : Prop := p.1 = q.1 ∧ Own1 base w p.2 q.2 ∧ -9223372036854775808 ≤ q.1 ∧ q.1 ≤ 9223372036854775807
def OwnWrites (base : Nat) (w : World) (e : TypeId) (v : Value) (ws : List (Int × List Int)) : Prop := ∃ ps, w.ownsRow base e 2 v ws.length (flat ps) ∧ Each (OwnW1 base w) ps ws
def OwnDisk (base : Nat) (w : World) (e : TypeId) (v : Value) (S : St) : Prop := ∃ vs vc, v = .agg #[vs, vc] ∧ OwnLists base w vs S.secs ∧ OwnWrites base w e vc S.cache

theorem own_same {w w' : World} {base : Nat} {e : TypeId} {size : Nat} {v : Value} {n : Nat} {xs : List Value} (h : w.ownsRow base e size v n xs) (hs : Same base w w') : w'.ownsRow base e size v n xs := by
  obtain ⟨h1, h2⟩ := h
  refine ⟨h1, ?_⟩
  rcases h2 with h2 | ⟨g, cap, cur, a, b, c, d⟩
  · exact .inl h2
  · exact .inr ⟨g, cap, cur, a, b, by rw [hs g b (Array.getElem?_eq_some_iff.1 c).1]; exact c, d⟩
theorem own_weaken {w : World} {base n1 : Nat} {e : TypeId} {size : Nat} {v : Value} {n : Nat} {xs : List Value} (h : w.ownsRow base e size v n xs) (hn : n1 ≤ base) : w.ownsRow n1 e size v n xs := by
  obtain ⟨h1, h2⟩ := h
  refine ⟨h1, ?_⟩
  rcases h2 with h2 | ⟨g, cap, cur, a, b, d⟩
  · exact .inl h2
  · exact .inr ⟨g, cap, cur, a, Nat.le_trans hn b, d⟩

theorem Own1.same {base : Nat} {w w' : World} {u : Value} {l : List Int} (h : Own1 base w u l) (hs : Same base w w') : Own1 base w' u l := ⟨own_same h.1 hs, h.2⟩
theorem Own1.weaken {base n1 : Nat} {w : World} {u : Value} {l : List Int} (h : Own1 base w u l) (hn : n1 ≤ base) : Own1 n1 w u l := ⟨own_weaken h.1 hn, h.2⟩
theorem Own1.arg {base : Nat} {w : World} {u : Value} {l : List Int} (h : Own1 base w u l) : Arg base w u l := .own h.1 h.2
theorem OwnLists.same {base : Nat} {w w' : World} {v : Value} {ls : List (List Int)} (h : OwnLists base w v ls) (hs : Same base w w') : OwnLists base w' v ls := by
  obtain ⟨us, h1, h2⟩ := h
  exact ⟨us, own_same h1 hs, h2.mono fun _ _ h => h.same hs⟩
theorem OwnLists.weaken {base n1 : Nat} {w : World} {v : Value} {ls : List (List Int)} (h : OwnLists base w v ls) (hn : n1 ≤ base) : OwnLists n1 w v ls := by
  obtain ⟨us, h1, h2⟩ := h
  exact ⟨us, own_weaken h1 hn, h2.mono fun _ _ h => h.weaken hn⟩
theorem OwnLists.lists {base : Nat} {w : World} {v : Value} {ls : List (List Int)} (h : OwnLists base w v ls) : Lists base w v ls := by
  obtain ⟨us, h1, h2⟩ := h
  exact ⟨us, .own h1, h2.mono fun _ _ h => h.arg⟩
theorem OwnWrites.same {base : Nat} {w w' : World} {e : TypeId} {v : Value} {ws : List (Int × List Int)} (h : OwnWrites base w e v ws) (hs : Same base w w') : OwnWrites base w' e v ws := by
  obtain ⟨us, h1, h2⟩ := h
  exact ⟨us, own_same h1 hs, h2.mono fun _ _ h => ⟨h.1, h.2.1.same hs, h.2.2⟩⟩
theorem OwnWrites.weaken {base n1 : Nat} {w : World} {e : TypeId} {v : Value} {ws : List (Int × List Int)} (h : OwnWrites base w e v ws) (hn : n1 ≤ base) : OwnWrites n1 w e v ws := by
  obtain ⟨us, h1, h2⟩ := h
  exact ⟨us, own_weaken h1 hn, h2.mono fun _ _ h => ⟨h.1, h.2.1.weaken hn, h.2.2⟩⟩
theorem OwnWrites.writes {base : Nat} {w : World} {e : TypeId} {v : Value} {ws : List (Int × List Int)} (h : OwnWrites base w e v ws) : Writes base w v ws := by
  obtain ⟨us, h1, h2⟩ := h
  exact ⟨us, .own h1, h2.mono fun _ _ h => ⟨h.1, h.2.1.arg, h.2.2⟩⟩
theorem OwnDisk.same {base : Nat} {w w' : World} {e : TypeId} {v : Value} {S : St} (h : OwnDisk base w e v S) (hs : Same base w w') : OwnDisk base w' e v S := by
  obtain ⟨vs, vc, h1, h2, h3⟩ := h
  exact ⟨vs, vc, h1, h2.same hs, h3.same hs⟩
theorem OwnDisk.weaken {base n1 : Nat} {w : World} {e : TypeId} {v : Value} {S : St} (h : OwnDisk base w e v S) (hn : n1 ≤ base) : OwnDisk n1 w e v S := by
  obtain ⟨vs, vc, h1, h2, h3⟩ := h
  exact ⟨vs, vc, h1, h2.weaken hn, h3.weaken hn⟩
theorem OwnDisk.disk {base : Nat} {w : World} {e : TypeId} {v : Value} {S : St} (h : OwnDisk base w e v S) : Disk base w v S := by
  obtain ⟨vs, vc, h1, h2, h3⟩ := h
  exact ⟨vs, vc, h1, h2.lists, h3.writes⟩

theorem same_set {n B i : Nat} {w : World} {x : Value} (hB : B < n) : Same n w (w.setCell ⟨B, i, none⟩ x) := fun k hk _ => Below.heap_setCell _ _ _ _ (by simp; omega)
theorem same_alloc (n : Nat) (w : World) (o : Obj) : Same n w (w.alloc o) := fun k _ hk => Below.heap_alloc w o k hk
theorem Same.trans {n : Nat} {a b c : World} (h : Same n a b) (hs : a.heap.size ≤ b.heap.size) (k : Same n b c) : Same n a c := fun i hi hl => (k i hi (by omega)).trans (h i hi hl)

/-- Two rows of unlike elements do not share a block. -/
theorem own_apart {w : World} {b1 b2 : Nat} {e1 e2 : TypeId} {s1 s2 : Nat} {v1 v2 : Value} {n1 n2 : Nat} {x1 x2 : List Value} (h1 : w.ownsRow b1 e1 s1 v1 n1 x1) (h2 : w.ownsRow b2 e2 s2 v2 n2 x2) (he : e1 ≠ e2) : v1.ownBlock = none ∨ v1.ownBlock ≠ v2.ownBlock := by
  rcases h1.2 with ⟨rfl, _⟩ | ⟨g, cap, cur, rfl, _, hg, _⟩
  · exact .inl rfl
  · rcases h2.2 with ⟨rfl, _⟩ | ⟨g', cap', cur', rfl, _, hg', _⟩
    · exact .inr (by simp [Value.ownBlock])
    · refine .inr fun e => ?_
      have : g = g' := by simpa [Value.ownBlock] using e
      subst this
      rw [hg] at hg'
      simp at hg'
      exact he hg'.2

theorem OwnLists.push {base : Nat} {W w3 : World} {v v3 u : Value} {us : List Value} {ls : List (List Int)} {l : List Int} {k : Nat} (hk : ls.length = k) (hE : Each (Own1 base W) us ls) (hown : W.ownsRow base 22 1 v k us) (hu : Own1 base W u l)
    (hg : W.grownBy w3 v.ownBlock) (h3 : w3.ownsRow base 22 1 v3 (k + 1) (us ++ [u])) : OwnLists base w3 v3 (ls ++ [l]) := by
  refine ⟨us ++ [u], by rw [List.length_append, hk]; exact h3, ?_⟩
  have keep : ∀ a b, Own1 base W a b → Own1 base w3 a b := fun a b h => ⟨h.1.kept hg (own_apart h.1 hown (by decide)), h.2⟩
  exact (hE.mono keep).snoc (keep _ _ hu)

theorem OwnWrites.push {base : Nat} {e : TypeId} {W w3 : World} {v v3 u : Value} {ps : List (Int × Value)} {ws : List (Int × List Int)} {s : Int} {l : List Int} {k : Nat} (he : 5 ≠ e) (hk : ws.length = k) (hE : Each (OwnW1 base W) ps ws) (hown : W.ownsRow base e 2 v k (flat ps)) (hu : Own1 base W u l)
    (hs : -9223372036854775808 ≤ s ∧ s ≤ 9223372036854775807)
    (hg : W.grownBy w3 v.ownBlock) (h3 : w3.ownsRow base e 2 v3 (k + 1) (flat ps ++ [.int .i64 s, u])) : OwnWrites base w3 e v3 (ws ++ [(s, l)]) := by
  refine ⟨ps ++ [(s, u)], by rw [List.length_append, hk, flat_snoc]; exact h3, ?_⟩
  have keep : ∀ a b, Own1 base W a b → Own1 base w3 a b := fun a b h => ⟨h.1.kept hg (own_apart h.1 hown he), h.2⟩
  exact (hE.mono fun _ _ h => ⟨h.1, keep _ _ h.2.1, h.2.2⟩).snoc ⟨rfl, keep _ _ hu, hs⟩

/-- A row of other elements stays where one is appended to. -/
theorem OwnLists.beside {base : Nat} {e : TypeId} {size : Nat} {W w3 : World} {v vs : Value} {n : Nat} {xs : List Value} {ls : List (List Int)} (h : OwnLists base W vs ls) (h5 : 5 ≠ e) (h26 : 22 ≠ e) (hown : W.ownsRow base e size v n xs) (hg : W.grownBy w3 v.ownBlock) : OwnLists base w3 vs ls := by
  obtain ⟨us, h1, h2⟩ := h
  exact ⟨us, h1.kept hg (own_apart h1 hown h26), h2.mono fun a b h => ⟨h.1.kept hg (own_apart h.1 hown h5), h.2⟩⟩

theorem take_snoc {α : Type} {l : List α} {k : Nat} {x : α} (h : l[k]? = some x) : l.take (k + 1) = l.take k ++ [x] := by rw [List.take_add_one, h]; rfl

attribute [local go_sem ↓] Go.wp_at_zero Go.wp_at_succ

set_option maxHeartbeats 8000000 in
theorem clone_any (n0 : Nat) (v : Value) (S : St) (w : World) (h : Disk n0 w v S) (hn : S.secs.length ≤ 2048) (hm : S.cache.length ≤ 4096) (h64 : ∀ l ∈ S.secs, l.length = 64) (hc64 : ∀ q ∈ S.cache, q.2.length = 64) :
    Calls Tryd.prog 44 #[v] w fun e w' => ∃ v', e = .returned v' ∧ OwnDisk w.heap.size w' 81 v' S ∧ Below w.heap.size w w' := by
  obtain ⟨a1, c1, a2, c2, rfl, hL, hW⟩ := h.shape
  obtain ⟨i6, hi6, hz60, hz61, hz62⟩ := info_parts Tryd.info81
  obtain ⟨i2, hi2, hz20, hz21, hz22⟩ := info_parts Tryd.info22
  have HL : Hid (Lists n0 w (.slice a1 S.secs.length c1) S.secs) := hL
  have HW : Hid (Writes n0 w (.slice a2 S.cache.length c2) S.cache) := hW
  obtain ⟨n, hn'⟩ : ∃ n, n = S.secs.length := ⟨_, rfl⟩
  obtain ⟨m, hm'⟩ : ∃ n, n = S.cache.length := ⟨_, rfl⟩
  have HN : Hid (n = S.secs.length) := hn'
  have HM : Hid (m = S.cache.length) := hm'
  rw [← hn'] at HL hn ⊢
  rw [← hm'] at HW hm ⊢
  have H64 : Hid ((∀ l ∈ S.secs, l.length = 64) ∧ ∀ q ∈ S.cache, q.2.length = 64) := ⟨h64, hc64⟩
  clear h hL hW hn' hm' h64 hc64
  have hl1 := run_len Tryd.underlying37 a1 n c1
  have hl2 := run_len Tryd.underlying38 a2 m c2
  go_enter Tryd.func44, Tryd.ntmps44
  go_wp2
  go_loopw [11] (fun i wr => ∃ (k : Nat) (v : Value), k ≤ n ∧ i = .int .i64 k ∧ Box wr w.heap.size 40 (.slice a1 n c1) (.slice a2 m c2) ∧ Box wr (w.heap.size + 1) 40 (.slice none 0 0) (.slice none 0 0) ∧ Box wr (w.heap.size + 2) 40 v (.slice none 0 0) ∧
    OwnLists (w.heap.size + 3) wr v (S.secs.take k) ∧ Below w.heap.size w wr ∧ w.heap.size + 3 ≤ wr.heap.size) (fun i _ => n - (intOf i).toNat)
  case atStart =>
    refine ⟨0, _, Nat.zero_le _, rfl, ?_, ?_, ?_, ⟨[], World.ownsRow_nil _ _ _ _, trivial⟩, ?_, ?_⟩
    · exact ((Box.new w 40 _ _).alloc _).alloc _
    · have := (Box.new (w.alloc (.cells #[.slice a1 n c1, .slice a2 m c2] 40)) 40 (.slice none 0 0) (.slice none 0 0)).alloc (.cells #[.slice none 0 0, .slice none 0 0] 40)
      simpa using this
    · have := Box.new ((w.alloc (.cells #[.slice a1 n c1, .slice a2 m c2] 40)).alloc (.cells #[.slice none 0 0, .slice none 0 0] 40)) 40 (.slice none 0 0) (.slice none 0 0)
      simpa using this
    · exact (((Below.refl _ w).alloc (Nat.le_refl _) _).alloc (by simp) _).alloc (by simp; omega) _
    · simp
  case round =>
    obtain ⟨k, v, hk, rfl, hB0, hB1, hB2, hO, hbel, hsz⟩ := hrel
    by_cases hlt : k < n
    · obtain ⟨l, hl⟩ := get_lt (l := S.secs) (k := k) (by rw [← HN.out]; exact hlt)
      obtain ⟨b, o, a, cap, hix, _, hc, hA⟩ := (HL.out.below hbel).at k l hl
      have hl64 := H64.out.1 l (List.mem_of_getElem? hl)
      rw [hl64] at hc hA
      have HA : Hid (Arg n0 wr (.slice a 64 cap) l ∧ l.length = 64) := ⟨hA, hl64⟩
      have HTK : Hid (S.secs.take (k + 1) = S.secs.take k ++ [l] ∧ (S.secs.take k).length = k) := ⟨take_snoc hl, by have := HN.out; rw [List.length_take]; omega⟩
      obtain ⟨us, hown, hE⟩ := hO
      rw [HTK.out.2] at hown
      obtain ⟨a', cap', rfl⟩ := own_shape hown
      have hcc := hB2.cell0
      have HBX : Hid (Box wr w.heap.size 40 (.slice a1 n c1) (.slice a2 m c2) ∧ Box wr (w.heap.size + 1) 40 (.slice none 0 0) (.slice none 0 0) ∧ Box wr (w.heap.size + 2) 40 (.slice a' k cap') (.slice none 0 0)) := ⟨hB0, hB1, hB2⟩
      have HE : Hid (Each (Own1 (w.heap.size + 3) wr) us (S.secs.take k)) := hE
      have HBL : Hid (Below w.heap.size w wr) := hbel
      have HO : Hid (wr.ownsRow (w.heap.size + 3) 22 1 (.slice a' k cap') k us) := hown
      clear hA hl hB0 hB1 hB2 hE hbel hown hl64
      have HC : Hid (Calls Tryd.prog 57 #[.slice a 64 cap] wr.drew fun e w' => (∃ v', e = .returned v' ∧ w'.ownsRow wr.heap.size 5 1 v' 64 (l.map (Value.int .u8))) ∧ Below wr.heap.size wr w') := by
        have := clone_bytes n0 (.slice a 64 cap) l wr.drew (HA.out.1.below (Below.refl _ _).drew) (by have := HA.out.2; omega)
        rw [HA.out.2] at this
        exact this.mono fun e w' h => ⟨h.1, ((Below.refl _ wr).drew).trans h.2⟩
      have hki : (k : Int) < (n : Int) := by omega
      go_wp2
      go_region_law
        (first
          | (go_simp
             with_reducible refine Calls.mono HC.out ?_
             rintro e w2 ⟨⟨u2, rfl, hu2⟩, hb2⟩
             obtain ⟨ux, uc, rfl⟩ := own_shape hu2
             have hcc2 : w2.cell? ⟨w.heap.size + 2, 0, none⟩ = some (.slice a' k cap') := (Box.below (n := wr.heap.size) HBX.out.2.2 hb2 (by omega)).cell0
             have hcc3 : ∀ o, (w2.alloc o).cell? ⟨w.heap.size + 2, 0, none⟩ = some (.slice a' k cap') := fun o => ((Box.below (n := wr.heap.size) HBX.out.2.2 hb2 (by omega)).alloc o).cell0
             try dsimp only)
          | (refine step_append_lies _ (by rfl) _ _ _ (by rfl) (w.heap.size + 3) 22 i2 _ 1 24 Tryd.underlying37 hi2 hz20 hz21 hz22 rfl (by omega) _ k _ (by rfl) ((own_below HO.out hb2).alloc _) ⟨w2.heap.size, 0, none⟩ 1 1 [.slice ux 64 uc] (by rfl) (by rfl)
              (World.news_of_block (cs := #[.slice ux 64 uc]) (t := 22) (fr := (0, 0)) (heap_alloc_new w2 _)) (by simp [Value.oneCell']) (by omega) (by unfold maxLen; omega) (by omega) (by have := hb2.size; simp; omega) (w2.heap.size + 1) (by simp) ?_; intro gg cap3 w3 hown3 hgrow3 hat hltg
             have hbx0 : Box w3 w.heap.size 40 (.slice a1 n c1) (.slice a2 m c2) := Box.grown ((HBX.out.1.below hb2 (by omega)).alloc _) hgrow3 (row_ne HO.out (by omega))
             have hbx1 : Box w3 (w.heap.size + 1) 40 (.slice none 0 0) (.slice none 0 0) := Box.grown ((HBX.out.2.1.below hb2 (by omega)).alloc _) hgrow3 (row_ne HO.out (by omega))
             have hbx2 : Box w3 (w.heap.size + 2) 40 (.slice a' k cap') (.slice none 0 0) := Box.grown ((HBX.out.2.2.below hb2 (by omega)).alloc _) hgrow3 (row_ne HO.out (by omega))
             have hcc4 := hbx2.cell0
             have hff4 := hbx2.frozen0))
      all_goals
        have hS2 : Same (w.heap.size + 3) wr (w2.alloc (.cells #[.slice ux 64 uc] 22)) := Same.trans (.of_below hb2) hb2.size (same_alloc _ _ _)
        have hG3 : OwnLists (w.heap.size + 3) w3 (.slice (some ⟨gg, 0, none⟩) (k + 1) cap3) (S.secs.take (k + 1)) := by
          rw [HTK.out.1]
          refine OwnLists.push HTK.out.2 (HE.out.mono fun _ _ h => h.same hS2) (own_same HO.out hS2) ⟨?_, HA.out.1.2⟩ hgrow3 hown3
          rw [HA.out.2]
          exact (own_weaken hu2 (by omega)).alloc _
        have hbe3 : Below w.heap.size w w3 := ((HBL.out.trans (hb2.mono (by omega))).alloc (by have := hb2.size; omega) _).grown hgrow3 (by have := hb2.size; simp; omega) (fun j hj => by have := (HO.out.lt j hj).1; omega)
        have HS3 : Hid (w.heap.size + 3 ≤ w3.heap.size) := by
          have := hgrow3.size
          have := hb2.size
          show _ ≤ _
          simp at *
          omega
        have HG3 : Hid (OwnLists (w.heap.size + 3) w3 (.slice (some ⟨gg, 0, none⟩) (k + 1) cap3) (S.secs.take (k + 1))) := hG3
        have HBB : Hid (Box w3 w.heap.size 40 (.slice a1 n c1) (.slice a2 m c2) ∧ Box w3 (w.heap.size + 1) 40 (.slice none 0 0) (.slice none 0 0) ∧ Box w3 (w.heap.size + 2) 40 (.slice a' k cap') (.slice none 0 0)) := ⟨hbx0, hbx1, hbx2⟩
        clear hown3 hgrow3 hat hltg hG3 hS2 hbx0 hbx1 hbx2 hu2 hcc hcc2 hcc3 hix hc
        go_wp2
        go_roundw
        case rel =>
          exact ⟨k + 1, _, by omega, by go_num, HBB.out.1.other (by omega), HBB.out.2.1.other (by omega), HBB.out.2.2.set0 _, HG3.out.same (same_set (by omega)), hbe3.setCell (p := ⟨w.heap.size + 2, 0, none⟩) (Nat.le_add_right _ _) _, by simpa [World.setCell] using HS3.out⟩
        case measure => simp [intOf]; omega
    · obtain rfl : k = n := by omega
      have hTA : S.secs.take k = S.secs := by rw [HN.out]; simp
      rw [hTA] at hO
      clear hTA
      obtain ⟨us, hown, hE⟩ := hO
      rw [← HN.out] at hown
      obtain ⟨va, vc, rfl⟩ := own_shape hown
      have HLS : Hid (OwnLists (w.heap.size + 3) wr (.slice va k vc) S.secs) := ⟨us, by rw [← HN.out]; exact hown, hE⟩
      have hd0 := hB0.cell1
      have HBX : Hid (Box wr w.heap.size 40 (.slice a1 k c1) (.slice a2 m c2) ∧ Box wr (w.heap.size + 1) 40 (.slice none 0 0) (.slice none 0 0) ∧ Box wr (w.heap.size + 2) 40 (.slice va k vc) (.slice none 0 0)) := ⟨hB0, hB1, hB2⟩
      have HBL : Hid (Below w.heap.size w wr) := hbel
      have HSZ : Hid (w.heap.size + 3 ≤ wr.heap.size) := hsz
      clear hown hE hB0 hB1 hB2 hbel
      go_wp2
      go_loopw [26] (fun i wr => ∃ (j : Nat) (v : Value), j ≤ m ∧ i = .int .i64 j ∧ Box wr w.heap.size 40 (.slice a1 k c1) (.slice a2 m c2) ∧ Box wr (w.heap.size + 1) 40 (.slice none 0 0) (.slice none 0 0) ∧ Box wr (w.heap.size + 2) 40 (.slice va k vc) v ∧
        OwnLists (w.heap.size + 3) wr (.slice va k vc) S.secs ∧ OwnWrites (w.heap.size + 3) wr 81 v (S.cache.take j) ∧ Below w.heap.size w wr ∧ w.heap.size + 3 ≤ wr.heap.size) (fun i _ => m - (intOf i).toNat)
      case atStart => exact ⟨0, _, Nat.zero_le _, rfl, HBX.out.1, HBX.out.2.1, HBX.out.2.2, HLS.out, ⟨[], World.ownsRow_nil _ _ _ _, trivial⟩, HBL.out, HSZ.out⟩
      case round =>
        clear HLS HBX HBL HSZ hd0 hsz
        obtain ⟨j, v, hj, rfl, hB0, hB1, hB2, hLS, hO, hbel, hsz⟩ := hrel
        by_cases hlt : j < m
        · obtain ⟨q, hq⟩ := get_lt (l := S.cache) (k := j) (by rw [← HM.out]; exact hlt)
          obtain ⟨b, o, a, cap, hix, _, hc0, hc1, hA, hr⟩ := (HW.out.below hbel).at Tryd.underlying38 hi6 hz61 j q hq
          have hl64 := H64.out.2 q (List.mem_of_getElem? hq)
          rw [hl64] at hc1 hA
          have HTK : Hid (S.cache.take (j + 1) = S.cache.take j ++ [q] ∧ (S.cache.take j).length = j) := ⟨take_snoc hq, by have := HM.out; rw [List.length_take]; omega⟩
          obtain ⟨s, l⟩ := q
          simp only at hc0 hc1 hA hr hl64
          have HA : Hid (Arg n0 wr (.slice a 64 cap) l ∧ l.length = 64) := ⟨hA, hl64⟩
          obtain ⟨ps, hown, hE⟩ := hO
          rw [HTK.out.2] at hown
          obtain ⟨a', cap', rfl⟩ := own_shape hown
          have HBX : Hid (Box wr w.heap.size 40 (.slice a1 k c1) (.slice a2 m c2) ∧ Box wr (w.heap.size + 1) 40 (.slice none 0 0) (.slice none 0 0) ∧ Box wr (w.heap.size + 2) 40 (.slice va k vc) (.slice a' j cap')) := ⟨hB0, hB1, hB2⟩
          have HE : Hid (Each (OwnW1 (w.heap.size + 3) wr) ps (S.cache.take j)) := hE
          have HLS : Hid (OwnLists (w.heap.size + 3) wr (.slice va k vc) S.secs) := hLS
          have HBL : Hid (Below w.heap.size w wr) := hbel
          have HO : Hid (wr.ownsRow (w.heap.size + 3) 81 2 (.slice a' j cap') j (flat ps)) := hown
          have HRR : Hid (-9223372036854775808 ≤ s ∧ s ≤ 9223372036854775807) := hr
          obtain ⟨W, hW⟩ : ∃ W, W = wr.alloc (.cells #[.int .i64 s, .slice a 64 cap] 81) := ⟨_, rfl⟩
          have HWB : Hid (Below wr.heap.size wr W ∧ W.heap.size = wr.heap.size + 1) := by
            show _ ∧ _
            rw [hW]; exact ⟨(Below.refl _ _).alloc (Nat.le_refl _) _, by simp⟩
          have hw0 : W.cell? ⟨wr.heap.size, 0, none⟩ = some (.int .i64 s) := by rw [hW]; exact (Box.new wr 81 _ _).cell0
          have hw1 : W.cell? ⟨wr.heap.size, 1, none⟩ = some (.slice a 64 cap) := by rw [hW]; exact (Box.new wr 81 _ _).cell1
          have hw2 : W.cell? ⟨w.heap.size + 2, 1, none⟩ = some (.slice a' j cap') := (HBX.out.2.2.below HWB.out.1 (by omega)).cell1
          have HC : Hid (Calls Tryd.prog 45 #[.int .i64 s, .slice a 64 cap] W.drew fun e w' => ∃ g, e = .returned (.agg #[.int .i64 s, .slice (some ⟨g, 0, none⟩) 64 64]) ∧ w'.ownsRow W.heap.size 5 1 (.slice (some ⟨g, 0, none⟩) 64 64) 64 (l.map (Value.int .u8)) ∧ Below W.heap.size W w') := by
            have := whole_any n0 (.slice a 64 cap) l s W.drew ((HA.out.1.below HWB.out.1).below (Below.refl _ _).drew) (by have := HA.out.2; omega)
            rw [pad_full l HA.out.2] at this
            exact this.mono fun e w' h => by
              obtain ⟨g, h1, h2, h3⟩ := h
              exact ⟨g, h1, h2, ((Below.refl _ W).drew).trans h3⟩
          have hki : (j : Int) < (m : Int) := by omega
          have hd1 := hB0.cell1
          clear hA hq hB0 hB1 hB2 hE hbel hown hl64 hLS
          go_wp2
          rw [← hW]
          clear hW hc0 hc1 hd1
          go_region_law
            (first
              | (go_simp
                 with_reducible refine Calls.mono HC.out ?_
                 rintro e w2 ⟨g2, rfl, hu2, hb2⟩
                 have hcc2 : w2.cell? ⟨w.heap.size + 2, 1, none⟩ = some (.slice a' j cap') := ((HBX.out.2.2.below HWB.out.1 (by omega)).below hb2 (by have := HWB.out.2; omega)).cell1
                 have hcc3 : ∀ o, (w2.alloc o).cell? ⟨w.heap.size + 2, 1, none⟩ = some (.slice a' j cap') := fun o => (((HBX.out.2.2.below HWB.out.1 (by omega)).below hb2 (by have := HWB.out.2; omega)).alloc o).cell1
                 try dsimp only)
              | (refine step_append_lies _ (by rfl) _ _ _ (by rfl) (w.heap.size + 3) 81 i6 _ 2 32 Tryd.underlying38 hi6 hz60 hz61 hz62 rfl (by omega) _ j _ (by rfl) ((own_below (own_below HO.out HWB.out.1) hb2).alloc _) ⟨w2.heap.size, 0, none⟩ 1 1 [.int .i64 s, .slice (some ⟨g2, 0, none⟩) 64 64] (by rfl) (by rfl)
                  (World.news_of_block (cs := #[.int .i64 s, .slice (some ⟨g2, 0, none⟩) 64 64]) (t := 81) (fr := (0, 0)) (heap_alloc_new w2 _)) (by simp [Value.oneCell']) (by omega) (by unfold maxLen; omega) (by omega) (by have := hb2.size; have := HWB.out.2; simp; omega) (w2.heap.size + 1) (by simp) ?_; intro gg cap3 w3 hown3 hgrow3 hat hltg
                 have hbx0 : Box w3 w.heap.size 40 (.slice a1 k c1) (.slice a2 m c2) := Box.grown (((HBX.out.1.below HWB.out.1 (by omega)).below hb2 (by have := HWB.out.2; omega)).alloc _) hgrow3 (row_ne HO.out (by omega))
                 have hbx1 : Box w3 (w.heap.size + 1) 40 (.slice none 0 0) (.slice none 0 0) := Box.grown (((HBX.out.2.1.below HWB.out.1 (by omega)).below hb2 (by have := HWB.out.2; omega)).alloc _) hgrow3 (row_ne HO.out (by omega))
                 have hbx2 : Box w3 (w.heap.size + 2) 40 (.slice va k vc) (.slice a' j cap') := Box.grown (((HBX.out.2.2.below HWB.out.1 (by omega)).below hb2 (by have := HWB.out.2; omega)).alloc _) hgrow3 (row_ne HO.out (by omega))
                 have hcc4 := hbx2.cell1
                 have hff4 := hbx2.frozen1))
          all_goals
            have hB2 : Below wr.heap.size wr w2 := HWB.out.1.trans (hb2.mono (by have := HWB.out.2; omega))
            have hS2 : Same (w.heap.size + 3) wr (w2.alloc (.cells #[.int .i64 s, .slice (some ⟨g2, 0, none⟩) 64 64] 81)) := Same.trans (.of_below hB2) hB2.size (same_alloc _ _ _)
            have hG3 : OwnWrites (w.heap.size + 3) w3 81 (.slice (some ⟨gg, 0, none⟩) (j + 1) cap3) (S.cache.take (j + 1)) := by
              rw [HTK.out.1]
              refine OwnWrites.push (by decide) HTK.out.2 (HE.out.mono fun _ _ h => ⟨h.1, h.2.1.same hS2, h.2.2⟩) (own_same HO.out hS2) ⟨?_, HA.out.1.2⟩ HRR.out hgrow3 hown3
              rw [HA.out.2]
              exact (own_weaken hu2 (by have := HWB.out.2; omega)).alloc _
            have hL3 : OwnLists (w.heap.size + 3) w3 (.slice va k vc) S.secs := OwnLists.beside (HLS.out.same hS2) (by decide) (by decide) (own_same HO.out hS2) hgrow3
            have hbe3 : Below w.heap.size w w3 := ((HBL.out.trans (hB2.mono (by omega))).alloc (by have := hB2.size; omega) _).grown hgrow3 (by have := hB2.size; simp; omega) (fun j hj => by have := (HO.out.lt j hj).1; omega)
            have HS3 : Hid (w.heap.size + 3 ≤ w3.heap.size) := by
              have := hgrow3.size
              have := hB2.size
              show _ ≤ _
              simp at *
              omega
            have HG3 : Hid (OwnWrites (w.heap.size + 3) w3 81 (.slice (some ⟨gg, 0, none⟩) (j + 1) cap3) (S.cache.take (j + 1)) ∧ OwnLists (w.heap.size + 3) w3 (.slice va k vc) S.secs) := ⟨hG3, hL3⟩
            have HBB : Hid (Box w3 w.heap.size 40 (.slice a1 k c1) (.slice a2 m c2) ∧ Box w3 (w.heap.size + 1) 40 (.slice none 0 0) (.slice none 0 0) ∧ Box w3 (w.heap.size + 2) 40 (.slice va k vc) (.slice a' j cap')) := ⟨hbx0, hbx1, hbx2⟩
            clear hown3 hgrow3 hat hltg hG3 hL3 hS2 hB2 hbx0 hbx1 hbx2 hu2 hcc2 hcc3 hix hw0 hw1 hw2
            go_wp2
            go_roundw
            case rel =>
              exact ⟨j + 1, _, by omega, by go_num, HBB.out.1.other (by omega), HBB.out.2.1.other (by omega), HBB.out.2.2.set1 _, HG3.out.2.same (same_set (by omega)), HG3.out.1.same (same_set (by omega)), hbe3.setCell (p := ⟨w.heap.size + 2, 1, none⟩) (Nat.le_add_right _ _) _, by simpa [World.setCell] using HS3.out⟩
            case measure => simp [intOf]; omega
        · obtain rfl : j = m := by omega
          have hTA : S.cache.take j = S.cache := by rw [HM.out]; simp
          rw [hTA] at hO
          obtain ⟨ps, hown, hE⟩ := hO
          rw [← HM.out] at hown
          obtain ⟨a', cap', rfl⟩ := own_shape hown
          have HO : Hid (OwnLists (w.heap.size + 3) wr (.slice va k vc) S.secs ∧ OwnWrites (w.heap.size + 3) wr 81 (.slice a' j cap') S.cache) := ⟨hLS, ps, by rw [← HM.out]; exact hown, hE⟩
          have hc0 := hB2.cell0
          have hc1 := hB2.cell1
          have hd0 := hB1.cell0
          have hd1 := hB1.cell1
          have hf0 := hB1.frozen0
          have hf1 := hB1.frozen1
          have HBL : Hid (Below w.heap.size w wr) := hbel
          clear hown hE hLS hTA hbel hB0 hB1 hB2
          go_wp2
          refine bodyPost_ret (v := .agg #[.slice va k vc, .slice a' j cap']) (by simp [results, Tryd.results44, go_sem, *]) rfl ⟨_, rfl, ⟨_, _, rfl, ?_, ?_⟩, ?_⟩
          · exact OwnLists.weaken (base := w.heap.size + 3) ((HO.out.1.same (same_set (by omega))).same (same_set (by omega))) (by omega)
          · exact OwnWrites.weaken (base := w.heap.size + 3) ((HO.out.2.same (same_set (by omega))).same (same_set (by omega))) (by omega)
          · exact below_set2 HBL.out (Nat.le_succ _) _ _

end Go.Proofs.YthlfgpnabcplnaaDoor.Dk

/-
  What Put makes of any disk: the error by the document's order, or the disk with one write more.
-/
namespace Go.Proofs.YthlfgpnabcplnaaDoor.Dk
open Go.RowKit
set_option maxRecDepth 100000

def none0 : St := ⟨[], []⟩
def perr (S : St) (s : Int) (d : List Int) : Int := if chk S = false then 9 else if reach S.secs.length s 1 = false then 41 else if 64 < d.length then 5 else if S.cache.length = 4096 then 51 else 0
def pst (S : St) (s : Int) (d : List Int) : St := if perr S s d = 0 then ⟨S.secs, S.cache ++ [(s, pad d)]⟩ else none0

theorem own_zero (base : Nat) (w : World) (e : TypeId) : OwnDisk base w e (.agg #[.slice none 0 0, .slice none 0 0]) none0 :=
  ⟨_, _, rfl, ⟨[], World.ownsRow_nil _ _ _ _, trivial⟩, ⟨[], World.ownsRow_nil _ _ _ _, trivial⟩⟩

theorem chk_facts {S : St} (h : chk S = true) : 1 ≤ S.secs.length ∧ S.secs.length ≤ 2048 ∧ S.cache.length ≤ 4096 ∧ (∀ l ∈ S.secs, l.length = 64) ∧ (∀ q ∈ S.cache, q.2.length = 64) ∧ ∀ q ∈ S.cache, 0 ≤ q.1 ∧ q.1 < S.secs.length := by
  simp only [chk, Bool.and_eq_true, decide_eq_true_eq, List.all_eq_true] at h
  obtain ⟨⟨⟨⟨h1, h2⟩, h3⟩, h4⟩, h5⟩ := h
  refine ⟨h1, h2, h3, fun l hl => by simpa [okSec] using h4 l hl, fun q hq => ?_, fun q hq => ?_⟩
  · have := h5 q hq
    simp only [okWrite, Bool.and_eq_true, beq_iff_eq] at this
    exact this.2
  · have := h5 q hq
    simp only [okWrite, Bool.and_eq_true, decide_eq_true_eq] at this
    exact this.1

theorem box_apart {w : World} {base : Nat} {e t : TypeId} {size : Nat} {v u x : Value} {n B : Nat} {xs : List Value} (h : w.ownsRow base e size v n xs) (hB : Box w B t u x) (ht : t ≠ e) : v.ownBlock = none ∨ v.ownBlock ≠ some B := by
  rcases h.2 with ⟨rfl, _⟩ | ⟨g, cap, cur, rfl, _, hg, _⟩
  · exact .inl rfl
  · refine .inr fun e' => ?_
    have : g = B := by simpa [Value.ownBlock] using e'
    subst this
    rw [show w.heap[g]? = _ from hB] at hg
    simp at hg
    exact ht hg.2
theorem box_apart' {w : World} {base : Nat} {e t : TypeId} {size : Nat} {v u x : Value} {n B : Nat} {xs : List Value} (h : w.ownsRow base e size v n xs) (hB : Box w B t u x) (ht : t ≠ e) : some B ≠ v.ownBlock := by
  rcases box_apart h hB ht with h | h
  · rw [h]; simp
  · exact h.symm
theorem grown_set (w : World) (B i : Nat) (x : Value) : w.grownBy (w.setCell ⟨B, i, none⟩ x) (some B) :=
  ⟨rfl, rfl, rfl, by simp [World.setCell], fun k _ hk => Below.heap_setCell _ _ _ _ (fun e => hk (by rw [e]))⟩
theorem OwnLists.boxed {base : Nat} {w : World} {vs : Value} {ls : List (List Int)} {B i : Nat} {t : TypeId} {u v x : Value} (h : OwnLists base w vs ls) (hB : Box w B t u v) (h5 : t ≠ 5) (h26 : t ≠ 22) : OwnLists base (w.setCell ⟨B, i, none⟩ x) vs ls := by
  obtain ⟨us, h1, h2⟩ := h
  exact ⟨us, h1.kept (grown_set w B i x) (box_apart h1 hB h26), h2.mono fun a b h => ⟨h.1.kept (grown_set w B i x) (box_apart h.1 hB h5), h.2⟩⟩
theorem OwnWrites.boxed {base : Nat} {w : World} {e : TypeId} {vs : Value} {ws : List (Int × List Int)} {B i : Nat} {t : TypeId} {u v x : Value} (h : OwnWrites base w e vs ws) (hB : Box w B t u v) (h5 : t ≠ 5) (he : t ≠ e) : OwnWrites base (w.setCell ⟨B, i, none⟩ x) e vs ws := by
  obtain ⟨us, h1, h2⟩ := h
  exact ⟨us, h1.kept (grown_set w B i x) (box_apart h1 hB he), h2.mono fun a b h => ⟨h.1, ⟨h.2.1.1.kept (grown_set w B i x) (box_apart h.2.1.1 hB h5), h.2.1.2⟩, h.2.2⟩⟩

attribute [local go_sem ↓] Go.wp_at_zero Go.wp_at_succ


end Go.Proofs.YthlfgpnabcplnaaDoor.Dk

/-
  What PutAll makes of any disk: the error by the document's order, or the disk with a write more for each 64 octets.
-/
namespace Go.Proofs.YthlfgpnabcplnaaDoor.Dk
open Go.RowKit
set_option maxRecDepth 100000

theorem part_length (l : List Int) (i j : Nat) (hj : j ≤ l.length) : ((l.take j).drop i).length = j - i := by
  rw [List.length_drop, List.length_take, Nat.min_eq_left hj]

theorem Arg.sub {n0 : Nat} {w : World} {a : Option Addr} {len cap : Nat} {l : List Int} (h : Arg n0 w (.slice a len cap) l) (i j : Nat) (hij : i ≤ j) (hj : j ≤ l.length) : Arg n0 w (sliced a i j cap 1) ((l.take j).drop i) := by
  have ho : Oct ((l.take j).drop i) := fun y hy => h.2 y (List.mem_of_mem_take (List.mem_of_mem_drop hy))
  have hl := part_length l i j hj
  obtain ⟨⟨_, ⟨hv, h0⟩ | ⟨x, c, hv, hcap, hm, hb, hc⟩⟩, _⟩ := h
  · obtain ⟨rfl, rfl, rfl⟩ := Value.slice.inj hv
    obtain rfl : j = 0 := by omega
    obtain rfl : i = 0 := by omega
    exact ⟨⟨by simp, .inl ⟨by simp [sliced], by simp⟩⟩, by simpa using ho⟩
  · obtain ⟨rfl, rfl, rfl⟩ := Value.slice.inj hv
    refine ⟨⟨by simp, .inr ?_⟩, ho⟩
    by_cases e : cap = i
    · refine ⟨x, cap - i, ?_, by omega, by omega, hb, fun k u hk => ?_⟩
      · unfold sliced
        rw [if_pos e, hl]
      · have : k < ((l.take j).drop i).length := by
          have := (List.getElem?_eq_some_iff.1 hk).1
          simpa using this
        omega
    · have hblk : (x.add (i * 1)).block = x.block := by unfold Addr.add; split <;> rfl
      refine ⟨x.add (i * 1), cap - i, ?_, by omega, by omega, by rw [hblk]; exact hb, fun k u hk => ?_⟩
      · unfold sliced
        rw [if_neg e, hl]
        rfl
      · have hk0 : k < j - i := by
          have := (List.getElem?_eq_some_iff.1 hk).1
          rw [List.length_map, hl] at this
          exact this
        have h1 := hc (i + k) u (by
          rw [List.getElem?_map] at hk ⊢
          rw [List.getElem?_drop, List.getElem?_take, if_pos (by omega)] at hk
          exact hk)
        have hpos : 0 < l.length := by omega
        have h0 := hc 0 (.int .u8 (l.getD 0 0)) (by simp [hpos])
        obtain ⟨b, off, spot⟩ := x
        have hspot : spot = none := by simpa [Addr.add] using World.cell?_spot h0
        subst hspot
        rw [add_plain] at h1
        rw [add_plain, add_plain, Nat.mul_one, Nat.add_assoc, h1]

theorem elem22 : Tryd.prog.underlying 22 = some (.slice (Tryd.prog.elem 22)) := by kernel_rfl
theorem elem22_is : Tryd.prog.elem 22 = 5 := by kernel_rfl
theorem size5 (W : World) : (sizeOf (Tryd.prog.elem 22)).run Tryd.prog W = .ok 1 W := by
  obtain ⟨i0, hi, hz0, hz1, hz2⟩ := info_parts Tryd.info5
  rw [elem22_is]
  simp [sizeOf, typeInfo, hi, hz1]

theorem Arg.cut {n0 : Nat} {w : World} {v : Value} {l : List Int} (h : Arg n0 w v l) (i j : Nat) (hij : i ≤ j) (hj : j ≤ l.length) :
    ∃ v', Arg n0 w v' ((l.take j).drop i) ∧ ∀ W, (Instr.slice 22 v (some (.int .i64 i)) (some (.int .i64 j)) none).run Tryd.prog W = .ok v' W := by
  obtain ⟨a, cap, rfl, hcap, _⟩ := h.shape
  refine ⟨_, h.sub i j hij hj, fun W => ?_⟩
  rw [run_slice_lh W 22 a l.length cap elem22 .i64 .i64 i j (by omega) (by omega) (by omega), size5]
  simp [Result.andThen]
theorem Arg.ahead {n0 : Nat} {w : World} {v : Value} {l : List Int} (h : Arg n0 w v l) (j : Nat) (hj : j ≤ l.length) :
    ∃ v', Arg n0 w v' (l.take j) ∧ ∀ W, (Instr.slice 22 v none (some (.int .i64 j)) none).run Tryd.prog W = .ok v' W := by
  obtain ⟨a, cap, rfl, hcap, _⟩ := h.shape
  refine ⟨_, by simpa using h.sub 0 j (by omega) hj, fun W => ?_⟩
  rw [run_slice_h W 22 a l.length cap elem22 .i64 j (by omega) (by omega), size5]
  simp [Result.andThen]

/-- How many sectors octets need; the one of them; the writes. -/
def need (d : List Int) : Nat := (d.length + 63) / 64
def piece (d : List Int) (i : Nat) : List Int := (d.drop (64 * i)).take 64
def pieces (s : Int) (d : List Int) : List (Int × List Int) := (List.range (need d)).map fun (i : Nat) => (s + (i : Int), pad (piece d i))
def paerr (S : St) (s : Int) (d : List Int) : Int := if chk S = false then 9 else if reach S.secs.length s (need d) = false then 41 else if 4096 < S.cache.length + need d then 51 else 0
def past (S : St) (s : Int) (d : List Int) : St := if paerr S s d = 0 then ⟨S.secs, S.cache ++ pieces s d⟩ else none0

theorem piece_cut (d : List Int) (i : Nat) : (d.take (min (64 * i + 64) d.length)).drop (64 * i) = piece d i := by
  unfold piece
  by_cases h : 64 * i + 64 ≤ d.length
  · rw [Nat.min_eq_left h, List.drop_take]
    congr 1
    omega
  · rw [Nat.min_eq_right (by omega), List.take_length, List.take_of_length_le (by simp; omega)]
theorem piece_le (d : List Int) (i : Nat) : (piece d i).length ≤ 64 := by simp [piece]; omega
theorem piece_oct {d : List Int} (h : Oct d) (i : Nat) : Oct (piece d i) := fun x hx => h x (List.mem_of_mem_drop (List.mem_of_mem_take hx))
theorem need_lt (d : List Int) (i : Nat) (h : i < need d) : 64 * i ≤ d.length := by unfold need at h; omega

theorem wrap_in (x : Int) (h : -9223372036854775808 ≤ x ∧ x ≤ 9223372036854775807) : IntKind.i64.wrap x = x := by rw [IntKind.wrap_i64]; omega
theorem wrap_to (x y : Int) (e : x = y) (h : -9223372036854775808 ≤ x ∧ x ≤ 9223372036854775807) : IntKind.i64.wrap x = y := by rw [wrap_in x h, e]

theorem wrap64_in' (x : Int) (h : -9223372036854775808 ≤ x ∧ x ≤ 9223372036854775807) : wrap64 x = x := by unfold wrap64; omega

theorem run_min2 (w : World) (ts : Array TypeId) (t : TypeId) (x y : Int) : (Builtin.min_ ts t #[.int .i64 x, .int .i64 y]).run Tryd.prog w = .ok (.int .i64 (if y < x then y else x)) w := by
  simp [Builtin.min_, Builtin.min2]

attribute [local go_sem ↓] Go.wp_at_zero Go.wp_at_succ

set_option maxHeartbeats 2000000 in
theorem putAll_any (n0 n1 : Nat) (v dv : Value) (S : St) (s : Int) (d : List Int) (w : World) (h : Disk n0 w v S) (hs : -9223372036854775808 ≤ s ∧ s ≤ 9223372036854775807) (hd : Arg n1 w dv d) (hdb : d.length ≤ 140737488351232) :
    Calls Tryd.prog 28 #[v, .int .i64 s, dv] w fun e w' => ∃ v', e = .returned (.tuple #[v', .int .i64 (paerr S s d)]) ∧ OwnDisk w.heap.size w' 81 v' (past S s d) ∧ Below w.heap.size w w' := by
  obtain ⟨a1, c1, a2, c2, rfl, hL, hW⟩ := h.shape
  obtain ⟨ad, cd, rfl, _, hdm, _⟩ := hd.shape
  obtain ⟨i6, hi6, hz60, hz61, hz62⟩ := info_parts Tryd.info81
  obtain ⟨_, _, _, _, hm1, _⟩ := hL.shape
  have hl0 := run_len Tryd.underlying22 ad d.length cd
  have hl2 := run_len Tryd.underlying38 a2 S.cache.length c2
  have HD : Hid (Disk n0 w (.agg #[.slice a1 S.secs.length c1, .slice a2 S.cache.length c2]) S) := h
  have HA : Hid (Arg n1 w (.slice ad d.length cd) d) := hd
  obtain ⟨n, hn⟩ : ∃ n, n = S.secs.length := ⟨_, rfl⟩
  obtain ⟨m, hm⟩ : ∃ n, n = S.cache.length := ⟨_, rfl⟩
  obtain ⟨dl, hdl⟩ : ∃ n, n = d.length := ⟨_, rfl⟩
  obtain ⟨nd, hnd⟩ : ∃ n, n = need d := ⟨_, rfl⟩
  have HN : Hid (n = S.secs.length) := hn
  have HM : Hid (m = S.cache.length) := hm
  have HND : Hid (nd = need d) := hnd
  have hnd2 : nd = (dl + 63) / 64 := by rw [hnd, hdl]; rfl
  have HP : Hid (paerr S s d = if chk S = false then 9 else if reach n s nd = false then 41 else if 4096 < m + nd then 51 else 0) := by
    show _ = _
    rw [hn, hm, hnd]; rfl
  rw [← hn, ← hm] at HD ⊢
  rw [← hn] at hm1
  rw [← hm] at hl2
  rw [← hdl] at HA hl0 hdb ⊢
  have HDL : Hid (dl = d.length) := hdl
  have HN2 : Hid (nd = (dl + 63) / 64) := hnd2
  obtain ⟨pe, hpe⟩ : ∃ x, x = paerr S s d := ⟨_, rfl⟩
  have HPS : Hid (past S s d = if pe = 0 then ⟨S.secs, S.cache ++ pieces s d⟩ else none0) := by
    show _ = _
    rw [hpe]; rfl
  obtain ⟨PS, hPS⟩ : ∃ x, x = past S s d := ⟨_, rfl⟩
  rw [← hpe] at HP ⊢
  rw [← hPS] at HPS ⊢
  have hw1 : IntKind.i64.wrap ((dl : Int) + 64) = (dl : Int) + 64 := wrap_in _ (by omega)
  have hw2 : IntKind.i64.wrap ((dl : Int) + 64 - 1) = (dl : Int) + 63 := wrap_to _ _ (by omega) (by omega)
  have hw3 : Int.tdiv ((dl : Int) + 63) 64 = (nd : Int) := by
    rw [Int.tdiv_eq_ediv_of_nonneg (by omega)]; omega
  have hw5 : wrap64 (nd : Int) = (nd : Int) := by unfold wrap64; omega
  have HW5 : Hid (wrap64 (nd : Int) = (nd : Int)) := hw5
  clear h hd hL hW hn hm hdl hpe hPS hnd hnd2
  go_enter Tryd.func28, Tryd.ntmps28
  go_wp2_with fail
  refine (check_any n0 _ S _ (HD.out.below (((Below.refl _ w).alloc (Nat.le_refl _) _).alloc (by simp) _))).mono ?_
  rintro e w1 ⟨rfl, hb1⟩
  have hP1 : Box w1 w.heap.size 40 (.slice a1 n c1) (.slice a2 m c2) := ((Box.new w 40 _ _).alloc _).below hb1 (by simp; omega)
  have hR1 : Box w1 (w.heap.size + 1) 40 (.slice none 0 0) (.slice none 0 0) := by
    have := Box.new (w.alloc (.cells #[.slice a1 n c1, .slice a2 m c2] 40)) 40 (.slice none 0 0) (.slice none 0 0)
    rw [World.size_alloc] at this
    exact this.below hb1 (by simp)
  have hbe1 : Below w.heap.size w w1 := below_any (((Below.refl _ w).alloc (Nat.le_refl _) _).alloc (by simp) _) hb1
  have HB1 : Hid (Box w1 w.heap.size 40 (.slice a1 n c1) (.slice a2 m c2) ∧ Box w1 (w.heap.size + 1) 40 (.slice none 0 0) (.slice none 0 0) ∧ Below w.heap.size w w1) := ⟨hP1, hR1, hbe1⟩
  have g0 := hP1.cell0
  have g1 := hP1.cell1
  have g2 := hR1.cell0
  have g3 := hR1.cell1
  have g4 := hR1.frozen0
  have g5 := hR1.frozen1
  clear hb1 hbe1
  unfold cerr
  cases hchk : chk S
  · have e1 : pe = 9 := by rw [HP.out, if_pos hchk]
    have e2 : PS = none0 := by rw [HPS.out, if_neg (by omega)]
    subst e1 e2
    clear hP1 hR1
    go_wp2
    refine bodyPost_ret (v := .tuple #[.agg #[.slice none 0 0, .slice none 0 0], .int .i64 9]) (by simp [results, Tryd.results28, go_sem, *]) rfl ⟨_, rfl, own_zero _ _ _, ?_⟩
    exact below_set2 HB1.out.2.2 (Nat.le_succ _) _ _
  · clear hP1 hR1
    go_wp2_with fail
    refine (reaches_any a1 a2 n c1 m c2 s nd w1 hm1 hs).mono ?_
    rintro e w2 ⟨rfl, hb2⟩
    have hP2 := HB1.out.1.below hb2 HB1.out.1.lt
    have hR2 := HB1.out.2.1.below hb2 HB1.out.2.1.lt
    have HB2 : Hid (Box w2 w.heap.size 40 (.slice a1 n c1) (.slice a2 m c2) ∧ Box w2 (w.heap.size + 1) 40 (.slice none 0 0) (.slice none 0 0) ∧ Below w.heap.size w w2) := ⟨hP2, hR2, below_any HB1.out.2.2 hb2⟩
    clear g0 g1 g2 g3 g4 g5 hb2 hw1 hw2 hw3 hw5
    have g0 := hP2.cell0
    have g1 := hP2.cell1
    have g2 := hR2.cell0
    have g3 := hR2.cell1
    have g4 := hR2.frozen0
    have g5 := hR2.frozen1
    clear hP2 hR2 HB1
    cases hrc : reach n s nd
    · have e1 : pe = 41 := by rw [HP.out, if_neg (by simp [hchk]), if_pos hrc]
      have e2 : PS = none0 := by rw [HPS.out, if_neg (by omega)]
      subst e1 e2
      go_wp2
      refine bodyPost_ret (v := .tuple #[.agg #[.slice none 0 0, .slice none 0 0], .int .i64 41]) (by simp [results, Tryd.results28, go_sem, *]) rfl ⟨_, rfl, own_zero _ _ _, ?_⟩
      exact below_set2 HB2.out.2.2 (Nat.le_succ _) _ _
    obtain ⟨k1, k2, k3, k4, k5, k6⟩ := chk_facts hchk
    have HK : Hid (1 ≤ n ∧ n ≤ 2048 ∧ m ≤ 4096) := ⟨by rw [HN.out]; exact k1, by rw [HN.out]; exact k2, by rw [HM.out]; exact k3⟩
    have HRC : Hid (0 ≤ s ∧ (nd : Int) ≤ n - s) := by
      simp [reach] at hrc
      exact ⟨hrc.1, hrc.2⟩
    have HW6 : Hid (wrap64 ((m : Int) + nd) = (m : Int) + nd) := wrap64_in' _ (by have := HK.out; have := HRC.out; omega)
    by_cases h4k : (4096 : Int) < (m : Int) + nd
    · have e1 : pe = 51 := by rw [HP.out, if_neg (by simp [hchk]), if_neg (by simp [hrc]), if_pos (by omega)]
      have e2 : PS = none0 := by rw [HPS.out, if_neg (by omega)]
      subst e1 e2
      clear k1 k2 k3 k4 k5 k6
      have hw5 := HW5.out
      have hw6 := HW6.out
      go_wp2
      refine bodyPost_ret (v := .tuple #[.agg #[.slice none 0 0, .slice none 0 0], .int .i64 51]) (by simp [results, Tryd.results28, go_sem, *]) rfl ⟨_, rfl, own_zero _ _ _, ?_⟩
      exact below_set2 HB2.out.2.2 (Nat.le_succ _) _ _
    have e1 : pe = 0 := by rw [HP.out, if_neg (by simp [hchk]), if_neg (by simp [hrc]), if_neg (by omega)]
    have e2 : PS = ⟨S.secs, S.cache ++ pieces s d⟩ := by rw [HPS.out, if_pos e1]
    subst e1 e2
    have HMN : Hid (m + nd ≤ 4096) := by show _ ≤ _; omega
    have hw7 : wrap64 ((m : Int) + wrap64 (nd : Int)) = (m : Int) + nd := by rw [HW5.out, HW6.out]
    go_wp2_with fail
    refine (clone_any n0 _ S _ (HD.out.below HB2.out.2.2) k2 k3 k4 k5).mono ?_
    rintro e w3 ⟨v3, rfl, ⟨vs, vc, rfl, hOL, hOW⟩, hb3⟩
    clear hw7
    obtain ⟨us, hus, hEs⟩ := id hOL
    obtain ⟨ps, hown, hE⟩ := id hOW
    rw [← HN.out] at hus
    rw [← HM.out] at hown
    obtain ⟨ax, cs, rfl⟩ := own_shape hus
    obtain ⟨ac, cc, rfl⟩ := own_shape hown
    have hR3 := HB2.out.2.1.below hb3 HB2.out.2.1.lt
    obtain ⟨W, hW⟩ : ∃ W, W = w3.alloc (.cells #[.slice ax n cs, .slice ac m cc] 40) := ⟨_, rfl⟩
    have hXW : Box W w3.heap.size 40 (.slice ax n cs) (.slice ac m cc) := by rw [hW]; exact Box.new _ _ _ _
    have hbW : Below w3.heap.size w3 W := by rw [hW]; exact (Below.refl _ _).alloc (Nat.le_refl _) _
    have HLT : Hid (w.heap.size + 1 < w2.heap.size ∧ w2.heap.size ≤ w3.heap.size) := ⟨HB2.out.2.1.lt, hb3.size⟩
    have HST : Hid (Box W w3.heap.size 40 (.slice ax n cs) (.slice ac m cc) ∧ Box W (w.heap.size + 1) 40 (.slice none 0 0) (.slice none 0 0) ∧ OwnLists w2.heap.size W (.slice ax n cs) S.secs ∧ OwnWrites w2.heap.size W 81 (.slice ac m cc) S.cache ∧ Below w.heap.size w W) :=
      ⟨hXW, hR3.below hbW hR3.lt, hOL.same (.of_below hbW), hOW.same (.of_below hbW), below_any (below_any HB2.out.2.2 hb3) hbW⟩
    clear hown hE hOL hOW hEs hus hR3 hb3 g0 g1 g2 g3 g4 g5 hbW hXW k1 k2 k3 k4 k5 k6
    go_wp2
    rw [← hW]
    clear hW
    go_loopw [41] (fun i wr => ∃ (k : Nat) (vc : Value), k ≤ nd ∧ i = .int .i64 k ∧ Box wr w3.heap.size 40 (.slice ax n cs) vc ∧ Box wr (w.heap.size + 1) 40 (.slice none 0 0) (.slice none 0 0) ∧ OwnLists w2.heap.size wr (.slice ax n cs) S.secs ∧
      OwnWrites w2.heap.size wr 81 vc (S.cache ++ (List.range k).map fun (i : Nat) => (s + (i : Int), pad (piece d i))) ∧ Below w.heap.size w wr) (fun i _ => nd - (intOf i).toNat)
    case atStart => exact ⟨0, _, Nat.zero_le _, rfl, HST.out.1, HST.out.2.1, HST.out.2.2.1, by simpa using HST.out.2.2.2.1, HST.out.2.2.2.2⟩
    case round =>
      clear HST
      obtain ⟨k, vc, hk, rfl, hBX, hBR, hOL, hOW, hbel⟩ := hrel
      by_cases hlt : k < nd
      · have hlen : (S.cache ++ (List.range k).map fun (i : Nat) => (s + (i : Int), pad (piece d i))).length = m + k := by rw [List.length_append, ← HM.out]; simp
        obtain ⟨ps, hown, hE⟩ := id hOW
        rw [hlen] at hown
        obtain ⟨ac, cc, rfl⟩ := own_shape hown
        have hle := need_lt d k (by rw [← HND.out]; exact hlt)
        obtain ⟨A, hAk⟩ : ∃ A, A = 64 * k := ⟨_, rfl⟩
        obtain ⟨J, hJ⟩ : ∃ J, J = min (64 * k + 64) dl := ⟨_, rfl⟩
        obtain ⟨pv, hpA, hcut⟩ := (HA.out.below hbel).cut A J (by have := HDL.out; omega) (by have := HDL.out; omega)
        rw [hAk, hJ, HDL.out, piece_cut] at hpA
        obtain ⟨pa, pc, rfl, _⟩ := hpA.shape
        have hm1' : IntKind.i64.wrap ((k : Int) * 64) = (A : Int) := wrap_to _ _ (by omega) (by have := HK.out; have := HRC.out; omega)
        have hm2' : IntKind.i64.wrap ((A : Int) + 64) = (A : Int) + 64 := wrap_in _ (by have := HK.out; have := HRC.out; clear hm1'; omega)
        have hm3' : IntKind.i64.wrap (s + (k : Int)) = s + (k : Int) := wrap_in _ (by have := HK.out; have := HRC.out; clear hm1' hm2'; omega)
        have hmin : ∀ (ts : Array TypeId) (t : TypeId) (W : World), (Builtin.min_ ts t #[.int .i64 ((A : Int) + 64), .int .i64 (dl : Int)]).run Tryd.prog W = .ok (.int .i64 (J : Int)) W := fun ts t W => by
          rw [run_min2]
          congr 2
          split <;> omega
        have HPA : Hid (Arg n1 wr (.slice pa (piece d k).length pc) (piece d k)) := hpA
        have HLEN : Hid ((S.cache ++ (List.range k).map fun (i : Nat) => (s + (i : Int), pad (piece d i))).length = m + k) := hlen
        have HR : Hid (Box wr w3.heap.size 40 (.slice ax n cs) (.slice ac (m + k) cc) ∧ Box wr (w.heap.size + 1) 40 (.slice none 0 0) (.slice none 0 0)) := ⟨hBX, hBR⟩
        have HE : Hid (Each (OwnW1 w2.heap.size wr) ps (S.cache ++ (List.range k).map fun (i : Nat) => (s + (i : Int), pad (piece d i)))) := hE
        have HO : Hid (wr.ownsRow w2.heap.size 81 2 (.slice ac (m + k) cc) (m + k) (flat ps)) := hown
        have HLS : Hid (OwnLists w2.heap.size wr (.slice ax n cs) S.secs) := hOL
        have HBL : Hid (Below w.heap.size w wr) := hbel
        have HC : Hid (Calls Tryd.prog 45 #[.int .i64 (s + (k : Int)), .slice pa (piece d k).length pc] wr.drew fun e w' => ∃ g, e = .returned (.agg #[.int .i64 (s + (k : Int)), .slice (some ⟨g, 0, none⟩) 64 64]) ∧ w'.ownsRow wr.heap.size 5 1 (.slice (some ⟨g, 0, none⟩) 64 64) 64 ((pad (piece d k)).map (Value.int .u8)) ∧ Below wr.heap.size wr w') := by
          have := whole_any n1 (.slice pa (piece d k).length pc) (piece d k) (s + (k : Int)) wr.drew (HPA.out.below (Below.refl _ _).drew) (piece_le d k)
          exact this.mono fun e w' h => by
            obtain ⟨g, h1, h2, h3⟩ := h
            exact ⟨g, h1, h2, ((Below.refl _ wr).drew).trans h3⟩
        have q0 := hBX.cell1
        have hki : (k : Int) < wrap64 (nd : Int) := by rw [HW5.out]; omega
        have hmk : m + k + 1 ≤ 4096 := by have := HMN.out; omega
        obtain ⟨pl, hpl⟩ : ∃ x, x = (piece d k).length := ⟨_, rfl⟩
        rw [← hpl] at HC hcut
        clear hBX hBR hOL hOW hbel hown hE hpA hle hlen hpl hAk hJ
        go_wp2
        go_region_law
          (first
            | (go_simp
               with_reducible refine Calls.mono HC.out ?_
               rintro e w4 ⟨g2, rfl, hu2, hb4⟩
               have hcc2 : w4.cell? ⟨w3.heap.size, 1, none⟩ = some (.slice ac (m + k) cc) := (HR.out.1.below hb4 HR.out.1.lt).cell1
               have hcc3 : ∀ o, (w4.alloc o).cell? ⟨w3.heap.size, 1, none⟩ = some (.slice ac (m + k) cc) := fun o => ((HR.out.1.below hb4 HR.out.1.lt).alloc o).cell1
               try dsimp only)
            | (refine step_append_lies _ (by rfl) _ _ _ (by rfl) w2.heap.size 81 i6 _ 2 32 Tryd.underlying38 hi6 hz60 hz61 hz62 rfl (by omega) _ (m + k) _ (by rfl) ((own_below HO.out hb4).alloc _) ⟨w4.heap.size, 0, none⟩ 1 1 [.int .i64 (s + (k : Int)), .slice (some ⟨g2, 0, none⟩) 64 64] (by rfl) (by rfl)
                (World.news_of_block (cs := #[.int .i64 (s + (k : Int)), .slice (some ⟨g2, 0, none⟩) 64 64]) (t := 81) (fr := (0, 0)) (heap_alloc_new w4 _)) (by simp [Value.oneCell']) (by omega) (by unfold maxLen; omega) (by omega) (by have := hb4.size; have := HLT.out; have := HR.out.1.lt; simp; omega) (w4.heap.size + 1) (by simp) ?_; intro gg cap3 w5 hown5 hgrow5 hat hltg
               have hbx1 : Box w5 (w.heap.size + 1) 40 (.slice none 0 0) (.slice none 0 0) := Box.grown ((HR.out.2.below hb4 HR.out.2.lt).alloc _) hgrow5 (row_ne HO.out (by have := HLT.out; omega))
               have hbx2 : Box w5 w3.heap.size 40 (.slice ax n cs) (.slice ac (m + k) cc) := Box.grown ((HR.out.1.below hb4 HR.out.1.lt).alloc _) hgrow5 (box_apart' HO.out HR.out.1 (by decide))
               have hcc4 := hbx2.cell1
               have hff4 := hbx2.frozen1))
        all_goals
          have hS4 : Same w2.heap.size wr (w4.alloc (.cells #[.int .i64 (s + (k : Int)), .slice (some ⟨g2, 0, none⟩) 64 64] 81)) := Same.trans (.of_below hb4) hb4.size (same_alloc _ _ _)
          have hG5 : OwnWrites w2.heap.size w5 81 (.slice (some ⟨gg, 0, none⟩) (m + k + 1) cap3) (S.cache ++ (List.range (k + 1)).map fun (i : Nat) => (s + (i : Int), pad (piece d i))) := by
            rw [List.range_succ, List.map_append, ← List.append_assoc]
            refine OwnWrites.push (by decide) HLEN.out (HE.out.mono fun _ _ h => ⟨h.1, h.2.1.same hS4, h.2.2⟩) (own_same HO.out hS4) ⟨?_, pad_oct HPA.out.2⟩ (by have := HK.out; have := HRC.out; omega) hgrow5 hown5
            rw [pad_length _ (piece_le d k)]
            exact (own_weaken hu2 (by have := HR.out.1.lt; have := HLT.out; omega)).alloc _
          have hL5 : OwnLists w2.heap.size w5 (.slice ax n cs) S.secs := OwnLists.beside (HLS.out.same hS4) (by decide) (by decide) (own_same HO.out hS4) hgrow5
          have HBE : Hid (Below w.heap.size w w5) := ((below_any HBL.out hb4).alloc (by have := hb4.size; have := HLT.out; have := HR.out.1.lt; omega) _).grown hgrow5 (by have := hb4.size; have := HLT.out; have := HR.out.1.lt; simp; omega) (fun j hj => by have := (HO.out.lt j hj).1; have := HLT.out; omega)
          have HG5 : Hid (OwnWrites w2.heap.size w5 81 (.slice (some ⟨gg, 0, none⟩) (m + k + 1) cap3) (S.cache ++ (List.range (k + 1)).map fun (i : Nat) => (s + (i : Int), pad (piece d i))) ∧ OwnLists w2.heap.size w5 (.slice ax n cs) S.secs ∧ Box w5 (w.heap.size + 1) 40 (.slice none 0 0) (.slice none 0 0) ∧ Box w5 w3.heap.size 40 (.slice ax n cs) (.slice ac (m + k) cc)) := ⟨hG5, hL5, hbx1, hbx2⟩
          clear hown5 hgrow5 hat hltg hG5 hL5 hS4 hbx1 hbx2 hu2 hcc2 hcc3 q0 hcut hmin hm1' hm2' hm3'
          go_wp2
          go_roundw
          case rel =>
            clear hki
            exact ⟨k + 1, _, by omega, by go_num, HG5.out.2.2.2.set1 _, HG5.out.2.2.1.other (by have := HLT.out; omega), HG5.out.2.1.boxed HG5.out.2.2.2 (by decide) (by decide), HG5.out.1.boxed HG5.out.2.2.2 (by decide) (by decide), HBE.out.setCell (p := ⟨w3.heap.size, 1, none⟩) (by have := HLT.out; simp; omega) _⟩
          case measure => clear hki; simp [intOf]; omega
      · obtain rfl : k = nd := by omega
        have hlen : (S.cache ++ (List.range k).map fun (i : Nat) => (s + (i : Int), pad (piece d i))).length = m + k := by rw [List.length_append, ← HM.out]; simp
        obtain ⟨ps, hown, hE⟩ := id hOW
        rw [hlen] at hown
        obtain ⟨ac, cc, rfl⟩ := own_shape hown
        have HG : Hid (OwnLists w2.heap.size wr (.slice ax n cs) S.secs ∧ OwnWrites w2.heap.size wr 81 (.slice ac (m + k) cc) (S.cache ++ pieces s d) ∧ Below w.heap.size w wr) := by
          refine ⟨hOL, ?_, hbel⟩
          unfold pieces
          rw [← HND.out]
          exact hOW
        have q0 := hBX.cell0
        have q1 := hBX.cell1
        have q2 := hBR.cell0
        have q3 := hBR.cell1
        have q4 := hBR.frozen0
        have q5 := hBR.frozen1
        clear hBX hBR hOL hOW hbel hown hE hlen
        have hkn : ¬ (k : Int) < wrap64 (k : Int) := by rw [HW5.out]; omega
        go_wp2
        refine bodyPost_ret (v := .tuple #[.agg #[.slice ax n cs, .slice ac (m + k) cc], .int .i64 0]) (by simp [results, Tryd.results28, go_sem, *]) rfl ⟨_, rfl, ⟨_, _, rfl, ?_, ?_⟩, ?_⟩
        · exact OwnLists.weaken (base := w2.heap.size) ((HG.out.1.same (same_set (by have := HLT.out; omega))).same (same_set (by have := HLT.out; omega))) (by have := HLT.out; omega)
        · exact OwnWrites.weaken (base := w2.heap.size) ((HG.out.2.1.same (same_set (by have := HLT.out; omega))).same (same_set (by have := HLT.out; omega))) (by have := HLT.out; omega)
        · exact below_set2 HG.out.2.2 (Nat.le_succ _) _ _

end Go.Proofs.YthlfgpnabcplnaaDoor.Dk
