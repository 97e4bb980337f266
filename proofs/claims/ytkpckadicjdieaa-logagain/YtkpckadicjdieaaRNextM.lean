/-
  The kind behind one, as the document finds it.
-/
import Derived.Test.YtkpckadicjdieaaRLive
import Derived.Test.YtkpckadicjdieaaAMath
namespace Go.Proofs.Ytkpckadicjdieaa
open Go.RowKit

/-- May a block's kind come behind this one? -/
def cand (ow ix : Int) (b : Bk) : Bool := !(decide (b.1 < ow) || (decide (b.1 = ow) && decide (b.2.1 ≤ ix) && decide (0 < ow)))
/-- The first of the kinds that may. -/
def bstep (ow ix : Int) (r : Int × Int × Bool) (b : Bk) : Int × Int × Bool := if cand ow ix b = true then (if r.2.2 = false ∨ b.1 < r.1 ∨ (b.1 = r.1 ∧ b.2.1 < r.2.1) then (b.1, b.2.1, true) else r) else r
def bst (ow ix : Int) (l : List Bk) : Int × Int × Bool := l.foldl (bstep ow ix) (0, 0, false)
theorem bst_take {ow ix : Int} {l : List Bk} {k : Nat} {b : Bk} (h : l[k]? = some b) : bst ow ix (l.take (k + 1)) = bstep ow ix (bst ow ix (l.take k)) b := by
  unfold bst
  rw [take_snoc h, List.foldl_append]
  rfl
theorem bst_snoc {ow ix : Int} (l : List Bk) (b : Bk) : bst ow ix (l ++ [b]) = bstep ow ix (bst ow ix l) b := by
  unfold bst
  rw [List.foldl_append]
  rfl
/-- What the search tells. -/
def Sought (ow ix : Int) (l : List Bk) (r : Int × Int × Bool) : Prop := (r.2.2 = false ∧ r = (0, 0, false) ∧ ∀ b ∈ l, cand ow ix b = false) ∨ (r.2.2 = true ∧ (∃ b ∈ l, cand ow ix b = true ∧ b.1 = r.1 ∧ b.2.1 = r.2.1) ∧ ∀ b ∈ l, cand ow ix b = true → r.1 < b.1 ∨ (r.1 = b.1 ∧ r.2.1 ≤ b.2.1))
theorem Sought.step {ow ix : Int} {l : List Bk} {r : Int × Int × Bool} (ih : Sought ow ix l r) (t : Bk) : Sought ow ix (l ++ [t]) (bstep ow ix r t) := by
  unfold bstep
  cases hc : cand ow ix t
  · simp only [Bool.false_eq_true, if_false]
    rcases ih with ⟨h1, h2, h3⟩ | ⟨h1, ⟨b, hb, h2⟩, h3⟩
    · refine .inl ⟨h1, h2, fun b hb => ?_⟩
      rcases List.mem_append.1 hb with hb | hb
      · exact h3 b hb
      · rw [List.mem_singleton.1 hb]; exact hc
    · refine .inr ⟨h1, ⟨b, List.mem_append_left _ hb, h2⟩, fun b' hb' hcb => ?_⟩
      rcases List.mem_append.1 hb' with hb' | hb'
      · exact h3 b' hb' hcb
      · rw [List.mem_singleton.1 hb', hc] at hcb; cases hcb
  · simp only [if_true]
    by_cases hs : r.2.2 = false ∨ t.1 < r.1 ∨ (t.1 = r.1 ∧ t.2.1 < r.2.1)
    · rw [if_pos hs]
      refine .inr ⟨rfl, ⟨t, by simp, hc, rfl, rfl⟩, fun b' hb' hcb => ?_⟩
      rcases List.mem_append.1 hb' with hb' | hb'
      · rcases ih with ⟨h1, h2, h3⟩ | ⟨h1, _, h3⟩
        · rw [h3 b' hb'] at hcb; cases hcb
        · have := h3 b' hb' hcb
          rcases hs with hs | hs
          · rw [h1] at hs; cases hs
          · simp only; omega
      · rw [List.mem_singleton.1 hb']; exact .inr ⟨rfl, Int.le_refl _⟩
    · rw [if_neg hs]
      rcases ih with ⟨h1, _⟩ | ⟨h1, ⟨b, hb, h2⟩, h3⟩
      · exact absurd (.inl h1) hs
      · refine .inr ⟨h1, ⟨b, List.mem_append_left _ hb, h2⟩, fun b' hb' hcb => ?_⟩
        rcases List.mem_append.1 hb' with hb' | hb'
        · exact h3 b' hb' hcb
        · rw [List.mem_singleton.1 hb']
          have := hs
          omega
theorem bst_told (ow ix : Int) (l : List Bk) : Sought ow ix l (bst ow ix l) := by
  have : ∀ (m l : List Bk) (r : Int × Int × Bool), Sought ow ix l r → Sought ow ix (l ++ m) (m.foldl (bstep ow ix) r) := by
    intro m
    induction m with
    | nil => intro l r h; simpa using h
    | cons t m ih =>
      intro l r h
      have := ih (l ++ [t]) _ (h.step t)
      simpa using this
  have h := this l [] (0, 0, false) (.inl ⟨rfl, rfl, fun b h => by cases h⟩)
  simpa [bst] using h

/-- All blocks of a store, the open ones first. -/
def blks (l : List Sg) : List Bk := (l.map (·.2)).flatten
theorem blks_take {l : List Sg} {k : Nat} {p : Sg} (h : l[k]? = some p) : blks (l.take (k + 1)) = blks (l.take k) ++ p.2 := by
  unfold blks
  rw [take_snoc h]
  simp
theorem blks_length {l : List Sg} (h : ∀ p ∈ l, p.2.length ≤ 8) : (blks l).length ≤ 8 * l.length := by
  unfold blks
  induction l with
  | nil => simp
  | cons p l ih =>
    simp only [List.map_cons, List.flatten_cons, List.length_append, List.length_cons]
    have h1 := h p (List.mem_cons_self ..)
    have h2 := ih fun q hq => h q (List.mem_cons_of_mem _ hq)
    omega

/-- A row of blocks of its own, of which only the kinds count. -/
def NR (w : World) (base : Nat) (v : Value) (L : List Bk) : Prop := ∃ vss : List (List Value), w.ownsRow base 29 3 v L.length vss.flatten ∧ Each (fun us (b : Bk) => ∃ a m c, us = [.int .i64 b.1, .int .i64 b.2.1, .slice a m c]) vss L
theorem NR.shape {w : World} {base : Nat} {v : Value} {L : List Bk} (h : NR w base v L) : ∃ a c, v = .slice a L.length c := let ⟨_, h1, _⟩ := h; own_shape h1
theorem NR.of {w : World} {base : Nat} {v : Value} {L : List Bk} (h : bksR.owns base w [v] L) : NR w base v L := by
  obtain ⟨v9, vss, hv9, hown, hE⟩ := h
  obtain rfl : v = v9 := by simpa using hv9
  refine ⟨vss, hown, hE.mono fun us b h => ?_⟩
  obtain ⟨a, c, h1, _⟩ := bk_own h
  exact ⟨a, _, c, h1⟩
theorem NR.below {w w' : World} {base : Nat} {v : Value} {L : List Bk} (h : NR w base v L) (hb : Below w.heap.size w w') : NR w' base v L := let ⟨vss, h1, h2⟩ := h; ⟨vss, own_below h1 hb, h2⟩
theorem NR.at {w : World} {base : Nat} {v : Value} {L : List Bk} (h : NR w base v L) (i : Nat) (p : Bk) (hp : L[i]? = some p) :
    ∃ b o a m c, (∀ W, (Instr.indexAt 24 v (.int .i64 i)).run Try.prog W = .ok (.pointer (some ⟨b, o, none⟩)) W) ∧ w.cell? ⟨b, o, none⟩ = some (.int .i64 p.1) ∧ w.cell? ⟨b, o + 1, none⟩ = some (.int .i64 p.2.1) ∧ w.cell? ⟨b, o + 2, none⟩ = some (.slice a m c) := by
  obtain ⟨vss, h1, hE⟩ := h
  obtain ⟨i3, hi3, _, hz31, _⟩ := info_parts Try.info29
  obtain ⟨us, hu, a, m, c, rfl⟩ := hE.get hp
  obtain ⟨b, o, hix, _, hcell⟩ := (Cells.own h1).index (by omega) Try.underlying24 hi3 hz31 i (List.getElem?_eq_some_iff.1 hp).1
  have hs : ∀ us ∈ vss, us.length = 3 := fun us hus => by
    obtain ⟨_, _, _, _, _, rfl⟩ := hE.left hus
    rfl
  exact ⟨b, o, a, m, c, hix, hcell 0 _ (flat_get hs hu rfl), hcell 1 _ (flat_get hs hu rfl), hcell 2 _ (flat_get hs hu rfl)⟩
/-- Many more, that lie elsewhere, behind a row's. -/
theorem NR.many {wr : World} {base n : Nat} {v u : Value} {L M : List Bk} (h : NR wr base v L) (hu : bksR.lies n wr [u] M) (hb : base ≤ wr.heap.size) (hl : L.length + M.length ≤ 100000) :
    ∃ v3 w3, (Builtin.append_ #[24, 24] 24 #[v, u]).run Try.prog wr = .ok v3 w3 ∧ NR w3 base v3 (L ++ M) ∧ wr.grownBy w3 v.ownBlock ∧ ∀ g, v.ownBlock = some g → base ≤ g := by
  obtain ⟨vss, hown, hE⟩ := h
  obtain ⟨i, hi, hz, hsz, hby⟩ := info_parts Try.info29
  obtain ⟨u', uss, hu', hC, hE2⟩ := hu
  obtain rfl : u = u' := by simpa using hu'
  have hE2' : Each (fun us (b : Bk) => ∃ a m c, us = [.int .i64 b.1, .int .i64 b.2.1, .slice a m c]) uss M := hE2.mono fun us b h => by
    obtain ⟨a, c, h1, _⟩ := bk_view h
    exact ⟨a, _, c, h1⟩
  have hap : Each (fun us (b : Bk) => ∃ a m c, us = [.int .i64 b.1, .int .i64 b.2.1, .slice a m c]) (vss ++ uss) (L ++ M) := by
    refine each_of (by rw [List.length_append, List.length_append, hE.length, hE2.length]) fun k a b ha hb => ?_
    by_cases hk : k < vss.length
    · rw [List.getElem?_append_left hk] at ha
      rw [List.getElem?_append_left (by rw [← hE.length]; exact hk)] at hb
      obtain ⟨a', h1, h2⟩ := hE.get hb
      rw [ha] at h1
      obtain rfl := Option.some.inj h1
      exact h2
    · rw [List.getElem?_append_right (by omega)] at ha
      rw [List.getElem?_append_right (by rw [← hE.length]; omega), ← hE.length] at hb
      obtain ⟨a', h1, h2⟩ := hE2'.get hb
      rw [ha] at h1
      obtain rfl := Option.some.inj h1
      exact h2
  obtain ⟨hlen, h0 | ⟨ad, cap, rfl, _, _, _, hcs⟩⟩ := hC
  · obtain ⟨rfl, h0⟩ := h0
    obtain rfl := List.eq_nil_of_length_eq_zero h0
    refine ⟨v, wr, run_append_owned_none (P := Try.prog) (w := wr) base 24 24 29 i 3 Try.underlying24 hi v L.length vss.flatten hown, ⟨vss, by rw [List.append_nil]; exact hown, by rw [List.append_nil]; exact hE⟩, ⟨rfl, rfl, rfl, Nat.le_refl _, fun _ _ _ => rfl⟩, fun g hg => (hown.lt g hg).1⟩
  · obtain ⟨v', w', h1, h2, h3, _⟩ := run_append_own (P := Try.prog) wr base 24 24 29 i _ 3 40 Try.underlying24 hi hz hsz hby rfl (by decide) v L.length vss.flatten hown ad M.length cap uss.flatten hlen hcs (fun x hx => by
      obtain ⟨y, hy, hxy⟩ := List.mem_flatten.1 hx
      obtain ⟨q, _, hq⟩ := hE2.left hy
      exact bkR.ones hq x hxy) (by unfold maxLen; omega) (by omega) hb
    exact ⟨v', w', h1, ⟨vss ++ uss, by rw [List.length_append, List.flatten_append]; exact h2, hap⟩, h3, fun g hg => (hown.lt g hg).1⟩

end Go.Proofs.Ytkpckadicjdieaa
