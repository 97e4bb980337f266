/-
  Steps, as memory has them; a text that grows beside a file; what the steps make of it.
-/
import Derived.Test.YtgflfmpoeamnnaaLawMath
namespace Go.Proofs.Ytgflfmpoeamnnaa
open Go.RowKit

theorem Try.info53 : (Try.prog.info? 53).map (fun i => (i.zero, i.size, i.bytes)) = some (some (.agg #[.int .i64 0, .int .i64 0, .slice none 0 0]), 3, 40) := by kernel_rfl
abbrev Sp := Int × Int × List Int
def spF : Fields Sp := i64S.and (i64S.and bytesS.only)
def spS : Shape Sp := spF.struct 53 ⟨_, Try.underlying53, rfl, rfl⟩ (by kernel_rfl)
theorem cells51 : Try.prog.cellsOf 51 = 1 := by kernel_rfl
def stepsS : Shape (List Sp) := spS.list 51 Try.underlying51 cells51

theorem sp_view {n : Nat} {w : World} {us : List Value} {p : Sp} (h : spF.lies n w us p) : ∃ a cap, us = [.int .i64 p.1, .int .i64 p.2.1, .slice a p.2.2.length cap] ∧ Arg n w (.slice a p.2.2.length cap) p.2.2 ∧ I64 p.1 ∧ I64 p.2.1 := by
  obtain ⟨u1, r, rfl, ⟨rfl, h1⟩, u2, r2, rfl, ⟨rfl, h2⟩, v, rfl, hC, ho⟩ := h
  obtain ⟨a, cap, rfl, _⟩ := hC.shape
  exact ⟨a, cap, rfl, ⟨_, rfl, hC, ho⟩, bounds_i64 h1, bounds_i64 h2⟩
theorem steps_at {n : Nat} {w : World} {v : Value} {l : List Sp} (h : stepsS.lies n w [v] l) (i : Nat) (p : Sp) (hp : l[i]? = some p) :
    ∃ b o a cap, (∀ W, (Instr.indexAt 51 v (.int .i64 i)).run Try.prog W = .ok (.pointer (some ⟨b, o, none⟩)) W) ∧ w.cell? ⟨b, o, none⟩ = some (.int .i64 p.1) ∧ w.cell? ⟨b, o + 1, none⟩ = some (.int .i64 p.2.1) ∧ w.cell? ⟨b, o + 2, none⟩ = some (.slice a p.2.2.length cap) ∧
      Arg n w (.slice a p.2.2.length cap) p.2.2 ∧ I64 p.1 ∧ I64 p.2.1 := by
  obtain ⟨i0, hi0, _, hz, _⟩ := info_parts Try.info53
  obtain ⟨b, o, us, hix, hb, hc, hl⟩ := Shape.list_at (S := spS) (ht := Try.underlying51) (hc := cells51) h (by decide) hi0 hz i p hp
  obtain ⟨a, cap, rfl, hA, h1, h2⟩ := sp_view hl
  exact ⟨b, o, a, cap, hix, hc 0 _ rfl, hc 1 _ rfl, hc 2 _ rfl, hA, h1, h2⟩
theorem steps_len {n : Nat} {w : World} {us : List Value} {l : List Sp} (h : stepsS.lies n w us l) : ∃ a cap, us = [.slice a l.length cap] ∧ l.length ≤ cap ∧ l.length ≤ maxLen ∧ (a = none → l.length = 0) :=
  Shape.list_len (S := spS) (ht := Try.underlying51) (hc := cells51) h

/-- The text o grows: what else there was in W3 is as it was. -/
def KP (w1 W3 : World) (g0 : Option Nat) (V : World) (o : Value) : Prop :=
  Below w1.heap.size w1 V ∧ W3.heap.size ≤ V.heap.size ∧ (∀ k, k < W3.heap.size → some k ≠ g0 → V.heap[k]? = W3.heap[k]?) ∧ (o.ownBlock = g0 ∨ ∀ b, o.ownBlock = some b → W3.heap.size ≤ b)
theorem KP.start {w1 W3 : World} (o : Value) (h : Below w1.heap.size w1 W3) : KP w1 W3 o.ownBlock W3 o := ⟨h, Nat.le_refl _, fun _ _ _ => rfl, .inl rfl⟩
theorem KP.grown {w1 W3 V V' : World} {g0 : Option Nat} {o o' : Value} (h : KP w1 W3 g0 V o) (hg : V.grownBy V' o.ownBlock) (hr : ∀ k, o.ownBlock = some k → w1.heap.size ≤ k) (ho : o'.ownBlock = o.ownBlock ∨ ∃ b, o'.ownBlock = some b ∧ W3.heap.size ≤ b) : KP w1 W3 g0 V' o' := by
  obtain ⟨h1, h2, h3, h4⟩ := h
  refine ⟨h1.grown hg h1.size hr, Nat.le_trans h2 hg.size, fun k hk hn => ?_, ?_⟩
  · rw [hg.block k (by omega) ?_]
    · exact h3 k hk hn
    · rcases h4 with h4 | h4
      · rw [h4]; exact hn
      · intro e
        have := h4 k e.symm
        omega
  · rcases ho with ho | ⟨b, ho, hb⟩
    · rw [ho]; exact h4
    · refine .inr fun b' hb' => ?_
      rw [ho] at hb'
      cases hb'
      exact hb
theorem KP.below {w1 W3 V V' : World} {g0 : Option Nat} {o : Value} (h : KP w1 W3 g0 V o) (hb : Below V.heap.size V V') : KP w1 W3 g0 V' o := by
  obtain ⟨h1, h2, h3, h4⟩ := h
  refine ⟨below_any h1 hb, Nat.le_trans h2 hb.size, fun k hk hn => ?_, h4⟩
  rw [hb.block k (by omega)]
  exact h3 k hk hn
theorem KP.alloc {w1 W3 V : World} {g0 : Option Nat} {o : Value} (h : KP w1 W3 g0 V o) (x : Obj) : KP w1 W3 g0 (V.alloc x) o := h.below ((Below.refl _ _).alloc (Nat.le_refl _) _)
theorem KP.same {w1 W3 V : World} {g0 : Option Nat} {o : Value} {m : Nat} (h : KP w1 W3 g0 V o) (hm : ∀ g, g0 = some g → g < m) : Same m W3 V := fun k hk hl => h.2.2.1 k hl fun e => by
  have := hm k e.symm
  omega
theorem KP.box {w1 W3 V : World} {g0 : Option Nat} {o : Value} {B : Nat} {t : TypeId} {cs : Array Value} (h : KP w1 W3 g0 V o) (hB : Box W3 B t cs) (hm : ∀ g, g0 = some g → B < g) : Box V B t cs :=
  hB.kept (h.2.2.1 B hB.lt fun e => by have := hm B e.symm; omega)

theorem wl_snoc (t d : List Int) (p k : Nat) : wl t d p (p + k) k ++ [oc d k] = wl t d p (p + k + 1) (k + 1) := by
  unfold wl
  rw [List.range_succ, List.map_append]
  congr 1
  · refine List.map_congr_left fun q hq => ?_
    have := List.mem_range.1 hq
    by_cases h : p ≤ q
    · rw [if_pos (by omega), if_pos (by omega)]
    · rw [if_neg (by omega), if_neg (by omega)]
  · simp only [List.map_cons, List.map_nil]
    rw [if_pos (by omega), show p + k - p = k by omega]
theorem zeros_cut (t : List Int) (z p : Nat) (h : p ≤ t.length + z) : (t ++ List.replicate z 0).take p = cutT t p := by
  refine alike (by rw [cutT_length]; simp; omega) fun i hi => ?_
  have hi' : i < p := by simp at hi; omega
  have e := cutT_get t p i
  rw [if_pos hi'] at e
  unfold oc at e
  rw [e]
  simp only [List.getD_eq_getElem?_getD, List.getElem?_take, if_pos hi']
  by_cases hl : i < t.length
  · rw [List.getElem?_append_left hl]
  · rw [List.getElem?_append_right (by omega), List.getElem?_replicate, List.getElem?_eq_none (l := t) (by omega)]
    split <;> rfl
theorem rdL_part (t : List Int) (p q A M : Nat) (hA : A = min p t.length) (hM : M = min q (t.length - A)) : rdL t p q = (t.take (A + M)).drop A := by
  have hl : ((t.take (A + M)).drop A).length = M := by simp; omega
  refine alike (by rw [hl]; simp [rdL]; omega) fun i hi => ?_
  have hi' : i < min q (t.length - p) := by simpa [rdL] using hi
  unfold rdL
  rw [range_get _ _ _ _ hi']
  unfold oc
  simp only [List.getD_eq_getElem?_getD, List.getElem?_drop, List.getElem?_take]
  rw [if_pos (by omega), show A = p by omega]
theorem rdL_all {t : List Int} (h : t.length ≤ 2432) : rdL t 0 5000 = t := by
  rw [rdL_part t 0 5000 0 t.length (by omega) (by omega), Nat.zero_add, List.take_of_length_le (Nat.le_refl _), List.drop_zero]

theorem wr_mk {t d : List Int} {off : Int} (h : t.length ≤ 2432) : wrE (mk t) off d = (if off < 0 then 4 else if d.length = 0 then 0 else if 2432 < off + d.length then 107 else 0) ∧ wrF (mk t) off d = (if wrE (mk t) off d = 0 then mk (wrT t off.toNat d) else (0, [])) := by
  constructor
  · unfold wrE
    rw [if_neg (by rw [chk_mk h]; simp)]
  · unfold wrF
    rw [txt_mk h]
theorem tr_mk {t : List Int} {n : Int} (h : t.length ≤ 2432) : trE (mk t) n = (if n < 0 then 4 else if 2432 < n then 107 else 0) ∧ trF (mk t) n = (if trE (mk t) n = 0 then mk (cutT t n.toNat) else (0, [])) := by
  constructor
  · unfold trE
    rw [if_neg (by rw [chk_mk h]; simp)]
  · unfold trF
    rw [txt_mk h]
theorem rd_mk {t : List Int} {off n : Int} (h : t.length ≤ 2432) : rdE (mk t) off n = (if off < 0 ∨ n < 0 then 4 else 0) ∧ rdO (mk t) off n = (if rdE (mk t) off n = 0 then rdL t off.toNat n.toNat else []) := by
  constructor
  · unfold rdE
    rw [if_neg (by rw [chk_mk h]; simp)]
  · unfold rdO
    rw [txt_mk h]
theorem mk_size {t : List Int} (h : t.length ≤ 2432) : (mk t).1 = (t.length : Int) := by
  have h1 := congrArg List.length (txt_mk h)
  rw [txt_length] at h1
  have h2 := (chk_iff.1 (chk_mk h)).1
  omega

end Go.Proofs.Ytgflfmpoeamnnaa
