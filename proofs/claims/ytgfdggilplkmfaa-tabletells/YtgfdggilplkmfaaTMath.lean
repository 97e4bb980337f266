/-
  The table as plain mathematics: which tables may be, and what each call answers.
-/
import Derived.Test.YtgfdggilplkmfaaSlot
namespace Go.Proofs.Ytgfdggilplkmfaa
open Go.RowKit

/-- A slot that may be, whatever the others are. -/
def mayB (p : Sl) : Bool := if p.1 = 0 then decide (p.2 = 0) else decide (1 ≤ p.1 ∧ p.1 ≤ 1099511627776 ∧ 0 ≤ p.2 ∧ p.2 ≤ 8)
def holdB (q v : Int) : Bool := decide (1 ≤ q ∧ q ≤ 1099511627776 ∧ 0 ≤ v ∧ v ≤ 8)
theorem may_free {p : Sl} (h : p.1 = 0) : mayB p = decide (p.2 = 0) := if_pos h
theorem may_used {p : Sl} (h : p.1 ≠ 0) : mayB p = holdB p.1 p.2 := if_neg h

/-- How many slots have that number. -/
def cnt (l : List Sl) (k : Int) : Nat := l.countP fun p => decide (p.1 = k)
theorem cnt_nil (k : Int) : cnt [] k = 0 := rfl
theorem cnt_snoc (l : List Sl) (p : Sl) (k : Int) : cnt (l ++ [p]) k = cnt l k + if p.1 = k then 1 else 0 := by
  unfold cnt
  rw [List.countP_append, List.countP_cons]
  simp
theorem cnt_cons (l : List Sl) (p : Sl) (k : Int) : cnt (p :: l) k = cnt l k + if p.1 = k then 1 else 0 := by
  unfold cnt
  rw [List.countP_cons]
  simp
theorem cnt_append (l m : List Sl) (k : Int) : cnt (l ++ m) k = cnt l k + cnt m k := by
  unfold cnt
  rw [List.countP_append]
theorem cnt_le (l : List Sl) (k : Int) : cnt l k ≤ l.length := List.countP_le_length
theorem cnt_pos {l : List Sl} {k : Int} : 0 < cnt l k ↔ ∃ p ∈ l, p.1 = k := by
  unfold cnt
  rw [List.countP_pos_iff]
  simp
theorem cnt_zero {l : List Sl} {k : Int} : cnt l k = 0 ↔ ∀ p ∈ l, p.1 ≠ k := by
  constructor
  · intro h p hp e
    have := cnt_pos.2 ⟨p, hp, e⟩
    omega
  · intro h
    rcases Nat.eq_zero_or_pos (cnt l k) with e | e
    · exact e
    · obtain ⟨p, hp, e'⟩ := cnt_pos.1 e
      exact absurd e' (h p hp)

/-- A slot that may stand in the table l. -/
def goodB (l : List Sl) (p : Sl) : Bool := mayB p && (decide (p.1 = 0) || decide (cnt l p.1 ≤ 1))
def Chk (l : List Sl) : Prop := 1 ≤ l.length ∧ l.length ≤ 64 ∧ ∀ p ∈ l, goodB l p = true
def chkB (l : List Sl) : Bool := decide (1 ≤ l.length) && decide (l.length ≤ 64) && l.all (goodB l)
theorem chk_iff {l : List Sl} : chkB l = true ↔ Chk l := by
  simp [chkB, Chk, and_assoc]
def cerr (l : List Sl) : Int := if chkB l then 0 else 9
theorem cerr_ok {l : List Sl} (h : Chk l) : cerr l = 0 := by simp [cerr, chk_iff.2 h]
theorem cerr_bad {l : List Sl} (h : ¬ Chk l) : cerr l = 9 := by
  unfold cerr
  rw [if_neg (fun e => h (chk_iff.1 e))]
theorem cerr_zero {l : List Sl} (h : cerr l = 0) : Chk l := by
  rcases Classical.em (Chk l) with c | c
  · exact c
  · rw [cerr_bad c] at h; omega
theorem cerr_two (l : List Sl) : (Chk l ∧ cerr l = 0) ∨ (¬ Chk l ∧ cerr l = 9) := by
  rcases Classical.em (Chk l) with c | c
  · exact .inl ⟨c, cerr_ok c⟩
  · exact .inr ⟨c, cerr_bad c⟩

/-- The document's way: no earlier slot has the number. -/
def DocOk (l : List Sl) (k : Nat) : Prop := ∀ i p, i < k → l[i]? = some p → mayB p = true ∧ (p.1 ≠ 0 → ∀ j q, j < i → l[j]? = some q → q.1 ≠ p.1)
theorem cnt_two {l : List Sl} {i j : Nat} {p q : Sl} (hp : l[i]? = some p) (hq : l[j]? = some q) (hij : j < i) (e : q.1 = p.1) : 1 < cnt l p.1 := by
  induction l generalizing i j with
  | nil => simp at hp
  | cons a r ih =>
    rw [cnt_cons]
    cases i with
    | zero => omega
    | succ i =>
      simp at hp
      cases j with
      | zero =>
        simp at hq
        subst hq
        have := cnt_pos.2 ⟨p, List.mem_of_getElem? hp, rfl⟩
        rw [if_pos e]
        omega
      | succ j =>
        simp at hq
        have := ih hp hq (by omega)
        omega
theorem two_of_cnt {l : List Sl} {k : Int} (h : 1 < cnt l k) : ∃ (i j : Nat) (p q : Sl), l[i]? = some p ∧ l[j]? = some q ∧ j < i ∧ q.1 = k ∧ p.1 = k := by
  induction l with
  | nil => simp [cnt] at h
  | cons a r ih =>
    rw [cnt_cons] at h
    by_cases e : a.1 = k
    · rw [if_pos e] at h
      obtain ⟨p, hp, e'⟩ := cnt_pos.1 (show 0 < cnt r k by omega)
      obtain ⟨i, hi⟩ := List.mem_iff_getElem?.1 hp
      exact ⟨i + 1, 0, p, a, by simpa using hi, rfl, by omega, e, e'⟩
    · rw [if_neg e] at h
      obtain ⟨i, j, p, q, h1, h2, h3, h4, h5⟩ := ih (by omega)
      exact ⟨i + 1, j + 1, p, q, by simpa using h1, by simpa using h2, by omega, h4, h5⟩
theorem good_iff {l : List Sl} {p : Sl} : goodB l p = true ↔ mayB p = true ∧ (p.1 ≠ 0 → cnt l p.1 ≤ 1) := by
  unfold goodB
  simp only [Bool.and_eq_true, Bool.or_eq_true, decide_eq_true_eq]
  constructor
  · rintro ⟨h1, h2⟩
    exact ⟨h1, fun h => h2.resolve_left h⟩
  · rintro ⟨h1, h2⟩
    refine ⟨h1, ?_⟩
    rcases Classical.em (p.1 = 0) with c | c
    · exact .inl c
    · exact .inr (h2 c)
theorem doc_chk {l : List Sl} (h1 : 1 ≤ l.length) (h2 : l.length ≤ 64) (h : DocOk l l.length) : Chk l := by
  refine ⟨h1, h2, fun p hp => good_iff.2 ?_⟩
  obtain ⟨i, hi⟩ := List.mem_iff_getElem?.1 hp
  refine ⟨(h i p (List.getElem?_eq_some_iff.1 hi).1 hi).1, fun h0 => Nat.le_of_not_lt fun hc => ?_⟩
  obtain ⟨a, b, x, y, ha, hb, hlt, e1, e2⟩ := two_of_cnt hc
  exact (h a x (List.getElem?_eq_some_iff.1 ha).1 ha).2 (by rw [e2]; exact h0) b y hlt hb (by rw [e1, e2])
theorem chk_doc {l : List Sl} (h : Chk l) : DocOk l l.length := fun i p _ hp => by
  obtain ⟨h1, h2⟩ := good_iff.1 (h.2.2 p (List.mem_of_getElem? hp))
  refine ⟨h1, fun h0 j q hj hq e => ?_⟩
  have := cnt_two hp hq hj e
  have := h2 h0
  omega

/-! Alloc. -/

def freeAt (l : List Sl) : Nat := l.findIdx fun p => decide (p.1 = 0)
theorem freeAt_lt {l : List Sl} (h : 0 < cnt l 0) : freeAt l < l.length := by
  obtain ⟨p, hp, e⟩ := cnt_pos.1 h
  exact List.findIdx_lt_length_of_exists ⟨p, hp, by simp [e]⟩
theorem freeAt_is {l : List Sl} (h : 0 < cnt l 0) : ∃ p, l[freeAt l]? = some p ∧ p.1 = 0 := by
  have hlt := freeAt_lt h
  refine ⟨_, List.getElem?_eq_getElem hlt, ?_⟩
  have h3 : decide ((l[freeAt l]'hlt).1 = 0) = true := List.findIdx_getElem (p := fun p : Sl => decide (p.1 = 0)) (xs := l) (w := hlt)
  exact of_decide_eq_true h3
theorem freeAt_first {l : List Sl} {i : Nat} {p : Sl} (hi : i < freeAt l) (hp : l[i]? = some p) : p.1 ≠ 0 := by
  obtain ⟨hlt, e⟩ := List.getElem?_eq_some_iff.1 hp
  have := List.not_of_lt_findIdx (p := fun p : Sl => decide (p.1 = 0)) (xs := l) (i := i) (by simpa [freeAt] using hi)
  rw [e] at this
  simpa using this
theorem freeAt_eq {l : List Sl} {i : Nat} {p : Sl} (hp : l[i]? = some p) (h0 : p.1 = 0) (h : ∀ j q, j < i → l[j]? = some q → q.1 ≠ 0) : freeAt l = i := by
  have h1 : 0 < cnt l 0 := cnt_pos.2 ⟨p, List.mem_of_getElem? hp, h0⟩
  rcases Nat.lt_trichotomy (freeAt l) i with c | c | c
  · obtain ⟨q, hq, e⟩ := freeAt_is h1
    exact absurd e (h _ q c hq)
  · exact c
  · exact absurd h0 (freeAt_first c hp)

def aE (l : List Sl) (q v : Int) : Int := if cerr l ≠ 0 then 9 else if holdB q v = false then 4 else if 0 < cnt l q then 6 else if cnt l 0 = 0 then 51 else 0
def aP (l : List Sl) (q v : Int) : Int := if aE l q v = 0 then freeAt l else 0
def aV (l : List Sl) (q v : Int) : List Sl := if aE l q v = 0 then l.set (freeAt l) (q, v) else []
theorem aE_state {l : List Sl} {q v : Int} (h : ¬ Chk l) : aE l q v = 9 := by unfold aE; rw [if_pos]; rw [cerr_bad h]; decide
theorem aE_range {l : List Sl} {q v : Int} (h : Chk l) (hh : holdB q v = false) : aE l q v = 4 := by unfold aE; rw [if_neg (by simp [cerr_ok h]), if_pos hh]
theorem aE_twice {l : List Sl} {q v : Int} (h : Chk l) (hh : holdB q v = true) (h1 : 0 < cnt l q) : aE l q v = 6 := by unfold aE; rw [if_neg (by simp [cerr_ok h]), if_neg (by simp [hh]), if_pos h1]
theorem aE_full {l : List Sl} {q v : Int} (h : Chk l) (hh : holdB q v = true) (h1 : cnt l q = 0) (h2 : cnt l 0 = 0) : aE l q v = 51 := by unfold aE; rw [if_neg (by simp [cerr_ok h]), if_neg (by simp [hh]), if_neg (by omega), if_pos h2]
theorem aE_ok {l : List Sl} {q v : Int} (h : Chk l) (hh : holdB q v = true) (h1 : cnt l q = 0) (h2 : 0 < cnt l 0) : aE l q v = 0 := by unfold aE; rw [if_neg (by simp [cerr_ok h]), if_neg (by simp [hh]), if_neg (by omega), if_neg (by omega)]
theorem aP_no {l : List Sl} {q v k : Int} (h : aE l q v = k) (hk : k ≠ 0) : aP l q v = 0 := if_neg (by rw [h]; exact hk)
theorem aV_no {l : List Sl} {q v k : Int} (h : aE l q v = k) (hk : k ≠ 0) : aV l q v = [] := if_neg (by rw [h]; exact hk)
theorem aP_ok {l : List Sl} {q v : Int} (h : aE l q v = 0) : aP l q v = freeAt l := if_pos h
theorem aV_ok {l : List Sl} {q v : Int} (h : aE l q v = 0) : aV l q v = l.set (freeAt l) (q, v) := if_pos h

/-! Kill and Free. -/

def slotAt (l : List Sl) (s : Int) : Sl := l.getD s.toNat (0, 0)
def inB (l : List Sl) (s : Int) : Bool := decide (0 ≤ s) && decide (s < l.length) && !decide ((slotAt l s).1 = 0)
def uE (l : List Sl) (s : Int) : Int := if cerr l ≠ 0 then 9 else if inB l s then 0 else 71
theorem uE_state {l : List Sl} {s : Int} (h : ¬ Chk l) : uE l s = 9 := by unfold uE; rw [if_pos]; rw [cerr_bad h]; decide
theorem uE_none {l : List Sl} {s : Int} (h : Chk l) (hi : inB l s = false) : uE l s = 71 := by unfold uE; rw [if_neg (by simp [cerr_ok h]), if_neg (by simp [hi])]
theorem uE_ok {l : List Sl} {s : Int} (h : Chk l) (hi : inB l s = true) : uE l s = 0 := by unfold uE; rw [if_neg (by simp [cerr_ok h]), if_pos hi]
theorem uE_three (l : List Sl) (s : Int) : (uE l s = 9 ∧ ¬ Chk l) ∨ (uE l s = 71 ∧ Chk l ∧ inB l s = false) ∨ (uE l s = 0 ∧ Chk l ∧ inB l s = true) := by
  rcases Classical.em (Chk l) with c | c
  · cases hb : inB l s
    · exact .inr (.inl ⟨uE_none c hb, c, rfl⟩)
    · exact .inr (.inr ⟨uE_ok c hb, c, rfl⟩)
  · exact .inl ⟨uE_state c, c⟩
theorem in_is {l : List Sl} {s : Int} (h : inB l s = true) : ∃ k : Nat, s = k ∧ k < l.length ∧ l[k]? = some (slotAt l s) ∧ (slotAt l s).1 ≠ 0 := by
  simp only [inB, Bool.and_eq_true, decide_eq_true_eq, Bool.not_eq_true', decide_eq_false_iff_not] at h
  obtain ⟨⟨h1, h2⟩, h3⟩ := h
  refine ⟨s.toNat, by omega, by omega, ?_, h3⟩
  have : s.toNat < l.length := by omega
  simp [slotAt, this]

def kE (l : List Sl) (s n : Int) : Int := if uE l s ≠ 0 then uE l s else if n < 0 ∨ (slotAt l s).2 < n then 4 else 0
def kV (l : List Sl) (s n : Int) : List Sl := if kE l s n = 0 then l.set s.toNat ((slotAt l s).1, (slotAt l s).2 - n) else []
def fE (l : List Sl) (s : Int) : Int := if uE l s ≠ 0 then uE l s else if 0 < (slotAt l s).2 then 91 else 0
def fV (l : List Sl) (s : Int) : List Sl := if fE l s = 0 then l.set s.toNat (0, 0) else []
theorem kE_no {l : List Sl} {s n k : Int} (h : uE l s = k) (hk : k ≠ 0) : kE l s n = k := by unfold kE; rw [if_pos (by rw [h]; exact hk), h]
theorem kE_range {l : List Sl} {s n : Int} (h : uE l s = 0) (hn : n < 0 ∨ (slotAt l s).2 < n) : kE l s n = 4 := by unfold kE; rw [if_neg (by simp [h]), if_pos hn]
theorem kE_ok {l : List Sl} {s n : Int} (h : uE l s = 0) (hn : ¬ (n < 0 ∨ (slotAt l s).2 < n)) : kE l s n = 0 := by unfold kE; rw [if_neg (by simp [h]), if_neg hn]
theorem kV_no {l : List Sl} {s n k : Int} (h : kE l s n = k) (hk : k ≠ 0) : kV l s n = [] := if_neg (by rw [h]; exact hk)
theorem kV_ok {l : List Sl} {s n : Int} (h : kE l s n = 0) : kV l s n = l.set s.toNat ((slotAt l s).1, (slotAt l s).2 - n) := if_pos h
theorem fE_no {l : List Sl} {s k : Int} (h : uE l s = k) (hk : k ≠ 0) : fE l s = k := by unfold fE; rw [if_pos (by rw [h]; exact hk), h]
theorem fE_live {l : List Sl} {s : Int} (h : uE l s = 0) (hn : 0 < (slotAt l s).2) : fE l s = 91 := by unfold fE; rw [if_neg (by simp [h]), if_pos hn]
theorem fE_ok {l : List Sl} {s : Int} (h : uE l s = 0) (hn : ¬ 0 < (slotAt l s).2) : fE l s = 0 := by unfold fE; rw [if_neg (by simp [h]), if_neg hn]
theorem fV_no {l : List Sl} {s k : Int} (h : fE l s = k) (hk : k ≠ 0) : fV l s = [] := if_neg (by rw [h]; exact hk)
theorem fV_ok {l : List Sl} {s : Int} (h : fE l s = 0) : fV l s = l.set s.toNat (0, 0) := if_pos h

/-! What a table that may be has. -/

theorem may_live {p : Sl} (h : mayB p = true) : 0 ≤ p.2 ∧ p.2 ≤ 8 := by
  by_cases e : p.1 = 0
  · rw [may_free e] at h
    have := of_decide_eq_true h
    omega
  · rw [may_used e] at h
    have := of_decide_eq_true h
    omega
theorem Chk.live {l : List Sl} (h : Chk l) {p : Sl} (hp : p ∈ l) : 0 ≤ p.2 ∧ p.2 ≤ 8 := may_live (good_iff.1 (h.2.2 p hp)).1

def lives (l : List Sl) : Int := (l.map (·.2)).sum
theorem lives_snoc (l : List Sl) (p : Sl) : lives (l ++ [p]) = lives l + p.2 := by simp [lives]
theorem lives_le {l : List Sl} (h : ∀ p ∈ l, 0 ≤ p.2 ∧ p.2 ≤ 8) : 0 ≤ lives l ∧ lives l ≤ 8 * l.length := by
  induction l with
  | nil => simp [lives]
  | cons a r ih =>
    have h1 := h a (List.mem_cons_self ..)
    have h2 := ih fun p hp => h p (List.mem_cons_of_mem _ hp)
    have : lives (a :: r) = a.2 + lives r := by simp [lives]
    rw [this, List.length_cons]
    omega
def rF (l : List Sl) : Int := if cerr l = 0 then cnt l 0 else 0
def rL (l : List Sl) : Int := if cerr l = 0 then lives l else 0

def nE (n : Int) : Int := if n < 1 ∨ 64 < n then 4 else 0
def nV (n : Int) : List Sl := if n < 1 ∨ 64 < n then [] else List.replicate n.toNat (0, 0)

end Go.Proofs.Ytgfdggilplkmfaa
