/-
  Plain mathematics: the order of names, entries that may be, and where a name stands among them.
-/
import Derived.Test.YthppbmbhoedphaaRName
namespace Go.Proofs.Ythppbmbhoedphaa

/-! Names in order. -/

def ltB (a b : ByteArray) : Bool := Op.bytesLess a.toList b.toList

theorem less_eq : ∀ (x y : List UInt8), Op.bytesLess x y = decide (x < y)
  | [], [] => by simp [Op.bytesLess]
  | _ :: _, [] => by simp [Op.bytesLess]
  | [], _ :: _ => by simp [Op.bytesLess]
  | a :: x, b :: y => by
    rw [Op.bytesLess, less_eq x y]
    simp only [List.cons_lt_cons_iff]
    by_cases h1 : a < b <;> by_cases h2 : a = b <;> by_cases h3 : x < y <;> simp [h1, h2, h3]

theorem ltB_iff (a b : ByteArray) : ltB a b = true ↔ a.toList < b.toList := by
  unfold ltB
  rw [less_eq]
  simp
theorem ltB_irrefl (a : ByteArray) : ltB a a = false := by
  rw [Bool.eq_false_iff]
  intro h
  exact List.lt_irrefl _ ((ltB_iff a a).1 h)
theorem ltB_trans {a b c : ByteArray} (h : ltB a b = true) (k : ltB b c = true) : ltB a c = true := (ltB_iff a c).2 (List.lt_trans ((ltB_iff a b).1 h) ((ltB_iff b c).1 k))
theorem ltB_asymm {a b : ByteArray} (h : ltB a b = true) : ltB b a = false := by
  rw [Bool.eq_false_iff]
  intro k
  have := ltB_trans h k
  rw [ltB_irrefl] at this
  cases this
theorem ba_ext {a b : ByteArray} (h : a.toList = b.toList) : a = b := by
  rw [Lib.toList_data, Lib.toList_data] at h
  cases a; cases b
  simp at h
  rw [h]
theorem ba_eq (a b : ByteArray) : (a.toList == b.toList) = decide (a = b) := by
  rw [Bool.eq_iff_iff]
  simp
  exact ⟨ba_ext, fun h => by rw [h]⟩
theorem ltB_tri (a b : ByteArray) (h : a ≠ b) (k : ltB a b = false) : ltB b a = true := by
  rw [ltB_iff]
  have h1 : ¬ a.toList < b.toList := fun c => by rw [(ltB_iff a b).2 c] at k; cases k
  rcases List.le_iff_lt_or_eq.1 (List.not_lt.1 h1) with c | c
  · exact c
  · exact absurd (ba_ext c.symm) h
theorem leB_not (a b : ByteArray) : (Op.bytesLess a.toList b.toList || a.toList == b.toList) = !ltB b a := by
  rw [ba_eq]
  show (ltB a b || _) = _
  by_cases h : a = b
  · subst h; simp [ltB_irrefl]
  · cases hb : ltB a b
    · simp [h, ltB_tri a b h hb]
    · simp [ltB_asymm hb]

/-! Entries that may be. -/

abbrev Good (p : En) : Prop := nameOk p.1 = true ∧ inoOk p.2 = true
abbrev Up (l : List En) : Prop := l.Pairwise fun p q => ltB p.1 q.1 = true
abbrev Fine (l : List En) : Prop := (∀ p ∈ l, Good p) ∧ Up l
abbrev Chk (l : List En) : Prop := l.length ≤ 63 ∧ Fine l
def cerr (l : List En) : Int := if Chk l then 0 else 9
theorem cerr_ok {l : List En} (h : Chk l) : cerr l = 0 := if_pos h
theorem cerr_bad {l : List En} (h : ¬ Chk l) : cerr l = 9 := if_neg h

/-- The last name; no octets where there is none. -/
def lastN (l : List En) : ByteArray := match l.getLast? with | some p => p.1 | none => ⟨#[]⟩
theorem lastN_nil : lastN [] = ⟨#[]⟩ := rfl
theorem lastN_snoc (l : List En) (p : En) : lastN (l ++ [p]) = p.1 := by simp [lastN]

theorem fine_nil : Fine [] := ⟨fun _ h => (by cases h), List.Pairwise.nil⟩
theorem lt_empty {s : ByteArray} (h : nameOk s = true) : ltB ⟨#[]⟩ s = true := by
  have h1 : 1 ≤ s.size := by
    simp [nameOk] at h
    omega
  rw [ltB_iff, Lib.toList_data, Lib.toList_data]
  have : s.data.toList ≠ [] := fun e => by rw [Lib.size_eq, e] at h1; simp at h1
  cases hs : s.data.toList with
  | nil => exact absurd hs this
  | cons a t => simp

theorem last_le {l : List En} (h : Up l) {q : En} (hq : q ∈ l) : q.1 = lastN l ∨ ltB q.1 (lastN l) = true := by
  rcases List.eq_nil_or_concat l with rfl | ⟨m, p, rfl⟩
  · cases hq
  · simp only [List.concat_eq_append] at h hq ⊢
    rw [lastN_snoc]
    rcases List.mem_append.1 hq with hq | hq
    · exact .inr ((List.pairwise_append.1 h).2.2 q hq p (by simp))
    · rw [List.mem_singleton.1 hq]; exact .inl rfl

theorem fine_snoc {l : List En} {p : En} (h : Fine l) (hp : Good p) (hl : ltB (lastN l) p.1 = true) : Fine (l ++ [p]) := by
  refine ⟨fun q hq => ?_, List.pairwise_append.2 ⟨h.2, List.pairwise_singleton _ _, fun a ha b hb => ?_⟩⟩
  · rcases List.mem_append.1 hq with hq | hq
    · exact h.1 q hq
    · rw [List.mem_singleton.1 hq]; exact hp
  · rw [List.mem_singleton.1 hb]
    rcases last_le h.2 ha with e | e
    · rw [e]; exact hl
    · exact ltB_trans e hl

theorem fine_take {l : List En} (h : Fine l) (k : Nat) : Fine (l.take k) := ⟨fun p hp => h.1 p (List.mem_of_mem_take hp), h.2.sublist (List.take_sublist ..)⟩
theorem fine_drop {l : List En} (h : Fine l) (k : Nat) : Fine (l.drop k) := ⟨fun p hp => h.1 p (List.mem_of_mem_drop hp), h.2.sublist (List.drop_sublist ..)⟩

theorem good_at {l : List En} (h : Fine l) {k : Nat} {p : En} (hp : l[k]? = some p) : Good p := h.1 p (List.mem_of_getElem? hp)
theorem last_at {l : List En} (h : Fine l) {k : Nat} {p : En} (hp : l[k]? = some p) : ltB (lastN (l.take k)) p.1 = true := by
  have h1 := fine_take h (k + 1)
  rw [take_snoc hp] at h1
  rcases List.eq_nil_or_concat (l.take k) with e | ⟨m, q, e⟩
  · rw [e, lastN_nil]
    exact lt_empty (good_at h hp).1
  · rw [e, List.concat_eq_append] at h1 ⊢
    rw [lastN_snoc]
    exact (List.pairwise_append.1 h1.2).2.2 q (by simp) p (by simp)

theorem not_good {l : List En} {k : Nat} {p : En} (hp : l[k]? = some p) (h : ¬ Good p) : ¬ Chk l := fun c => h (good_at c.2 hp)
theorem not_last {l : List En} {k : Nat} {p : En} (hp : l[k]? = some p) (h : ltB (lastN (l.take k)) p.1 = false) : ¬ Chk l := fun c => by
  rw [last_at c.2 hp] at h
  cases h

/-- The name before a place. -/
theorem lastN_take {l : List En} {k : Nat} {p : En} (hp : l[k]? = some p) : lastN (l.take (k + 1)) = p.1 := by rw [take_snoc hp, lastN_snoc]

end Go.Proofs.Ythppbmbhoedphaa
