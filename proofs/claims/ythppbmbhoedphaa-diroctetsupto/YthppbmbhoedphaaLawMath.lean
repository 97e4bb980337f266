/-
  Plain mathematics: an entry that is added and removed again, removed and added again; entries added in any order.
-/
import Derived.Test.YthppbmbhoedphaaAlive
namespace Go.Proofs.Ythppbmbhoedphaa

theorem pos_of {a b : List En} {x : ByteArray} (ha : ∀ p ∈ a, ltB p.1 x = true) (hb : ∀ p ∈ b, ltB p.1 x = false) : pos (a ++ b) x = a.length := by
  unfold pos
  rw [List.countP_append, List.countP_eq_length.2 ha, List.countP_eq_zero.2 (fun p hp => by rw [hb p hp]; decide)]
  omega
theorem ahead_lt {l : List En} (hU : Up l) (x : ByteArray) : ∀ p ∈ l.take (pos l x), ltB p.1 x = true := fun p hp => by
  obtain ⟨i, hi⟩ := List.getElem?_of_mem hp
  rw [List.getElem?_take] at hi
  split at hi
  · exact (pos_at hU x hi).2 (by assumption)
  · cases hi
theorem behind_ge {l : List En} (hU : Up l) (x : ByteArray) (k : Nat) (hk : pos l x ≤ k) : ∀ p ∈ l.drop k, ltB p.1 x = false := fun p hp => by
  obtain ⟨i, hi⟩ := List.getElem?_of_mem hp
  rw [List.getElem?_drop] at hi
  rw [Bool.eq_false_iff]
  intro hc
  have := (pos_at hU x hi).1 hc
  omega
theorem behind_gt {l : List En} (hU : Up l) {x : ByteArray} (k : Nat) (hk : pos l x ≤ k) (hn : ∀ p ∈ l.drop k, p.1 ≠ x) : ∀ p ∈ l.drop k, ltB x p.1 = true := fun p hp => ltB_tri _ _ (hn p hp) (behind_ge hU x k hk p hp)
theorem there_ne {l : List En} {x : ByteArray} (h : there l x = false) : ∀ p ∈ l, p.1 ≠ x := fun p hp he => by
  unfold there at h
  rw [List.any_eq_false] at h
  exact h p hp (by simpa using he)

theorem aerr_zero {l : List En} {e : En} (h : aerr l e = 0) : Chk l ∧ Good e ∧ there l e.1 = false ∧ l.length < 63 := by
  unfold aerr at h
  by_cases h1 : Chk l
  · rw [if_pos h1] at h
    by_cases h2 : nameOk e.1 = true
    · rw [if_pos h2] at h
      by_cases h3 : inoOk e.2 = true
      · rw [if_pos h3] at h
        cases h4 : there l e.1
        · rw [h4, if_neg (by decide)] at h
          by_cases h5 : l.length = 63
          · rw [if_pos h5] at h; cases h
          · exact ⟨h1, ⟨h2, h3⟩, rfl, by have := h1.1; omega⟩
        · rw [h4, if_pos rfl] at h; cases h
      · rw [if_neg h3] at h; cases h
    · rw [if_neg h2] at h; cases h
  · rw [if_neg h1] at h; cases h
theorem aerr_mk {l : List En} {e : En} (h1 : Chk l) (h2 : Good e) (h3 : there l e.1 = false) (h4 : l.length < 63) : aerr l e = 0 := by
  unfold aerr
  rw [if_pos h1, if_pos h2.1, if_pos h2.2, h3, if_neg (by decide), if_neg (by omega)]

/-- What is added stands among the others, in order. -/
theorem ins_fine {l : List En} {e : En} (h : Fine l) (he : Good e) (hn : there l e.1 = false) : Fine (ins l e) := by
  have hne := there_ne hn
  refine ⟨fun p hp => ?_, ?_⟩
  · unfold ins at hp
    rcases List.mem_append.1 hp with hp | hp
    · exact h.1 p (List.mem_of_mem_take hp)
    · rcases List.mem_cons.1 hp with rfl | hp
      · exact he
      · exact h.1 p (List.mem_of_mem_drop hp)
  · have h1 := ahead_lt h.2 e.1
    have h2 := behind_gt h.2 (pos l e.1) (Nat.le_refl _) (fun p hp => hne p (List.mem_of_mem_drop hp))
    unfold ins
    refine List.pairwise_append.2 ⟨h.2.sublist (List.take_sublist ..), List.pairwise_cons.2 ⟨h2, h.2.sublist (List.drop_sublist ..)⟩, fun a ha b hb => ?_⟩
    rcases List.mem_cons.1 hb with rfl | hb
    · exact h1 a ha
    · exact ltB_trans (h1 a ha) (h2 b hb)
theorem ins_pos {l : List En} {e : En} (hU : Up l) : pos (ins l e) e.1 = pos l e.1 := by
  unfold ins
  rw [pos_of (ahead_lt hU e.1) (fun p hp => ?_), List.length_take, Nat.min_eq_left (pos_le l e.1)]
  rcases List.mem_cons.1 hp with rfl | hp
  · exact ltB_irrefl _
  · exact behind_ge hU e.1 _ (Nat.le_refl _) p hp
theorem ins_at (l : List En) (e : En) : (ins l e)[pos l e.1]? = some e := by
  unfold ins
  rw [List.getElem?_append_right (by rw [List.length_take]; omega), List.length_take, Nat.min_eq_left (pos_le l e.1), Nat.sub_self]
  rfl
theorem ins_length (l : List En) (e : En) : (ins l e).length = l.length + 1 := by
  have := pos_le l e.1
  simp [ins]
  omega
theorem ins_del {l : List En} {e : En} (hU : Up l) : del (ins l e) e.1 = l := by
  have hp := pos_le l e.1
  unfold del
  rw [ins_pos hU]
  unfold ins
  have hl : (l.take (pos l e.1)).length = pos l e.1 := by rw [List.length_take, Nat.min_eq_left hp]
  rw [List.take_append_of_le_length (by omega), List.take_of_length_le (by omega)]
  rw [show l.take (pos l e.1) ++ e :: l.drop (pos l e.1) = (l.take (pos l e.1) ++ [e]) ++ l.drop (pos l e.1) by simp]
  rw [List.drop_left' (by simp; omega), List.take_append_drop]

theorem undone {l : List En} {e : En} (h : aerr l e = 0) : rerr (aval l e) e.1 = 0 ∧ rval (aval l e) e.1 = l ∧ fno (aval l e) e.1 = e.2 ∧ fis (aval l e) e.1 = true ∧ cerr (aval l e) = 0 := by
  obtain ⟨h1, h2, h3, h4⟩ := aerr_zero h
  have ha : aval l e = ins l e := if_pos h
  rw [ha]
  have hF := ins_fine h1.2 h2 h3
  have hC : Chk (ins l e) := ⟨by rw [ins_length]; omega, hF⟩
  have hat : (ins l e)[pos (ins l e) e.1]? = some e := by rw [ins_pos h1.2.2]; exact ins_at l e
  have ht : there (ins l e) e.1 = true := (there_iff _ _).2 ⟨_, e, hat, rfl⟩
  have hr : rerr (ins l e) e.1 = 0 := by unfold rerr; rw [if_pos hC, if_pos ht]
  refine ⟨hr, ?_, ?_, ?_, cerr_ok hC⟩
  · unfold rval; rw [if_pos hr]; exact ins_del h1.2.2
  · unfold fno; rw [if_pos hC]; exact fnd_pos hF.2 hat rfl
  · unfold fis; rw [if_pos hC]; exact ht

theorem fno_none {l : List En} {x : ByteArray} (h : fis l x = false) : fno l x = 0 := by
  unfold fis at h
  unfold fno
  by_cases hc : Chk l
  · rw [if_pos hc] at h ⊢; exact fnd_none h
  · rw [if_neg hc]

/-- What is removed can be added again. -/
theorem again {l : List En} {x : ByteArray} (h : fis l x = true) : cerr l = 0 ∧ rerr l x = 0 ∧ aerr (rval l x) (x, fno l x) = 0 ∧ aval (rval l x) (x, fno l x) = l ∧ (x, fno l x) ∈ l := by
  have hC : Chk l := by
    unfold fis at h
    by_cases hc : Chk l
    · exact hc
    · rw [if_neg hc] at h; cases h
  have ht : there l x = true := by unfold fis at h; rwa [if_pos hC] at h
  have hU := hC.2.2
  obtain ⟨i, p, hp, he⟩ := (there_iff l x).1 ht
  obtain rfl := there_pos hU hp he
  have hfn : fno l x = p.2 := by unfold fno; rw [if_pos hC]; exact fnd_pos hU hp he
  have hpe : (x, fno l x) = p := by rw [hfn, ← he]
  rw [hpe]
  have hr : rerr l x = 0 := by unfold rerr; rw [if_pos hC, if_pos ht]
  have hv : rval l x = del l x := if_pos hr
  rw [hv]
  have hlt := (List.getElem?_eq_some_iff.1 hp).1
  have hs : l.take (pos l x) ++ p :: l.drop (pos l x + 1) = l := by
    have h1 := List.take_append_drop (pos l x) l
    rw [List.drop_eq_getElem_cons hlt, (List.getElem?_eq_some_iff.1 hp).2] at h1
    exact h1
  have hsub : (del l x).Sublist l := by
    have h1 : (l.take (pos l x) ++ l.drop (pos l x + 1)).Sublist (l.take (pos l x) ++ p :: l.drop (pos l x + 1)) := List.Sublist.append (List.Sublist.refl _) (List.sublist_cons_self ..)
    rw [hs] at h1
    exact h1
  have hlen : (del l x).length + 1 = l.length := by simp [del]; omega
  have hF : Fine (del l x) := ⟨fun q hq => hC.2.1 q (hsub.subset hq), hU.sublist hsub⟩
  have hnt : there (del l x) x = false := by
    rw [← others_del hU ht, Bool.eq_false_iff]
    intro hc
    unfold there at hc
    rw [List.any_eq_true] at hc
    obtain ⟨q, hq, hqe⟩ := hc
    unfold others at hq
    have := (List.mem_filter.1 hq).2
    simp at this hqe
    exact this hqe
  have hpos : pos (del l x) x = pos l x := by
    unfold del
    rw [pos_of (ahead_lt hU x) (behind_ge hU x _ (by omega)), List.length_take, Nat.min_eq_left (by omega)]
  have hae : aerr (del l x) p = 0 := aerr_mk ⟨by have := hC.1; omega, hF⟩ (good_at hC.2 hp) (by rw [he]; exact hnt) (by have := hC.1; omega)
  refine ⟨cerr_ok hC, hr, hae, ?_, List.mem_of_getElem? hp⟩
  unfold aval
  rw [if_pos hae]
  unfold ins
  rw [he, hpos]
  have hl : (l.take (pos l x)).length = pos l x := by rw [List.length_take, Nat.min_eq_left (by omega)]
  have h1 : (del l x).take (pos l x) = l.take (pos l x) := by
    unfold del
    rw [List.take_append_of_le_length (by omega), List.take_of_length_le (by omega)]
  have h2 : (del l x).drop (pos l x) = l.drop (pos l x + 1) := by
    unfold del
    rw [List.drop_left' hl]
  rw [h1, h2, hs]

/-! Any order. -/

theorem ins_perm (l : List En) (e : En) : (ins l e).Perm (e :: l) := by
  unfold ins
  refine List.perm_middle.trans ?_
  rw [List.take_append_drop]
/-- One of a list goes; the last one takes its place. -/
def gone (l : List En) (k : Nat) : List En := (l.set k (l.getD (l.length - 1) (⟨#[]⟩, 0))).take (l.length - 1)
theorem gone_perm {l : List En} {k : Nat} {p : En} (h : l[k]? = some p) : l.Perm (p :: gone l k) := by
  obtain ⟨hlt, hp⟩ := List.getElem?_eq_some_iff.1 h
  rcases List.eq_nil_or_concat l with rfl | ⟨m, q, rfl⟩
  · simp at hlt
  · simp only [List.concat_eq_append] at h hlt hp ⊢
    unfold gone
    simp only [List.length_append, List.length_cons, List.length_nil, Nat.zero_add, Nat.add_sub_cancel]
    by_cases hk : k < m.length
    · rw [List.set_append_left _ _ hk, List.take_left' (by simp)]
      have hq : (m ++ [q]).getD m.length (⟨#[]⟩, 0) = q := by simp [List.getD]
      rw [hq]
      have hpk : m[k]? = some p := by rw [List.getElem?_append_left hk] at h; exact h
      have h1 : m = m.take k ++ p :: m.drop (k + 1) := by
        have h2 := List.take_append_drop k m
        rw [List.drop_eq_getElem_cons hk, (List.getElem?_eq_some_iff.1 hpk).2] at h2
        exact h2.symm
      have h2 : m.set k q = m.take k ++ q :: m.drop (k + 1) := by
        rw [List.set_eq_take_append_cons_drop, if_pos hk]
      rw [h2]
      have h3 : (m ++ [q]).Perm (q :: m) := List.perm_append_comm
      refine h3.trans ?_
      have h4 : (q :: m).Perm (q :: (p :: (m.take k ++ m.drop (k + 1)))) := by
        refine List.Perm.cons q ?_
        have h5 : (m.take k ++ p :: m.drop (k + 1)).Perm (p :: (m.take k ++ m.drop (k + 1))) := List.perm_middle
        rw [← h1] at h5
        exact h5
      refine h4.trans ((List.Perm.swap p q _).trans (List.Perm.cons p ?_))
      exact List.perm_middle.symm
    · have hkm : k = m.length := by simp at hlt; omega
      subst hkm
      have hpq : q = p := by
        rw [List.getElem?_append_right (Nat.le_refl _)] at h
        simpa using h
      subst hpq
      rw [List.set_append_right _ _ (Nat.le_refl _), List.take_left' rfl]
      exact List.perm_append_comm
theorem gone_length {l : List En} {k : Nat} : (gone l k).length = l.length - 1 := by
  unfold gone
  rw [List.length_take, List.length_set]
  omega

/-- What has been added, in order, and what is left: all together these entries. -/
def Sorts (l own left : List En) : Prop := Fine own ∧ (own ++ left).Perm l
theorem Sorts.step {l own left : List En} (hC : Chk l) (h : Sorts l own left) {k : Nat} {p : En} (hp : left[k]? = some p) : aerr own p = 0 ∧ Sorts l (aval own p) (gone left k) := by
  obtain ⟨hF, hP⟩ := h
  have hpm : p ∈ left := List.mem_of_getElem? hp
  have hpl : p ∈ l := hP.subset (List.mem_append_right _ hpm)
  have hlen := hP.length_eq
  rw [List.length_append] at hlen
  have hpos : 0 < left.length := List.length_pos_of_mem hpm
  have hnd : (own ++ left).Pairwise fun a b => a.1 ≠ b.1 := by
    have h1 : l.Pairwise fun a b => a.1 ≠ b.1 := hC.2.2.imp fun {a b} hab he => by
      rw [he, ltB_irrefl] at hab
      cases hab
    exact h1.perm hP.symm (fun h => Ne.symm h)
  have hnt : there own p.1 = false := by
    rw [Bool.eq_false_iff]
    intro hc
    unfold there at hc
    rw [List.any_eq_true] at hc
    obtain ⟨q, hq, hqe⟩ := hc
    exact (List.pairwise_append.1 hnd).2.2 q hq p hpm (by simpa using hqe)
  have hae : aerr own p = 0 := aerr_mk ⟨by have := hC.1; omega, hF⟩ (hC.2.1 p hpl) hnt (by have := hC.1; omega)
  refine ⟨hae, ?_⟩
  have hav : aval own p = ins own p := if_pos hae
  rw [hav]
  refine ⟨ins_fine hF (hC.2.1 p hpl) hnt, ?_⟩
  refine List.Perm.trans ?_ hP
  have h1 : (ins own p ++ gone left k).Perm (p :: own ++ gone left k) := (ins_perm own p).append_right _
  have h2 : (own ++ left).Perm (own ++ p :: gone left k) := (gone_perm hp).append_left own
  exact h1.trans (List.Perm.trans List.perm_middle.symm h2.symm)
theorem Sorts.done {l own : List En} (hC : Chk l) (h : Sorts l own []) : own = l := by
  obtain ⟨hF, hP⟩ := h
  rw [List.append_nil] at hP
  exact hP.eq_of_pairwise (le := fun p q : En => ltB p.1 q.1 = true) (fun a b _ _ h1 h2 => by rw [ltB_asymm h1] at h2; cases h2) hF.2 hC.2.2
theorem Sorts.start (l : List En) : Sorts l [] l := ⟨fine_nil, List.Perm.refl _⟩

end Go.Proofs.Ythppbmbhoedphaa
