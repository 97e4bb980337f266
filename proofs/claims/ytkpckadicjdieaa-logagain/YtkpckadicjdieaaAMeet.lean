/-
  The mathematics of a range over the last versions that keeps those that are there.
-/
import Derived.Test.YtkpckadicjdieaaLBack
import Derived.Test.YtkpckadicjdieaaRAll
namespace Go.Proofs.Ytkpckadicjdieaa

/-- What has been kept of the kinds that have been met. -/
structure Met (s : St) (left : Int → Int → Bool) (L : List Bk) : Prop where
  un : L.Pairwise unl
  mem : ∀ b, b ∈ L ↔ isThere s b ∧ left b.1 b.2.1 = false
theorem Met.start (s : St) : Met s (fun o i => decide (0 < (kn (vers s) o i).2.2.2)) [] := by
  refine ⟨List.Pairwise.nil, fun b => ⟨(fun hb => by cases hb), fun ⟨h1, h2⟩ => ?_⟩⟩
  obtain ⟨e, h3⟩ := h1
  unfold last at e
  have := (kn_kind (l := vers s) (o := b.1) (i := b.2.1) (by rw [← e]; exact h3)).2.2
  simp only [decide_eq_false_iff_not] at h2
  exact absurd this h2
theorem Met.step {s : St} {left : Int → Int → Bool} {L : List Bk} {o i : Int} (h : Met s left L) (hl : left o i = true) :
    Met s (fun o' i' => left o' i' && !decide (o' = o ∧ i' = i)) (if (kn (vers s) o i).1.2.2 = [] then L else L ++ [(kn (vers s) o i).1]) := by
  have key : ∀ b, isThere s b ∧ (left b.1 b.2.1 && !decide (b.1 = o ∧ b.2.1 = i)) = false ↔ b ∈ L ∨ ((kn (vers s) o i).1.2.2 ≠ [] ∧ b = (kn (vers s) o i).1) := fun b => by
    constructor
    · rintro ⟨h1, h2⟩
      by_cases e : b.1 = o ∧ b.2.1 = i
      · right
        obtain ⟨k1, k2⟩ := h1
        unfold last at k1
        rw [e.1, e.2] at k1
        have k3 : (kn (vers s) o i).1.2.2 ≠ [] := by rw [← k1]; exact k2
        obtain ⟨k4, k5, _⟩ := kn_kind k3
        exact ⟨k3, Prod.ext (e.1.trans k4.symm) (Prod.ext (e.2.trans k5.symm) k1)⟩
      · left
        refine (h.mem b).2 ⟨h1, ?_⟩
        simpa [e] using h2
    · rintro (hb | ⟨k3, rfl⟩)
      · obtain ⟨h1, h2⟩ := (h.mem b).1 hb
        exact ⟨h1, by rw [h2]; rfl⟩
      · obtain ⟨k4, k5, _⟩ := kn_kind k3
        refine ⟨⟨by unfold last; rw [k4, k5], k3⟩, ?_⟩
        simp [k4, k5]
  by_cases h0 : (kn (vers s) o i).1.2.2 = []
  · rw [if_pos h0]
    refine ⟨h.un, fun b => ?_⟩
    rw [key b]
    exact ⟨.inl, fun c => c.elim id fun c => absurd h0 c.1⟩
  · rw [if_neg h0]
    refine ⟨?_, fun b => ?_⟩
    · refine List.pairwise_append.2 ⟨h.un, List.pairwise_singleton _ _, fun a ha b hb => ?_⟩
      obtain rfl := List.mem_singleton.1 hb
      obtain ⟨k4, k5, _⟩ := kn_kind h0
      intro e
      have := ((h.mem a).1 ha).2
      rw [e.1, e.2, k4, k5, hl] at this
      cases this
    · rw [key b, List.mem_append, List.mem_singleton]
      exact ⟨fun c => c.elim .inl fun c => .inr ⟨h0, c⟩, fun c => c.elim .inl fun c => .inr c.2⟩
theorem there_i64 {s : St} (h : Ok s) {b : Bk} (hb : isThere s b) : I64 b.1 ∧ I64 b.2.1 := by
  obtain ⟨t, ht, e1, e2⟩ := there_mem hb
  obtain ⟨⟨h1, h2⟩, ⟨h3, h4⟩, _⟩ := may_iff.1 (all_may h ht)
  rw [← e1, ← e2]
  exact ⟨⟨by omega, by omega⟩, ⟨by omega, by omega⟩⟩
theorem Met.done {s : St} {left : Int → Int → Bool} {L L' : List Bk} (h : Met s left L) (hok : Ok s) (hn : ∀ o i, I64 o → I64 i → left o i = false) (hp : L'.Perm L) (hu : L'.Pairwise kLt) : AllOf s L' := by
  refine ⟨hu, fun b => (hp.mem_iff.trans (h.mem b)).trans ⟨fun c => c.1, fun c => ⟨c, ?_⟩⟩⟩
  obtain ⟨h1, h2⟩ := there_i64 hok c
  exact hn _ _ h1 h2
/-- A list of unlike kinds is no longer than one that has them all. -/
theorem unl_le : ∀ {L A : List Bk}, L.Pairwise unl → (∀ b ∈ L, ∃ t ∈ A, t.1 = b.1 ∧ t.2.1 = b.2.1) → L.length ≤ A.length
  | [], _, _, _ => Nat.zero_le _
  | b :: L, A, h, hs => by
    obtain ⟨p1, p2⟩ := List.pairwise_cons.1 h
    obtain ⟨t, ht, e1, e2⟩ := hs b (List.mem_cons_self ..)
    have := unl_le (L := L) (A := A.erase t) p2 fun c hc => by
      obtain ⟨u, hu, g1, g2⟩ := hs c (List.mem_cons_of_mem _ hc)
      refine ⟨u, (List.mem_erase_of_ne fun e => ?_).2 hu, g1, g2⟩
      subst e
      exact p1 c hc ⟨e1.symm.trans g1, e2.symm.trans g2⟩
    rw [List.length_erase_of_mem ht] at this
    have := List.length_pos_of_mem ht
    simp only [List.length_cons]
    omega
theorem Met.few {s : St} {left : Int → Int → Bool} {L : List Bk} (h : Met s left L) (hok : Ok s) : L.length ≤ 1000 := by
  have h0 := unl_le (A := s.2.2.1 ++ blks s.1) h.un fun b hb => there_mem ((h.mem b).1 hb).1
  have h1 := blks_length (l := s.1) fun q hq => hok.small q hq
  have h2 := hok.slots.2
  have h3 := hok.few
  rw [List.length_append] at h0
  omega
theorem AllOf.fits {s : St} {L : List Bk} (h : AllOf s L) (hok : Ok s) (hl : L.length ≤ 1000) : FitsB L := by
  refine ⟨by omega, fun b hb => ?_⟩
  have h1 := ((h.mem b).1 hb).1
  have h2 := last_may hok b.1 b.2.1
  rw [h1]
  omega

end Go.Proofs.Ytkpckadicjdieaa
