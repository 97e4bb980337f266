/-
  Plain mathematics: which numbers a cleaning answers.
-/
import Derived.Test.YtkpckadicjdieabXMath
namespace Go.Proofs.Ytkpckadicjdieab

theorem sE_some {t : St} (h : Ok t) (hn : t.2.2.1 ≠ []) : sE t = 0 ∨ sE t = 51 := by
  unfold sE
  rw [if_neg (by rw [ok_iff.2 h]; decide), if_neg (fun c => hn (List.eq_nil_of_length_eq_zero c))]
  split
  · exact .inr rfl
  · exact .inl rfl
theorem ptE_some {t : St} {b : Bk} (h : Ok t) (hb : mayB b = true) : (ptE t b = 0 ∧ Ok (ptS t b) ∧ (ptS t b).2.2.1 ≠ []) ∨ ptE t b = 51 := by
  rcases ptE_is h hb with ⟨_, h1, h2, h3⟩ | ⟨_, h0, h1, h2, h3⟩ | ⟨h4, h0, h1, _⟩
  · refine .inl ⟨h1, by rw [h3]; exact pS_ok h2, ?_⟩
    rw [h3]
    unfold pS
    rw [if_pos h2]
    simp
  · refine .inl ⟨h1, by rw [h3]; exact pS_ok h2, ?_⟩
    rw [h3]
    unfold pS
    rw [if_pos h2]
    simp
  · rcases sE_some h (fun c => by rw [c] at h4; simp at h4) with c | c
    · exact absurd c h0
    · exact .inr (h1.trans c)
theorem mv_some : ∀ (l : List Bk) (t : St), Ok t → (∀ b ∈ l, mayB b = true) → (mvE l t = 0 ∧ Ok (mvS l t) ∧ (l ≠ [] → (mvS l t).2.2.1 ≠ [])) ∨ mvE l t = 51
  | [], t, h, _ => .inl ⟨rfl, h, fun c => absurd rfl c⟩
  | b :: l, t, h, hm => by
    rcases ptE_some h (hm b (List.mem_cons_self ..)) with ⟨h1, h2, h3⟩ | h1
    · unfold mvE mvS
      rw [if_pos h1, if_pos h1]
      rcases mv_some l (ptS t b) h2 (fun c hc => hm c (List.mem_cons_of_mem _ hc)) with ⟨k1, k2, k3⟩ | k1
      · refine .inl ⟨k1, k2, fun _ => ?_⟩
        by_cases hl : l = []
        · subst hl; exact h3
        · exact k3 hl
      · exact .inr k1
    · right
      unfold mvE
      rw [if_neg (by rw [h1]; decide)]
      exact h1
theorem mov_some {s : St} {p : Sg} {i : Nat} (h : Ok s) (hp : s.1[i]? = some p) : movE (lvs s p.1 p.2) s = 0 ∨ movE (lvs s p.1 p.2) s = 51 := by
  unfold movE
  by_cases c : lvs s p.1 p.2 = []
  · rw [if_pos c]; exact .inl rfl
  · rw [if_neg c]
    rcases mv_some (lvs s p.1 p.2) s h (fun b hb => (live_may h hp hb).1) with ⟨k1, k2, k3⟩ | k1
    · rw [if_pos k1]; exact sE_some k2 (k3 c)
    · rw [if_neg (by rw [k1]; decide)]; exact .inr k1
theorem cl_cases (s : St) (k q : Int) : (¬ Ok s ∧ clE s k q = 9) ∨ (Ok s ∧ clE s k q = 71 ∧ (k < 0 ∨ (s.1.length : Int) ≤ k ∨ ∃ (i : Nat) (p : Sg), k = i ∧ i < s.1.length ∧ s.1[i]? = some p ∧ p.1 = 0)) ∨
    (Ok s ∧ ∃ (i : Nat) (p : Sg), k = i ∧ i < s.1.length ∧ s.1[i]? = some p ∧ p.1 ≠ 0 ∧ ((p.1 ≠ q ∧ clE s k q = 81) ∨ (p.1 = q ∧ (clE s k q = 0 ∨ clE s k q = 51)))) := by
  by_cases h : Ok s
  case neg =>
    left
    refine ⟨h, ?_⟩
    have : uE s k = 9 := by
      unfold uE
      rw [if_pos (by cases hb : okB s with | false => rfl | true => exact absurd (ok_iff.1 hb) h)]
    unfold clE
    rw [if_neg (by rw [this]; decide)]
    exact this
  right
  cases hu : usedB s k
  · left
    have h1 : uE s k = 71 := by unfold uE; rw [if_neg (by rw [ok_iff.2 h]; decide), if_pos hu]
    refine ⟨h, by unfold clE; rw [if_neg (by rw [h1]; decide)]; exact h1, ?_⟩
    by_cases h2 : k < 0
    · exact .inl h2
    · by_cases h3 : (s.1.length : Int) ≤ k
      · exact .inr (.inl h3)
      · obtain ⟨p, hp⟩ := get_lt (l := s.1) (k := k.toNat) (by omega)
        refine .inr (.inr ⟨k.toNat, p, by omega, by omega, hp, ?_⟩)
        unfold usedB at hu
        rw [hp] at hu
        simp only [Option.map_some, Option.getD_some, Bool.and_eq_false_iff, decide_eq_false_iff_not, Bool.not_eq_false'] at hu
        rcases hu with c | c
        · omega
        · exact (free_iff.1 c).1
  · right
    have h1 : uE s k = 0 := by unfold uE; rw [if_neg (by rw [ok_iff.2 h]; decide), if_neg (by rw [hu]; decide)]
    obtain ⟨_, i, p, rfl, hi, hp, e, hf⟩ := uE_zero h1
    have h0 := (h.each p (List.mem_of_getElem? hp) hf).1.1.1
    refine ⟨h, i, p, rfl, hi, hp, by omega, ?_⟩
    unfold clE
    rw [if_pos h1, e]
    by_cases hq : p.1 = q
    · right
      rw [if_pos hq]
      have hl : lL s (i : Int) = lvs s p.1 p.2 := by unfold lL; rw [if_pos h1, e]
      rw [hl]
      exact ⟨hq, mov_some h hp⟩
    · left
      rw [if_neg hq]
      exact ⟨hq, rfl⟩

end Go.Proofs.Ytkpckadicjdieab
