/-
  Texts joined and split, as plain mathematics.
-/
import Derived.Test.YtfpllfjdgpcmdaaDoorWMath
namespace Go.Proofs.YtfpllfjdgpcmdaaDoor

/-- One text of those that are joined. -/
def joinR (l : List Int) : Rd (List Int) :=
  match l with
  | a :: b :: r => takeR (a * 256 + b).toNat r
  | _ => .error 8
def splF : Nat → List Int → Rd (List (List Int))
  | 0, l => .ok ([], l)
  | _ + 1, [] => .ok ([], [])
  | f + 1, c :: l => (joinR (c :: l)).then fun t r => (splF f r).map (t :: ·)
def splR (l : List Int) : Rd (List (List Int)) := splF l.length l
/-- What Split tells: an error's number, or the texts. -/
def splitR (l : List Int) : Rd (List (List Int)) := (splR l).then fun ts _ => if 4096 < ts.length then .error 3 else .ok (ts, [])

def two (n : Nat) : List Int := [((n / 256 : Nat) : Int), ((n % 256 : Nat) : Int)]
def laidJ (ts : List (List Int)) : List Int := ts.flatMap fun t => two t.length ++ t
def joinE (ts : List (List Int)) : Int := if 4096 < ts.length then 3 else if ts.any (fun t => decide (65535 < t.length)) then 5 else 0
def joinO (ts : List (List Int)) : List Int := if joinE ts = 0 then laidJ ts else []

theorem joinE_ok {ts : List (List Int)} (h : joinE ts = 0) : ts.length ≤ 4096 ∧ ∀ t ∈ ts, t.length ≤ 65535 := by
  unfold joinE at h
  split at h
  · cases h
  split at h
  · cases h
  rename_i h1 h2
  refine ⟨by omega, fun t ht => ?_⟩
  rw [Bool.not_eq_true, List.any_eq_false] at h2
  have := h2 t ht
  simpa using this
theorem ok_joinE {ts : List (List Int)} (h1 : ts.length ≤ 4096) (h2 : ∀ t ∈ ts, t.length ≤ 65535) : joinE ts = 0 := by
  unfold joinE
  rw [if_neg (by omega), if_neg]
  rw [Bool.not_eq_true, List.any_eq_false]
  intro t ht
  have := h2 t ht
  simpa using this

theorem laidJ_snoc (ts : List (List Int)) (t : List Int) : laidJ (ts ++ [t]) = (laidJ ts ++ two t.length) ++ t := by simp [laidJ]
theorem laidJ_cons (ts : List (List Int)) (t : List Int) : laidJ (t :: ts) = two t.length ++ (t ++ laidJ ts) := by simp [laidJ]
theorem two_oc (n : Nat) (h : n ≤ 65535) : Oc (two n) := oc_cons.2 ⟨by omega, oc_cons.2 ⟨by omega, oc_nil⟩⟩
theorem laidJ_oc (ts : List (List Int)) (h : ∀ t ∈ ts, Oc t ∧ t.length ≤ 65535) : Oc (laidJ ts) := fun x hx => by
  obtain ⟨t, ht, h2⟩ := List.mem_flatMap.1 hx
  rcases List.mem_append.1 h2 with h3 | h3
  · exact two_oc _ (h t ht).2 x h3
  · exact (h t ht).1 x h3
theorem laidJ_length (ts : List (List Int)) (h : ∀ t ∈ ts, t.length ≤ 65535) : (laidJ ts).length ≤ 65537 * ts.length := by
  induction ts with
  | nil => simp [laidJ]
  | cons t ts ih =>
    have ht := h t (List.mem_cons_self ..)
    have h2 := ih fun m hm => h m (List.mem_cons_of_mem _ hm)
    rw [laidJ_cons, List.length_append, List.length_append, List.length_cons]
    simp only [two, List.length_cons, List.length_nil]
    omega

theorem joinR_laid (t : List Int) (h : t.length ≤ 65535) (r : List Int) : joinR (two t.length ++ (t ++ r)) = .ok (t, r) := by
  show takeR _ _ = _
  have : (((t.length / 256 : Nat) : Int) * 256 + ((t.length % 256 : Nat) : Int)).toNat = t.length := by omega
  rw [this]
  unfold takeR
  rw [if_neg (by simp)]
  simp

theorem splF_nil (f : Nat) : splF f [] = .ok ([], []) := by cases f <;> rfl
theorem splF_cons (f : Nat) (c : Int) (l : List Int) : splF (f + 1) (c :: l) = (joinR (c :: l)).then fun t r => (splF f r).map (t :: ·) := rfl

theorem splF_laid (ts : List (List Int)) (h : ∀ t ∈ ts, t.length ≤ 65535) : ∀ f, (laidJ ts).length ≤ f → splF f (laidJ ts) = .ok (ts, []) := by
  induction ts with
  | nil => intro f _; exact splF_nil f
  | cons t ts ih =>
    intro f hf
    have e := laidJ_cons ts t
    rw [e] at hf ⊢
    obtain ⟨g, rfl⟩ : ∃ g, f = g + 1 := ⟨f - 1, by simp [two] at hf; omega⟩
    have e2 : two t.length ++ (t ++ laidJ ts) = ((t.length / 256 : Nat) : Int) :: (((t.length % 256 : Nat) : Int) :: (t ++ laidJ ts)) := rfl
    rw [e2, splF_cons, ← e2, joinR_laid t (h t (List.mem_cons_self ..))]
    simp only [Rd.then]
    rw [ih (fun m hm => h m (List.mem_cons_of_mem _ hm)) g (by simp [two] at hf; omega)]
    rfl

theorem split_join {ts : List (List Int)} (h : joinE ts = 0) : splitR (joinO ts) = .ok (ts, []) := by
  obtain ⟨h1, h2⟩ := joinE_ok h
  unfold joinO splitR splR
  rw [if_pos h, splF_laid ts h2 _ (Nat.le_refl _)]
  simp only [Rd.then]
  rw [if_neg (by omega)]

theorem joinR_back {l : List Int} {t r : List Int} (ho : Oc l) (h : joinR l = .ok (t, r)) : l = two t.length ++ (t ++ r) ∧ t.length ≤ 65535 := by
  match l, ho, h with
  | [], _, h => cases h
  | [_], _, h => cases h
  | a :: b :: q, ho, h =>
    have ha := (oc_cons.1 ho).1
    have hb := (oc_cons.1 (oc_cons.1 ho).2).1
    have h' : takeR (a * 256 + b).toNat q = .ok (t, r) := h
    unfold takeR at h'
    split at h'
    · cases h'
    obtain ⟨h1, h2⟩ := Prod.mk.inj (Except.ok.inj h')
    subst h1; subst h2
    have hl : (q.take (a * 256 + b).toNat).length = (a * 256 + b).toNat := by rw [List.length_take]; omega
    refine ⟨?_, by omega⟩
    rw [List.take_append_drop, hl]
    unfold two
    have e1 : (((a * 256 + b).toNat / 256 : Nat) : Int) = a := by omega
    have e2 : (((a * 256 + b).toNat % 256 : Nat) : Int) = b := by omega
    rw [e1, e2]
    rfl

theorem splF_back : ∀ (f : Nat) (l : List Int) (ts : List (List Int)) (q : List Int), l.length ≤ f → Oc l → splF f l = .ok (ts, q) → l = laidJ ts ∧ ∀ t ∈ ts, t.length ≤ 65535
  | f, [], ts, q, _, _, h => by
    rw [splF_nil] at h
    obtain ⟨h1, h2⟩ := Prod.mk.inj (Except.ok.inj h)
    subst h1
    exact ⟨rfl, fun t ht => by cases ht⟩
  | 0, c :: l, ts, q, hf, _, h => by simp at hf
  | f + 1, c :: l, ts, q, hf, ho, h => by
    rw [splF_cons] at h
    cases hx : joinR (c :: l) with
    | error e => rw [hx] at h; cases h
    | ok pp =>
      obtain ⟨t, r⟩ := pp
      rw [hx] at h
      simp only [Rd.then] at h
      obtain ⟨e1, e2⟩ := joinR_back ho hx
      cases hy : splF f r with
      | error e => rw [hy] at h; cases h
      | ok pp =>
        obtain ⟨us, q2⟩ := pp
        rw [hy] at h
        simp only [Rd.map, Rd.then] at h
        obtain ⟨h1, h2⟩ := Prod.mk.inj (Except.ok.inj h)
        subst h1
        have hr : Oc r := by rw [e1] at ho; exact (oc_append.1 (oc_append.1 ho).2).2
        have hlr : r.length ≤ f := by
          have := congrArg List.length e1
          simp [two] at this
          simp at hf
          omega
        obtain ⟨g1, g2⟩ := splF_back f r us q2 hlr hr hy
        refine ⟨by rw [laidJ_cons, ← g1, ← e1], fun u hu => ?_⟩
        rcases List.mem_cons.1 hu with rfl | hu
        · exact e2
        · exact g2 u hu

theorem join_split {l : List Int} {ts : List (List Int)} {q : List Int} (ho : Oc l) (h : splitR l = .ok (ts, q)) : joinE ts = 0 ∧ joinO ts = l := by
  unfold splitR splR at h
  cases hx : splF l.length l with
  | error e => rw [hx] at h; cases h
  | ok pp =>
    obtain ⟨us, p⟩ := pp
    rw [hx] at h
    simp only [Rd.then] at h
    split at h
    · cases h
    obtain ⟨h1, h2⟩ := Prod.mk.inj (Except.ok.inj h)
    subst h1
    obtain ⟨e1, e2⟩ := splF_back _ l us p (Nat.le_refl _) ho hx
    have e3 := ok_joinE (by omega) e2
    exact ⟨e3, by unfold joinO; rw [if_pos e3]; exact e1.symm⟩

theorem joinR_bad (l : List Int) (k : Int) (h : joinR l = .error k) : k = 8 := by
  match l, h with
  | [], h => injection h with h; exact h.symm
  | [_], h => injection h with h; exact h.symm
  | a :: b :: q, h =>
    have h' : takeR (a * 256 + b).toNat q = .error k := h
    unfold takeR at h'
    split at h'
    · injection h' with h'; exact h'.symm
    · cases h'
theorem splF_bad : ∀ (f : Nat) (l : List Int) (k : Int), splF f l = .error k → k = 8
  | f, [], k, h => by rw [splF_nil] at h; cases h
  | 0, c :: l, k, h => by cases h
  | f + 1, c :: l, k, h => by
    rw [splF_cons] at h
    cases hx : joinR (c :: l) with
    | error e => rw [hx] at h; injection h with h; rw [← h]; exact joinR_bad _ e hx
    | ok pp =>
      obtain ⟨t, r⟩ := pp
      rw [hx] at h
      simp only [Rd.then] at h
      cases hy : splF f r with
      | error e => rw [hy] at h; injection h with h; rw [← h]; exact splF_bad f r e hy
      | ok pp => obtain ⟨us, q2⟩ := pp; rw [hy] at h; cases h
theorem splitR_bad (l : List Int) (k : Int) (h : splitR l = .error k) : k ≠ 0 := by
  unfold splitR splR at h
  cases hx : splF l.length l with
  | error e => rw [hx] at h; injection h with h; have := splF_bad _ _ e hx; omega
  | ok pp =>
    obtain ⟨us, p⟩ := pp
    rw [hx] at h
    simp only [Rd.then] at h
    split at h
    · injection h with h; omega
    · cases h

end Go.Proofs.YtfpllfjdgpcmdaaDoor
