/-
  A record is read back from its octets, and what is read is built again, as plain mathematics.
-/
import Derived.Test.YtfpllfjdgpcmdaaDoorDecode
import Derived.Test.YtfpllfjdgpcmdaaDoorEncode
namespace Go.Proofs.YtfpllfjdgpcmdaaDoor
open Go.RowKit

theorem grpR_bad : ∀ (l : List Int) (i acc : Nat) (k : Int), grpR i acc l = .error k → k ≠ 0
  | [], i, acc, k, h => by
    rw [grpR_nil] at h
    injection h with h
    omega
  | c :: l, i, acc, k, h => by
    rw [grpR_cons] at h
    split at h
    · injection h with h; omega
    split at h
    · injection h with h; omega
    split at h
    · exact grpR_bad l _ _ k h
    · cases h
theorem numR_bad (l : List Int) (k : Int) (h : numR l = .error k) : k ≠ 0 := by
  unfold numR at h
  cases hx : grpR 0 0 l with
  | error e => rw [hx] at h; injection h with h; rw [← h]; exact grpR_bad l 0 0 e hx
  | ok pp => obtain ⟨m, r⟩ := pp; rw [hx] at h; cases h
theorem textR_bad (l : List Int) (k : Int) (h : textR l = .error k) : k ≠ 0 := by
  unfold textR at h
  cases hx : grpR 0 0 l with
  | error e => rw [hx] at h; injection h with h; rw [← h]; exact grpR_bad l 0 0 e hx
  | ok pp =>
    obtain ⟨m, r⟩ := pp
    rw [hx] at h
    simp only [Rd.then] at h
    split at h
    · injection h with h; omega
    unfold takeR at h
    split at h
    · injection h with h; omega
    · cases h
theorem manyR_bad {α : Type} {f : List Int → Rd α} (hf : ∀ l k, f l = .error k → k ≠ 0) : ∀ (n : Nat) (l : List Int) (k : Int), manyR f n l = .error k → k ≠ 0
  | 0, l, k, h => by cases h
  | n + 1, l, k, h => by
    simp only [manyR] at h
    cases hx : f l with
    | error e => rw [hx] at h; injection h with h; rw [← h]; exact hf l e hx
    | ok pp =>
      obtain ⟨a, r⟩ := pp
      rw [hx] at h
      simp only [Rd.then] at h
      cases hy : manyR f n r with
      | error e => rw [hy] at h; injection h with h; rw [← h]; exact manyR_bad hf n r e hy
      | ok pp => obtain ⟨b, s⟩ := pp; rw [hy] at h; cases h
theorem someR_bad {α : Type} {f : List Int → Rd α} (hf : ∀ l k, f l = .error k → k ≠ 0) (l : List Int) (k : Int) (h : someR f l = .error k) : k ≠ 0 := by
  unfold someR at h
  cases l with
  | nil => injection h with h; omega
  | cons c r =>
    simp only [octR, Rd.then] at h
    split at h
    · injection h with h; omega
    · exact manyR_bad hf _ _ k h
theorem recR_bad (l : List Int) (k : Int) (h : recR l = .error k) : k ≠ 0 := by
  cases l with
  | nil => injection h with h; omega
  | cons c r =>
    simp only [recR, octR, Rd.then] at h
    cases hx : someR numR r with
    | error e => rw [hx] at h; injection h with h; rw [← h]; exact someR_bad numR_bad r e hx
    | ok pp =>
      obtain ⟨ns, r2⟩ := pp
      rw [hx] at h
      simp only at h
      cases hy : someR textR r2 with
      | error e => rw [hy] at h; injection h with h; rw [← h]; exact someR_bad textR_bad r2 e hy
      | ok pp =>
        obtain ⟨ts, r3⟩ := pp
        rw [hy] at h
        simp only at h
        split at h
        · cases h
        · injection h with h; omega

theorem laidR_oc {r : Rc} (hc : chkR r = 0) (ht : ∀ t ∈ r.2.2, Oc t) : Oc (laidR r) := by
  obtain ⟨h1, h2, h3, h4, _⟩ := chk_ok hc
  exact oc_cons.2 ⟨⟨h1, h2⟩, oc_cons.2 ⟨by omega, oc_append.2 ⟨laidN_oc _, oc_cons.2 ⟨by omega, laidT_oc _ ht⟩⟩⟩⟩

theorem dec_enc {r : Rc} (hc : chkR r = 0) (hn : ∀ n ∈ r.2.1, I64 n) (ht : ∀ t ∈ r.2.2, Oc t) : decE (encO r) = 0 ∧ decV (encO r) = r := by
  have he : encO r = C.sealed (laidR r) := by unfold encO; rw [if_pos hc]
  have ho := C.open_sealed (laidR r) (laidR_oc hc ht)
  have hr := recR_laid r hc hn
  rw [he]
  unfold decE decV
  rw [if_pos ho.1, if_pos ho.1, ho.2, hr]
  exact ⟨rfl, rfl⟩

theorem dec_zero {l : List Int} (h : decE l ≠ 0) : decV l = (0, [], []) := by
  unfold decE at h
  unfold decV
  split
  · rename_i he
    rw [if_pos he] at h
    cases hx : recR (C.oout l) with
    | error k => rfl
    | ok pp => obtain ⟨r, q⟩ := pp; rw [hx] at h; exact absurd rfl h
  · rfl

theorem sealed_out {l : List Int} (h : C.oerr l = 0) : C.sealed (C.oout l) = l := by
  unfold C.oerr at h
  split at h
  · cases h
  split at h
  · rename_i h4 hl
    unfold C.oout
    rw [if_neg h4, if_pos hl]
    unfold C.sealed
    rw [hl, List.take_append_drop]
  · cases h

theorem enc_dec {l : List Int} (ho : Oc l) (h : decE l = 0) : chkR (decV l) = 0 ∧ encO (decV l) = l := by
  unfold decE at h
  split at h
  · rename_i he
    cases hx : recR (C.oout l) with
    | error k => rw [hx] at h; exact absurd h (recR_bad _ k hx)
    | ok pp =>
      obtain ⟨r, q⟩ := pp
      obtain ⟨h1, h2, _⟩ := recR_back (C.oout l) r q (C.oout_oct ho) hx
      have hv : decV l = r := by unfold decV; rw [if_pos he, hx]; rfl
      rw [hv]
      refine ⟨h2, ?_⟩
      unfold encO
      rw [if_pos h2, ← h1]
      exact sealed_out he
  · rename_i he
    exact absurd h he

theorem rec_oview {n : Nat} {w : World} {us : List Value} {r : Rc} (h : recF.owns n w us r) : ∃ ax cx ay cy, us = [.int .i64 r.1, .slice ax r.2.1.length cx, .slice ay r.2.2.length cy] := by
  obtain ⟨x, y, rfl, h1, h2, _⟩ := rec_own h
  obtain ⟨ax, cx, rfl⟩ := own_shape (ints_own h1)
  obtain ⟨ay, cy, _, hv, _⟩ := texts_own h2
  obtain rfl : y = _ := by simpa using hv
  exact ⟨ax, cx, ay, cy, rfl⟩

theorem rec_ints {n : Nat} {w : World} {us : List Value} {r : Rc} (h : recF.lies n w us r) : (∀ x ∈ r.2.1, I64 x) ∧ ∀ t ∈ r.2.2, Oc t := by
  obtain ⟨a, c, b, d, _, hI, hT, _⟩ := rec_view h
  exact ⟨ints_in hI, texts_oct hT⟩

theorem enc_len {r : Rc} (hi : ∀ x ∈ r.2.1, I64 x) : (encO r).length ≤ 1000000 := by
  unfold encO
  split
  · rename_i hc
    rw [C.sealed_length]
    obtain ⟨_, _, h3, h4, h5⟩ := chk_ok hc
    have h1 := laidN_length r.2.1 hi
    have h2 := laidT_length r.2.2 h5
    unfold laidR
    rw [List.length_cons, List.length_cons, List.length_append, List.length_cons]
    omega
  · simp

end Go.Proofs.YtfpllfjdgpcmdaaDoor
