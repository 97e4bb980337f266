import Derived.Test.YthlfgpnabcplnaaDoorTf12
import Derived.Deep.QuietTactic
import Derived.BigQuiet
import Derived.Deep.Onto
import Derived.Test.YthlfgpnabcplnaaDoorTf1
/-
  What crc.Open answers: the octets that were sealed, or ErrShort, or ErrCorrupt; for every octets, in every memory, which stays; and that it is told by the register alone.
-/
namespace Go.Proofs.YthlfgpnabcplnaaDoor.W.C
open Go.RowKit

/-- Which error Open tells, and which octets. -/
def oerr (l : List Int) : Int := if l.length < 4 then 8 else if low (sum (l.take (l.length - 4))) = l.drop (l.length - 4) then 0 else 21
def oout (l : List Int) : List Int := if l.length < 4 then [] else if low (sum (l.take (l.length - 4))) = l.drop (l.length - 4) then l.take (l.length - 4) else []

theorem take_oct {l : List Int} (h : Oct l) (k : Nat) : Oct (l.take k) := fun x hx => h x (List.mem_of_mem_take hx)
theorem drop_oct {l : List Int} (h : Oct l) (k : Nat) : Oct (l.drop k) := fun x hx => h x (List.mem_of_mem_drop hx)
theorem oout_oct {l : List Int} (h : Oct l) : Oct (oout l) := by
  unfold oout
  split
  · intro x hx; cases hx
  · split
    · exact take_oct h _
    · intro x hx; cases hx

theorem fits_rest (l : List Int) (h : Oct l) (h4 : 4 ≤ l.length) : low (sum (l.take (l.length - 4))) = l.drop (l.length - 4) ↔ upd full l = rest := by
  have := rest_of (l.take (l.length - 4)) (l.drop (l.length - 4)) (take_oct h _) (by rw [List.length_drop]; omega) (drop_oct h _)
  rw [List.take_append_drop] at this
  rw [this]
  exact ⟨fun h => h.symm, fun h => h.symm⟩

theorem sealed_rest (l : List Int) (h : Oct l) : upd full (sealed l) = rest := (rest_of l (low (sum l)) h (low_length _) (low_oct _)).2 rfl

theorem open_sealed (l : List Int) (h : Oct l) : oerr (sealed l) = 0 ∧ oout (sealed l) = l := by
  have hl := sealed_length l
  have hf := (fits_rest (sealed l) (sealed_oct l h) (by omega)).2 (sealed_rest l h)
  unfold oerr oout
  have hn4 : ¬ (sealed l).length < 4 := by omega
  rw [if_neg hn4, if_neg hn4, if_pos hf, if_pos hf]
  refine ⟨rfl, ?_⟩
  rw [hl, Nat.add_sub_cancel]
  unfold sealed
  rw [List.take_left]

theorem Arg.drewN {w : World} {v : Value} {l : List Int} (h : Arg w v l) (q : Nat) : Arg (w.drewN q) v l := by
  rcases h with h | ⟨x, cap, hv, hcap, hm, hc, hr⟩
  · exact .inl h
  · exact .inr ⟨x, cap, hv, hcap, hm, fun i hi => by simpa using hc i hi, hr⟩

set_option maxRecDepth 100000 in
set_option maxHeartbeats 1000000 in
theorem open_any (v : Value) (l : List Int) (w : World) (h : Arg w v l) (hs : l.length ≤ 140737488355328) :
    Calls Tryd.prog 54 #[v] w fun e w' => ∃ a cap, e = .returned (.tuple #[.slice a (oout l).length cap, .int .i64 (oerr l)]) ∧
      w'.ownsRow w.heap.size 5 1 (.slice a (oout l).length cap) (oout l).length ((oout l).map (Value.int .u8)) ∧ Below w.heap.size w w' := by
  have HV : Hid (Arg w v l) := h
  have HO : Hid (Oct l) := h.bytes.2.2
  have hlen := fun W => h.len W
  obtain ⟨n, hn⟩ : ∃ n, n = l.length := ⟨_, rfl⟩
  rw [← hn] at hlen
  by_cases h4 : n < 4
  · have HE : Hid (oerr l = 8 ∧ oout l = []) := by
      show _ ∧ _
      unfold oerr oout
      rw [← hn, if_pos h4, if_pos h4]
      exact ⟨rfl, rfl⟩
    have h4i : (n : Int) < 4 := by omega
    clear h hn hs
    go_enter Tryd.func54, Tryd.ntmps54
    go_wp2
    go_ret2
    refine ⟨none, 0, by rw [HE.out.1, HE.out.2]; rfl, ?_, Below.refl _ _⟩
    rw [HE.out.2]
    exact World.ownsRow_nil _ _ _ _
  · obtain ⟨v1, hA1, hcut1⟩ := h.ahead (l.length - 4) (by omega)
    obtain ⟨v2, hA2, hcut2⟩ := h.behind (l.length - 4) (by omega)
    obtain ⟨m, hm⟩ : ∃ m, m = l.length - 4 := ⟨_, rfl⟩
    rw [← hm] at hcut1 hcut2 hA1 hA2
    have hmn : (m : Int) = (n : Int) - 4 := by omega
    rw [hmn] at hcut1 hcut2
    have HA1 : Hid (Arg w v1 (l.take m)) := hA1
    have HA2 : Hid (Arg w v2 (l.drop m)) := hA2
    have HE : Hid (oerr l = (if low (sum (l.take m)) = l.drop m then 0 else 21) ∧ oout l = if low (sum (l.take m)) = l.drop m then l.take m else []) := by
      show _ ∧ _
      unfold oerr oout
      have hn4 : ¬ l.length < 4 := by omega
      rw [if_neg hn4, if_neg hn4, ← hm]
      exact ⟨rfl, rfl⟩
    have HM : Hid ((l.take m).length ≤ 140737488355328) := by
      show _ ≤ _
      rw [List.length_take]; omega
    have h4i : ¬ (n : Int) < 4 := by omega
    have hn0 : (0 : Int) ≤ (n : Int) - 4 := by omega
    have hn1 : (n : Int) ≤ 140737488355328 := by omega
    clear h hn hs hA1 hA2 hm hmn
    go_enter Tryd.func54, Tryd.ntmps54
    go_wp2
    go_quiet (fail)
    go_wp2_with fail
    obtain ⟨W, hW⟩ : ∃ W, W = w.drewN nq := ⟨_, rfl⟩
    have HW1 : Hid (Arg W v1 (l.take m)) := by show Arg W v1 _; rw [hW]; exact HA1.out.drewN nq
    have HW2 : Hid (Arg W v2 (l.drop m)) := by show Arg W v2 _; rw [hW]; exact HA2.out.drewN nq
    have hbW : Below w.heap.size w W := by rw [hW]; exact below_drewN (Below.refl _ _) nq
    have HWs : Hid (W.heap.size = w.heap.size) := by show _ = _; rw [hW]; simp
    rw [← hW]
    clear hW
    refine (sum_any v1 _ W HW1.out).mono ?_
    rintro e w1 ⟨rfl, hb1⟩
    go_wp2_with fail
    refine (laid_any _ w1).mono ?_
    rintro e w2 ⟨rfl, hown2, hb2⟩
    have hbW2 := below_any hb1 hb2
    have HX : Hid (Bytes w2 (.slice (some ⟨w1.heap.size, 0, none⟩) 4 4) (low (sum (l.take m)))) := Bytes.own (base := w1.heap.size) hown2 (low_oct _)
    have HY : Hid (Bytes w2 v2 (l.drop m)) := (HW2.out.below hbW2).bytes
    have HZ : Hid (Arg w2 v1 (l.take m)) := HW1.out.below hbW2
    have hb02 := below_any hbW hbW2
    clear hown2 hb1 hb2 hbW2
    go_wp2_with fail
    refine (equal_any _ _ _ _ w2 HX.out HY.out).mono ?_
    by_cases hq : low (sum (l.take m)) = l.drop m
    · have hE := HE.out
      rw [if_pos hq, if_pos hq] at hE
      have HE2 : Hid (oerr l = 0 ∧ oout l = l.take m) := hE
      rw [decide_eq_true hq]
      rintro e w3 ⟨rfl, rfl⟩
      clear hE HE hq
      go_wp2_with fail
      refine (clone_any v1 _ w2 HZ.out HM.out).mono ?_
      rintro e w3 ⟨⟨v3, rfl, hown3⟩, hb3⟩
      obtain ⟨a3, c3, rfl⟩ := own_shape hown3
      have hb03 := below_any hb02 hb3
      have hown3' := hown3.mono hb02.size
      clear hown3
      go_wp2
      go_ret2
      refine ⟨a3, c3, by rw [HE2.out.1, HE2.out.2, List.length_take]; rfl, ?_, hb03⟩
      rw [HE2.out.2]
      exact hown3'
    · have hE := HE.out
      rw [if_neg hq, if_neg hq] at hE
      have HE2 : Hid (oerr l = 21 ∧ oout l = []) := hE
      rw [decide_eq_false hq]
      rintro e w3 ⟨rfl, rfl⟩
      clear hE HE hq
      go_wp2
      go_ret2
      refine ⟨none, 0, by rw [HE2.out.1, HE2.out.2]; rfl, ?_, hb02⟩
      rw [HE2.out.2]
      exact World.ownsRow_nil _ _ _ _

end Go.Proofs.YthlfgpnabcplnaaDoor.W.C

/-
  A sealed text with one octet that is another one is not opened.
-/
namespace Go.Proofs.YthlfgpnabcplnaaDoor.W
open Go.RowKit

theorem xor_left_inj {r s x : Nat} (h : r ^^^ x = s ^^^ x) : r = s := by
  have := congrArg (· ^^^ x) h
  simpa [Nat.xor_assoc] using this
theorem xor_right_inj {r x y : Nat} (h : r ^^^ x = r ^^^ y) : x = y := by
  rw [Nat.xor_comm r x, Nat.xor_comm r y] at h
  exact xor_left_inj h

theorem upd_inj : ∀ (l : List Int) (r s : Nat), Oc l → r < 4294967296 → s < 4294967296 → C.upd r l = C.upd s l → r = s
  | [], _, _, _, _, _, h => h
  | x :: l, r, s, ho, hr, hs, h => by
    rw [C.upd_cons, C.upd_cons] at h
    have hx := (oc_cons.1 ho).1
    have hx2 : x.toNat < 4294967296 := by omega
    have h1 : r ^^^ x.toNat < 4294967296 := Nat.xor_lt_two_pow (n := 32) hr hx2
    have h2 : s ^^^ x.toNat < 4294967296 := Nat.xor_lt_two_pow (n := 32) hs hx2
    have := upd_inj l _ _ (oc_cons.1 ho).2 (C.steps_lt 8 _ h1) (C.steps_lt 8 _ h2) h
    exact xor_left_inj (C.steps_inj 8 _ _ h1 h2 this)

theorem upd_set_ne (l : List Int) (ho : Oc l) (j : Nat) (hj : j < l.length) (y : Int) (hy : 0 ≤ y ∧ y ≤ 255) (hne : y ≠ l.getD j 0) (r : Nat) (hr : r < 4294967296) : C.upd r (l.set j y) ≠ C.upd r l := by
  intro h
  have e1 : l.set j y = l.take j ++ y :: l.drop (j + 1) := List.set_eq_take_append_cons_drop .. |>.trans (by rw [if_pos hj])
  have e2 : l = l.take j ++ l[j] :: l.drop (j + 1) := by
    rw [← List.drop_eq_getElem_cons hj, List.take_append_drop]
  have hq : C.upd r (l.take j) < 4294967296 := C.upd_lt r _ hr (oc_take ho j)
  have hd := oc_drop ho (j + 1)
  have hx := ho l[j] (List.getElem_mem hj)
  rw [e1] at h
  conv at h => rhs; rw [e2]
  rw [C.upd_append, C.upd_append, C.upd_cons, C.upd_cons] at h
  have h1 : C.upd r (l.take j) ^^^ y.toNat < 4294967296 := Nat.xor_lt_two_pow (n := 32) hq (by omega)
  have h2 : C.upd r (l.take j) ^^^ l[j].toNat < 4294967296 := Nat.xor_lt_two_pow (n := 32) hq (by omega)
  have h3 := upd_inj _ _ _ hd (C.steps_lt 8 _ h1) (C.steps_lt 8 _ h2) h
  have h4 := xor_right_inj (C.steps_inj 8 _ _ h1 h2 h3)
  apply hne
  rw [List.getD_eq_getElem?_getD, List.getElem?_eq_getElem hj, Option.getD_some]
  omega

theorem oc_set {l : List Int} (h : Oc l) (j : Nat) {y : Int} (hy : 0 ≤ y ∧ y ≤ 255) : Oc (l.set j y) := fun x hx => by
  rcases List.mem_or_eq_of_mem_set hx with h1 | h1
  · exact h x h1
  · rw [h1]; exact hy

theorem rot_bad (l : List Int) (ho : Oc l) (j : Nat) (hj : j < (C.sealed l).length) (y : Int) (hy : 0 ≤ y ∧ y ≤ 255) (hne : y ≠ (C.sealed l).getD j 0) : C.oerr ((C.sealed l).set j y) = 21 := by
  have hs := C.sealed_oct l ho
  have hl : ((C.sealed l).set j y).length = l.length + 4 := by rw [List.length_set, C.sealed_length]
  have hf := C.fits_rest ((C.sealed l).set j y) (oc_set hs j hy) (by omega)
  unfold C.oerr
  rw [if_neg (by omega), if_neg]
  intro h
  have h1 := hf.1 h
  have h2 := C.sealed_rest l ho
  rw [← h2] at h1
  exact upd_set_ne _ hs j hj y hy hne C.full (by decide) h1

end Go.Proofs.YthlfgpnabcplnaaDoor.W
