/-
  What the document's own answer for Open is: the same as the program's; for every octets, in every memory, which stays.
-/
import Derived.Test.YtfpllfjdgpcmdaaDoorCRef
namespace Go.Proofs.YtfpllfjdgpcmdaaDoor.C
open Go.RowKit

set_option maxRecDepth 100000 in
set_option maxHeartbeats 1000000 in
theorem ropen_short (v : Value) (l : List Int) (w : World) (h : Arg w v l) (h4 : l.length < 4) :
    Calls Tryd.prog 37 #[v] w fun e w' => e = .returned (.tuple #[.slice none 0 0, .int .i64 8]) ∧ w = w' := by
  have hlen := fun W => h.len W
  obtain ⟨n, hn⟩ : ∃ n, n = l.length := ⟨_, rfl⟩
  rw [← hn] at hlen h4
  have h4i : (n : Int) < 4 := by omega
  clear h hn
  go_enter Tryd.func37, Tryd.ntmps37
  go_wp2
  go_ret2
  exact ⟨rfl, rfl⟩

theorem four_same (s m : Nat) (l : List Int) (hl : l.length = m + 4) : low s = l.drop m ↔ ∀ k, k < 4 → l.getD (m + k) 0 = (low s).getD k 0 := by
  constructor
  · intro h k hk
    rw [h]
    simp [List.getD]
  · intro h
    refine List.ext_getElem (by rw [low_length, List.length_drop]; omega) fun k h1 h2 => ?_
    have hk : k < 4 := by rw [low_length] at h1; exact h1
    have := h k hk
    have h3 : m + k < l.length := by omega
    simp only [List.getD, List.getElem?_eq_getElem h1, List.getElem?_eq_getElem h3, Option.getD_some] at this
    rw [List.getElem_drop]
    exact this.symm

set_option maxRecDepth 100000 in
set_option maxHeartbeats 1000000 in
theorem ropen_some (b off m cap : Nat) (l : List Int) (hl : l.length = m + 4) (w : World) (hs : l.length ≤ 140737488351232) (hcap : l.length ≤ cap) (hat : At w b off l) (hr : Oct l) :
    Calls Tryd.prog 37 #[.slice (some ⟨b, off, none⟩) (m + 4) cap] w fun e w' => ∃ a c, e = .returned (.tuple #[.slice a (oout l).length c, .int .i64 (oerr l)]) ∧
      w'.ownsRow w.heap.size 5 1 (.slice a (oout l).length c) (oout l).length ((oout l).map (Value.int .u8)) ∧ Below w.heap.size w w' := by
  have HL : Hid (l.length = m + 4) := hl
  have HC : Hid (At w b off l) := hat
  have HR : Hid (Oct l) := hr
  have hbW : b < w.heap.size := hat.lt (by omega)
  have HA : Hid (Arg w (.slice (some ⟨b, off, none⟩) m cap) (l.take m)) := by
    have : (l.take m).length = m := by rw [List.length_take]; omega
    refine .inr ⟨_, cap, by rw [this], by omega, by unfold maxLen; omega, fun i hi => ?_, take_oct hr m⟩
    rw [add_plain, hat i (by omega)]
    have : i < m := by omega
    simp [this]
  have HE : Hid (oerr l = (if low (sum (l.take m)) = l.drop m then 0 else 21) ∧ oout l = if low (sum (l.take m)) = l.drop m then l.take m else []) := by
    show _ ∧ _
    unfold oerr oout
    have hn4 : ¬ l.length < 4 := by omega
    rw [if_neg hn4, if_neg hn4, show l.length - 4 = m from by omega]
    exact ⟨rfl, rfl⟩
  have hm1 : m ≤ 140737488351232 := by omega
  have hcm : m + 4 ≤ cap := by omega
  clear hl hs hcap hat hr
  go_enter Tryd.func37, Tryd.ntmps37
  go_wp2_with fail
  refine (rsum_any _ _ w HA.out).mono ?_
  rintro e w0 ⟨rfl, rfl⟩
  obtain ⟨S, hS⟩ : ∃ S, S = sum (l.take m) := ⟨_, rfl⟩
  rw [← hS] at HE ⊢
  clear hS
  go_wp2_with fail
  refine (rlow_any S w).mono ?_
  rintro e w1 ⟨rfl, hown1, hb1⟩
  have HF : Hid (low S = l.drop m ↔ ∀ k, k < 4 → l.getD (m + k) 0 = (low S).getD k 0) := four_same S m l HL.out
  have HC1 : Hid (∀ k, k < 4 → w1.cell? ⟨w.heap.size, k, none⟩ = some (.int .u8 ((low S).getD k 0))) := fun k hk => by
    rw [hown1.cellAt k (by omega), List.getElem?_map, List.getElem?_eq_getElem (by rw [low_length]; exact hk)]
    simp [List.getD, List.getElem?_eq_getElem (show k < (low S).length by rw [low_length]; exact hk)]
  have HC2 : Hid (∀ k, k < 4 → w1.cell? ⟨b, off + (m + k), none⟩ = some (.int .u8 (l.getD (m + k) 0))) := fun k hk => by
    rw [hb1.cell (p := ⟨b, off + (m + k), none⟩) hbW]; exact HC.out (m + k) (by rw [HL.out]; omega)
  clear hown1
  go_wp2
  go_loopw [6] (fun i wr => ∃ j : Nat, j ≤ 4 ∧ i = .int .i64 j ∧ Hid (∀ k, k < j → l.getD (m + k) 0 = (low S).getD k 0) ∧ ∃ q, wr = w1.drewN q) (fun i _ => 4 - (intOf i).toNat)
  case atStart => exact ⟨0, by omega, rfl, fun k h => by omega, 0, rfl⟩
  case round =>
    obtain ⟨j, hj, rfl, HJ, q, rfl⟩ := hrel
    by_cases hlt : j < 4
    · have hc1 : (w1.drewN q).cell? ⟨w.heap.size, j, none⟩ = some (.int .u8 ((low S).getD j 0)) := by simpa using HC1.out j hlt
      have hc2 : (w1.drewN q).cell? ⟨b, off + (m + j), none⟩ = some (.int .u8 (l.getD (m + j) 0)) := by simpa using HC2.out j hlt
      obtain ⟨x, hx⟩ : ∃ x, x = l.getD (m + j) 0 := ⟨_, rfl⟩
      obtain ⟨y, hy⟩ : ∃ y, y = (low S).getD j 0 := ⟨_, rfl⟩
      rw [← hx] at hc2
      rw [← hy] at hc1
      have HX : Hid (x = l.getD (m + j) 0) := hx
      have HY : Hid (y = (low S).getD j 0) := hy
      have hji : (j : Int) < 4 := by omega
      have hmji : (m : Int) + (j : Int) < (m : Int) + 4 := by omega
      have hw1 : IntKind.i64.wrap ((m : Int) + (j : Int)) = (m : Int) + (j : Int) := by rw [IntKind.wrap_i64]; omega
      have hbq : Below w.heap.size w (w1.drewN q) := below_drewN hb1 q
      obtain ⟨Wq, hWq⟩ : ∃ Wq, Wq = w1.drewN q := ⟨_, rfl⟩
      have HWQ : Hid (∀ r, Wq.drewN r = w1.drewN (q + r)) := fun r => by rw [hWq]; simp [World.drewN, Nat.add_assoc]
      rw [← hWq] at hc1 hc2 hbq ⊢
      clear hx hy hWq
      go_wp2
      go_quiet (fail)
      by_cases hxy : x = y
      · have hne : (x != y) = false := by simp [hxy]
        have HJ2 : Hid (∀ k, k < j + 1 → l.getD (m + k) 0 = (low S).getD k 0) := fun k hk => by
          rcases Nat.lt_succ_iff_lt_or_eq.1 hk with g | g
          · exact HJ.out k g
          · rw [g, ← HX.out, ← HY.out, hxy]
        clear hc1 hc2 hw1 hmji hxy
        go_wp2
        go_roundw
        case rel => exact ⟨j + 1, by omega, by go_num, HJ2, q + nq, HWQ.out nq⟩
        case measure => simp [intOf]; omega
      · have hne : (x != y) = true := by simp [hxy]
        have hq : ¬ low S = l.drop m := fun h => hxy (by rw [HX.out, HY.out]; exact HF.out.1 h j hlt)
        have hE := HE.out
        rw [if_neg hq, if_neg hq] at hE
        have HE2 : Hid (oerr l = 21 ∧ oout l = []) := hE
        have hbq2 : Below w.heap.size w (Wq.drewN nq) := below_drewN hbq nq
        clear hc1 hc2 hw1 hmji hxy hE hq
        go_wp2
        go_ret2
        refine ⟨none, 0, by rw [HE2.out.1, HE2.out.2]; rfl, ?_, hbq2⟩
        rw [HE2.out.2]
        exact World.ownsRow_nil _ _ _ _
    · obtain rfl : j = 4 := by omega
      have hq : low S = l.drop m := HF.out.2 HJ.out
      have hE := HE.out
      rw [if_pos hq, if_pos hq] at hE
      have HE2 : Hid (oerr l = 0 ∧ oout l = l.take m) := hE
      obtain ⟨Wq, hWq⟩ : ∃ Wq, Wq = w1.drewN q := ⟨_, rfl⟩
      have hbq : Below w.heap.size w Wq := by rw [hWq]; exact below_drewN hb1 q
      have HAq : Hid (Arg Wq (.slice (some ⟨b, off, none⟩) m cap) (l.take m)) := HA.out.below hbq
      have HM : Hid ((l.take m).length ≤ 140737488355328) := by show _ ≤ _; rw [List.length_take]; omega
      rw [← hWq]
      clear hq hE HE hWq hb1 HC1 HC2
      go_wp2_with fail
      refine (copied_any _ _ Wq HAq.out HM.out).mono ?_
      rintro e w3 ⟨⟨v3, rfl, hown3⟩, hb3⟩
      obtain ⟨a3, c3, rfl⟩ := own_shape hown3
      have hb03 := below_any hbq hb3
      have hown3' := hown3.mono hbq.size
      clear hown3
      go_wp2
      go_ret2
      refine ⟨a3, c3, by rw [HE2.out.1, HE2.out.2, List.length_take]; rfl, ?_, hb03⟩
      rw [HE2.out.2]
      exact hown3'

theorem ropen_any (v : Value) (l : List Int) (w : World) (h : Arg w v l) (hs : l.length ≤ 140737488351232) :
    Calls Tryd.prog 37 #[v] w fun e w' => ∃ a c, e = .returned (.tuple #[.slice a (oout l).length c, .int .i64 (oerr l)]) ∧
      w'.ownsRow w.heap.size 5 1 (.slice a (oout l).length c) (oout l).length ((oout l).map (Value.int .u8)) ∧ Below w.heap.size w w' := by
  by_cases h4 : l.length < 4
  · have e1 : oerr l = 8 := by unfold oerr; rw [if_pos h4]
    have e2 : oout l = [] := by unfold oout; rw [if_pos h4]
    rw [e1, e2]
    refine (ropen_short v l w h h4).mono ?_
    rintro e w' ⟨rfl, rfl⟩
    exact ⟨none, 0, rfl, World.ownsRow_nil _ _ _ _, Below.refl _ _⟩
  · rcases h.split with ⟨rfl, _⟩ | ⟨b, off, cap, rfl, hcap, hm, hat, hr⟩
    · exact absurd (by simp) h4
    · obtain ⟨m, hm4⟩ : ∃ m, l.length = m + 4 := ⟨l.length - 4, by omega⟩
      have := ropen_some b off m cap l hm4 w hs hcap hat hr
      rw [← hm4] at this
      exact this

end Go.Proofs.YtfpllfjdgpcmdaaDoor.C
