/-
  The document's reader: what count and groups make of it.
-/
import Derived.Test.YtfpllfjdgpcmdaaDoorRefRdr
import Derived.Test.YtfpllfjdgpcmdaaDoorOctet
namespace Go.Proofs.YtfpllfjdgpcmdaaDoor
open Go.RowKit

def countR (l : List Int) : Rd Int := (octR l).then fun c r => if 64 < c then .error 3 else .ok (c, r)

set_option maxRecDepth 100000 in
set_option maxHeartbeats 1000000 in
theorem rcount_err (w0 : World) (R : Nat) (l : List Int) (p : Nat) (k : Int) (hk : k ≠ 0) (w : World) (h : RR w0 R l p k w) :
    Calls Tryd.prog 39 #[.pointer (some ⟨R, 0, none⟩), .int .i64 64] w fun e w' => e = .returned (.int .i64 0) ∧ w = w' := by
  have HT := roctet_err w0 R l p k hk w h
  obtain ⟨a, c, hB, _⟩ := h.ex
  obtain ⟨_, _, g2, _⟩ := hB.three
  clear h hB
  go_enter Tryd.func39, Tryd.ntmps39
  go_wp2_with fail
  refine HT.mono ?_
  rintro e w1 ⟨rfl, rfl⟩
  go_wp2
  go_ret
  exact ⟨rfl, rfl⟩

set_option maxRecDepth 100000 in
set_option maxHeartbeats 1000000 in
theorem rcount_any (w0 : World) (R : Nat) (l : List Int) (p : Nat) (w : World) (h : RR w0 R l p 0 w) :
    Calls Tryd.prog 39 #[.pointer (some ⟨R, 0, none⟩), .int .i64 64] w fun e w' => ToldD w0 R l w (fun z => ∃ i, z = .int .i64 i) (fun _ v a => v = .int .i64 a ∧ 0 ≤ a ∧ a ≤ 64) (countR (l.drop p)) e w' := by
  have HT := roctet_any w0 R l p w h
  clear h
  cases hq : l.drop p with
  | nil =>
    rw [hq, show octR [] = .error 8 from rfl] at HT
    rw [show countR [] = .error 8 from rfl]
    clear hq
    go_enter Tryd.func39, Tryd.ntmps39
    go_wp2_with fail
    refine HT.mono ?_
    rintro e w1 ⟨hg, z, p', rfl, rfl, hR⟩
    have HG : Hid (w.grownBy w1 (some R) ∧ RR w0 R l p' 8 w1) := ⟨hg, hR⟩
    obtain ⟨a, c, hB, _⟩ := hR.ex
    obtain ⟨_, _, g2, _⟩ := hB.three
    clear hg HT hR hB
    go_wp2
    go_ret
    exact ⟨HG.out.1, _, p', rfl, ⟨_, rfl⟩, HG.out.2⟩
  | cons x r =>
    rw [hq, show octR (x :: r) = .ok (x, r) from rfl] at HT
    obtain ⟨X, hX⟩ : ∃ X, X = countR (x :: r) := ⟨_, rfl⟩
    rw [← hX]
    have HX0 : Hid (X = if 64 < x then .error 3 else .ok (x, r)) := hX
    clear hq hX
    go_enter Tryd.func39, Tryd.ntmps39
    go_wp2_with fail
    refine HT.mono ?_
    rintro e w1 ⟨hg, v, p', rfl, ⟨rfl, hx⟩, hR, hd⟩
    have HG : Hid (w.grownBy w1 (some R) ∧ RR w0 R l p' 0 w1 ∧ l.drop p' = r) := ⟨hg, hR, hd⟩
    obtain ⟨a, c, hB, hA⟩ := hR.ex
    obtain ⟨_, _, g2, _, _, f2⟩ := hB.three
    by_cases h64 : 64 < x
    · have HX : Hid (X = .error 3) := by show _ = _; rw [HX0.out, if_pos h64]
      have HE : Hid (w.grownBy (w1.setCell ⟨R, 2, none⟩ (.int .i64 3)) (some R) ∧ RR w0 R l p' 3 (w1.setCell ⟨R, 2, none⟩ (.int .i64 3))) :=
        ⟨grown_trans hg (grown_set _ R 2 _), ⟨a, c, hB.set 2 _, hA⟩, hR.old.setCell (p := ⟨R, 2, none⟩) hR.le _, hR.le, hR.at_le⟩
      clear hg HT hR hB hd hA HX0
      go_wp2
      go_ret
      rw [HX.out]
      exact ⟨HE.out.1, _, p', rfl, ⟨_, rfl⟩, HE.out.2⟩
    · have HX : Hid (X = .ok (x, r)) := by show _ = _; rw [HX0.out, if_neg h64]
      clear hg HT hR hB hd hA HX0
      go_wp2
      go_ret
      rw [HX.out]
      exact ⟨HG.out.1, _, p', rfl, ⟨rfl, hx.1, by omega⟩, HG.out.2.1, HG.out.2.2⟩

theorem i64_and_nat (a b : Nat) (ha : a < 65536) (hb : b < 65536) : bits .and .i64 (a : Int) (b : Int) = ((a &&& b : Nat) : Int) := by
  have h : a &&& b < 2 ^ 16 := Nat.and_lt_two_pow _ hb
  show IntKind.i64.wrap ((BitVec.ofInt 64 (a : Int) &&& BitVec.ofInt 64 (b : Int)).toNat : Int) = _
  rw [BitVec.toNat_and, ofInt_u64 a (by omega), ofInt_u64 b (by omega), IntKind.wrap_i64]
  omega
theorem and_127 (c : Int) (h : 0 ≤ c ∧ c ≤ 255) : bits .and .i64 c 127 = ((c.toNat % 128 : Nat) : Int) := by
  have h1 := i64_and_nat c.toNat 127 (by omega) (by decide)
  rw [show (127 : Nat) = 2 ^ 7 - 1 from rfl, Nat.and_two_pow_sub_one_eq_mod, show ((c.toNat : Nat) : Int) = c by omega] at h1
  exact h1

set_option maxRecDepth 100000 in
set_option maxHeartbeats 4000000 in
theorem rdgroups_any (w0 : World) (R : Nat) (l : List Int) (p : Nat) (w : World) (h : RR w0 R l p 0 w) :
    Calls Tryd.prog 40 #[.pointer (some ⟨R, 0, none⟩)] w fun e w' => ToldD w0 R l w (fun z => z = .int .u64 0) (fun _ v a => v = .int .u64 (a : Nat) ∧ a < 18446744073709551616) (grpR 0 0 (l.drop p)) e w' := by
  have HR : Hid (RR w0 R l p 0 w) := h
  obtain ⟨G, hG⟩ : ∃ G, G = grpR 0 0 (l.drop p) := ⟨_, rfl⟩
  have HGR : Hid (G = grpR 0 0 (l.drop p)) := hG
  rw [← hG]
  clear h hG
  go_enter Tryd.func40, Tryd.ntmps40
  go_wp2
  go_loopw [3, 4] (fun m s wr => ∃ (i acc p1 : Nat), i ≤ 9 ∧ s = .int .i64 i ∧ m = .int .u64 acc ∧ acc < 128 ^ i ∧ Hid (G = grpR i acc (l.drop p1) ∧ RR w0 R l p1 0 wr ∧ w.grownBy wr (some R))) (fun _ s _ => 10 - (intOf s).toNat)
  case atStart => exact ⟨0, 0, p, by omega, rfl, rfl, by simp, HGR.out, HR.out, grown_refl _ _⟩
  case round =>
    obtain ⟨i, acc, p1, hi, rfl, rfl, hacc, HK⟩ := hrel
    have HO := roctet_any w0 R l p1 wr HK.out.2.1
    have hii : (i : Int) < 10 := by omega
    cases hq : l.drop p1 with
    | nil =>
      rw [hq, show octR [] = .error 8 from rfl] at HO
      have HGG : Hid (G = .error 8) := by show _ = _; rw [HK.out.1, hq]; rfl
      clear hq
      go_wp2_with fail
      refine HO.mono ?_
      rintro e w1 ⟨hg, z, p2, rfl, rfl, hR⟩
      have HG : Hid (w.grownBy w1 (some R) ∧ RR w0 R l p2 8 w1) := ⟨grown_trans HK.out.2.2 hg, hR⟩
      obtain ⟨a, c, hB, _⟩ := hR.ex
      obtain ⟨_, _, g2, _⟩ := hB.three
      clear hg HO hR hB
      go_wp2
      go_ret
      rw [HGG.out]
      exact ⟨HG.out.1, _, p2, rfl, rfl, HG.out.2⟩
    | cons c r =>
      rw [hq, show octR (c :: r) = .ok (c, r) from rfl] at HO
      have HE := HK.out.1
      rw [hq, grpR_cons] at HE
      have HEH : Hid (G = if i = 9 ∧ 1 < c then .error 4 else if c = 0 ∧ 0 < i then .error 4 else if 128 ≤ c then grpR (i + 1) (acc + (c.toNat % 128) * 128 ^ i) r else .ok ((acc + c.toNat * 128 ^ i), r)) := HE
      clear HE hq
      go_wp2_with fail
      refine HO.mono ?_
      rintro e w1 ⟨hg, v, p2, rfl, ⟨rfl, hc⟩, hR, hd⟩
      have HG : Hid (w.grownBy w1 (some R) ∧ RR w0 R l p2 0 w1 ∧ l.drop p2 = r) := ⟨grown_trans HK.out.2.2 hg, hR, hd⟩
      obtain ⟨a, cc, hB, hA⟩ := hR.ex
      obtain ⟨_, _, g2, _, _, f2⟩ := hB.three
      have HE4 : Hid (w.grownBy (w1.setCell ⟨R, 2, none⟩ (.int .i64 4)) (some R) ∧ RR w0 R l p2 4 (w1.setCell ⟨R, 2, none⟩ (.int .i64 4))) :=
        ⟨grown_trans HG.out.1 (grown_set _ R 2 _), ⟨a, cc, hB.set 2 _, hA⟩, hR.old.setCell (p := ⟨R, 2, none⟩) hR.le _, hR.le, hR.at_le⟩
      clear hg HO hR HK hB hA hd
      by_cases h9 : i = 9 ∧ 1 < c
      · have HGG : Hid (G = .error 4) := by show _ = _; rw [HEH.out, if_pos h9]
        obtain ⟨rfl, h91⟩ := h9
        clear HEH
        go_wp2
        go_ret
        rw [HGG.out]
        exact ⟨HE4.out.1, _, p2, rfl, rfl, HE4.out.2⟩
      by_cases hz : c = 0 ∧ 0 < i
      · have HGG : Hid (G = .error 4) := by show _ = _; rw [HEH.out, if_neg h9, if_pos hz]
        obtain ⟨rfl, hi0⟩ := hz
        have hi1 : (0 : Int) < (i : Int) := by omega
        clear HEH h9
        by_cases hi9 : (i : Int) = 9
        · go_wp2
          go_ret
          rw [HGG.out]
          exact ⟨HE4.out.1, _, p2, rfl, rfl, HE4.out.2⟩
        · go_wp2
          go_ret
          rw [HGG.out]
          exact ⟨HE4.out.1, _, p2, rfl, rfl, HE4.out.2⟩
      have ha := and_127 c hc
      obtain ⟨x, hx⟩ : ∃ x, x = c.toNat % 128 := ⟨_, rfl⟩
      rw [← hx] at ha
      have h9x : i = 9 → x ≤ 1 := fun e => by
        have : ¬ 1 < c := fun h => h9 ⟨e, h⟩
        omega
      have hrm := room acc x i hacc (by omega) hi h9x
      have hor := or_val acc x i hacc hrm.1
      obtain ⟨acc2, hacc2⟩ : ∃ y, y = acc + x * 128 ^ i := ⟨_, rfl⟩
      rw [← hacc2] at hor hrm
      have HOR : Hid (bits .or .u64 (acc : Int) (IntKind.u64.wrap ((x : Int) * 2 ^ (7 * i))) = (acc2 : Int) ∧ acc2 < 18446744073709551616 ∧ acc2 < 128 ^ (i + 1)) := ⟨hor, hrm⟩
      have HEH2 : Hid (G = if 128 ≤ c then grpR (i + 1) acc2 r else .ok (acc2, r)) := by
        show _ = _
        rw [HEH.out, if_neg h9, if_neg hz, hacc2, hx]
        by_cases hm : 128 ≤ c
        · rw [if_pos hm, if_pos hm]
        · rw [if_neg hm, if_neg hm, show c.toNat % 128 = c.toNat by omega]
      have hx7 : x < 128 := by omega
      have hc9 : (i : Int) = 9 → ¬ 1 < c := fun e h => h9 ⟨by omega, h⟩
      have hcz : c = 0 → ¬ (0 : Int) < (i : Int) := fun e h => hz ⟨e, by omega⟩
      clear HEH h9 h9x hrm hor hacc2 hx hacc hz
      by_cases hm : 128 ≤ c
      · have hi9 : ¬ (i : Int) = 9 := fun e => hc9 e (by omega)
        have hc0 : ¬ c = 0 := by omega
        have hlt : ¬ c < 128 := by omega
        have HGG : Hid (G = grpR (i + 1) acc2 r) := by
          show _ = _
          rw [HEH2.out, if_pos hm]
        clear HEH2 hc9 hcz
        go_wp2
        refine ⟨⟨i + 1, acc2, p2, by omega, by go_num, ?_, HOR.out.2.2, by rw [HG.out.2.2]; exact HGG.out, HG.out.2.1, HG.out.1⟩, by simp [intOf]; omega⟩
        exact congrArg (Value.int .u64) HOR.out.1
      · have hlt : c < 128 := by omega
        have HGG : Hid (G = .ok (acc2, r)) := by
          show _ = _
          rw [HEH2.out, if_neg hm]
        clear HEH2
        by_cases hi0 : i = 0
        · subst hi0
          have HOR2 : Hid (bits .or .u64 (acc : Int) (x : Int) = (acc2 : Int)) := by
            show _ = _
            have h1 := HOR.out.1
            have e : IntKind.u64.wrap ((x : Int) * 2 ^ (7 * 0)) = (x : Int) := by
              rw [IntKind.wrap_u64, Nat.mul_zero, Int.pow_zero, Int.mul_one]
              omega
            rwa [e] at h1
          clear hc9 hcz
          by_cases hc0 : c = 0
          · subst hc0
            go_wp2
            go_ret
            rw [HGG.out]
            exact ⟨HG.out.1, _, p2, rfl, ⟨congrArg (Value.int .u64) HOR2.out, HOR.out.2.1⟩, HG.out.2.1, HG.out.2.2⟩
          · go_wp2
            go_ret
            rw [HGG.out]
            exact ⟨HG.out.1, _, p2, rfl, ⟨congrArg (Value.int .u64) HOR2.out, HOR.out.2.1⟩, HG.out.2.1, HG.out.2.2⟩
        · have hi1 : (0 : Int) < (i : Int) := by omega
          have hc0 : ¬ c = 0 := fun e => hcz e hi1
          by_cases hi9 : (i : Int) = 9
          · have hc1 := hc9 hi9
            obtain rfl : i = 9 := by omega
            have HOR2 : Hid (bits .or .u64 (acc : Int) (IntKind.u64.wrap ((x : Int) * 9223372036854775808)) = (acc2 : Int)) := by
              show _ = _
              have h1 := HOR.out.1
              have e : (2 : Int) ^ (7 * 9) = 9223372036854775808 := by decide
              rwa [e] at h1
            clear hc9 hcz hi9
            go_wp2
            go_ret
            rw [HGG.out]
            exact ⟨HG.out.1, _, p2, rfl, ⟨congrArg (Value.int .u64) HOR2.out, HOR.out.2.1⟩, HG.out.2.1, HG.out.2.2⟩
          · clear hc9 hcz
            go_wp2
            go_ret
            rw [HGG.out]
            exact ⟨HG.out.1, _, p2, rfl, ⟨congrArg (Value.int .u64) HOR.out.1, HOR.out.2.1⟩, HG.out.2.1, HG.out.2.2⟩

end Go.Proofs.YtfpllfjdgpcmdaaDoor
