import Derived.Test.YthlfgpnabcplnaaGreatDoorTe22
import Derived.Test.YthlfgpnabcplnaaGreatDoorTe23
import Derived.Test.YthlfgpnabcplnaaGreatDoorTe15
/-
  The reader: what take, octet, groups and number make of it.
-/
namespace Go.Proofs.YthlfgpnabcplnaaGreatDoor.W
open Go.RowKit

/-- A fault as an error. -/
abbrev faultW (k : Int) : Value := .iface 152 (.agg #[.int .i64 k])

/-- A reader's variable, and the octets that it has left: they lay there ahead of the variable. -/
structure Rdr (w0 : World) (R : Nat) (l : List Int) (w : World) : Prop where
  ex : ∃ a c, Box w R 138 #[.slice a l.length c] ∧ Arg 0 w0 (.slice a l.length c) l
  old : Below w0.heap.size w0 w
  le : w0.heap.size ≤ R

theorem Rdr.oct {w0 : World} {R : Nat} {l : List Int} {w : World} (h : Rdr w0 R l w) : Oc l := by
  obtain ⟨a, c, _, hA⟩ := h.ex
  exact hA.oct
theorem Rdr.lt {w0 : World} {R : Nat} {l : List Int} {w : World} (h : Rdr w0 R l w) : R < w.heap.size := by
  obtain ⟨a, c, hB, _⟩ := h.ex
  exact hB.lt
theorem Rdr.below {w0 : World} {R n : Nat} {l : List Int} {w w' : World} (h : Rdr w0 R l w) (hb : Below n w w') (hn : R < n) : Rdr w0 R l w' := by
  obtain ⟨a, c, hB, hA⟩ := h.ex
  exact ⟨⟨a, c, hB.below hb hn, hA⟩, h.old.trans (hb.mono (by have := h.le; omega)), h.le⟩

theorem grown_refl (w : World) (r : Option Nat) : w.grownBy w r := ⟨rfl, rfl, rfl, Nat.le_refl _, fun _ _ _ => rfl⟩
theorem grown_trans {a b c : World} {r : Option Nat} (h : a.grownBy b r) (k : b.grownBy c r) : a.grownBy c r := h.trans k
theorem grown_below {w w' : World} {r : Option Nat} (h : Below w.heap.size w w') : w.grownBy w' r := ⟨h.os, h.tape, h.output, h.size, fun k hk _ => h.block k hk⟩
theorem below_grown {w a b : World} {R n : Nat} (h : Below n w a) (hR : n ≤ R) (hn : n ≤ a.heap.size) (k : a.grownBy b (some R)) : Below n w b := h.grown k hn (fun j hj => by cases hj; exact hR)

/-- What a reader's call makes: the error's number, or what was read and what is left. -/
def Told {α : Type} (w0 : World) (R : Nat) (w : World) (z : Value) (P : World → Value → α → Prop) (x : Rd α) (e : Ending) (w' : World) : Prop :=
  w.grownBy w' (some R) ∧ match x with
    | .error k => e = .returned (.tuple #[z, faultW k])
    | .ok (a, l) => ∃ v, e = .returned (.tuple #[v, .nilIface]) ∧ P w' v a ∧ Rdr w0 R l w'

theorem Arg.parts {n0 : Nat} {w : World} {v : Value} {l : List Int} (h : Arg n0 w v l) (j : Nat) (hj : j ≤ l.length) :
    ∃ a1 c1 a2 c2, Arg 0 w (.slice a1 j c1) (l.take j) ∧ Arg 0 w (.slice a2 (l.length - j) c2) (l.drop j) ∧
      (∀ W, (Instr.slice 22 v none (some (.int .i64 j)) none).run Tryz.prog W = .ok (.slice a1 j c1) W) ∧
      (∀ W, (Instr.slice 22 v (some (.int .i64 j)) none none).run Tryz.prog W = .ok (.slice a2 (l.length - j) c2) W) := by
  obtain ⟨v1, h1, e1⟩ := h.toC.ahead j hj
  obtain ⟨v2, h2, e2⟩ := h.toC.behind j hj
  obtain ⟨a1, c1, rfl, _⟩ := h1.shape
  obtain ⟨a2, c2, rfl, _⟩ := h2.shape
  have l1 : (l.take j).length = j := by rw [List.length_take]; omega
  have l2 : (l.drop j).length = l.length - j := List.length_drop
  rw [l1] at h1 e1
  rw [l2] at h2 e2
  exact ⟨a1, c1, a2, c2, .ofC h1, .ofC h2, e1, e2⟩

theorem grown_append {w a b : World} {R : Nat} (h : w.grownBy a (some R)) (k : Below w.heap.size a b) : w.grownBy b (some R) :=
  ⟨k.os.trans h.os, k.tape.trans h.tape, k.output.trans h.output, Nat.le_trans h.size k.size, fun j hj hr => (k.block j hj).trans (h.block j hj hr)⟩

set_option maxRecDepth 100000 in
set_option maxHeartbeats 1000000 in
theorem take_any (w0 : World) (R : Nat) (l : List Int) (n : Nat) (w : World) (h : Rdr w0 R l w) :
    Calls Tryz.prog 105 #[.pointer (some ⟨R, 0, none⟩), .int .i64 n] w fun e w' => Told w0 R w (.slice none 0 0) (fun w v a => Arg 0 w v a) (takeR n l) e w' := by
  obtain ⟨a, c, hB, hA⟩ := h.ex
  have hlen := fun W => run_len Tryz.underlying22 a l.length c W
  by_cases hlt : l.length < n
  · have ht : takeR n l = .error 8 := by unfold takeR; rw [if_pos hlt]
    rw [ht]
    have g0 := hB.cell 0 (u := .slice a l.length c) rfl
    obtain ⟨m, hm⟩ : ∃ m, m = l.length := ⟨_, rfl⟩
    rw [← hm] at g0 hlen hlt
    have hlti : (m : Int) < (n : Int) := by omega
    clear h hB hA ht hm hlt
    go_enter Tryz.func105, Tryz.ntmps105
    go_wp2
    go_ret2
    exact ⟨grown_refl _ _, rfl⟩
  · have ht : takeR n l = .ok ((l.take n), (l.drop n)) := by unfold takeR; rw [if_neg hlt]
    obtain ⟨a1, c1, a2, c2, hA1, hA2, hs1, hs2⟩ := hA.parts n (by omega)
    obtain ⟨v, hv⟩ : ∃ v, v = Value.slice a l.length c := ⟨_, rfl⟩
    rw [ht]
    have hlm := hA.shape
    obtain ⟨_, _, _, _, hmx, _⟩ := hlm
    unfold maxLen at hmx
    rw [← hv] at hB hs1 hs2 hlen
    have HG : Hid (w.grownBy (w.setCell ⟨R, 0, none⟩ (.slice a2 (l.length - n) c2)) (some R)) := grown_set w R 0 _
    have HE : Hid (Arg 0 (w.setCell ⟨R, 0, none⟩ (.slice a2 (l.length - n) c2)) (.slice a1 n c1) (l.take n) ∧ Rdr w0 R (l.drop n) (w.setCell ⟨R, 0, none⟩ (.slice a2 (l.length - n) c2))) := by
      have hb : Below w0.heap.size w0 (w.setCell ⟨R, 0, none⟩ (.slice a2 (l.length - n) c2)) := h.old.setCell (p := ⟨R, 0, none⟩) h.le _
      refine ⟨hA1.below hb, ⟨⟨a2, c2, ?_, ?_⟩, hb, h.le⟩⟩
      · rw [List.length_drop]
        exact hB.set 0 _
      · rw [List.length_drop]
        exact hA2
    have g0 := hB.cell 0 (u := v) rfl
    have f0 := hB.frozen 0
    obtain ⟨m, hm⟩ : ∃ m, m = l.length := ⟨_, rfl⟩
    rw [← hm] at hlen hlt HG HE hs2 hmx
    have hlti : ¬ (m : Int) < (n : Int) := by omega
    obtain ⟨q, hq⟩ : ∃ q, q = m - n := ⟨_, rfl⟩
    rw [← hq] at HG HE hs2
    clear h hB hA ht hv hm hA1 hA2 hq
    go_enter Tryz.func105, Tryz.ntmps105
    go_wp2
    go_ret2
    exact ⟨HG.out, _, rfl, HE.out⟩

end Go.Proofs.YthlfgpnabcplnaaGreatDoor.W

/-
  What octet and groups make of a reader.
-/
namespace Go.Proofs.YthlfgpnabcplnaaGreatDoor.W
open Go.RowKit

set_option maxRecDepth 100000 in
set_option maxHeartbeats 1000000 in
theorem octet_any (w0 : World) (R : Nat) (l : List Int) (w : World) (h : Rdr w0 R l w) :
    Calls Tryz.prog 98 #[.pointer (some ⟨R, 0, none⟩)] w fun e w' => Told w0 R w (.int .u8 0) (fun _ v a => v = .int .u8 a ∧ 0 ≤ a ∧ a ≤ 255) (octR l) e w' := by
  have HT := take_any w0 R l 1 w h
  have HO : Hid (Oc l) := h.oct
  clear h
  cases l with
  | nil =>
    rw [show takeR 1 [] = .error 8 from rfl] at HT
    go_enter Tryz.func98, Tryz.ntmps98
    go_wp2_with fail
    refine HT.mono ?_
    rintro e w1 ⟨hg, rfl⟩
    have HG : Hid (w.grownBy w1 (some R)) := hg
    clear hg HT
    go_wp2
    go_ret2
    exact ⟨HG.out, rfl⟩
  | cons c r =>
    rw [show takeR 1 (c :: r) = .ok ([c], r) from rfl] at HT
    have hc := (oc_cons.1 HO.out).1
    go_enter Tryz.func98, Tryz.ntmps98
    go_wp2_with fail
    refine HT.mono ?_
    rintro e w1 ⟨hg, v, rfl, hA, hR⟩
    have HG : Hid (w.grownBy w1 (some R) ∧ Rdr w0 R r w1) := ⟨hg, hR⟩
    rcases hA.split with ⟨h0, _⟩ | ⟨b, off, cap, rfl, _, _, _, hcell⟩
    · cases h0
    have g0 : w1.cell? ⟨b, off, none⟩ = some (.int .u8 c) := hcell 0 (by simp)
    clear hg HT hA hcell hR
    simp only [List.length_singleton]
    go_wp2
    go_ret2
    exact ⟨HG.out.1, _, rfl, ⟨rfl, hc⟩, HG.out.2⟩

theorem and_not : ∀ x : Fin 256, bits .andNot .u8 (x.val : Int) 128 = ((x.val % 128 : Nat) : Int) := by decide +kernel
theorem and_not' (c : Int) (h : 0 ≤ c ∧ c ≤ 255) : bits .andNot .u8 c 128 = ((c.toNat % 128 : Nat) : Int) := by
  have := and_not ⟨c.toNat, by omega⟩
  simp only at this
  rwa [show ((c.toNat : Nat) : Int) = c by omega] at this

theorem or_add (acc x i : Nat) (h : acc < 128 ^ i) : acc ||| (x * 128 ^ i) = acc + x * 128 ^ i := by
  have e : (128 : Nat) ^ i = 2 ^ (7 * i) := by rw [Nat.pow_mul]
  rw [e] at h ⊢
  rw [Nat.or_comm, Nat.mul_comm x, ← Nat.two_pow_add_eq_or_of_lt h, Nat.add_comm]

theorem or_val (acc x i : Nat) (hacc : acc < 128 ^ i) (hi : acc + x * 128 ^ i < 18446744073709551616) : bits .or .u64 (acc : Int) (IntKind.u64.wrap ((x : Int) * 2 ^ (7 * i))) = ((acc + x * 128 ^ i : Nat) : Int) := by
  have e : (x : Int) * 2 ^ (7 * i) = ((x * 128 ^ i : Nat) : Int) := by
    rw [show (128 : Nat) ^ i = 2 ^ (7 * i) by rw [Nat.pow_mul]]
    push_cast
    rfl
  have e2 : IntKind.u64.wrap ((x * 128 ^ i : Nat) : Int) = ((x * 128 ^ i : Nat) : Int) := by
    rw [IntKind.wrap_u64]
    omega
  rw [e, e2, u64_or_nat _ _ (by omega) (by omega), or_add acc x i hacc]

theorem room (acc x i : Nat) (hacc : acc < 128 ^ i) (hx : x < 128) (hi : i ≤ 9) (h9 : i = 9 → x ≤ 1) : acc + x * 128 ^ i < 18446744073709551616 ∧ acc + x * 128 ^ i < 128 ^ (i + 1) := by
  have h2 : acc + x * 128 ^ i < 128 ^ (i + 1) := by
    rw [Nat.pow_succ]
    have : x * 128 ^ i + 128 ^ i ≤ 128 ^ i * 128 := by
      rw [Nat.mul_comm (128 ^ i), ← Nat.succ_mul]
      exact Nat.mul_le_mul_right _ hx
    omega
  refine ⟨?_, h2⟩
  by_cases e : i = 9
  · subst e
    have := h9 rfl
    have h3 : x * 128 ^ 9 ≤ 1 * 128 ^ 9 := Nat.mul_le_mul_right _ this
    omega
  · have h3 : (128 : Nat) ^ (i + 1) ≤ 128 ^ 9 := Nat.pow_le_pow_right (by omega) (by omega)
    omega

set_option maxRecDepth 100000 in
set_option maxHeartbeats 4000000 in
theorem groups_any (w0 : World) (R : Nat) (l : List Int) (w : World) (h : Rdr w0 R l w) :
    Calls Tryz.prog 106 #[.pointer (some ⟨R, 0, none⟩)] w fun e w' => Told w0 R w (.int .u64 0) (fun _ v a => v = .int .u64 (a : Nat) ∧ a < 18446744073709551616) (grpR 0 0 l) e w' := by
  have HR : Hid (Rdr w0 R l w) := h
  obtain ⟨G, hG⟩ : ∃ G, G = grpR 0 0 l := ⟨_, rfl⟩
  have HGR : Hid (G = grpR 0 0 l) := hG
  rw [← hG]
  clear h hG
  go_enter Tryz.func106, Tryz.ntmps106
  go_wp2
  go_loopw [4, 5] (fun m s wr => ∃ (i acc : Nat) (q : List Int), i ≤ 9 ∧ s = .int .i64 ((7 * i : Nat) : Int) ∧ m = .int .u64 acc ∧ acc < 128 ^ i ∧ Hid (G = grpR i acc q ∧ Rdr w0 R q wr ∧ w.grownBy wr (some R))) (fun _ s _ => 63 - (intOf s).toNat)
  case atStart => exact ⟨0, 0, l, by omega, rfl, rfl, by simp, HGR.out, HR.out, grown_refl _ _⟩
  case round =>
    obtain ⟨i, acc, q, hi, rfl, rfl, hacc, HK⟩ := hrel
    have HO := octet_any w0 R q wr HK.out.2.1
    cases q with
    | nil =>
      rw [show octR [] = .error 8 from rfl] at HO
      have HGG : Hid (G = .error 8) := HK.out.1
      go_wp2_with fail
      refine HO.mono ?_
      rintro e w1 ⟨hg, rfl⟩
      have HG : Hid (w.grownBy w1 (some R)) := grown_trans HK.out.2.2 hg
      clear hg HO
      go_wp2
      go_ret2
      rw [HGG.out]
      exact ⟨HG.out, rfl⟩
    | cons c r =>
      rw [show octR (c :: r) = .ok (c, r) from rfl] at HO
      have HE := HK.out.1
      rw [grpR_cons] at HE
      have HEH : Hid (G = if i = 9 ∧ 1 < c then .error 4 else if c = 0 ∧ 0 < i then .error 4 else if 128 ≤ c then grpR (i + 1) (acc + (c.toNat % 128) * 128 ^ i) r else .ok ((acc + c.toNat * 128 ^ i), r)) := HE
      clear HE
      go_wp2_with fail
      refine HO.mono ?_
      rintro e w1 ⟨hg, v, rfl, ⟨rfl, hc⟩, hR⟩
      have HG : Hid (w.grownBy w1 (some R) ∧ Rdr w0 R r w1) := ⟨grown_trans HK.out.2.2 hg, hR⟩
      clear hg HO hR HK
      by_cases h9 : i = 9 ∧ 1 < c
      · have HGG : Hid (G = .error 4) := by show _ = _; rw [HEH.out, if_pos h9]
        obtain ⟨rfl, h91⟩ := h9
        clear HEH
        go_wp2
        go_ret2
        rw [HGG.out]
        exact ⟨HG.out.1, rfl⟩
      have ha := and_not' c hc
      obtain ⟨x, hx⟩ : ∃ x, x = c.toNat % 128 := ⟨_, rfl⟩
      rw [← hx] at ha
      have h9x : i = 9 → x ≤ 1 := fun e => by
        have : ¬ 1 < c := fun h => h9 ⟨e, h⟩
        omega
      have hrm := room acc x i hacc (by omega) hi h9x
      have hor := or_val acc x i hacc hrm.1
      obtain ⟨acc2, hacc2⟩ : ∃ y, y = acc + x * 128 ^ i := ⟨_, rfl⟩
      rw [← hacc2] at hor hrm
      have HOR : Hid (bits .or .u64 (acc : Int) (IntKind.u64.wrap ((x : Int) * 2 ^ (7 * i))) = (acc2 : Int) ∧ acc2 < 18446744073709551616 ∧ acc2 < 128 ^ (i + 1)) := ⟨hor, hrm⟩
      have HEH2 : Hid (G = if c = 0 ∧ 0 < i then .error 4 else if 128 ≤ c then grpR (i + 1) acc2 r else .ok (acc2, r)) := by
        show _ = _
        rw [HEH.out, if_neg h9, hacc2, hx]
        by_cases hm : 128 ≤ c
        · rw [if_pos hm, if_pos hm]
        · rw [if_neg hm, if_neg hm, show c.toNat % 128 = c.toNat by omega]
      have hcond : ((7 * i : Nat) : Int) = 63 → ¬ 1 < c := fun e h => h9 ⟨by omega, h⟩
      have hx7 : x < 128 := by omega
      clear HEH h9 h9x hrm hor hacc2 hx hacc
      by_cases hm : 128 ≤ c
      · have hi9 : ¬ ((7 * i : Nat) : Int) = 63 := fun e => hcond e (by omega)
        have HGG : Hid (G = grpR (i + 1) acc2 r) := by
          show _ = _
          rw [HEH2.out, if_neg (by omega), if_pos hm]
        clear HEH2 hcond
        go_wp2
        refine ⟨⟨i + 1, acc2, r, by omega, by go_num, ?_, HOR.out.2.2, HGG.out, HG.out.2, HG.out.1⟩, by simp [intOf]; omega⟩
        exact congrArg (Value.int .u64) HOR.out.1
      · by_cases hz : c = 0
        · subst hz
          by_cases hi0 : i = 0
          · subst hi0
            have HGG : Hid (G = .ok (acc2, r)) := by
              show _ = _
              rw [HEH2.out, if_neg (by omega), if_neg (by omega)]
            have HOR2 : Hid (bits .or .u64 (acc : Int) (x : Int) = (acc2 : Int)) := by
              show _ = _
              have h1 := HOR.out.1
              have e : IntKind.u64.wrap ((x : Int) * 2 ^ (7 * 0)) = (x : Int) := by
                rw [IntKind.wrap_u64, Nat.mul_zero, Int.pow_zero, Int.mul_one]
                omega
              rwa [e] at h1
            clear HEH2 hcond
            go_wp2
            go_ret2
            rw [HGG.out]
            exact ⟨HG.out.1, _, rfl, ⟨congrArg (Value.int .u64) HOR2.out, HOR.out.2.1⟩, HG.out.2⟩
          · have HGG : Hid (G = .error 4) := by
              show _ = _
              rw [HEH2.out, if_pos ⟨rfl, by omega⟩]
            have hi1 : (0 : Int) < ((7 * i : Nat) : Int) := by omega
            clear HEH2 hcond
            by_cases h63 : ((7 * i : Nat) : Int) = 63
            · go_wp2
              go_ret2
              rw [HGG.out]
              exact ⟨HG.out.1, rfl⟩
            · go_wp2
              go_ret2
              rw [HGG.out]
              exact ⟨HG.out.1, rfl⟩
        · have HGG : Hid (G = .ok (acc2, r)) := by
            show _ = _
            rw [HEH2.out, if_neg (fun h => hz h.1), if_neg hm]
          by_cases hi9 : ((7 * i : Nat) : Int) = 63
          · have hc1 := hcond hi9
            obtain rfl : i = 9 := by omega
            have HOR2 : Hid (bits .or .u64 (acc : Int) (IntKind.u64.wrap ((x : Int) * 9223372036854775808)) = (acc2 : Int)) := by
              show _ = _
              have h1 := HOR.out.1
              have e : (2 : Int) ^ (7 * 9) = 9223372036854775808 := by decide
              rwa [e] at h1
            clear HEH2 hcond hi9
            go_wp2
            go_ret2
            rw [HGG.out]
            exact ⟨HG.out.1, _, rfl, ⟨congrArg (Value.int .u64) HOR2.out, HOR.out.2.1⟩, HG.out.2⟩
          · clear HEH2 hcond
            go_wp2
            go_ret2
            rw [HGG.out]
            exact ⟨HG.out.1, _, rfl, ⟨congrArg (Value.int .u64) HOR.out.1, HOR.out.2.1⟩, HG.out.2⟩

set_option maxHeartbeats 1000000 in
theorem number_any (w0 : World) (R : Nat) (l : List Int) (w : World) (h : Rdr w0 R l w) :
    Calls Tryz.prog 100 #[.pointer (some ⟨R, 0, none⟩)] w fun e w' => Told w0 R w (.int .i64 0) (fun _ v a => v = .int .i64 a ∧ I64 a) (numR l) e w' := by
  have HT := groups_any w0 R l w h
  have hN : numR l = (grpR 0 0 l).map unfold := rfl
  rw [hN]
  clear h hN
  cases hg : grpR 0 0 l with
  | error k =>
    rw [hg] at HT
    have HU := fun w => unfolded_any 0 (by decide) w
    rw [show unfold 0 = 0 from rfl] at HU
    clear hg
    go_enter Tryz.func100, Tryz.ntmps100
    go_wp2_with fail
    refine HT.mono ?_
    rintro e w1 ⟨hgr, rfl⟩
    have HG : Hid (w.grownBy w1 (some R)) := hgr
    clear hgr HT
    go_wp2_with fail
    refine (HU w1).mono ?_
    rintro e w2 ⟨rfl, rfl⟩
    clear HU
    go_wp2
    go_ret2
    exact ⟨HG.out, rfl⟩
  | ok pp =>
    obtain ⟨m, r⟩ := pp
    rw [hg] at HT
    clear hg
    go_enter Tryz.func100, Tryz.ntmps100
    go_wp2_with fail
    refine HT.mono ?_
    rintro e w1 ⟨hgr, v, rfl, ⟨rfl, hm⟩, hR⟩
    have HG : Hid (w.grownBy w1 (some R) ∧ Rdr w0 R r w1) := ⟨hgr, hR⟩
    have HU := unfolded_any m hm w1
    have HI : Hid (I64 (unfold m)) := unfold_in m hm
    obtain ⟨u, hu⟩ : ∃ u, u = unfold m := ⟨_, rfl⟩
    have HUU : Hid (u = unfold m) := hu
    rw [← hu] at HU HI
    clear hgr HT hR hu
    go_wp2_with fail
    refine HU.mono ?_
    rintro e w2 ⟨rfl, rfl⟩
    clear HU
    go_wp2
    go_ret2
    refine ⟨HG.out.1, _, rfl, ⟨?_, ?_⟩, HG.out.2⟩
    · exact congrArg (Value.int .i64) HUU.out
    · rw [← HUU.out]; exact HI.out

end Go.Proofs.YthlfgpnabcplnaaGreatDoor.W

/-
  The document's reader: what take and octet make of it.
-/
namespace Go.Proofs.YthlfgpnabcplnaaGreatDoor.W
open Go.RowKit

/-- The document's reader's variable: the octets, all of them, how many were read, and the error. -/
structure RR (w0 : World) (R : Nat) (l : List Int) (p : Nat) (k : Int) (w : World) : Prop where
  ex : ∃ a c, Box w R 117 #[.slice a l.length c, .int .i64 p, .int .i64 k] ∧ Arg 0 w0 (.slice a l.length c) l
  old : Below w0.heap.size w0 w
  le : w0.heap.size ≤ R
  at_le : p ≤ l.length

theorem RR.lt {w0 : World} {R : Nat} {l : List Int} {p : Nat} {k : Int} {w : World} (h : RR w0 R l p k w) : R < w.heap.size := by
  obtain ⟨a, c, hB, _⟩ := h.ex
  exact hB.lt
theorem RR.below {w0 : World} {R n : Nat} {l : List Int} {p : Nat} {k : Int} {w w' : World} (h : RR w0 R l p k w) (hb : Below n w w') (hn : R < n) : RR w0 R l p k w' := by
  obtain ⟨a, c, hB, hA⟩ := h.ex
  exact ⟨⟨a, c, hB.below hb hn, hA⟩, h.old.trans (hb.mono (by have := h.le; omega)), h.le, h.at_le⟩
theorem RR.oct {w0 : World} {R : Nat} {l : List Int} {p : Nat} {k : Int} {w : World} (h : RR w0 R l p k w) : Oc l := by
  obtain ⟨a, c, _, hA⟩ := h.ex
  exact hA.oct
theorem RR.drewN {w0 : World} {R : Nat} {l : List Int} {p : Nat} {k : Int} {w : World} (h : RR w0 R l p k w) (q : Nat) : RR w0 R l p k (w.drewN q) := h.below (below_drewN (Below.refl _ _) q) h.lt

/-- What a call of the document's reader makes, where no error was there. -/
def ToldD {α : Type} (w0 : World) (R : Nat) (l : List Int) (w : World) (Z : Value → Prop) (P : World → Value → α → Prop) (x : Rd α) (e : Ending) (w' : World) : Prop :=
  w.grownBy w' (some R) ∧ match x with
    | .error k => ∃ z p, e = .returned z ∧ Z z ∧ RR w0 R l p k w'
    | .ok (a, q) => ∃ v p, e = .returned v ∧ P w' v a ∧ RR w0 R l p 0 w' ∧ l.drop p = q

set_option maxRecDepth 100000 in
set_option maxHeartbeats 1000000 in
theorem rtake_err (w0 : World) (R : Nat) (l : List Int) (p : Nat) (k n : Int) (hk : k ≠ 0) (w : World) (h : RR w0 R l p k w) :
    Calls Tryz.prog 77 #[.pointer (some ⟨R, 0, none⟩), .int .i64 n] w fun e w' => e = .returned (.slice none 0 0) ∧ w = w' := by
  obtain ⟨a, c, hB, _⟩ := h.ex
  obtain ⟨_, _, g2, _⟩ := hB.three
  clear h hB
  go_enter Tryz.func77, Tryz.ntmps77
  go_wp2
  go_ret
  exact ⟨rfl, rfl⟩

set_option maxRecDepth 100000 in
set_option maxHeartbeats 2000000 in
theorem rtake_any (w0 : World) (R : Nat) (l : List Int) (p n : Nat) (hn : n ≤ 100000) (w : World) (h : RR w0 R l p 0 w) :
    Calls Tryz.prog 77 #[.pointer (some ⟨R, 0, none⟩), .int .i64 n] w fun e w' => ToldD w0 R l w (fun z => z = .slice none 0 0) (fun w v a => Arg 0 w v a) (takeR n (l.drop p)) e w' := by
  obtain ⟨a, c, hB, hA⟩ := h.ex
  have hple := h.at_le
  have HR : Hid (RR w0 R l p 0 w) := h
  have HB : Hid (Box w R 117 #[.slice a l.length c, .int .i64 p, .int .i64 0]) := hB
  have hlen := fun W => run_len Tryz.underlying22 a l.length c W
  obtain ⟨_, _, _, _, hmx, _⟩ := hA.shape
  unfold maxLen at hmx
  obtain ⟨g0, g1, g2, f0, f1, f2⟩ := hB.three
  by_cases hlt : (l.drop p).length < n
  · have ht : takeR n (l.drop p) = .error 8 := by unfold takeR; rw [if_pos hlt]
    rw [ht]
    rw [List.length_drop] at hlt
    obtain ⟨m, hm⟩ : ∃ m, m = l.length := ⟨_, rfl⟩
    rw [← hm] at g0 hlen hlt hple hmx
    have hlti : (m : Int) - (p : Int) < (n : Int) := by omega
    have hpi : (p : Int) ≤ (m : Int) := by omega
    have HE : Hid (∀ q, RR w0 R l p 8 ((w.drewN q).setCell ⟨R, 2, none⟩ (.int .i64 8)) ∧ w.grownBy ((w.drewN q).setCell ⟨R, 2, none⟩ (.int .i64 8)) (some R)) := fun q => by
      have hbq : Below w.heap.size w (w.drewN q) := below_drewN (Below.refl _ _) q
      refine ⟨⟨⟨a, c, (HB.out.below hbq HB.out.lt).set 2 _, hA⟩, (HR.out.old.trans (hbq.mono (by have := HR.out.le; have := HB.out.lt; omega))).setCell (p := ⟨R, 2, none⟩) HR.out.le _, HR.out.le, HR.out.at_le⟩, ?_⟩
      exact grown_trans (grown_below hbq) (grown_set _ R 2 _)
    clear h hB hA ht hm hlt
    go_enter Tryz.func77, Tryz.ntmps77
    go_wp2
    go_quiet (fail)
    go_wp2
    go_ret
    exact ⟨(HE.out _).2, _, p, rfl, rfl, (HE.out _).1⟩
  · have ht : takeR n (l.drop p) = .ok (((l.drop p).take n), ((l.drop p).drop n)) := by unfold takeR; rw [if_neg hlt]
    rw [ht]
    rw [List.length_drop] at hlt
    obtain ⟨v1, hC1, hcut⟩ := hA.toC.cut p (p + n) (by omega) (by omega)
    have hA1 := Arg.ofC hC1
    have e1 : (l.take (p + n)).drop p = (l.drop p).take n := by
      rw [List.drop_take, Nat.add_sub_cancel_left]
    rw [e1] at hA1
    obtain ⟨vv, hv⟩ : ∃ v, v = Value.slice a l.length c := ⟨_, rfl⟩
    have HBV : Hid (Box w R 117 #[vv, .int .i64 p, .int .i64 0]) := by rw [hv]; exact HB
    rw [← hv] at g0 hlen hcut
    obtain ⟨a1, c1, hv1, _⟩ := hA1.shape
    obtain ⟨ln1, hln1⟩ : ∃ y, y = ((l.drop p).take n).length := ⟨_, rfl⟩
    rw [← hln1] at hv1
    subst hv1
    obtain ⟨m, hm⟩ : ∃ m, m = l.length := ⟨_, rfl⟩
    rw [← hm] at hlen hlt hple hmx
    have hlti : ¬ (m : Int) - (p : Int) < (n : Int) := by omega
    have hpi : (p : Int) ≤ (m : Int) := by omega
    have HE : Hid (∀ q, RR w0 R l (p + n) 0 ((w.drewN q).setCell ⟨R, 1, none⟩ (.int .i64 ((p : Int) + (n : Int)))) ∧ w.grownBy ((w.drewN q).setCell ⟨R, 1, none⟩ (.int .i64 ((p : Int) + (n : Int)))) (some R)) := fun q => by
      have hbq : Below w.heap.size w (w.drewN q) := below_drewN (Below.refl _ _) q
      refine ⟨⟨⟨a, c, (HB.out.below hbq HB.out.lt).set 1 _, hA⟩, (HR.out.old.trans (hbq.mono (by have := HR.out.le; have := HB.out.lt; omega))).setCell (p := ⟨R, 1, none⟩) HR.out.le _, HR.out.le, by omega⟩, ?_⟩
      exact grown_trans (grown_below hbq) (grown_set _ R 1 _)
    have hcut' : ∀ W, (Instr.slice 22 vv (some (.int .i64 (p : Int))) (some (.int .i64 ((p : Int) + (n : Int)))) none).run Tryz.prog W = .ok (.slice a1 ln1 c1) W := fun W => by
      have := hcut W
      rwa [show ((p + n : Nat) : Int) = (p : Int) + (n : Int) by omega] at this
    have HA1 : Hid (Arg 0 w0 (.slice a1 ln1 c1) ((l.drop p).take n) ∧ (l.drop p).drop n = l.drop (p + n)) := ⟨hA1, by rw [List.drop_drop]⟩
    clear h hB hA ht hm hlt hcut hC1 e1 hA1 hln1 hv
    go_enter Tryz.func77, Tryz.ntmps77
    go_wp2
    go_quiet (fail)
    obtain ⟨V, hV⟩ : ∃ V, V = (w.drewN nq).setCell ⟨R, 1, none⟩ (.int .i64 ((p : Int) + (n : Int))) := ⟨_, rfl⟩
    have hEV := HE.out nq
    rw [← hV] at hEV
    have hBV : Box V R 117 #[vv, .int .i64 ((p : Int) + (n : Int)), .int .i64 0] := by
      rw [hV]
      exact ((HBV.out.below (below_drewN (Below.refl _ _) nq) HBV.out.lt).set 1 _)
    have HEV : Hid (RR w0 R l (p + n) 0 V ∧ w.grownBy V (some R)) := hEV
    obtain ⟨y0, y1, y2, _⟩ := hBV.three
    clear hEV
    go_wp2
    rw [← hV]
    clear hV hBV g0 g1 g2 f0 f1 f2
    go_quiet (fail)
    go_wp2
    go_ret
    refine ⟨grown_trans HEV.out.2 (grown_below (below_drewN (Below.refl _ _) _)), _, p + n, rfl, ?_, HEV.out.1.drewN _, HA1.out.2.symm⟩
    exact HA1.out.1.below (HEV.out.1.drewN _).old

set_option maxRecDepth 100000 in
set_option maxHeartbeats 1000000 in
theorem roctet_err (w0 : World) (R : Nat) (l : List Int) (p : Nat) (k : Int) (hk : k ≠ 0) (w : World) (h : RR w0 R l p k w) :
    Calls Tryz.prog 74 #[.pointer (some ⟨R, 0, none⟩)] w fun e w' => e = .returned (.int .i64 0) ∧ w = w' := by
  have HT := rtake_err w0 R l p k 1 hk w h
  obtain ⟨a, c, hB, _⟩ := h.ex
  obtain ⟨_, _, g2, _⟩ := hB.three
  clear h hB
  go_enter Tryz.func74, Tryz.ntmps74
  go_wp2_with fail
  refine HT.mono ?_
  rintro e w1 ⟨rfl, rfl⟩
  go_wp2
  go_ret
  exact ⟨rfl, rfl⟩

set_option maxRecDepth 100000 in
set_option maxHeartbeats 1000000 in
theorem roctet_any (w0 : World) (R : Nat) (l : List Int) (p : Nat) (w : World) (h : RR w0 R l p 0 w) :
    Calls Tryz.prog 74 #[.pointer (some ⟨R, 0, none⟩)] w fun e w' => ToldD w0 R l w (fun z => z = .int .i64 0) (fun _ v a => v = .int .i64 a ∧ 0 ≤ a ∧ a ≤ 255) (octR (l.drop p)) e w' := by
  have HT := rtake_any w0 R l p 1 (by omega) w h
  have HO : Hid (Oc (l.drop p)) := oc_drop h.oct p
  clear h
  cases hq : l.drop p with
  | nil =>
    rw [hq] at HT
    rw [show takeR 1 [] = .error 8 from rfl] at HT
    clear hq
    go_enter Tryz.func74, Tryz.ntmps74
    go_wp2_with fail
    refine HT.mono ?_
    rintro e w1 ⟨hg, z, p', rfl, rfl, hR⟩
    have HG : Hid (w.grownBy w1 (some R) ∧ RR w0 R l p' 8 w1) := ⟨hg, hR⟩
    obtain ⟨a, c, hB, _⟩ := hR.ex
    obtain ⟨_, _, g2, _⟩ := hB.three
    clear hg HT hR hB
    go_wp2
    go_ret
    exact ⟨HG.out.1, _, p', rfl, rfl, HG.out.2⟩
  | cons x r =>
    rw [hq] at HT HO
    rw [show takeR 1 (x :: r) = .ok ([x], r) from rfl] at HT
    have hc := (oc_cons.1 HO.out).1
    clear hq
    go_enter Tryz.func74, Tryz.ntmps74
    go_wp2_with fail
    refine HT.mono ?_
    rintro e w1 ⟨hg, v, p', rfl, hA, hR, hd⟩
    have HG : Hid (w.grownBy w1 (some R) ∧ RR w0 R l p' 0 w1 ∧ l.drop p' = r) := ⟨hg, hR, hd⟩
    obtain ⟨a, c, hB, _⟩ := hR.ex
    obtain ⟨_, _, g2, _⟩ := hB.three
    rcases hA.split with ⟨h0, _⟩ | ⟨b, off, cap, rfl, _, _, _, hcell⟩
    · cases h0
    have g0 : w1.cell? ⟨b, off, none⟩ = some (.int .u8 x) := hcell 0 (by simp)
    clear hg HT hA hcell hR hB hd
    simp only [List.length_singleton]
    go_wp2
    go_ret
    exact ⟨HG.out.1, _, p', rfl, ⟨rfl, hc⟩, HG.out.2.1, HG.out.2.2⟩

end Go.Proofs.YthlfgpnabcplnaaGreatDoor.W

/-
  The document's reader: what count and groups make of it.
-/
namespace Go.Proofs.YthlfgpnabcplnaaGreatDoor.W
open Go.RowKit

def countR (l : List Int) : Rd Int := (octR l).then fun c r => if 64 < c then .error 3 else .ok (c, r)

set_option maxRecDepth 100000 in
set_option maxHeartbeats 1000000 in
theorem rcount_err (w0 : World) (R : Nat) (l : List Int) (p : Nat) (k : Int) (hk : k ≠ 0) (w : World) (h : RR w0 R l p k w) :
    Calls Tryz.prog 75 #[.pointer (some ⟨R, 0, none⟩), .int .i64 64] w fun e w' => e = .returned (.int .i64 0) ∧ w = w' := by
  have HT := roctet_err w0 R l p k hk w h
  obtain ⟨a, c, hB, _⟩ := h.ex
  obtain ⟨_, _, g2, _⟩ := hB.three
  clear h hB
  go_enter Tryz.func75, Tryz.ntmps75
  go_wp2_with fail
  refine HT.mono ?_
  rintro e w1 ⟨rfl, rfl⟩
  go_wp2
  go_ret
  exact ⟨rfl, rfl⟩

set_option maxRecDepth 100000 in
set_option maxHeartbeats 1000000 in
theorem rcount_any (w0 : World) (R : Nat) (l : List Int) (p : Nat) (w : World) (h : RR w0 R l p 0 w) :
    Calls Tryz.prog 75 #[.pointer (some ⟨R, 0, none⟩), .int .i64 64] w fun e w' => ToldD w0 R l w (fun z => ∃ i, z = .int .i64 i) (fun _ v a => v = .int .i64 a ∧ 0 ≤ a ∧ a ≤ 64) (countR (l.drop p)) e w' := by
  have HT := roctet_any w0 R l p w h
  clear h
  cases hq : l.drop p with
  | nil =>
    rw [hq, show octR [] = .error 8 from rfl] at HT
    rw [show countR [] = .error 8 from rfl]
    clear hq
    go_enter Tryz.func75, Tryz.ntmps75
    go_wp2_with fail
    refine HT.mono ?_
    rintro e w1 ⟨hg, z, p', rfl, rfl, hR⟩
    have HG : Hid (w.grownBy w1 (some R) ∧ RR w0 R l p' 8 w1) := ⟨hg, hR⟩
    obtain ⟨a, c, hB, _⟩ := hR.ex
    obtain ⟨_, _, g2, _⟩ := hB.three
    clear hg HT hR hB
    go_wp2
    go_ret
    exact ⟨HG.out.1, _, p', rfl, ⟨_, rfl⟩, HG.out.2⟩
  | cons x r =>
    rw [hq, show octR (x :: r) = .ok (x, r) from rfl] at HT
    obtain ⟨X, hX⟩ : ∃ X, X = countR (x :: r) := ⟨_, rfl⟩
    rw [← hX]
    have HX0 : Hid (X = if 64 < x then .error 3 else .ok (x, r)) := hX
    clear hq hX
    go_enter Tryz.func75, Tryz.ntmps75
    go_wp2_with fail
    refine HT.mono ?_
    rintro e w1 ⟨hg, v, p', rfl, ⟨rfl, hx⟩, hR, hd⟩
    have HG : Hid (w.grownBy w1 (some R) ∧ RR w0 R l p' 0 w1 ∧ l.drop p' = r) := ⟨hg, hR, hd⟩
    obtain ⟨a, c, hB, hA⟩ := hR.ex
    obtain ⟨_, _, g2, _, _, f2⟩ := hB.three
    by_cases h64 : 64 < x
    · have HX : Hid (X = .error 3) := by show _ = _; rw [HX0.out, if_pos h64]
      have HE : Hid (w.grownBy (w1.setCell ⟨R, 2, none⟩ (.int .i64 3)) (some R) ∧ RR w0 R l p' 3 (w1.setCell ⟨R, 2, none⟩ (.int .i64 3))) :=
        ⟨grown_trans hg (grown_set _ R 2 _), ⟨a, c, hB.set 2 _, hA⟩, hR.old.setCell (p := ⟨R, 2, none⟩) hR.le _, hR.le, hR.at_le⟩
      clear hg HT hR hB hd hA HX0
      go_wp2
      go_ret
      rw [HX.out]
      exact ⟨HE.out.1, _, p', rfl, ⟨_, rfl⟩, HE.out.2⟩
    · have HX : Hid (X = .ok (x, r)) := by show _ = _; rw [HX0.out, if_neg h64]
      clear hg HT hR hB hd hA HX0
      go_wp2
      go_ret
      rw [HX.out]
      exact ⟨HG.out.1, _, p', rfl, ⟨rfl, hx.1, by omega⟩, HG.out.2.1, HG.out.2.2⟩

theorem i64_and_nat (a b : Nat) (ha : a < 65536) (hb : b < 65536) : bits .and .i64 (a : Int) (b : Int) = ((a &&& b : Nat) : Int) := by
  have h : a &&& b < 2 ^ 16 := Nat.and_lt_two_pow _ hb
  show IntKind.i64.wrap ((BitVec.ofInt 64 (a : Int) &&& BitVec.ofInt 64 (b : Int)).toNat : Int) = _
  rw [BitVec.toNat_and, ofInt_u64 a (by omega), ofInt_u64 b (by omega), IntKind.wrap_i64]
  omega
theorem and_127 (c : Int) (h : 0 ≤ c ∧ c ≤ 255) : bits .and .i64 c 127 = ((c.toNat % 128 : Nat) : Int) := by
  have h1 := i64_and_nat c.toNat 127 (by omega) (by decide)
  rw [show (127 : Nat) = 2 ^ 7 - 1 from rfl, Nat.and_two_pow_sub_one_eq_mod, show ((c.toNat : Nat) : Int) = c by omega] at h1
  exact h1

set_option maxRecDepth 100000 in
set_option maxHeartbeats 4000000 in
theorem rdgroups_any (w0 : World) (R : Nat) (l : List Int) (p : Nat) (w : World) (h : RR w0 R l p 0 w) :
    Calls Tryz.prog 76 #[.pointer (some ⟨R, 0, none⟩)] w fun e w' => ToldD w0 R l w (fun z => z = .int .u64 0) (fun _ v a => v = .int .u64 (a : Nat) ∧ a < 18446744073709551616) (grpR 0 0 (l.drop p)) e w' := by
  have HR : Hid (RR w0 R l p 0 w) := h
  obtain ⟨G, hG⟩ : ∃ G, G = grpR 0 0 (l.drop p) := ⟨_, rfl⟩
  have HGR : Hid (G = grpR 0 0 (l.drop p)) := hG
  rw [← hG]
  clear h hG
  go_enter Tryz.func76, Tryz.ntmps76
  go_wp2
  go_loopw [3, 4] (fun m s wr => ∃ (i acc p1 : Nat), i ≤ 9 ∧ s = .int .i64 i ∧ m = .int .u64 acc ∧ acc < 128 ^ i ∧ Hid (G = grpR i acc (l.drop p1) ∧ RR w0 R l p1 0 wr ∧ w.grownBy wr (some R))) (fun _ s _ => 10 - (intOf s).toNat)
  case atStart => exact ⟨0, 0, p, by omega, rfl, rfl, by simp, HGR.out, HR.out, grown_refl _ _⟩
  case round =>
    obtain ⟨i, acc, p1, hi, rfl, rfl, hacc, HK⟩ := hrel
    have HO := roctet_any w0 R l p1 wr HK.out.2.1
    have hii : (i : Int) < 10 := by omega
    cases hq : l.drop p1 with
    | nil =>
      rw [hq, show octR [] = .error 8 from rfl] at HO
      have HGG : Hid (G = .error 8) := by show _ = _; rw [HK.out.1, hq]; rfl
      clear hq
      go_wp2_with fail
      refine HO.mono ?_
      rintro e w1 ⟨hg, z, p2, rfl, rfl, hR⟩
      have HG : Hid (w.grownBy w1 (some R) ∧ RR w0 R l p2 8 w1) := ⟨grown_trans HK.out.2.2 hg, hR⟩
      obtain ⟨a, c, hB, _⟩ := hR.ex
      obtain ⟨_, _, g2, _⟩ := hB.three
      clear hg HO hR hB
      go_wp2
      go_ret
      rw [HGG.out]
      exact ⟨HG.out.1, _, p2, rfl, rfl, HG.out.2⟩
    | cons c r =>
      rw [hq, show octR (c :: r) = .ok (c, r) from rfl] at HO
      have HE := HK.out.1
      rw [hq, grpR_cons] at HE
      have HEH : Hid (G = if i = 9 ∧ 1 < c then .error 4 else if c = 0 ∧ 0 < i then .error 4 else if 128 ≤ c then grpR (i + 1) (acc + (c.toNat % 128) * 128 ^ i) r else .ok ((acc + c.toNat * 128 ^ i), r)) := HE
      clear HE hq
      go_wp2_with fail
      refine HO.mono ?_
      rintro e w1 ⟨hg, v, p2, rfl, ⟨rfl, hc⟩, hR, hd⟩
      have HG : Hid (w.grownBy w1 (some R) ∧ RR w0 R l p2 0 w1 ∧ l.drop p2 = r) := ⟨grown_trans HK.out.2.2 hg, hR, hd⟩
      obtain ⟨a, cc, hB, hA⟩ := hR.ex
      obtain ⟨_, _, g2, _, _, f2⟩ := hB.three
      have HE4 : Hid (w.grownBy (w1.setCell ⟨R, 2, none⟩ (.int .i64 4)) (some R) ∧ RR w0 R l p2 4 (w1.setCell ⟨R, 2, none⟩ (.int .i64 4))) :=
        ⟨grown_trans HG.out.1 (grown_set _ R 2 _), ⟨a, cc, hB.set 2 _, hA⟩, hR.old.setCell (p := ⟨R, 2, none⟩) hR.le _, hR.le, hR.at_le⟩
      clear hg HO hR HK hB hA hd
      by_cases h9 : i = 9 ∧ 1 < c
      · have HGG : Hid (G = .error 4) := by show _ = _; rw [HEH.out, if_pos h9]
        obtain ⟨rfl, h91⟩ := h9
        clear HEH
        go_wp2
        go_ret
        rw [HGG.out]
        exact ⟨HE4.out.1, _, p2, rfl, rfl, HE4.out.2⟩
      by_cases hz : c = 0 ∧ 0 < i
      · have HGG : Hid (G = .error 4) := by show _ = _; rw [HEH.out, if_neg h9, if_pos hz]
        obtain ⟨rfl, hi0⟩ := hz
        have hi1 : (0 : Int) < (i : Int) := by omega
        clear HEH h9
        by_cases hi9 : (i : Int) = 9
        · go_wp2
          go_ret
          rw [HGG.out]
          exact ⟨HE4.out.1, _, p2, rfl, rfl, HE4.out.2⟩
        · go_wp2
          go_ret
          rw [HGG.out]
          exact ⟨HE4.out.1, _, p2, rfl, rfl, HE4.out.2⟩
      have ha := and_127 c hc
      obtain ⟨x, hx⟩ : ∃ x, x = c.toNat % 128 := ⟨_, rfl⟩
      rw [← hx] at ha
      have h9x : i = 9 → x ≤ 1 := fun e => by
        have : ¬ 1 < c := fun h => h9 ⟨e, h⟩
        omega
      have hrm := room acc x i hacc (by omega) hi h9x
      have hor := or_val acc x i hacc hrm.1
      obtain ⟨acc2, hacc2⟩ : ∃ y, y = acc + x * 128 ^ i := ⟨_, rfl⟩
      rw [← hacc2] at hor hrm
      have HOR : Hid (bits .or .u64 (acc : Int) (IntKind.u64.wrap ((x : Int) * 2 ^ (7 * i))) = (acc2 : Int) ∧ acc2 < 18446744073709551616 ∧ acc2 < 128 ^ (i + 1)) := ⟨hor, hrm⟩
      have HEH2 : Hid (G = if 128 ≤ c then grpR (i + 1) acc2 r else .ok (acc2, r)) := by
        show _ = _
        rw [HEH.out, if_neg h9, if_neg hz, hacc2, hx]
        by_cases hm : 128 ≤ c
        · rw [if_pos hm, if_pos hm]
        · rw [if_neg hm, if_neg hm, show c.toNat % 128 = c.toNat by omega]
      have hx7 : x < 128 := by omega
      have hc9 : (i : Int) = 9 → ¬ 1 < c := fun e h => h9 ⟨by omega, h⟩
      have hcz : c = 0 → ¬ (0 : Int) < (i : Int) := fun e h => hz ⟨e, by omega⟩
      clear HEH h9 h9x hrm hor hacc2 hx hacc hz
      by_cases hm : 128 ≤ c
      · have hi9 : ¬ (i : Int) = 9 := fun e => hc9 e (by omega)
        have hc0 : ¬ c = 0 := by omega
        have hlt : ¬ c < 128 := by omega
        have HGG : Hid (G = grpR (i + 1) acc2 r) := by
          show _ = _
          rw [HEH2.out, if_pos hm]
        clear HEH2 hc9 hcz
        go_wp2
        refine ⟨⟨i + 1, acc2, p2, by omega, by go_num, ?_, HOR.out.2.2, by rw [HG.out.2.2]; exact HGG.out, HG.out.2.1, HG.out.1⟩, by simp [intOf]; omega⟩
        exact congrArg (Value.int .u64) HOR.out.1
      · have hlt : c < 128 := by omega
        have HGG : Hid (G = .ok (acc2, r)) := by
          show _ = _
          rw [HEH2.out, if_neg hm]
        clear HEH2
        by_cases hi0 : i = 0
        · subst hi0
          have HOR2 : Hid (bits .or .u64 (acc : Int) (x : Int) = (acc2 : Int)) := by
            show _ = _
            have h1 := HOR.out.1
            have e : IntKind.u64.wrap ((x : Int) * 2 ^ (7 * 0)) = (x : Int) := by
              rw [IntKind.wrap_u64, Nat.mul_zero, Int.pow_zero, Int.mul_one]
              omega
            rwa [e] at h1
          clear hc9 hcz
          by_cases hc0 : c = 0
          · subst hc0
            go_wp2
            go_ret
            rw [HGG.out]
            exact ⟨HG.out.1, _, p2, rfl, ⟨congrArg (Value.int .u64) HOR2.out, HOR.out.2.1⟩, HG.out.2.1, HG.out.2.2⟩
          · go_wp2
            go_ret
            rw [HGG.out]
            exact ⟨HG.out.1, _, p2, rfl, ⟨congrArg (Value.int .u64) HOR2.out, HOR.out.2.1⟩, HG.out.2.1, HG.out.2.2⟩
        · have hi1 : (0 : Int) < (i : Int) := by omega
          have hc0 : ¬ c = 0 := fun e => hcz e hi1
          by_cases hi9 : (i : Int) = 9
          · have hc1 := hc9 hi9
            obtain rfl : i = 9 := by omega
            have HOR2 : Hid (bits .or .u64 (acc : Int) (IntKind.u64.wrap ((x : Int) * 9223372036854775808)) = (acc2 : Int)) := by
              show _ = _
              have h1 := HOR.out.1
              have e : (2 : Int) ^ (7 * 9) = 9223372036854775808 := by decide
              rwa [e] at h1
            clear hc9 hcz hi9
            go_wp2
            go_ret
            rw [HGG.out]
            exact ⟨HG.out.1, _, p2, rfl, ⟨congrArg (Value.int .u64) HOR2.out, HOR.out.2.1⟩, HG.out.2.1, HG.out.2.2⟩
          · clear hc9 hcz
            go_wp2
            go_ret
            rw [HGG.out]
            exact ⟨HG.out.1, _, p2, rfl, ⟨congrArg (Value.int .u64) HOR.out.1, HOR.out.2.1⟩, HG.out.2.1, HG.out.2.2⟩

end Go.Proofs.YthlfgpnabcplnaaGreatDoor.W
