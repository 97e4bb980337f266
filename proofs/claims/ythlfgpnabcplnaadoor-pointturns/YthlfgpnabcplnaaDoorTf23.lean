import Derived.Test.YthlfgpnabcplnaaDoorTf21
import Derived.Test.YthlfgpnabcplnaaDoorTf22
/-
  The reader: what take, octet, groups and number make of it.
-/
namespace Go.Proofs.YthlfgpnabcplnaaDoor.W
open Go.RowKit

/-- A fault as an error. -/
abbrev faultW (k : Int) : Value := .iface 115 (.agg #[.int .i64 k])

/-- A reader's variable, and the octets that it has left: they lay there ahead of the variable. -/
structure Rdr (w0 : World) (R : Nat) (l : List Int) (w : World) : Prop where
  ex : ∃ a c, Box w R 101 #[.slice a l.length c] ∧ Arg 0 w0 (.slice a l.length c) l
  old : Below w0.heap.size w0 w
  le : w0.heap.size ≤ R

theorem Rdr.oct {w0 : World} {R : Nat} {l : List Int} {w : World} (h : Rdr w0 R l w) : Oc l := by
  obtain ⟨a, c, _, hA⟩ := h.ex
  exact hA.oct
theorem Rdr.lt {w0 : World} {R : Nat} {l : List Int} {w : World} (h : Rdr w0 R l w) : R < w.heap.size := by
  obtain ⟨a, c, hB, _⟩ := h.ex
  exact hB.lt
theorem Rdr.below {w0 : World} {R n : Nat} {l : List Int} {w w' : World} (h : Rdr w0 R l w) (hb : Below n w w') (hn : R < n) : Rdr w0 R l w' := by
  obtain ⟨a, c, hB, hA⟩ := h.ex
  exact ⟨⟨a, c, hB.below hb hn, hA⟩, h.old.trans (hb.mono (by have := h.le; omega)), h.le⟩

theorem grown_refl (w : World) (r : Option Nat) : w.grownBy w r := ⟨rfl, rfl, rfl, Nat.le_refl _, fun _ _ _ => rfl⟩
theorem grown_trans {a b c : World} {r : Option Nat} (h : a.grownBy b r) (k : b.grownBy c r) : a.grownBy c r := h.trans k
theorem grown_below {w w' : World} {r : Option Nat} (h : Below w.heap.size w w') : w.grownBy w' r := ⟨h.os, h.tape, h.output, h.size, fun k hk _ => h.block k hk⟩
theorem below_grown {w a b : World} {R n : Nat} (h : Below n w a) (hR : n ≤ R) (hn : n ≤ a.heap.size) (k : a.grownBy b (some R)) : Below n w b := h.grown k hn (fun j hj => by cases hj; exact hR)

/-- What a reader's call makes: the error's number, or what was read and what is left. -/
def Told {α : Type} (w0 : World) (R : Nat) (w : World) (z : Value) (P : World → Value → α → Prop) (x : Rd α) (e : Ending) (w' : World) : Prop :=
  w.grownBy w' (some R) ∧ match x with
    | .error k => e = .returned (.tuple #[z, faultW k])
    | .ok (a, l) => ∃ v, e = .returned (.tuple #[v, .nilIface]) ∧ P w' v a ∧ Rdr w0 R l w'

theorem Arg.parts {n0 : Nat} {w : World} {v : Value} {l : List Int} (h : Arg n0 w v l) (j : Nat) (hj : j ≤ l.length) :
    ∃ a1 c1 a2 c2, Arg 0 w (.slice a1 j c1) (l.take j) ∧ Arg 0 w (.slice a2 (l.length - j) c2) (l.drop j) ∧
      (∀ W, (Instr.slice 22 v none (some (.int .i64 j)) none).run Tryd.prog W = .ok (.slice a1 j c1) W) ∧
      (∀ W, (Instr.slice 22 v (some (.int .i64 j)) none none).run Tryd.prog W = .ok (.slice a2 (l.length - j) c2) W) := by
  obtain ⟨v1, h1, e1⟩ := h.toC.ahead j hj
  obtain ⟨v2, h2, e2⟩ := h.toC.behind j hj
  obtain ⟨a1, c1, rfl, _⟩ := h1.shape
  obtain ⟨a2, c2, rfl, _⟩ := h2.shape
  have l1 : (l.take j).length = j := by rw [List.length_take]; omega
  have l2 : (l.drop j).length = l.length - j := List.length_drop
  rw [l1] at h1 e1
  rw [l2] at h2 e2
  exact ⟨a1, c1, a2, c2, .ofC h1, .ofC h2, e1, e2⟩

theorem grown_append {w a b : World} {R : Nat} (h : w.grownBy a (some R)) (k : Below w.heap.size a b) : w.grownBy b (some R) :=
  ⟨k.os.trans h.os, k.tape.trans h.tape, k.output.trans h.output, Nat.le_trans h.size k.size, fun j hj hr => (k.block j hj).trans (h.block j hj hr)⟩

set_option maxRecDepth 100000 in
set_option maxHeartbeats 1000000 in
theorem take_any (w0 : World) (R : Nat) (l : List Int) (n : Nat) (w : World) (h : Rdr w0 R l w) :
    Calls Tryd.prog 70 #[.pointer (some ⟨R, 0, none⟩), .int .i64 n] w fun e w' => Told w0 R w (.slice none 0 0) (fun w v a => Arg 0 w v a) (takeR n l) e w' := by
  obtain ⟨a, c, hB, hA⟩ := h.ex
  have hlen := fun W => run_len Tryd.underlying22 a l.length c W
  by_cases hlt : l.length < n
  · have ht : takeR n l = .error 8 := by unfold takeR; rw [if_pos hlt]
    rw [ht]
    have g0 := hB.cell 0 (u := .slice a l.length c) rfl
    obtain ⟨m, hm⟩ : ∃ m, m = l.length := ⟨_, rfl⟩
    rw [← hm] at g0 hlen hlt
    have hlti : (m : Int) < (n : Int) := by omega
    clear h hB hA ht hm hlt
    go_enter Tryd.func70, Tryd.ntmps70
    go_wp2
    go_ret2
    exact ⟨grown_refl _ _, rfl⟩
  · have ht : takeR n l = .ok ((l.take n), (l.drop n)) := by unfold takeR; rw [if_neg hlt]
    obtain ⟨a1, c1, a2, c2, hA1, hA2, hs1, hs2⟩ := hA.parts n (by omega)
    obtain ⟨v, hv⟩ : ∃ v, v = Value.slice a l.length c := ⟨_, rfl⟩
    rw [ht]
    have hlm := hA.shape
    obtain ⟨_, _, _, _, hmx, _⟩ := hlm
    unfold maxLen at hmx
    rw [← hv] at hB hs1 hs2 hlen
    have HG : Hid (w.grownBy (w.setCell ⟨R, 0, none⟩ (.slice a2 (l.length - n) c2)) (some R)) := grown_set w R 0 _
    have HE : Hid (Arg 0 (w.setCell ⟨R, 0, none⟩ (.slice a2 (l.length - n) c2)) (.slice a1 n c1) (l.take n) ∧ Rdr w0 R (l.drop n) (w.setCell ⟨R, 0, none⟩ (.slice a2 (l.length - n) c2))) := by
      have hb : Below w0.heap.size w0 (w.setCell ⟨R, 0, none⟩ (.slice a2 (l.length - n) c2)) := h.old.setCell (p := ⟨R, 0, none⟩) h.le _
      refine ⟨hA1.below hb, ⟨⟨a2, c2, ?_, ?_⟩, hb, h.le⟩⟩
      · rw [List.length_drop]
        exact hB.set 0 _
      · rw [List.length_drop]
        exact hA2
    have g0 := hB.cell 0 (u := v) rfl
    have f0 := hB.frozen 0
    obtain ⟨m, hm⟩ : ∃ m, m = l.length := ⟨_, rfl⟩
    rw [← hm] at hlen hlt HG HE hs2 hmx
    have hlti : ¬ (m : Int) < (n : Int) := by omega
    obtain ⟨q, hq⟩ : ∃ q, q = m - n := ⟨_, rfl⟩
    rw [← hq] at HG HE hs2
    clear h hB hA ht hv hm hA1 hA2 hq
    go_enter Tryd.func70, Tryd.ntmps70
    go_wp2
    go_ret2
    exact ⟨HG.out, _, rfl, HE.out⟩

end Go.Proofs.YthlfgpnabcplnaaDoor.W

/-
  What octet and groups make of a reader.
-/
namespace Go.Proofs.YthlfgpnabcplnaaDoor.W
open Go.RowKit

set_option maxRecDepth 100000 in
set_option maxHeartbeats 1000000 in
theorem octet_any (w0 : World) (R : Nat) (l : List Int) (w : World) (h : Rdr w0 R l w) :
    Calls Tryd.prog 63 #[.pointer (some ⟨R, 0, none⟩)] w fun e w' => Told w0 R w (.int .u8 0) (fun _ v a => v = .int .u8 a ∧ 0 ≤ a ∧ a ≤ 255) (octR l) e w' := by
  have HT := take_any w0 R l 1 w h
  have HO : Hid (Oc l) := h.oct
  clear h
  cases l with
  | nil =>
    rw [show takeR 1 [] = .error 8 from rfl] at HT
    go_enter Tryd.func63, Tryd.ntmps63
    go_wp2_with fail
    refine HT.mono ?_
    rintro e w1 ⟨hg, rfl⟩
    have HG : Hid (w.grownBy w1 (some R)) := hg
    clear hg HT
    go_wp2
    go_ret2
    exact ⟨HG.out, rfl⟩
  | cons c r =>
    rw [show takeR 1 (c :: r) = .ok ([c], r) from rfl] at HT
    have hc := (oc_cons.1 HO.out).1
    go_enter Tryd.func63, Tryd.ntmps63
    go_wp2_with fail
    refine HT.mono ?_
    rintro e w1 ⟨hg, v, rfl, hA, hR⟩
    have HG : Hid (w.grownBy w1 (some R) ∧ Rdr w0 R r w1) := ⟨hg, hR⟩
    rcases hA.split with ⟨h0, _⟩ | ⟨b, off, cap, rfl, _, _, _, hcell⟩
    · cases h0
    have g0 : w1.cell? ⟨b, off, none⟩ = some (.int .u8 c) := hcell 0 (by simp)
    clear hg HT hA hcell hR
    simp only [List.length_singleton]
    go_wp2
    go_ret2
    exact ⟨HG.out.1, _, rfl, ⟨rfl, hc⟩, HG.out.2⟩

theorem and_not : ∀ x : Fin 256, bits .andNot .u8 (x.val : Int) 128 = ((x.val % 128 : Nat) : Int) := by decide +kernel
theorem and_not' (c : Int) (h : 0 ≤ c ∧ c ≤ 255) : bits .andNot .u8 c 128 = ((c.toNat % 128 : Nat) : Int) := by
  have := and_not ⟨c.toNat, by omega⟩
  simp only at this
  rwa [show ((c.toNat : Nat) : Int) = c by omega] at this

theorem or_add (acc x i : Nat) (h : acc < 128 ^ i) : acc ||| (x * 128 ^ i) = acc + x * 128 ^ i := by
  have e : (128 : Nat) ^ i = 2 ^ (7 * i) := by rw [Nat.pow_mul]
  rw [e] at h ⊢
  rw [Nat.or_comm, Nat.mul_comm x, ← Nat.two_pow_add_eq_or_of_lt h, Nat.add_comm]

theorem or_val (acc x i : Nat) (hacc : acc < 128 ^ i) (hi : acc + x * 128 ^ i < 18446744073709551616) : bits .or .u64 (acc : Int) (IntKind.u64.wrap ((x : Int) * 2 ^ (7 * i))) = ((acc + x * 128 ^ i : Nat) : Int) := by
  have e : (x : Int) * 2 ^ (7 * i) = ((x * 128 ^ i : Nat) : Int) := by
    rw [show (128 : Nat) ^ i = 2 ^ (7 * i) by rw [Nat.pow_mul]]
    push_cast
    rfl
  have e2 : IntKind.u64.wrap ((x * 128 ^ i : Nat) : Int) = ((x * 128 ^ i : Nat) : Int) := by
    rw [IntKind.wrap_u64]
    omega
  rw [e, e2, u64_or_nat _ _ (by omega) (by omega), or_add acc x i hacc]

theorem room (acc x i : Nat) (hacc : acc < 128 ^ i) (hx : x < 128) (hi : i ≤ 9) (h9 : i = 9 → x ≤ 1) : acc + x * 128 ^ i < 18446744073709551616 ∧ acc + x * 128 ^ i < 128 ^ (i + 1) := by
  have h2 : acc + x * 128 ^ i < 128 ^ (i + 1) := by
    rw [Nat.pow_succ]
    have : x * 128 ^ i + 128 ^ i ≤ 128 ^ i * 128 := by
      rw [Nat.mul_comm (128 ^ i), ← Nat.succ_mul]
      exact Nat.mul_le_mul_right _ hx
    omega
  refine ⟨?_, h2⟩
  by_cases e : i = 9
  · subst e
    have := h9 rfl
    have h3 : x * 128 ^ 9 ≤ 1 * 128 ^ 9 := Nat.mul_le_mul_right _ this
    omega
  · have h3 : (128 : Nat) ^ (i + 1) ≤ 128 ^ 9 := Nat.pow_le_pow_right (by omega) (by omega)
    omega

set_option maxRecDepth 100000 in
set_option maxHeartbeats 4000000 in
theorem groups_any (w0 : World) (R : Nat) (l : List Int) (w : World) (h : Rdr w0 R l w) :
    Calls Tryd.prog 71 #[.pointer (some ⟨R, 0, none⟩)] w fun e w' => Told w0 R w (.int .u64 0) (fun _ v a => v = .int .u64 (a : Nat) ∧ a < 18446744073709551616) (grpR 0 0 l) e w' := by
  have HR : Hid (Rdr w0 R l w) := h
  obtain ⟨G, hG⟩ : ∃ G, G = grpR 0 0 l := ⟨_, rfl⟩
  have HGR : Hid (G = grpR 0 0 l) := hG
  rw [← hG]
  clear h hG
  go_enter Tryd.func71, Tryd.ntmps71
  go_wp2
  go_loopw [4, 5] (fun m s wr => ∃ (i acc : Nat) (q : List Int), i ≤ 9 ∧ s = .int .i64 ((7 * i : Nat) : Int) ∧ m = .int .u64 acc ∧ acc < 128 ^ i ∧ Hid (G = grpR i acc q ∧ Rdr w0 R q wr ∧ w.grownBy wr (some R))) (fun _ s _ => 63 - (intOf s).toNat)
  case atStart => exact ⟨0, 0, l, by omega, rfl, rfl, by simp, HGR.out, HR.out, grown_refl _ _⟩
  case round =>
    obtain ⟨i, acc, q, hi, rfl, rfl, hacc, HK⟩ := hrel
    have HO := octet_any w0 R q wr HK.out.2.1
    cases q with
    | nil =>
      rw [show octR [] = .error 8 from rfl] at HO
      have HGG : Hid (G = .error 8) := HK.out.1
      go_wp2_with fail
      refine HO.mono ?_
      rintro e w1 ⟨hg, rfl⟩
      have HG : Hid (w.grownBy w1 (some R)) := grown_trans HK.out.2.2 hg
      clear hg HO
      go_wp2
      go_ret2
      rw [HGG.out]
      exact ⟨HG.out, rfl⟩
    | cons c r =>
      rw [show octR (c :: r) = .ok (c, r) from rfl] at HO
      have HE := HK.out.1
      rw [grpR_cons] at HE
      have HEH : Hid (G = if i = 9 ∧ 1 < c then .error 4 else if c = 0 ∧ 0 < i then .error 4 else if 128 ≤ c then grpR (i + 1) (acc + (c.toNat % 128) * 128 ^ i) r else .ok ((acc + c.toNat * 128 ^ i), r)) := HE
      clear HE
      go_wp2_with fail
      refine HO.mono ?_
      rintro e w1 ⟨hg, v, rfl, ⟨rfl, hc⟩, hR⟩
      have HG : Hid (w.grownBy w1 (some R) ∧ Rdr w0 R r w1) := ⟨grown_trans HK.out.2.2 hg, hR⟩
      clear hg HO hR HK
      by_cases h9 : i = 9 ∧ 1 < c
      · have HGG : Hid (G = .error 4) := by show _ = _; rw [HEH.out, if_pos h9]
        obtain ⟨rfl, h91⟩ := h9
        clear HEH
        go_wp2
        go_ret2
        rw [HGG.out]
        exact ⟨HG.out.1, rfl⟩
      have ha := and_not' c hc
      obtain ⟨x, hx⟩ : ∃ x, x = c.toNat % 128 := ⟨_, rfl⟩
      rw [← hx] at ha
      have h9x : i = 9 → x ≤ 1 := fun e => by
        have : ¬ 1 < c := fun h => h9 ⟨e, h⟩
        omega
      have hrm := room acc x i hacc (by omega) hi h9x
      have hor := or_val acc x i hacc hrm.1
      obtain ⟨acc2, hacc2⟩ : ∃ y, y = acc + x * 128 ^ i := ⟨_, rfl⟩
      rw [← hacc2] at hor hrm
      have HOR : Hid (bits .or .u64 (acc : Int) (IntKind.u64.wrap ((x : Int) * 2 ^ (7 * i))) = (acc2 : Int) ∧ acc2 < 18446744073709551616 ∧ acc2 < 128 ^ (i + 1)) := ⟨hor, hrm⟩
      have HEH2 : Hid (G = if c = 0 ∧ 0 < i then .error 4 else if 128 ≤ c then grpR (i + 1) acc2 r else .ok (acc2, r)) := by
        show _ = _
        rw [HEH.out, if_neg h9, hacc2, hx]
        by_cases hm : 128 ≤ c
        · rw [if_pos hm, if_pos hm]
        · rw [if_neg hm, if_neg hm, show c.toNat % 128 = c.toNat by omega]
      have hcond : ((7 * i : Nat) : Int) = 63 → ¬ 1 < c := fun e h => h9 ⟨by omega, h⟩
      have hx7 : x < 128 := by omega
      clear HEH h9 h9x hrm hor hacc2 hx hacc
      by_cases hm : 128 ≤ c
      · have hi9 : ¬ ((7 * i : Nat) : Int) = 63 := fun e => hcond e (by omega)
        have HGG : Hid (G = grpR (i + 1) acc2 r) := by
          show _ = _
          rw [HEH2.out, if_neg (by omega), if_pos hm]
        clear HEH2 hcond
        go_wp2
        refine ⟨⟨i + 1, acc2, r, by omega, by go_num, ?_, HOR.out.2.2, HGG.out, HG.out.2, HG.out.1⟩, by simp [intOf]; omega⟩
        exact congrArg (Value.int .u64) HOR.out.1
      · by_cases hz : c = 0
        · subst hz
          by_cases hi0 : i = 0
          · subst hi0
            have HGG : Hid (G = .ok (acc2, r)) := by
              show _ = _
              rw [HEH2.out, if_neg (by omega), if_neg (by omega)]
            have HOR2 : Hid (bits .or .u64 (acc : Int) (x : Int) = (acc2 : Int)) := by
              show _ = _
              have h1 := HOR.out.1
              have e : IntKind.u64.wrap ((x : Int) * 2 ^ (7 * 0)) = (x : Int) := by
                rw [IntKind.wrap_u64, Nat.mul_zero, Int.pow_zero, Int.mul_one]
                omega
              rwa [e] at h1
            clear HEH2 hcond
            go_wp2
            go_ret2
            rw [HGG.out]
            exact ⟨HG.out.1, _, rfl, ⟨congrArg (Value.int .u64) HOR2.out, HOR.out.2.1⟩, HG.out.2⟩
          · have HGG : Hid (G = .error 4) := by
              show _ = _
              rw [HEH2.out, if_pos ⟨rfl, by omega⟩]
            have hi1 : (0 : Int) < ((7 * i : Nat) : Int) := by omega
            clear HEH2 hcond
            by_cases h63 : ((7 * i : Nat) : Int) = 63
            · go_wp2
              go_ret2
              rw [HGG.out]
              exact ⟨HG.out.1, rfl⟩
            · go_wp2
              go_ret2
              rw [HGG.out]
              exact ⟨HG.out.1, rfl⟩
        · have HGG : Hid (G = .ok (acc2, r)) := by
            show _ = _
            rw [HEH2.out, if_neg (fun h => hz h.1), if_neg hm]
          by_cases hi9 : ((7 * i : Nat) : Int) = 63
          · have hc1 := hcond hi9
            obtain rfl : i = 9 := by omega
            have HOR2 : Hid (bits .or .u64 (acc : Int) (IntKind.u64.wrap ((x : Int) * 9223372036854775808)) = (acc2 : Int)) := by
              show _ = _
              have h1 := HOR.out.1
              have e : (2 : Int) ^ (7 * 9) = 9223372036854775808 := by decide
              rwa [e] at h1
            clear HEH2 hcond hi9
            go_wp2
            go_ret2
            rw [HGG.out]
            exact ⟨HG.out.1, _, rfl, ⟨congrArg (Value.int .u64) HOR2.out, HOR.out.2.1⟩, HG.out.2⟩
          · clear HEH2 hcond
            go_wp2
            go_ret2
            rw [HGG.out]
            exact ⟨HG.out.1, _, rfl, ⟨congrArg (Value.int .u64) HOR.out.1, HOR.out.2.1⟩, HG.out.2⟩

set_option maxHeartbeats 1000000 in
theorem number_any (w0 : World) (R : Nat) (l : List Int) (w : World) (h : Rdr w0 R l w) :
    Calls Tryd.prog 65 #[.pointer (some ⟨R, 0, none⟩)] w fun e w' => Told w0 R w (.int .i64 0) (fun _ v a => v = .int .i64 a ∧ I64 a) (numR l) e w' := by
  have HT := groups_any w0 R l w h
  have hN : numR l = (grpR 0 0 l).map unfold := rfl
  rw [hN]
  clear h hN
  cases hg : grpR 0 0 l with
  | error k =>
    rw [hg] at HT
    have HU := fun w => unfolded_any 0 (by decide) w
    rw [show unfold 0 = 0 from rfl] at HU
    clear hg
    go_enter Tryd.func65, Tryd.ntmps65
    go_wp2_with fail
    refine HT.mono ?_
    rintro e w1 ⟨hgr, rfl⟩
    have HG : Hid (w.grownBy w1 (some R)) := hgr
    clear hgr HT
    go_wp2_with fail
    refine (HU w1).mono ?_
    rintro e w2 ⟨rfl, rfl⟩
    clear HU
    go_wp2
    go_ret2
    exact ⟨HG.out, rfl⟩
  | ok pp =>
    obtain ⟨m, r⟩ := pp
    rw [hg] at HT
    clear hg
    go_enter Tryd.func65, Tryd.ntmps65
    go_wp2_with fail
    refine HT.mono ?_
    rintro e w1 ⟨hgr, v, rfl, ⟨rfl, hm⟩, hR⟩
    have HG : Hid (w.grownBy w1 (some R) ∧ Rdr w0 R r w1) := ⟨hgr, hR⟩
    have HU := unfolded_any m hm w1
    have HI : Hid (I64 (unfold m)) := unfold_in m hm
    obtain ⟨u, hu⟩ : ∃ u, u = unfold m := ⟨_, rfl⟩
    have HUU : Hid (u = unfold m) := hu
    rw [← hu] at HU HI
    clear hgr HT hR hu
    go_wp2_with fail
    refine HU.mono ?_
    rintro e w2 ⟨rfl, rfl⟩
    clear HU
    go_wp2
    go_ret2
    refine ⟨HG.out.1, _, rfl, ⟨?_, ?_⟩, HG.out.2⟩
    · exact congrArg (Value.int .i64) HUU.out
    · rw [← HUU.out]; exact HI.out

end Go.Proofs.YthlfgpnabcplnaaDoor.W
