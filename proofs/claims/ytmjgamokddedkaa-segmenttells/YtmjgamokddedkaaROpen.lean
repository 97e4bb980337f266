/-
  What the document's Open answers: the same.
-/
import Derived.Test.YtmjgamokddedkaaROpenN
import Derived.Test.YtmjgamokddedkaaHoldsMath
import Derived.Test.YtmjgamokddedkaaRCheck
import Derived.Test.YtmjgamokddedkaaBackMath
import Derived.Test.YtmjgamokddedkaaOfL
import Derived.BigQuiet
namespace Go.Proofs.Ytmjgamokddedkaa
open Go.RowKit
open O (nv)

def OpensR (w : World) (k : Int) (s : Sg) (e : Ending) (w' : World) : Prop := (∃ us, e = .returned (.tuple #[.agg us.toArray, .int .i64 k]) ∧ sgR.lies w.heap.size w' us s) ∧ Below w.heap.size w w'

set_option maxRecDepth 100000 in
set_option maxHeartbeats 8000000 in
theorem ropen_any (n0 : Nat) (v : Value) (b : List Int) (w : World) (h : Arg n0 w v b) : Calls Try.prog 14 #[v] w (OpensR w (oE b) (oS b)) := by
  obtain ⟨post, hpost⟩ : ∃ post : Ending → World → Prop, post = OpensR w (oE b) (oS b) := ⟨_, rfl⟩
  have HNO : Hid (∀ k w', oE b = k → k ≠ 0 → Below w.heap.size w w' → post (.returned (.tuple #[.agg #[.int .i64 0, .slice none 0 0], .int .i64 k])) w') := fun k w' h1 h2 h3 => by
    rw [hpost]
    refine ⟨⟨[.int .i64 0, .slice none 0 0], by rw [h1], ?_⟩, h3⟩
    rw [oS_no h1 h2]
    exact sg_nilR _ _
  have HOK : Hid (∀ us w', oE b = 0 → sgR.lies w.heap.size w' us (rdS (b.take 380)) → Below w.heap.size w w' → post (.returned (.tuple #[.agg us.toArray, .int .i64 0])) w') := fun us w' h1 h2 h3 => by
    rw [hpost]
    refine ⟨⟨us, by rw [h1], ?_⟩, h3⟩
    rw [oS_ok h1]
    exact h2
  rw [← hpost]
  clear hpost
  have h0 := h.weaken (Nat.zero_le n0)
  have hl1 := h0.len
  obtain ⟨W, hW⟩ : ∃ W, W = w.alloc (.cells #[.int .i64 0, .slice none 0 0] 24) := ⟨_, rfl⟩
  have HW : Hid (Below w.heap.size w W ∧ Box W w.heap.size 24 #[.int .i64 0, .slice none 0 0]) := by rw [hW]; exact ⟨(Below.refl _ _).alloc (Nat.le_refl _) _, Box.new _ _ _⟩
  have HST : Hid (∀ (X : World) (x y u u' : Value), Below w.heap.size w X → Box X w.heap.size 24 #[x, y] → ((X.setCell ⟨w.heap.size, 0, none⟩ u).setCell ⟨w.heap.size, 1, none⟩ u').cell? ⟨w.heap.size, 0, none⟩ = some u ∧ ((X.setCell ⟨w.heap.size, 0, none⟩ u).setCell ⟨w.heap.size, 1, none⟩ u').cell? ⟨w.heap.size, 1, none⟩ = some u' ∧ Below w.heap.size w ((X.setCell ⟨w.heap.size, 0, none⟩ u).setCell ⟨w.heap.size, 1, none⟩ u')) := fun X x y u u' hb hB => by
    obtain ⟨g0, g1, -, -⟩ := ((hB.set 0 u).set 1 u').two
    exact ⟨g0, g1, below_set2 hb (Nat.le_refl _) _ _⟩
  by_cases hlen : b.length = 384
  case neg =>
    have HE : Hid (oE b = 3) := oE_count hlen
    have hli : ((b.length : Int) == 384) = false := by simp; omega
    obtain ⟨g0, g1, f0, f1⟩ := HW.out.2.two
    rw [hW] at g0 g1 f0 f1
    have HB := HW.out.1
    rw [hW] at HB
    clear h h0 hW HW HST HOK hlen
    go_enter Try.func14, Try.ntmps14
    go_wp2
    exact bodyPost_ret (v := .tuple #[.agg #[.int .i64 0, .slice none 0 0], .int .i64 3]) (by simp [results, Try.results14, go_sem, g0, g1]) rfl (HNO.out 3 _ HE.out (by decide) HB)
  obtain ⟨v1, hA1, s1⟩ := h0.ahead 380 (by omega)
  replace s1 : ∀ X, (Instr.slice 25 v none (some (.int .i64 380)) none).run Try.prog X = .ok v1 X := s1
  obtain ⟨v2, hA2, s2⟩ := h0.behind 380 (by omega)
  replace s2 : ∀ X, (Instr.slice 25 v (some (.int .i64 380)) none none).run Try.prog X = .ok v2 X := s2
  obtain ⟨v4, hA4, s4⟩ := h0.ahead 4 (by omega)
  replace s4 : ∀ X, (Instr.slice 25 v none (some (.int .i64 4)) none).run Try.prog X = .ok v4 X := s4
  obtain ⟨v5, hA5, s5⟩ := h0.cut 4 12 (by omega) (by omega)
  replace s5 : ∀ X, (Instr.slice 25 v (some (.int .i64 4)) (some (.int .i64 12)) none).run Try.prog X = .ok v5 X := s5
  have hsl : C.sum (b.take 380) < 4294967296 := C.ext_lt 0 _ (by decide) (octs hA1.oct)
  have hnl : nv (b.drop 380) < 4294967296 := nv_four hA2.oct (by simp; omega)
  obtain ⟨sm, hsm⟩ : ∃ sm, sm = C.sum (b.take 380) := ⟨_, rfl⟩
  obtain ⟨nt, hnt⟩ : ∃ nt, nt = nv (b.drop 380) := ⟨_, rfl⟩
  have HSUM : Hid (∀ m, Calls Try.prog 31 #[v1] (W.drewN m) fun e w' => e = .returned (.int .u32 sm) ∧ ∃ q, w' = (W.drewN m).drewN q) := fun m => by
    rw [hsm]
    exact (C.rsum_any v1 _ _ (hA1.below (below_drewN HW.out.1 m)).toC).mono fun e w' hh => ⟨hh.1, 0, hh.2.symm⟩
  have HNUM : Hid (∀ m, Calls Try.prog 37 #[v2] (W.drewN m) fun e w' => e = .returned (.int .u64 nt) ∧ ∃ q, w' = (W.drewN m).drewN q) := fun m => by
    rw [hnt]
    exact (rnum_any v2 _ _ (hA2.below (below_drewN HW.out.1 m)) (by simp; omega)).mono fun e w' hh => ⟨hh.1, 0, hh.2.symm⟩
  have HEQ : Hid (sm = C.sum (b.take 380) ∧ nt = nv (b.drop 380) ∧ b.length = 384) := ⟨hsm, hnt, hlen⟩
  have HA : Hid (Arg 0 w v b ∧ Arg 0 w v4 (b.take 4) ∧ Arg 0 w v5 ((b.take 12).drop 4)) := ⟨h0, hA4, hA5⟩
  rw [hlen] at hl1
  have hsm32 : sm < 4294967296 := by rw [hsm]; exact hsl
  have hcv : IntKind.u64.wrap (sm : Int) = (sm : Int) := by unfold IntKind.wrap; simp [IntKind.signed, IntKind.bits]; omega
  clear h h0 hA1 hA2 hA4 hA5 hsl hsm hnt hlen hnl
  go_enter Try.func14, Try.ntmps14
  by_cases hne : nt = sm
  case neg =>
    have hneb : ((nt : Int) == (sm : Int)) = false := by simp; omega
    have HE : Hid (oE b = 21) := oE_sum HEQ.out.2.2 (by rw [← HEQ.out.1, ← HEQ.out.2.1]; exact fun e => hne e.symm)
    go_wp2
    rw [← hW]
    clear hW
    go_quiet (first | (go_at_call 37; exact Calls.quiet_of (HNUM.out _)) | (go_at_call 31; exact Calls.quiet_of (HSUM.out _)))
    have hb := below_drewN (Below.refl W.heap.size W) nq
    have hBx := HW.out.2.below hb HW.out.2.lt
    obtain ⟨k0, k1, k2⟩ := HST.out _ _ _ (.int .i64 0) (.slice none 0 0) (below_any HW.out.1 hb) hBx
    obtain ⟨g0, g1, f0, f1⟩ := hBx.two
    clear hb hBx
    go_wp2
    exact bodyPost_ret (v := .tuple #[.agg #[.int .i64 0, .slice none 0 0], .int .i64 21]) (by simp [results, Try.results14, go_sem, k0, k1]) rfl (HNO.out 21 _ HE.out (by decide) k2)
  subst hne
  go_wp2
  rw [← hW]
  clear hW
  go_quiet (first | (go_at_call 37; exact Calls.quiet_of (HNUM.out _)) | (go_at_call 31; exact Calls.quiet_of (HSUM.out _)))
  obtain ⟨X, hX⟩ : ∃ X, X = W.drewN nq := ⟨_, rfl⟩
  rw [← hX]
  have HX : Hid (Below w.heap.size w X ∧ Box X w.heap.size 24 #[.int .i64 0, .slice none 0 0]) := by
    have hb : Below W.heap.size W X := by rw [hX]; exact below_drewN (Below.refl _ _) _
    exact ⟨below_any HW.out.1 hb, HW.out.2.below hb HW.out.2.lt⟩
  clear hX HW HNUM HSUM hl1 s1 s2 hcv
  have hcb := C.conv_bytes (HA.out.2.1.below HX.out.1).toC.bytes
  obtain ⟨g0, g1, f0, f1⟩ := HX.out.2.two
  obtain ⟨st, hst⟩ : ∃ st, st = strOfNums (b.take 4) := ⟨_, rfl⟩
  have HMK : Hid ((st.toList == [115, 101, 103, 49]) = decide (b.take 4 = mrk)) := by
    show _ = _
    rw [hst, ByteArray.toList_eq, strOfNums_data, show ([115, 101, 103, 49] : List UInt8) = mrk.map (fun n => UInt8.ofNat n.toNat) from rfl]
    by_cases e : b.take 4 = mrk
    · rw [e]; simp
    · have h1 : ((b.take 4).map fun n => UInt8.ofNat n.toNat) ≠ (mrk.map fun n => UInt8.ofNat n.toNat) := fun h => e (C.octs_inj _ _ (octs HA.out.2.1.oct) (fun x hx => by simp [mrk] at hx; omega) h)
      rw [decide_eq_false e]
      exact beq_eq_false_iff_ne.2 h1
  rw [← hst] at hcb
  clear hst
  have HS0 : Hid (C.sum (b.take 380) = nv (b.drop 380)) := by
    have := HEQ.out
    exact this.1.symm.trans this.2.1
  by_cases hmk : b.take 4 = mrk
  case neg =>
    have hmb : (st.toList == [115, 101, 103, 49]) = false := by rw [HMK.out]; exact decide_eq_false hmk
    have HE : Hid (oE b = 22) := oE_kind HEQ.out.2.2 HS0.out (by rw [List.take_take]; exact hmk)
    obtain ⟨k0, k1, k2⟩ := HST.out X _ _ (.int .i64 0) (.slice none 0 0) HX.out.1 HX.out.2
    clear hmk
    go_wp2
    exact bodyPost_ret (v := .tuple #[.agg #[.int .i64 0, .slice none 0 0], .int .i64 22]) (by simp [results, Try.results14, go_sem, k0, k1]) rfl (HNO.out 22 _ HE.out (by decide) k2)
  have hmb : (st.toList == [115, 101, 103, 49]) = true := by rw [HMK.out]; exact decide_eq_true hmk
  have HMM : Hid ((b.take 380).take 4 = mrk) := by show _ = _; rw [List.take_take]; exact hmk
  clear hmk HMK
  obtain ⟨x12, hx12⟩ := get_lt (l := b) (k := 12) (by rw [HEQ.out.2.2]; omega)
  have hw12 := octs HA.out.1.oct x12 (List.mem_of_getElem? hx12)
  obtain ⟨n, rfl⟩ := Int.eq_ofNat_of_zero_le hw12.1
  have HCN : Hid (cn (b.take 380) = n) := by show _ = _; rw [cn_at hx12]; rfl
  have hn255 : n ≤ 255 := by omega
  obtain ⟨sN, hsN⟩ : ∃ sN, sN = nv ((b.take 12).drop 4) := ⟨_, rfl⟩
  have HSN : Hid (sN = nv ((b.take 12).drop 4) ∧ sN < 18446744073709551616) := ⟨hsN, by
    have h1 := O.nv_lt ((b.take 12).drop 4) (octs HA.out.2.2.oct)
    rw [hsN]
    rwa [part_length _ _ _ (by rw [HEQ.out.2.2]; omega)] at h1⟩
  have HNQ : Hid (∀ m, Calls Try.prog 37 #[v5] (X.drewN m) fun e w' => e = .returned (.int .u64 sN) ∧ ∃ q, w' = (X.drewN m).drewN q) := fun m => by
    rw [hsN]
    refine (rnum_any v5 _ _ (HA.out.2.2.below (below_drewN HX.out.1 m)) ?_).mono fun e w' hh => ⟨hh.1, 0, hh.2.symm⟩
    rw [part_length _ _ _ (by rw [HEQ.out.2.2]; omega)]
    omega
  obtain ⟨b12, o12, hix12, -, p12, -⟩ := (HA.out.1.below HX.out.1).at 12 (n : Int) hx12
  replace hix12 : ∀ W, (Instr.indexAt 25 v (.int .i64 12)).run Try.prog W = .ok (.pointer (some ⟨b12, o12, none⟩)) W := hix12
  clear hsN hx12 hw12
  go_wp2
  go_quiet (first | (go_at_call 37; exact Calls.quiet_of (HNQ.out _)) | fail)
  obtain ⟨Y, hY⟩ : ∃ Y, Y = X.drewN nq := ⟨_, rfl⟩
  rw [← hY]
  have HY : Hid (Below w.heap.size w Y ∧ Box Y w.heap.size 24 #[.int .i64 0, .slice none 0 0]) := by
    have hb : Below X.heap.size X Y := by rw [hY]; exact below_drewN (Below.refl _ _) _
    exact ⟨below_any HX.out.1 hb, HX.out.2.below hb HX.out.2.lt⟩
  clear hY HX HNQ hcb hmb g0 g1 f0 f1 hix12 p12 s4 s5
  by_cases h1 : n < 1
  · have h1i : (n : Int) < 1 := by omega
    have HE : Hid (oE b = 9) := by
      have h9 : rdE (b.take 380) = 9 := rdE_few (by rw [HCN.out]; exact h1)
      show _ = _
      rw [oE_state HEQ.out.2.2 HS0.out HMM.out (by rw [h9]; decide), h9]
    obtain ⟨g0, g1, f0, f1⟩ := HY.out.2.two
    obtain ⟨k0, k1, k2⟩ := HST.out Y _ _ (.int .i64 0) (.slice none 0 0) HY.out.1 HY.out.2
    go_wp2
    exact bodyPost_ret (v := .tuple #[.agg #[.int .i64 0, .slice none 0 0], .int .i64 9]) (by simp [results, Try.results14, go_sem, k0, k1]) rfl (HNO.out 9 _ HE.out (by decide) k2)
  have h1i : ¬ (n : Int) < 1 := by omega
  by_cases h8 : 8 < n
  · have h8i : (8 : Int) < (n : Int) := by omega
    have HE : Hid (oE b = 9) := by
      have h9 : rdE (b.take 380) = 9 := rdE_many (by rw [HCN.out]; exact h8)
      show _ = _
      rw [oE_state HEQ.out.2.2 HS0.out HMM.out (by rw [h9]; decide), h9]
    obtain ⟨g0, g1, f0, f1⟩ := HY.out.2.two
    obtain ⟨k0, k1, k2⟩ := HST.out Y _ _ (.int .i64 0) (.slice none 0 0) HY.out.1 HY.out.2
    go_wp2
    exact bodyPost_ret (v := .tuple #[.agg #[.int .i64 0, .slice none 0 0], .int .i64 9]) (by simp [results, Try.results14, go_sem, k0, k1]) rfl (HNO.out 9 _ HE.out (by decide) k2)
  have h8i : ¬ (8 : Int) < (n : Int) := by omega
  by_cases hs1 : sN < 1
  · have hs1i : (sN : Int) < 1 := by omega
    have HE : Hid (oE b = 9) := by
      have h9 : rdE (b.take 380) = 9 := rdE_seq (by rw [← HSN.out.1]; exact .inl hs1) (by rw [← HSN.out.1]; exact HSN.out.2)
      show _ = _
      rw [oE_state HEQ.out.2.2 HS0.out HMM.out (by rw [h9]; decide), h9]
    obtain ⟨g0, g1, f0, f1⟩ := HY.out.2.two
    obtain ⟨k0, k1, k2⟩ := HST.out Y _ _ (.int .i64 0) (.slice none 0 0) HY.out.1 HY.out.2
    go_wp2
    exact bodyPost_ret (v := .tuple #[.agg #[.int .i64 0, .slice none 0 0], .int .i64 9]) (by simp [results, Try.results14, go_sem, k0, k1]) rfl (HNO.out 9 _ HE.out (by decide) k2)
  have hs1i : ¬ (sN : Int) < 1 := by omega
  by_cases hs2 : 1099511627776 < sN
  · have hs2i : (1099511627776 : Int) < (sN : Int) := by omega
    have HE : Hid (oE b = 9) := by
      have h9 : rdE (b.take 380) = 9 := rdE_seq (by rw [← HSN.out.1]; exact .inr hs2) (by rw [← HSN.out.1]; exact HSN.out.2)
      show _ = _
      rw [oE_state HEQ.out.2.2 HS0.out HMM.out (by rw [h9]; decide), h9]
    obtain ⟨g0, g1, f0, f1⟩ := HY.out.2.two
    obtain ⟨k0, k1, k2⟩ := HST.out Y _ _ (.int .i64 0) (.slice none 0 0) HY.out.1 HY.out.2
    go_wp2
    exact bodyPost_ret (v := .tuple #[.agg #[.int .i64 0, .slice none 0 0], .int .i64 9]) (by simp [results, Try.results14, go_sem, k0, k1]) rfl (HNO.out 9 _ HE.out (by decide) k2)
  have hs2i : ¬ (1099511627776 : Int) < (sN : Int) := by omega
  obtain ⟨V, hV⟩ : ∃ V, V = Y.alloc (.cells #[.int .i64 (sN : Int), .slice none 0 0] 24) := ⟨_, rfl⟩
  obtain ⟨A, hA⟩ : ∃ A, A = Y.heap.size := ⟨_, rfl⟩
  have HI0 : Hid (RI w A sN [] none 0 0 V) := by
    rw [hA]
    refine ⟨by rw [hV]; exact Box.new _ _ _, by rw [hV]; exact HY.out.2.alloc _, Shape.list_nil bkR 22 Try.underlying22 cells22 _ _, by rw [hV]; exact HY.out.1.alloc HY.out.1.size _, HY.out.2.lt⟩
  have HSQ : Hid (sq (b.take 380) = (sN : Int) ∧ I64 (sN : Int)) := ⟨by rw [sq_at, ← HSN.out.1]; unfold wrap64; omega, ⟨by omega, by omega⟩⟩
  go_wp2
  rw [← hV, ← hA]
  clear hV hA HY HSN
  go_loopw [7, 8] (fun at_ i wr => ∃ (k ix : Nat) (a : Option Addr) (c : Nat), k ≤ n ∧ i = .int .i64 k ∧ at_ = .int .i64 ix ∧ Hid (Rd (b.take 380) k ix) ∧ Hid (RI w A sN (rdF (hbs (b.take 380)) (List.range k) (beh (b.take 380))).1 a k c wr)) (fun _ i _ => n - (intOf i).toNat)
  case atStart =>
    refine ⟨0, 13 + 6 * n, none, 0, Nat.zero_le _, rfl, by go_num, ?_, HI0⟩
    have := Rd.start (b.take 380)
    rw [HCN.out] at this
    exact this
  case round =>
    obtain ⟨k, ix, a, c, hk, rfl, rfl, HRD, HK⟩ := hrel
    have hixb : ix ≤ 317 := by have h1 := HRD.out.low; rw [HCN.out] at h1; omega
    by_cases hlt : k < n
    case neg =>
      obtain rfl : k = n := by omega
      have hwh := (show Rd (b.take 380) (cn (b.take 380)) ix by rw [HCN.out]; exact HRD.out).whole (by rw [HCN.out]; omega)
      rw [HSQ.out.1, show (rdR (b.take 380)).1 = (rdF (hbs (b.take 380)) (List.range k) (beh (b.take 380))).1 by rw [rdR, HCN.out]] at hwh
      obtain ⟨l1, hl1⟩ : ∃ l1, l1 = (rdF (hbs (b.take 380)) (List.range k) (beh (b.take 380))).1 := ⟨_, rfl⟩
      rw [← hl1] at HK hwh
      have HWH : Hid (rdE (b.take 380) = cerr (sN, l1) ∧ rdS (b.take 380) = (↑sN, l1) ∧ rdB (b.take 380) = (b.take 380).drop ix) := hwh.2.2
      have HC := rcheck_any _ _ (↑sN, l1) wr (HK.out.lies HSQ.out.2)
      obtain ⟨g0, g1, f0, f1⟩ := HK.out.box.two
      have hki : ¬ (k : Int) < (k : Int) := by omega
      clear hwh hl1 HRD hlt hk
      go_wp2_with fail
      refine HC.mono ?_
      rintro e w3 ⟨rfl, hb3⟩
      have H3 : Hid (RI w A sN l1 a k c w3) := HK.out.later hb3
      clear HC HK hb3 g0 g1 f0 f1
      by_cases hck : Chk (↑sN, l1)
      case neg =>
        rw [cerr_bad hck]
        have HE : Hid (oE b = 9) := by
          have h9 : rdE (b.take 380) = 9 := by rw [HWH.out.1]; exact cerr_bad hck
          show _ = _
          rw [oE_state HEQ.out.2.2 HS0.out HMM.out (by rw [h9]; decide), h9]
        obtain ⟨g0, g1, f0, f1⟩ := H3.out.res.two
        obtain ⟨k0, k1, k2⟩ := HST.out w3 _ _ (.int .i64 0) (.slice none 0 0) H3.out.bel H3.out.res
        go_wp2
        exact bodyPost_ret (v := .tuple #[.agg #[.int .i64 0, .slice none 0 0], .int .i64 9]) (by simp [results, Try.results14, go_sem, k0, k1]) rfl (HNO.out 9 _ HE.out (by decide) k2)
      rw [cerr_ok hck]
      have HE0 : Hid (rdE (b.take 380) = 0) := by show _ = _; rw [HWH.out.1]; exact cerr_ok hck
      clear hck
      go_wp2
      go_loopw [11] (fun i W => ∃ j : Nat, ix ≤ j ∧ j ≤ 380 ∧ i = .int .i64 j ∧ Hid (∀ m, ix ≤ m → m < j → b[m]? = some 0) ∧ W = w3) (fun i _ => 380 - (intOf i).toNat)
      case atStart => exact ⟨ix, Nat.le_refl _, by omega, rfl, fun m h1 h2 => by omega, rfl⟩
      case round =>
        obtain ⟨j, hj0, hj, rfl, HZ, rfl⟩ := hrel
        by_cases hlt : j < 380
        case neg =>
          obtain rfl : j = 380 := by omega
          have HE : Hid (oE b = 0) := by
            refine oE_ok HEQ.out.2.2 HS0.out HMM.out HE0.out ?_
            rw [HWH.out.2.2, List.all_eq_true]
            intro x hx
            obtain ⟨m, hm, rfl⟩ := List.getElem_of_mem hx
            have hm2 : m < 380 - ix := by simpa [HEQ.out.2.2] using hm
            have h1 := HZ.out (ix + m) (by omega) (by omega)
            rw [List.getElem_drop, List.getElem_take]
            rw [List.getElem?_eq_getElem (by rw [HEQ.out.2.2]; omega)] at h1
            simpa using h1
          obtain ⟨g0, g1, f0, f1⟩ := H3.out.res.two
          obtain ⟨g2, g3, f2, f3⟩ := H3.out.box.two
          obtain ⟨k0, k1, k2⟩ := HST.out wr _ _ (.int .i64 (sN : Int)) (.slice a k c) H3.out.bel H3.out.res
          have HFIN : Hid (sgR.lies w.heap.size ((wr.setCell ⟨w.heap.size, 0, none⟩ (.int .i64 (sN : Int))).setCell ⟨w.heap.size, 1, none⟩ (.slice a k c)) [.int .i64 (sN : Int), .slice a k c] (rdS (b.take 380))) := by
            rw [HWH.out.2.1]
            exact sg_mkR (s := (↑sN, l1)) (bksR.weaken (bksR.olies (bksR.osame H3.out.own (.set2 (by have := H3.out.low; omega)))) (by have := H3.out.low; omega)) HSQ.out.2
          go_wp2
          exact bodyPost_ret (v := .tuple #[.agg #[.int .i64 (sN : Int), .slice a k c], .int .i64 0]) (by simp [results, Try.results14, go_sem, k0, k1]) rfl (HOK.out [_, _] _ HE.out HFIN.out k2)
        have hji : (j : Int) < 380 := by omega
        obtain ⟨x, hx⟩ := get_lt (l := b) (k := j) (by rw [HEQ.out.2.2]; omega)
        obtain ⟨bb, oo, hix, -, px, -⟩ := (HA.out.1.below H3.out.bel).at j x hx
        by_cases hx0 : x = 0
        · subst hx0
          have HZ2 : Hid (∀ m, ix ≤ m → m < j + 1 → b[m]? = some 0) := fun m h1 h2 => by
            by_cases e : m < j
            · exact HZ.out m h1 e
            · obtain rfl : m = j := by omega
              exact hx
          clear hx
          go_wp2
          go_roundw
          case rel => exact ⟨j + 1, by omega, by omega, by go_num, HZ2, trivial⟩
          case measure => simp [intOf]; omega
        · have hxb : (x == 0) = false := by simpa using hx0
          have HE : Hid (oE b = 23) := by
            refine oE_tail HEQ.out.2.2 HS0.out HMM.out HE0.out ?_
            rw [HWH.out.2.2, List.all_eq_false]
            refine ⟨x, ?_, by simpa using hx0⟩
            refine List.mem_of_getElem? (i := j - ix) ?_
            rw [List.getElem?_drop, List.getElem?_take_of_lt (by omega), show ix + (j - ix) = j by omega]
            exact hx
          obtain ⟨g0, g1, f0, f1⟩ := H3.out.res.two
          obtain ⟨k0, k1, k2⟩ := HST.out wr _ _ (.int .i64 0) (.slice none 0 0) H3.out.bel H3.out.res
          clear hx hx0
          go_wp2
          exact bodyPost_ret (v := .tuple #[.agg #[.int .i64 0, .slice none 0 0], .int .i64 23]) (by simp [results, Try.results14, go_sem, k0, k1]) rfl (HNO.out 23 _ HE.out (by decide) k2)
    have hki : (k : Int) < (n : Int) := by omega
    have hk8 : k < 8 := by omega
    have HCK : Hid (ck (hbs (b.take 380)) k = (b.take (19 + 6 * k)).drop (13 + 6 * k)) := ck_at (by rw [HCN.out]; exact hlt) (by rw [HCN.out]; omega)
    obtain ⟨v9, hA9, s9⟩ := HA.out.1.cut (13 + 6 * k) (19 + 6 * k) (by omega) (by rw [HEQ.out.2.2]; omega)
    replace s9 : ∀ X, (Instr.slice 25 v (some (.int .i64 (13 + 6 * (k : Int)))) (some (.int .i64 (19 + 6 * (k : Int)))) none).run Try.prog X = .ok v9 X := fun X => by
      have := s9 X
      rwa [show ((13 + 6 * k : Nat) : Int) = 13 + 6 * (k : Int) by omega, show ((19 + 6 * k : Nat) : Int) = 19 + 6 * (k : Int) by omega] at this
    have h9l : ((b.take (19 + 6 * k)).drop (13 + 6 * k)).length = 6 := by rw [part_length _ _ _ (by rw [HEQ.out.2.2]; omega)]; omega
    obtain ⟨hh, hhh⟩ : ∃ hh, hh = (b.take (19 + 6 * k)).drop (13 + 6 * k) := ⟨_, rfl⟩
    rw [← hhh] at hA9 h9l HCK
    obtain ⟨y5, hy5⟩ := get_lt (l := hh) (k := 5) (by omega)
    obtain ⟨z4, hz4⟩ := get_lt (l := hh) (k := 4) (by omega)
    have w5 := octs hA9.oct y5 (List.mem_of_getElem? hy5)
    have w4 := octs hA9.oct z4 (List.mem_of_getElem? hz4)
    have HLN : Hid (lnn (hbs (b.take 380)) k = y5) := lnn_at (by rw [HCK.out]; exact h9l) (by rw [HCK.out]; exact hy5) w5
    have HIX : Hid (ixn (hbs (b.take 380)) k = z4) := ixn_at (by rw [HCK.out]; exact hz4) w4
    obtain ⟨m, rfl⟩ := Int.eq_ofNat_of_zero_le w5.1
    obtain ⟨zz, rfl⟩ := Int.eq_ofNat_of_zero_le w4.1
    have hm255 : m ≤ 255 := by omega
    have hz255 : zz ≤ 255 := by omega
    obtain ⟨b5, o5, hix5, -, p5, -⟩ := (hA9.below HK.out.bel).at 5 (m : Int) hy5
    replace hix5 : ∀ W, (Instr.indexAt 25 v9 (.int .i64 5)).run Try.prog W = .ok (.pointer (some ⟨b5, o5, none⟩)) W := hix5
    obtain ⟨b4, o4, hix4, -, p4, -⟩ := hA9.at 4 (zz : Int) hz4
    replace hix4 : ∀ W, (Instr.indexAt 25 v9 (.int .i64 4)).run Try.prog W = .ok (.pointer (some ⟨b4, o4, none⟩)) W := hix4
    obtain ⟨v84, hA84, s84⟩ := hA9.ahead 4 (by omega)
    replace s84 : ∀ X, (Instr.slice 25 v9 none (some (.int .i64 4)) none).run Try.prog X = .ok v84 X := s84
    by_cases hm : m ≤ 32
    case neg =>
      have hmi : (32 : Int) < (m : Int) := by omega
      have HE : Hid (oE b = 9) := by
        have h9 : rdE (b.take 380) = 9 := rdE_long (k := k) (by rw [HCN.out]; exact hlt) (by rw [HLN.out]; exact hmi)
        show _ = _
        rw [oE_state HEQ.out.2.2 HS0.out HMM.out (by rw [h9]; decide), h9]
      obtain ⟨g0, g1, f0, f1⟩ := HK.out.res.two
      obtain ⟨k0, k1, k2⟩ := HST.out wr _ _ (.int .i64 0) (.slice none 0 0) HK.out.bel HK.out.res
      clear hA9 hy5 hz4 w4 w5 hhh h9l hA84 p4 hix4 s84 HRD HI0 HLN HIX HCK
      go_wp2
      exact bodyPost_ret (v := .tuple #[.agg #[.int .i64 0, .slice none 0 0], .int .i64 9]) (by simp [results, Try.results14, go_sem, k0, k1]) rfl (HNO.out 9 _ HE.out (by decide) k2)
    have hmi : ¬ (32 : Int) < (m : Int) := by omega
    obtain ⟨v96, hA96, s96⟩ := HA.out.1.cut ix (ix + m) (by omega) (by rw [HEQ.out.2.2]; omega)
    replace s96 : ∀ X, (Instr.slice 25 v (some (.int .i64 (ix : Int))) (some (.int .i64 ((ix : Int) + (m : Int)))) none).run Try.prog X = .ok v96 X := fun X => by
      have := s96 X
      rwa [show ((ix + m : Nat) : Int) = (ix : Int) + (m : Int) by omega] at this
    obtain ⟨dd, hdd⟩ : ∃ dd, dd = (b.take (ix + m)).drop ix := ⟨_, rfl⟩
    have hddl : dd.length = m := by rw [hdd, part_length _ _ _ (by rw [HEQ.out.2.2]; omega)]; omega
    rw [← hdd] at hA96
    obtain ⟨on, hon⟩ : ∃ on, on = nv (hh.take 4) := ⟨_, rfl⟩
    have hon32 : on < 4294967296 := by rw [hon]; exact nv_four hA84.oct (by simp; omega)
    have HOW : Hid (ow (hbs (b.take 380)) k = (on : Int)) := by
      show _ = _
      rw [ow_at (by rw [HCK.out, ← hon]; exact hon32), HCK.out, ← hon]
    have hnx := HRD.out.next (m := m) HLN.out hm
    rw [HOW.out, HIX.out, ← piece_at b ix m (by omega), ← hdd] at hnx
    have HNX : Hid (Rd (b.take 380) (k + 1) (ix + m) ∧ (rdF (hbs (b.take 380)) (List.range (k + 1)) (beh (b.take 380))).1 = (rdF (hbs (b.take 380)) (List.range k) (beh (b.take 380))).1 ++ [((on : Int), (zz : Int), dd)]) := hnx
    have HLL : Hid ((rdF (hbs (b.take 380)) (List.range k) (beh (b.take 380))).1.length = k) := HRD.out.len
    obtain ⟨l1, hl1⟩ : ∃ l1, l1 = (rdF (hbs (b.take 380)) (List.range k) (beh (b.take 380))).1 := ⟨_, rfl⟩
    rw [← hl1] at HK HNX HLL
    have HNUM : Hid (∀ U, Below wr.heap.size wr U → Calls Try.prog 37 #[v84] U fun e w' => e = .returned (.int .u64 on) ∧ U = w') := fun U hU => by
      rw [hon]
      exact rnum_any v84 _ U (hA84.below (below_any HK.out.bel hU)) (by simp; omega)
    have HCOP : Hid (∀ U, Below wr.heap.size wr U → Calls Try.prog 38 #[v96] U fun e w' => (∃ x c, e = .returned (.slice x m c) ∧ Own1 U.heap.size w' (.slice x m c) dd) ∧ Below U.heap.size U w') := fun U hU => by
      refine (rcopy_any v96 dd U (hA96.below (below_any HK.out.bel hU)) (by omega)).mono ?_
      rintro e w' ⟨⟨v', rfl, hv'⟩, hb'⟩
      obtain ⟨x, c', rfl⟩ := hv'.shape
      rw [hddl] at hv' ⊢
      exact ⟨⟨x, c', rfl, hv'⟩, hb'⟩
    obtain ⟨i3, hi3, hz30, hz31, hz32⟩ := info_parts Try.info55
    obtain ⟨vss, hown, hE⟩ : ∃ vss, wr.ownsRow (A + 1) 55 3 (.slice a k c) k vss.flatten ∧ Each (bkR.owns (A + 1) wr) vss l1 := by
      obtain ⟨v', vss, hv, h1, h2⟩ := HK.out.own
      obtain rfl : Value.slice a k c = v' := by simpa using hv
      exact ⟨vss, by rw [HLL.out] at h1; exact h1, h2⟩
    have HO : Hid (wr.ownsRow (A + 1) 55 3 (.slice a k c) k vss.flatten ∧ Each (bkR.owns (A + 1) wr) vss l1) := ⟨hown, hE⟩
    have hA1 : A + 1 ≤ wr.heap.size := HK.out.box.lt
    have HON : Hid (I64 (on : Int) ∧ I64 (zz : Int)) := ⟨⟨by omega, by omega⟩, ⟨by omega, by omega⟩⟩
    have hlowA : w.heap.size < A := HK.out.low
    have hb4 : b4 < A + 1 := by have h1 : b4 < w.heap.size := cell_lt p4; omega
    obtain ⟨-, G1, -, F1⟩ := HK.out.box.two
    have hp4 : wr.cell? ⟨b4, o4, none⟩ = some (.int .u8 (zz : Int)) := by rw [HK.out.bel.cell (cell_lt p4)]; exact p4
    have HS : Hid (∀ U, Below (A + 1) wr U → U.cell? ⟨A, 1, none⟩ = some (.slice a k c) ∧ U.cell? ⟨b4, o4, none⟩ = some (.int .u8 (zz : Int))) := fun U hU => ⟨by rw [hU.cell (Nat.lt_succ_self _)]; exact G1, by rw [hU.cell hb4]; exact hp4⟩
    have hwm : IntKind.i64.wrap ((ix : Int) + (m : Int)) = (ix : Int) + (m : Int) := by unfold IntKind.wrap; simp [IntKind.signed, IntKind.bits]; omega
    have hwm2 : wrap64 ((ix : Int) + (m : Int)) = (ix : Int) + (m : Int) := by unfold wrap64; omega
    have hwo : IntKind.i64.wrap (on : Int) = (on : Int) := by unfold IntKind.wrap; simp [IntKind.signed, IntKind.bits]; omega
    have hwo2 : wrap64 (on : Int) = (on : Int) := by unfold wrap64; omega
    have hwz : IntKind.i64.wrap (zz : Int) = (zz : Int) := by unfold IntKind.wrap; simp [IntKind.signed, IntKind.bits]; omega
    have hwz2 : wrap64 (zz : Int) = (zz : Int) := by unfold wrap64; omega
    clear hA9 hy5 hz4 w4 w5 hhh h9l hA84 hA96 HRD HI0 HLN HIX HCK HOW hnx hl1 hon hdd hown hE p4 hp4 G1 F1 hb4
    go_wp2
    refine AnyBut.begin (fun U => U.cell? ⟨A, 1, none⟩ = some (.slice a k c) ∧ U.cell? ⟨b4, o4, none⟩ = some (.int .u8 (zz : Int))) 21 (by kernel_rfl) ?_
    have hbd : Below wr.heap.size wr wr.drew := (Below.refl _ wr).drew
    have hSS := HS.out wr.drew (hbd.mono hA1)
    refine ty 0 81 hSS ?_
    simp only [Go.Proofs.Ytmjgamokddedkaa.ua, Go.Proofs.Ytmjgamokddedkaa.ub, Go.Proofs.Ytmjgamokddedkaa.uc, Go.Proofs.Ytmjgamokddedkaa.ud]
    refine ty 1 82 hSS ?_
    simp only [Go.Proofs.Ytmjgamokddedkaa.ua, Go.Proofs.Ytmjgamokddedkaa.ub, Go.Proofs.Ytmjgamokddedkaa.uc, Go.Proofs.Ytmjgamokddedkaa.ud]
    refine ty 2 83 hSS ?_
    simp only [Go.Proofs.Ytmjgamokddedkaa.ua, Go.Proofs.Ytmjgamokddedkaa.ub, Go.Proofs.Ytmjgamokddedkaa.uc, Go.Proofs.Ytmjgamokddedkaa.ud]
    refine ty 3 84 hSS ?_
    simp only [Go.Proofs.Ytmjgamokddedkaa.ua, Go.Proofs.Ytmjgamokddedkaa.ub, Go.Proofs.Ytmjgamokddedkaa.uc, Go.Proofs.Ytmjgamokddedkaa.ud]
    refine ty 6 87 hSS ?_
    simp only [Go.Proofs.Ytmjgamokddedkaa.ua, Go.Proofs.Ytmjgamokddedkaa.ub, Go.Proofs.Ytmjgamokddedkaa.uc, Go.Proofs.Ytmjgamokddedkaa.ud]
    refine ty 7 88 hSS ?_
    simp only [Go.Proofs.Ytmjgamokddedkaa.ua, Go.Proofs.Ytmjgamokddedkaa.ub, Go.Proofs.Ytmjgamokddedkaa.uc, Go.Proofs.Ytmjgamokddedkaa.ud]
    refine ty 8 89 hSS ?_
    simp only [Go.Proofs.Ytmjgamokddedkaa.ua, Go.Proofs.Ytmjgamokddedkaa.ub, Go.Proofs.Ytmjgamokddedkaa.uc, Go.Proofs.Ytmjgamokddedkaa.ud]
    refine ty 9 90 hSS ?_
    simp only [Go.Proofs.Ytmjgamokddedkaa.ua, Go.Proofs.Ytmjgamokddedkaa.ub, Go.Proofs.Ytmjgamokddedkaa.uc, Go.Proofs.Ytmjgamokddedkaa.ud]
    refine ty 10 91 hSS ?_
    simp only [Go.Proofs.Ytmjgamokddedkaa.ua, Go.Proofs.Ytmjgamokddedkaa.ub, Go.Proofs.Ytmjgamokddedkaa.uc, Go.Proofs.Ytmjgamokddedkaa.ud]
    refine ty 11 92 hSS ?_
    simp only [Go.Proofs.Ytmjgamokddedkaa.ua, Go.Proofs.Ytmjgamokddedkaa.ub, Go.Proofs.Ytmjgamokddedkaa.uc, Go.Proofs.Ytmjgamokddedkaa.ud]
    refine ty 12 93 hSS ?_
    simp only [Go.Proofs.Ytmjgamokddedkaa.ua, Go.Proofs.Ytmjgamokddedkaa.ub, Go.Proofs.Ytmjgamokddedkaa.uc, Go.Proofs.Ytmjgamokddedkaa.ud]
    refine ty 13 94 hSS ?_
    simp only [Go.Proofs.Ytmjgamokddedkaa.ua, Go.Proofs.Ytmjgamokddedkaa.ub, Go.Proofs.Ytmjgamokddedkaa.uc, Go.Proofs.Ytmjgamokddedkaa.ud]
    refine ty 14 95 hSS ?_
    simp only [Go.Proofs.Ytmjgamokddedkaa.ua, Go.Proofs.Ytmjgamokddedkaa.ub, Go.Proofs.Ytmjgamokddedkaa.uc, Go.Proofs.Ytmjgamokddedkaa.ud]
    refine ty 15 96 hSS ?_
    simp only [Go.Proofs.Ytmjgamokddedkaa.ua, Go.Proofs.Ytmjgamokddedkaa.ub, Go.Proofs.Ytmjgamokddedkaa.uc, Go.Proofs.Ytmjgamokddedkaa.ud]
    refine AnyBut.step (i := 4) (by kernel_rfl) rfl (fun K hK => ?_)
    go_simp
    refine Calls.mono (HNUM.out wr.drew hbd) ?_
    rintro e wn ⟨rfl, rfl⟩
    dsimp only
    refine hK.out _ _ hSS ?_
    clear hK
    refine ty 5 86 hSS ?_
    simp only [Go.Proofs.Ytmjgamokddedkaa.ua, Go.Proofs.Ytmjgamokddedkaa.ub, Go.Proofs.Ytmjgamokddedkaa.uc, Go.Proofs.Ytmjgamokddedkaa.ud]
    refine AnyBut.step (i := 16) (by kernel_rfl) rfl (fun K hK => ?_)
    go_simp
    refine Calls.mono (HCOP.out wr.drew hbd) ?_
    rintro e w2 ⟨⟨ux, ucap, rfl, hu2⟩, hb2'⟩
    have hb2 : Below wr.heap.size wr w2 := below_any hbd hb2'
    dsimp only
    refine hK.out _ _ (HS.out w2 (hb2.mono hA1)) ?_
    clear hK hSS
    have hSS := HS.out w2 (hb2.mono hA1)
    refine ty 17 98 hSS ?_
    simp only [Go.Proofs.Ytmjgamokddedkaa.ua, Go.Proofs.Ytmjgamokddedkaa.ub, Go.Proofs.Ytmjgamokddedkaa.uc, Go.Proofs.Ytmjgamokddedkaa.ud]
    have hbx : Below wr.heap.size wr (w2.alloc (.cells #[.int .i64 (on : Int), .int .i64 (zz : Int), .slice ux m ucap] 55)) := hb2.alloc hb2.size _
    refine AnyBut.step (i := 18) (by kernel_rfl) rfl (fun K hK => ?_)
    go_simp
    refine hK.out _ _ (HS.out _ (hbx.mono hA1)) ?_
    clear hK hSS
    have hSS := HS.out _ (hbx.mono hA1)
    refine AnyBut.step (i := 19) (by kernel_rfl) rfl (fun K hK => ?_)
    refine step_append_lies _ (by rfl) _ _ _ (by rfl) (A + 1) 55 i3 _ 3 40 Try.underlying22 hi3 hz30 hz31 hz32 rfl (by omega) (.slice a k c) k vss.flatten (by rfl) ((own_below HO.out.1 hb2).alloc _) ⟨w2.heap.size, 0, none⟩ 1 1 [.int .i64 (on : Int), .int .i64 (zz : Int), .slice ux m ucap] (by rfl) (by rfl)
      (World.news_of_block (cs := #[.int .i64 (on : Int), .int .i64 (zz : Int), .slice ux m ucap]) (t := 55) (fr := (0, 0)) (heap_alloc_new w2 _)) (by simp [Value.oneCell']) (by omega) (by unfold maxLen; omega) (by omega) (by have := hb2.size; simp; omega) (w2.heap.size + 1) (by simp) ?_
    intro gg cap3 w3 hown3 hgrow3 hat hltg
    have hbe3 : Below (A + 1) wr w3 := (hbx.mono hA1).grown hgrow3 (by have := hbx.size; omega) (fun j hj => (HO.out.1.lt j hj).1)
    have hB3 := HK.out.box.below hbe3 (Nat.lt_succ_self _)
    obtain ⟨-, G1, -, F1⟩ := hB3.two
    refine hK.out _ _ (HS.out w3 hbe3) ?_
    clear hK hSS
    have hSS := HS.out w3 hbe3
    refine ty 20 101 hSS ?_
    refine AnyBut.last (by kernel_rfl) (by kernel_rfl) rfl (fun K hK => ?_)
    go_simp
    refine hK.out _ _ ?_
    clear hK hSS
    have hK2 := RI.push (o := (on : Int)) (i := (zz : Int)) HK.out HLL.out HO.out.1 HO.out.2 hb2 hu2 HON.out.1 HON.out.2 hgrow3 hown3 hbe3
    have HK2 : Hid (RI w A sN (l1 ++ [((on : Int), (zz : Int), dd)]) (some ⟨gg, 0, none⟩) (k + 1) cap3 (w3.setCell ⟨A, 1, none⟩ (.slice (some ⟨gg, 0, none⟩) (k + 1) cap3))) := hK2
    rw [← HNX.out.2] at HK2
    have HRD2 : Hid (Rd (b.take 380) (k + 1) (ix + m)) := HNX.out.1
    clear hown3 hgrow3 hat hltg hB3 G1 F1 hbe3 hbx hbd hix4 hix5 p5 s9 s84 s96 hwm hwm2 hwo hwo2 hwz hwz2
    go_wp2
    go_roundw
    case rel => exact ⟨k + 1, ix + m, some ⟨gg, 0, none⟩, cap3, by omega, by go_num, by go_num, HRD2, HK2⟩
    case measure => simp [intOf]; omega

end Go.Proofs.Ytmjgamokddedkaa
