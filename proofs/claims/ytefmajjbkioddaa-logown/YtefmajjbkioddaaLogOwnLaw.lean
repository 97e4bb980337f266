/-
  LogOwn, proved: for every store and every block (as great as the form reads them): the call returns true, and changes nothing that was in memory. No condition of its own.
-/
import Derived.Test.YtefmajjbkioddaaRSeal
import Derived.Test.YtefmajjbkioddaaLAlive
import Derived.Test.YtefmajjbkioddaaLOf
import Derived.Test.YtefmajjbkioddaaLAlike
import Derived.Test.YtefmajjbkioddaaFlat
import Derived.Test.YtefmajjbkioddaaLSpoil
namespace Go.Proofs.Ytefmajjbkioddaa.logOwn
open Go.ChangeShapes Go.WideShapes Go.ChangeAt Go.RowKit
set_option linter.unusedVariables false

theorem fits_bk {p : Bk} (h : bkR.fits p) : p.2.2.length ≤ 140737488351232 := by
  obtain ⟨_, _, h4⟩ := h
  have b5 : Try.prog.bytesOf 5 = 1 := by kernel_rfl
  have h5 : p.2.2.length * Try.prog.bytesOf 5 ≤ 140737488351232 := h4
  rwa [b5, Nat.mul_one] at h5

set_option maxRecDepth 100000 in
set_option maxHeartbeats 32000000 in
theorem walk (n0 n1 : Nat) (us : List Value) (s : St) (ub : List Value) (p : Bk) (w : World) (h : stR.lies n0 w us s) (hf : FitsL s) (hp : bkR.lies n1 w ub p) (hpf : p.2.2.length ≤ 140737488351232) :
    Calls Try.prog 7 #[.agg us.toArray, .agg ub.toArray] w fun e w' => e = .returned (.bool true) ∧ Below w.heap.size w w' := by
  obtain ⟨post, hpost⟩ : ∃ post : Ending → World → Prop, post = fun e w' => e = .returned (.bool true) ∧ Below w.heap.size w w' := ⟨_, rfl⟩
  have HPo : Hid (∀ w', Below w.heap.size w w' → post (.returned (.bool true)) w') := fun w' h => by rw [hpost]; exact ⟨rfl, h⟩
  rw [← hpost]
  clear hpost
  obtain ⟨a0, n0, c0, b0, m0, d0, e0, k0, f0, q0, rfl⟩ := st_flatL h
  obtain ⟨x, cap, rfl, hA, hpo, hpi⟩ := bk_view hp
  obtain ⟨po, pi, pd⟩ := p
  simp only at hA hpo hpi hpf ⊢
  obtain ⟨xm, hxm⟩ : ∃ z, z = pd.length := ⟨_, rfl⟩
  rw [← hxm] at hA hpf ⊢
  have HF : Hid (FitsL s ∧ I64 po ∧ I64 pi ∧ xm ≤ 140737488351232 ∧ xm = pd.length) := ⟨hf, hpo, hpi, hpf, hxm⟩
  obtain ⟨W, hW⟩ : ∃ W, W = (w.alloc (.cells #[.slice a0 n0 c0, .slice b0 m0 d0, .slice e0 k0 f0, .int .i64 q0] 26)).alloc (.cells #[.int .i64 po, .int .i64 pi, .slice x xm cap] 29) := ⟨_, rfl⟩
  have HB : Hid (Below w.heap.size w W) := by rw [hW]; exact ((Below.refl _ _).alloc (Nat.le_refl _) _).alloc (by simp) _
  have A0 : Hid (Box W w.heap.size 26 #[.slice a0 n0 c0, .slice b0 m0 d0, .slice e0 k0 f0, .int .i64 q0] ∧ stR.lies 0 W [.slice a0 n0 c0, .slice b0 m0 d0, .slice e0 k0 f0, .int .i64 q0] s) := ⟨by rw [hW]; exact (Box.new _ _ _).alloc _, stR.below (stR.weaken h (Nat.zero_le _)) HB.out⟩
  have BB : Hid (Box W (w.heap.size + 1) 29 #[.int .i64 po, .int .i64 pi, .slice x xm cap] ∧ Arg 0 W (.slice x xm cap) pd) := ⟨by
    rw [hW]
    have := Box.new (w.alloc (.cells #[.slice a0 n0 c0, .slice b0 m0 d0, .slice e0 k0 f0, .int .i64 q0] 26)) 29 #[.int .i64 po, .int .i64 pi, .slice x xm cap]
    rwa [World.size_alloc] at this, (hA.weaken (Nat.zero_le _)).below HB.out⟩
  obtain ⟨pe, hpe⟩ : ∃ z, z = pE s (po, pi, pd) := ⟨_, rfl⟩
  obtain ⟨se, hse⟩ : ∃ z, z = sE s := ⟨_, rfl⟩
  obtain ⟨sp, hsp⟩ : ∃ z, z = sP s := ⟨_, rfl⟩
  have HE : Hid (pe = pE s (po, pi, pd) ∧ se = sE s ∧ sp = sP s) := ⟨hpe, hse, hsp⟩
  clear h hf hp hA hpo hpi hpf hxm hpe hse hsp
  go_enter Try.func7, Try.ntmps7
  go_upto_region 1 with fail
  rw [← hW]
  clear hW
  have HC := alive_any W
  go_wp2_with (go_at_call 18; refine (num_any _ _).mono ?_; rintro e9 wn ⟨rfl, rfl⟩)
  refine HC.mono ?_
  rintro e9 w1 ⟨rfl, hb9⟩
  replace A0 : Hid (Box w1 w.heap.size 26 #[.slice a0 n0 c0, .slice b0 m0 d0, .slice e0 k0 f0, .int .i64 q0] ∧ stR.lies 0 w1 [.slice a0 n0 c0, .slice b0 m0 d0, .slice e0 k0 f0, .int .i64 q0] s) := ⟨A0.out.1.below hb9 A0.out.1.lt, stR.below A0.out.2 hb9⟩
  replace BB : Hid (Box w1 (w.heap.size + 1) 29 #[.int .i64 po, .int .i64 pi, .slice x xm cap] ∧ Arg 0 w1 (.slice x xm cap) pd) := ⟨BB.out.1.below hb9 BB.out.1.lt, BB.out.2.below hb9⟩
  replace HB : Hid (Below w.heap.size w w1) := below_any HB.out hb9
  clear HC hb9
  have HC := ofL_any 0 [.slice a0 n0 c0, .slice b0 m0 d0, .slice e0 k0 f0, .int .i64 q0] s w1 A0.out.2 HF.out.1
  obtain ⟨A0c0, A0c1, A0c2, A0c3, -⟩ := A0.out.1.four
  go_wp2_with fail
  clear A0c0 A0c1 A0c2 A0c3
  refine HC.mono ?_
  rintro e9 w2 ⟨⟨us9, rfl, ho9⟩, hb9⟩
  obtain ⟨a1, n1, c1, b1, m1, d1, e1, k1, f1, q1, rfl⟩ := st_flat ho9
  obtain ⟨bs, hbs⟩ : ∃ b, b = w1.heap.size := ⟨_, rfl⟩
  have HBS : Hid (w.heap.size ≤ bs ∧ bs ≤ w2.heap.size) := ⟨by rw [hbs]; exact HB.out.size, by rw [hbs]; exact hb9.size⟩
  rw [← hbs] at ho9
  replace A0 : Hid (Box w2 w.heap.size 26 #[.slice a0 n0 c0, .slice b0 m0 d0, .slice e0 k0 f0, .int .i64 q0] ∧ stR.lies 0 w2 [.slice a0 n0 c0, .slice b0 m0 d0, .slice e0 k0 f0, .int .i64 q0] s) := ⟨A0.out.1.below hb9 A0.out.1.lt, stR.below A0.out.2 hb9⟩
  replace BB : Hid (Box w2 (w.heap.size + 1) 29 #[.int .i64 po, .int .i64 pi, .slice x xm cap] ∧ Arg 0 w2 (.slice x xm cap) pd) := ⟨BB.out.1.below hb9 BB.out.1.lt, BB.out.2.below hb9⟩
  replace HB : Hid (Below w.heap.size w w2) := below_any HB.out hb9
  obtain ⟨X2, hX2⟩ : ∃ X, X = w2.alloc (.cells #[.slice a1 n1 c1, .slice b1 m1 d1, .slice e1 k1 f1, .int .i64 q1] 33) := ⟨_, rfl⟩
  have hbX : Below w2.heap.size w2 X2 := by rw [hX2]; exact (Below.refl _ _).alloc (Nat.le_refl _) _
  have A1 : Hid (Box X2 w2.heap.size 33 #[.slice a1 n1 c1, .slice b1 m1 d1, .slice e1 k1 f1, .int .i64 q1] ∧ stN.lies 0 X2 [.slice a1 n1 c1, .slice b1 m1 d1, .slice e1 k1 f1, .int .i64 q1] s) := ⟨by rw [hX2]; exact Box.new _ _ _, stN.below (stN.weaken (stN.olies ho9) (Nat.zero_le _)) hbX⟩
  have O1 : Hid (stN.owns bs X2 [.slice a1 n1 c1, .slice b1 m1 d1, .slice e1 k1 f1, .int .i64 q1] s) := stN.obelow ho9 hbX
  have HBX : Hid (bs ≤ X2.heap.size ∧ w2.heap.size < X2.heap.size) := ⟨Nat.le_trans HBS.out.2 hbX.size, by rw [hX2]; simp⟩
  replace A0 : Hid (Box X2 w.heap.size 26 #[.slice a0 n0 c0, .slice b0 m0 d0, .slice e0 k0 f0, .int .i64 q0] ∧ stR.lies 0 X2 [.slice a0 n0 c0, .slice b0 m0 d0, .slice e0 k0 f0, .int .i64 q0] s) := ⟨A0.out.1.below hbX A0.out.1.lt, stR.below A0.out.2 hbX⟩
  replace BB : Hid (Box X2 (w.heap.size + 1) 29 #[.int .i64 po, .int .i64 pi, .slice x xm cap] ∧ Arg 0 X2 (.slice x xm cap) pd) := ⟨BB.out.1.below hbX BB.out.1.lt, BB.out.2.below hbX⟩
  replace HB : Hid (Below w.heap.size w X2) := below_any HB.out hbX
  clear HC ho9 hb9 hbX hbs
  go_upto_region 4 with fail
  rw [← hX2]
  clear hX2
  have HS : Hid (∀ V, Below X2.heap.size X2 V → V.cell? ⟨w.heap.size + 1, 0, none⟩ = some (.int .i64 po) ∧ V.cell? ⟨w.heap.size + 1, 1, none⟩ = some (.int .i64 pi) ∧ V.cell? ⟨w.heap.size + 1, 2, none⟩ = some (.slice x xm cap)) := fun V hV => by
    have h1 := (BB.out.1.below hV BB.out.1.lt).three
    exact ⟨h1.1, h1.2.1, h1.2.2.1⟩
  have HCY : Hid (∀ V, Below X2.heap.size X2 V → Calls Try.prog 10 #[.slice x xm cap] V fun e w' => (∃ v', e = .returned v' ∧ Own1 V.heap.size w' v' pd) ∧ Below V.heap.size V w') := fun V hV => copy_any 0 (.slice x xm cap) pd V (BB.out.2.below hV) (by have := HF.out.2.2.2; omega)
  go_cut [6] (fun u wx => ∃ dd, u = .pointer (some ⟨dd, 0, none⟩) ∧ Hid (X2.heap.size ≤ dd ∧ Below X2.heap.size X2 wx ∧ ∃ da dc, Box wx dd 36 #[.int .i64 po, .int .i64 pi, .slice da xm dc] ∧ Own1 X2.heap.size wx (.slice da xm dc) pd))
  case first =>
    rename_i J K1 hJ hMt
    refine AnyBut.begin (fun V => V.cell? ⟨w.heap.size + 1, 0, none⟩ = some (.int .i64 po) ∧ V.cell? ⟨w.heap.size + 1, 1, none⟩ = some (.int .i64 pi) ∧ V.cell? ⟨w.heap.size + 1, 2, none⟩ = some (.slice x xm cap)) 1000 (by kernel_rfl) ?_
    have hSS := HS.out X2.drew (Below.refl _ X2).drew
    refine tx 0 25 hSS ?_
    simp only [ua, ub, uc, ud]
    refine tx 1 26 hSS ?_
    simp only [ua, ub, uc, ud]
    refine tx 2 27 hSS ?_
    simp only [ua, ub, uc, ud]
    refine tx 3 28 hSS ?_
    simp only [ua, ub, uc, ud]
    refine tx 4 29 hSS ?_
    simp only [ua, ub, uc, ud]
    refine tx 5 30 hSS ?_
    simp only [ua, ub, uc, ud]
    refine AnyBut.two (i := 6) (j := 8) (by kernel_rfl) rfl rfl (fun K hK => ?_) (fun K hK => ?_)
    · go_simp
      refine Calls.mono (HCY.out X2.drew (Below.refl _ X2).drew) ?_
      rintro e9 w9 ⟨⟨v9, rfl, ho9⟩, hb9⟩
      dsimp only
      have hb9 : Below X2.heap.size X2 w9 := ((Below.refl X2.heap.size X2).drew).trans (hb9.mono (Nat.le_refl _))
      refine hK.out _ _ (HS.out w9 hb9) ?_
      clear hK hSS
      have hSS := HS.out w9 hb9
      obtain ⟨da, dc, rfl⟩ := ho9.shape
      rw [← HF.out.2.2.2.2] at ho9 ⊢
      refine tx 7 32 hSS ?_
      simp only [ua, ub, uc, ud]
      refine AnyBut.step (i := 8) (by kernel_rfl) rfl (fun K hK => ?_)
      go_simp
      refine hK.out _ _ (HS.out _ (hb9.alloc hb9.size _)) ?_
      clear hK
      refine AnyBut.step (i := 9) (by kernel_rfl) rfl (fun K hK => ?_)
      go_simp
      refine hK.out _ _ (HS.out _ (hb9.alloc hb9.size _)) ?_
      clear hK
      refine AnyBut.done (by kernel_rfl) ?_
      refine hMt _ _ (Go.Met.intro (hJ _ _ ?_))
      (repeat (refine Exists.intro ?_ ?_; rotate_left 1))
      refine ⟨?rel1, ?fr1⟩
      case fr1 => rfl
      case rel1 => exact ⟨_, rfl, hb9.size, hb9.alloc hb9.size _, _, _, Box.new _ _ _, bytesS.obelow ho9 ((Below.refl _ _).alloc (Nat.le_refl _) _)⟩
    · go_simp
      obtain ⟨Z, hZ⟩ : ∃ Z, Z = (X2.alloc (.cells #[.int .i64 0, .int .i64 0, .slice none 0 0] 36)).drew := ⟨_, rfl⟩
      have hbz : Below X2.heap.size X2 Z := by rw [hZ]; exact ((Below.refl _ X2).alloc (Nat.le_refl _) _).drew
      have hBz : Box Z X2.heap.size 36 #[.int .i64 0, .int .i64 0, .slice none 0 0] := by rw [hZ]; exact Box.drew (Box.new _ _ _)
      rw [← hZ]
      refine hK.out _ _ (HS.out Z hbz) ?_
      clear hK hSS hZ
      refine AnyBut.step (i := 6) (by kernel_rfl) rfl (fun K hK => ?_)
      go_simp
      refine Calls.mono (HCY.out Z hbz) ?_
      rintro e9 w9 ⟨⟨v9, rfl, ho9⟩, hb9⟩
      dsimp only
      have hBp := hBz.below hb9 hBz.lt
      have hb9 : Below X2.heap.size X2 w9 := hbz.trans (hb9.mono hbz.size)
      refine hK.out _ _ (HS.out w9 hb9) ?_
      clear hK
      have hSS := HS.out w9 hb9
      obtain ⟨da, dc, rfl⟩ := ho9.shape
      rw [← HF.out.2.2.2.2] at ho9 ⊢
      refine tx 7 32 hSS ?_
      simp only [ua, ub, uc, ud]
      obtain ⟨z0, z1, z2, y0, y1, y2⟩ := hBp.three
      have HbQ : Hid (∀ u0 u1 u2, Below X2.heap.size X2 (((w9.setCell ⟨X2.heap.size, 0, none⟩ u0).setCell ⟨X2.heap.size, 1, none⟩ u1).setCell ⟨X2.heap.size, 2, none⟩ u2) ∧ Box (((w9.setCell ⟨X2.heap.size, 0, none⟩ u0).setCell ⟨X2.heap.size, 1, none⟩ u1).setCell ⟨X2.heap.size, 2, none⟩ u2) X2.heap.size 36 #[u0, u1, u2] ∧ Own1 X2.heap.size (((w9.setCell ⟨X2.heap.size, 0, none⟩ u0).setCell ⟨X2.heap.size, 1, none⟩ u1).setCell ⟨X2.heap.size, 2, none⟩ u2) (.slice da xm dc) pd) := fun u0 u1 u2 => ⟨below_set3 hb9 (Nat.le_refl _) _ _ _, ((hBp.set 0 _).set 1 _).set 2 _, bytesS.oweaken (bytesS.osame ho9 (.set3 hBz.lt)) hbz.size⟩
      clear hBp hBz hbz
      refine AnyBut.step (i := 9) (by kernel_rfl) rfl (fun K hK => ?_)
      go_simp
      refine hK.out _ _ (HS.out _ (HbQ.out _ _ _).1) ?_
      clear hK
      refine AnyBut.done (by kernel_rfl) ?_
      refine hMt _ _ (Go.Met.intro (hJ _ _ ?_))
      (repeat (refine Exists.intro ?_ ?_; rotate_left 1))
      refine ⟨?rel2, ?fr2⟩
      case fr2 => rfl
      case rel2 => exact ⟨_, rfl, Nat.le_refl _, (HbQ.out _ _ _).1, _, _, (HbQ.out _ _ _).2⟩
  case rest =>
    obtain ⟨dd, rfl, HXX⟩ := hcut
    obtain ⟨wx, hwx⟩ : ∃ U, U = wc := ⟨_, rfl⟩
    rw [← hwx] at HXX ⊢
    clear hwx
    obtain ⟨hdd, hbx, da, dc, hBx, ho⟩ := HXX.out
    obtain ⟨dm, hdm⟩ : ∃ z, z = xm := ⟨_, rfl⟩
    rw [← hdm] at hBx ho
    have HDM : Hid (dm = xm) := hdm
    have IN : Hid (Box wx dd 36 #[.int .i64 po, .int .i64 pi, .slice da dm dc] ∧ Own1 bs wx (.slice da dm dc) pd) := ⟨hBx, bytesS.oweaken ho HBX.out.1⟩
    replace A0 : Hid (Box wx w.heap.size 26 #[.slice a0 n0 c0, .slice b0 m0 d0, .slice e0 k0 f0, .int .i64 q0] ∧ stR.lies 0 wx [.slice a0 n0 c0, .slice b0 m0 d0, .slice e0 k0 f0, .int .i64 q0] s) := ⟨A0.out.1.below hbx A0.out.1.lt, stR.below A0.out.2 hbx⟩
    replace BB : Hid (Box wx (w.heap.size + 1) 29 #[.int .i64 po, .int .i64 pi, .slice x xm cap] ∧ Arg 0 wx (.slice x xm cap) pd) := ⟨BB.out.1.below hbx BB.out.1.lt, BB.out.2.below hbx⟩
    replace A1 : Hid (Box wx w2.heap.size 33 #[.slice a1 n1 c1, .slice b1 m1 d1, .slice e1 k1 f1, .int .i64 q1] ∧ stN.lies 0 wx [.slice a1 n1 c1, .slice b1 m1 d1, .slice e1 k1 f1, .int .i64 q1] s) := ⟨A1.out.1.below hbx A1.out.1.lt, stN.below A1.out.2 hbx⟩
    replace O1 : Hid (stN.owns bs wx [.slice a1 n1 c1, .slice b1 m1 d1, .slice e1 k1 f1, .int .i64 q1] s) := stN.obelow O1.out hbx
    replace HB : Hid (Below w.heap.size w wx) := below_any HB.out hbx
    obtain ⟨N, hN⟩ : ∃ N, N = wx.heap.size := ⟨_, rfl⟩
    have HN : Hid (N = wx.heap.size ∧ w2.heap.size < N ∧ dd < N ∧ bs ≤ N) := ⟨hN, by rw [hN]; have := hbx.size; have := HBX.out.2; omega, by rw [hN]; exact IN.out.1.lt, by rw [hN]; have := hbx.size; have := HBX.out.1; omega⟩
    have RS : Hid (RawS bs N wx (.slice a1 n1 c1) n1 ∧ (∃ hd : List Bool, hd.length = m1 ∧ boolsS.owns bs wx [.slice b1 m1 d1] hd ∧ ∀ g, (Value.slice b1 m1 d1).ownBlock = some g → g < N) ∧ Raw bs N wx (.slice e1 k1 f1) k1) := by
      obtain ⟨a9, c9, b9, d9, e9, f9, hu9, h1, h2, h3, _⟩ := st_ownN O1.out
      simp only [List.cons.injEq, Value.slice.injEq, and_true] at hu9
      obtain ⟨⟨rfl, hn, rfl⟩, ⟨rfl, hm, rfl⟩, ⟨rfl, hk, rfl⟩, _⟩ := hu9
      rw [hN, hn, hm, hk]
      refine ⟨RawS.of h1, ⟨s.2.1, rfl, h2, fun g hg => ?_⟩, Raw.of h3⟩
      obtain ⟨v', hv', hC, _⟩ := h2
      obtain rfl : Value.slice b1 s.2.1.length d1 = v' := by simpa using hv'
      exact (hC.lt g hg).2
    have HDL : Hid (∀ g, (Value.slice da dm dc).ownBlock = some g → g < N) := fun g hg => by rw [hN]; exact (ho.row.lt g hg).2
    have HLEN : Hid (n1 ≤ 9223372036854775807 ∧ m1 ≤ 9223372036854775807 ∧ k1 ≤ 9223372036854775807) := by
      obtain ⟨a9, c9, b9, d9, e9, f9, hu9, h1, h2, h3, _, h4, h5, h6⟩ := st_viewN A1.out.2
      simp only [List.cons.injEq, Value.slice.injEq, and_true] at hu9
      unfold maxLen at h4 h5 h6
      show _ ∧ _
      omega
    clear HXX hdd hbx hBx ho hdm hN HS HCY O1
    have HNS : Hid (N ≤ wx.heap.size) := Nat.le_of_eq HN.out.1
    have HC := put_any 0 0 [.slice a1 n1 c1, .slice b1 m1 d1, .slice e1 k1 f1, .int .i64 q1] s [.int .i64 po, .int .i64 pi, .slice da dm dc] (po, pi, pd) wx A1.out.2 (bk_mk (p := (po, pi, pd)) (IN.out.2.arg.weaken (Nat.zero_le _)) HF.out.2.1 HF.out.2.2.1) (Nat.zero_le _)
    rw [← HE.out.1] at HC
    obtain ⟨A1c0, A1c1, A1c2, A1c3, -⟩ := A1.out.1.four
    obtain ⟨INc0, INc1, INc2, -⟩ := IN.out.1.three
    go_wp2_with fail
    clear A1c0 A1c1 A1c2 A1c3 INc0 INc1 INc2
    refine HC.mono ?_
    rintro e9 y3 ⟨⟨us9, rfl, ho9⟩, hb9⟩
    obtain ⟨a2, n2, c2, b2, m2, d2, e2, k2, f2, q2, rfl⟩ := st_flat ho9
    have hNz : N ≤ wx.heap.size := HNS.out
    replace HNS : Hid (N ≤ y3.heap.size) := Nat.le_trans hNz hb9.size
    replace A0 : Hid (Box y3 w.heap.size 26 #[.slice a0 n0 c0, .slice b0 m0 d0, .slice e0 k0 f0, .int .i64 q0] ∧ stR.lies 0 y3 [.slice a0 n0 c0, .slice b0 m0 d0, .slice e0 k0 f0, .int .i64 q0] s) := ⟨A0.out.1.below hb9 A0.out.1.lt, stR.below A0.out.2 hb9⟩
    replace BB : Hid (Box y3 (w.heap.size + 1) 29 #[.int .i64 po, .int .i64 pi, .slice x xm cap] ∧ Arg 0 y3 (.slice x xm cap) pd) := ⟨BB.out.1.below hb9 BB.out.1.lt, BB.out.2.below hb9⟩
    replace A1 : Hid (Box y3 w2.heap.size 33 #[.slice a1 n1 c1, .slice b1 m1 d1, .slice e1 k1 f1, .int .i64 q1] ∧ stN.lies 0 y3 [.slice a1 n1 c1, .slice b1 m1 d1, .slice e1 k1 f1, .int .i64 q1] s) := ⟨A1.out.1.below hb9 A1.out.1.lt, stN.below A1.out.2 hb9⟩
    replace IN : Hid (Box y3 dd 36 #[.int .i64 po, .int .i64 pi, .slice da dm dc] ∧ Own1 bs y3 (.slice da dm dc) pd) := ⟨IN.out.1.below hb9 IN.out.1.lt, bytesS.obelow IN.out.2 hb9⟩
    replace RS : Hid (RawS bs N y3 (.slice a1 n1 c1) n1 ∧ (∃ hd : List Bool, hd.length = m1 ∧ boolsS.owns bs y3 [.slice b1 m1 d1] hd ∧ ∀ g, (Value.slice b1 m1 d1).ownBlock = some g → g < N) ∧ Raw bs N y3 (.slice e1 k1 f1) k1) := ⟨RS.out.1.same (.of_below hb9), by obtain ⟨hd, h1, h2, h3⟩ := RS.out.2.1; exact ⟨hd, h1, boolsS.obelow h2 hb9, h3⟩, RS.out.2.2.same (.of_below hb9)⟩
    replace HB : Hid (Below w.heap.size w y3) := below_any HB.out hb9
    obtain ⟨Y3, hY3⟩ : ∃ X, X = y3.alloc (.cells #[.slice a2 n2 c2, .slice b2 m2 d2, .slice e2 k2 f2, .int .i64 q2] 33) := ⟨_, rfl⟩
    have hbX : Below y3.heap.size y3 Y3 := by rw [hY3]; exact (Below.refl _ _).alloc (Nat.le_refl _) _
    have A2 : Hid (Box Y3 y3.heap.size 33 #[.slice a2 n2 c2, .slice b2 m2 d2, .slice e2 k2 f2, .int .i64 q2] ∧ stN.lies N Y3 [.slice a2 n2 c2, .slice b2 m2 d2, .slice e2 k2 f2, .int .i64 q2] (pS s (po, pi, pd)) ∧ N ≤ y3.heap.size) := ⟨by rw [hY3]; exact Box.new _ _ _, stN.below (stN.weaken (stN.olies ho9) hNz) hbX, HNS.out⟩
    replace HNS : Hid (N ≤ Y3.heap.size) := Nat.le_trans HNS.out hbX.size
    replace A0 : Hid (Box Y3 w.heap.size 26 #[.slice a0 n0 c0, .slice b0 m0 d0, .slice e0 k0 f0, .int .i64 q0] ∧ stR.lies 0 Y3 [.slice a0 n0 c0, .slice b0 m0 d0, .slice e0 k0 f0, .int .i64 q0] s) := ⟨A0.out.1.below hbX A0.out.1.lt, stR.below A0.out.2 hbX⟩
    replace BB : Hid (Box Y3 (w.heap.size + 1) 29 #[.int .i64 po, .int .i64 pi, .slice x xm cap] ∧ Arg 0 Y3 (.slice x xm cap) pd) := ⟨BB.out.1.below hbX BB.out.1.lt, BB.out.2.below hbX⟩
    replace A1 : Hid (Box Y3 w2.heap.size 33 #[.slice a1 n1 c1, .slice b1 m1 d1, .slice e1 k1 f1, .int .i64 q1] ∧ stN.lies 0 Y3 [.slice a1 n1 c1, .slice b1 m1 d1, .slice e1 k1 f1, .int .i64 q1] s) := ⟨A1.out.1.below hbX A1.out.1.lt, stN.below A1.out.2 hbX⟩
    replace IN : Hid (Box Y3 dd 36 #[.int .i64 po, .int .i64 pi, .slice da dm dc] ∧ Own1 bs Y3 (.slice da dm dc) pd) := ⟨IN.out.1.below hbX IN.out.1.lt, bytesS.obelow IN.out.2 hbX⟩
    replace RS : Hid (RawS bs N Y3 (.slice a1 n1 c1) n1 ∧ (∃ hd : List Bool, hd.length = m1 ∧ boolsS.owns bs Y3 [.slice b1 m1 d1] hd ∧ ∀ g, (Value.slice b1 m1 d1).ownBlock = some g → g < N) ∧ Raw bs N Y3 (.slice e1 k1 f1) k1) := ⟨RS.out.1.same (.of_below hbX), by obtain ⟨hd, h1, h2, h3⟩ := RS.out.2.1; exact ⟨hd, h1, boolsS.obelow h2 hbX, h3⟩, RS.out.2.2.same (.of_below hbX)⟩
    replace HB : Hid (Below w.heap.size w Y3) := below_any HB.out hbX
    clear HC ho9 hb9 hbX hNz
    go_upto_region 6 with fail
    rw [← hY3]
    clear hY3
    have HC := rput_any 0 0 [.slice a0 n0 c0, .slice b0 m0 d0, .slice e0 k0 f0, .int .i64 q0] s [.int .i64 po, .int .i64 pi, .slice x xm cap] (po, pi, pd) Y3 A0.out.2 (bk_mk (p := (po, pi, pd)) BB.out.2 HF.out.2.1 HF.out.2.2.1) (Nat.zero_le _)
    rw [← HE.out.1] at HC
    obtain ⟨A0c0, A0c1, A0c2, A0c3, -⟩ := A0.out.1.four
    obtain ⟨BBc0, BBc1, BBc2, -⟩ := BB.out.1.three
    go_wp2_with fail
    clear A0c0 A0c1 A0c2 A0c3 BBc0 BBc1 BBc2
    refine HC.mono ?_
    rintro e9 y4 ⟨⟨us9, rfl, ho9⟩, hb9⟩
    obtain ⟨a3, n3, c3, b3, m3, d3, e3, k3, f3, q3, rfl⟩ := st_flatR ho9
    have hNz : N ≤ Y3.heap.size := HNS.out
    replace HNS : Hid (N ≤ y4.heap.size) := Nat.le_trans hNz hb9.size
    replace A0 : Hid (Box y4 w.heap.size 26 #[.slice a0 n0 c0, .slice b0 m0 d0, .slice e0 k0 f0, .int .i64 q0] ∧ stR.lies 0 y4 [.slice a0 n0 c0, .slice b0 m0 d0, .slice e0 k0 f0, .int .i64 q0] s) := ⟨A0.out.1.below hb9 A0.out.1.lt, stR.below A0.out.2 hb9⟩
    replace BB : Hid (Box y4 (w.heap.size + 1) 29 #[.int .i64 po, .int .i64 pi, .slice x xm cap] ∧ Arg 0 y4 (.slice x xm cap) pd) := ⟨BB.out.1.below hb9 BB.out.1.lt, BB.out.2.below hb9⟩
    replace A1 : Hid (Box y4 w2.heap.size 33 #[.slice a1 n1 c1, .slice b1 m1 d1, .slice e1 k1 f1, .int .i64 q1] ∧ stN.lies 0 y4 [.slice a1 n1 c1, .slice b1 m1 d1, .slice e1 k1 f1, .int .i64 q1] s) := ⟨A1.out.1.below hb9 A1.out.1.lt, stN.below A1.out.2 hb9⟩
    replace IN : Hid (Box y4 dd 36 #[.int .i64 po, .int .i64 pi, .slice da dm dc] ∧ Own1 bs y4 (.slice da dm dc) pd) := ⟨IN.out.1.below hb9 IN.out.1.lt, bytesS.obelow IN.out.2 hb9⟩
    replace RS : Hid (RawS bs N y4 (.slice a1 n1 c1) n1 ∧ (∃ hd : List Bool, hd.length = m1 ∧ boolsS.owns bs y4 [.slice b1 m1 d1] hd ∧ ∀ g, (Value.slice b1 m1 d1).ownBlock = some g → g < N) ∧ Raw bs N y4 (.slice e1 k1 f1) k1) := ⟨RS.out.1.same (.of_below hb9), by obtain ⟨hd, h1, h2, h3⟩ := RS.out.2.1; exact ⟨hd, h1, boolsS.obelow h2 hb9, h3⟩, RS.out.2.2.same (.of_below hb9)⟩
    replace A2 : Hid (Box y4 y3.heap.size 33 #[.slice a2 n2 c2, .slice b2 m2 d2, .slice e2 k2 f2, .int .i64 q2] ∧ stN.lies N y4 [.slice a2 n2 c2, .slice b2 m2 d2, .slice e2 k2 f2, .int .i64 q2] (pS s (po, pi, pd)) ∧ N ≤ y3.heap.size) := ⟨A2.out.1.below hb9 A2.out.1.lt, stN.below A2.out.2.1 hb9, A2.out.2.2⟩
    replace HB : Hid (Below w.heap.size w y4) := below_any HB.out hb9
    obtain ⟨Y4, hY4⟩ : ∃ X, X = y4.alloc (.cells #[.slice a3 n3 c3, .slice b3 m3 d3, .slice e3 k3 f3, .int .i64 q3] 26) := ⟨_, rfl⟩
    have hbX : Below y4.heap.size y4 Y4 := by rw [hY4]; exact (Below.refl _ _).alloc (Nat.le_refl _) _
    have A3 : Hid (Box Y4 y4.heap.size 26 #[.slice a3 n3 c3, .slice b3 m3 d3, .slice e3 k3 f3, .int .i64 q3] ∧ stR.lies N Y4 [.slice a3 n3 c3, .slice b3 m3 d3, .slice e3 k3 f3, .int .i64 q3] (pS s (po, pi, pd)) ∧ N ≤ y4.heap.size) := ⟨by rw [hY4]; exact Box.new _ _ _, stR.below (stR.weaken (stR.olies ho9) hNz) hbX, HNS.out⟩
    replace HNS : Hid (N ≤ Y4.heap.size) := Nat.le_trans HNS.out hbX.size
    replace A0 : Hid (Box Y4 w.heap.size 26 #[.slice a0 n0 c0, .slice b0 m0 d0, .slice e0 k0 f0, .int .i64 q0] ∧ stR.lies 0 Y4 [.slice a0 n0 c0, .slice b0 m0 d0, .slice e0 k0 f0, .int .i64 q0] s) := ⟨A0.out.1.below hbX A0.out.1.lt, stR.below A0.out.2 hbX⟩
    replace BB : Hid (Box Y4 (w.heap.size + 1) 29 #[.int .i64 po, .int .i64 pi, .slice x xm cap] ∧ Arg 0 Y4 (.slice x xm cap) pd) := ⟨BB.out.1.below hbX BB.out.1.lt, BB.out.2.below hbX⟩
    replace A1 : Hid (Box Y4 w2.heap.size 33 #[.slice a1 n1 c1, .slice b1 m1 d1, .slice e1 k1 f1, .int .i64 q1] ∧ stN.lies 0 Y4 [.slice a1 n1 c1, .slice b1 m1 d1, .slice e1 k1 f1, .int .i64 q1] s) := ⟨A1.out.1.below hbX A1.out.1.lt, stN.below A1.out.2 hbX⟩
    replace IN : Hid (Box Y4 dd 36 #[.int .i64 po, .int .i64 pi, .slice da dm dc] ∧ Own1 bs Y4 (.slice da dm dc) pd) := ⟨IN.out.1.below hbX IN.out.1.lt, bytesS.obelow IN.out.2 hbX⟩
    replace RS : Hid (RawS bs N Y4 (.slice a1 n1 c1) n1 ∧ (∃ hd : List Bool, hd.length = m1 ∧ boolsS.owns bs Y4 [.slice b1 m1 d1] hd ∧ ∀ g, (Value.slice b1 m1 d1).ownBlock = some g → g < N) ∧ Raw bs N Y4 (.slice e1 k1 f1) k1) := ⟨RS.out.1.same (.of_below hbX), by obtain ⟨hd, h1, h2, h3⟩ := RS.out.2.1; exact ⟨hd, h1, boolsS.obelow h2 hbX, h3⟩, RS.out.2.2.same (.of_below hbX)⟩
    replace A2 : Hid (Box Y4 y3.heap.size 33 #[.slice a2 n2 c2, .slice b2 m2 d2, .slice e2 k2 f2, .int .i64 q2] ∧ stN.lies N Y4 [.slice a2 n2 c2, .slice b2 m2 d2, .slice e2 k2 f2, .int .i64 q2] (pS s (po, pi, pd)) ∧ N ≤ y3.heap.size) := ⟨A2.out.1.below hbX A2.out.1.lt, stN.below A2.out.2.1 hbX, A2.out.2.2⟩
    replace HB : Hid (Below w.heap.size w Y4) := below_any HB.out hbX
    clear HC ho9 hb9 hbX hNz
    go_upto_region 7 with fail
    rw [← hY4]
    clear hY4
    have HC := seal_any 0 [.slice a1 n1 c1, .slice b1 m1 d1, .slice e1 k1 f1, .int .i64 q1] s Y4 A1.out.2
    rw [← HE.out.2.1] at HC
    rw [← HE.out.2.2] at HC
    obtain ⟨A1c0, A1c1, A1c2, A1c3, -⟩ := A1.out.1.four
    go_wp2_with fail
    clear A1c0 A1c1 A1c2 A1c3
    refine HC.mono ?_
    rintro e9 y5 ⟨⟨us9, rfl, ho9⟩, hb9⟩
    obtain ⟨a4, n4, c4, b4, m4, d4, e4, k4, f4, q4, rfl⟩ := st_flat ho9
    have hNz : N ≤ Y4.heap.size := HNS.out
    replace HNS : Hid (N ≤ y5.heap.size) := Nat.le_trans hNz hb9.size
    replace A0 : Hid (Box y5 w.heap.size 26 #[.slice a0 n0 c0, .slice b0 m0 d0, .slice e0 k0 f0, .int .i64 q0] ∧ stR.lies 0 y5 [.slice a0 n0 c0, .slice b0 m0 d0, .slice e0 k0 f0, .int .i64 q0] s) := ⟨A0.out.1.below hb9 A0.out.1.lt, stR.below A0.out.2 hb9⟩
    replace BB : Hid (Box y5 (w.heap.size + 1) 29 #[.int .i64 po, .int .i64 pi, .slice x xm cap] ∧ Arg 0 y5 (.slice x xm cap) pd) := ⟨BB.out.1.below hb9 BB.out.1.lt, BB.out.2.below hb9⟩
    replace A1 : Hid (Box y5 w2.heap.size 33 #[.slice a1 n1 c1, .slice b1 m1 d1, .slice e1 k1 f1, .int .i64 q1] ∧ stN.lies 0 y5 [.slice a1 n1 c1, .slice b1 m1 d1, .slice e1 k1 f1, .int .i64 q1] s) := ⟨A1.out.1.below hb9 A1.out.1.lt, stN.below A1.out.2 hb9⟩
    replace IN : Hid (Box y5 dd 36 #[.int .i64 po, .int .i64 pi, .slice da dm dc] ∧ Own1 bs y5 (.slice da dm dc) pd) := ⟨IN.out.1.below hb9 IN.out.1.lt, bytesS.obelow IN.out.2 hb9⟩
    replace RS : Hid (RawS bs N y5 (.slice a1 n1 c1) n1 ∧ (∃ hd : List Bool, hd.length = m1 ∧ boolsS.owns bs y5 [.slice b1 m1 d1] hd ∧ ∀ g, (Value.slice b1 m1 d1).ownBlock = some g → g < N) ∧ Raw bs N y5 (.slice e1 k1 f1) k1) := ⟨RS.out.1.same (.of_below hb9), by obtain ⟨hd, h1, h2, h3⟩ := RS.out.2.1; exact ⟨hd, h1, boolsS.obelow h2 hb9, h3⟩, RS.out.2.2.same (.of_below hb9)⟩
    replace A2 : Hid (Box y5 y3.heap.size 33 #[.slice a2 n2 c2, .slice b2 m2 d2, .slice e2 k2 f2, .int .i64 q2] ∧ stN.lies N y5 [.slice a2 n2 c2, .slice b2 m2 d2, .slice e2 k2 f2, .int .i64 q2] (pS s (po, pi, pd)) ∧ N ≤ y3.heap.size) := ⟨A2.out.1.below hb9 A2.out.1.lt, stN.below A2.out.2.1 hb9, A2.out.2.2⟩
    replace A3 : Hid (Box y5 y4.heap.size 26 #[.slice a3 n3 c3, .slice b3 m3 d3, .slice e3 k3 f3, .int .i64 q3] ∧ stR.lies N y5 [.slice a3 n3 c3, .slice b3 m3 d3, .slice e3 k3 f3, .int .i64 q3] (pS s (po, pi, pd)) ∧ N ≤ y4.heap.size) := ⟨A3.out.1.below hb9 A3.out.1.lt, stR.below A3.out.2.1 hb9, A3.out.2.2⟩
    replace HB : Hid (Below w.heap.size w y5) := below_any HB.out hb9
    obtain ⟨Y5, hY5⟩ : ∃ X, X = y5.alloc (.cells #[.slice a4 n4 c4, .slice b4 m4 d4, .slice e4 k4 f4, .int .i64 q4] 33) := ⟨_, rfl⟩
    have hbX : Below y5.heap.size y5 Y5 := by rw [hY5]; exact (Below.refl _ _).alloc (Nat.le_refl _) _
    have A4 : Hid (Box Y5 y5.heap.size 33 #[.slice a4 n4 c4, .slice b4 m4 d4, .slice e4 k4 f4, .int .i64 q4] ∧ stN.lies N Y5 [.slice a4 n4 c4, .slice b4 m4 d4, .slice e4 k4 f4, .int .i64 q4] (sS s) ∧ N ≤ y5.heap.size) := ⟨by rw [hY5]; exact Box.new _ _ _, stN.below (stN.weaken (stN.olies ho9) hNz) hbX, HNS.out⟩
    replace HNS : Hid (N ≤ Y5.heap.size) := Nat.le_trans HNS.out hbX.size
    replace A0 : Hid (Box Y5 w.heap.size 26 #[.slice a0 n0 c0, .slice b0 m0 d0, .slice e0 k0 f0, .int .i64 q0] ∧ stR.lies 0 Y5 [.slice a0 n0 c0, .slice b0 m0 d0, .slice e0 k0 f0, .int .i64 q0] s) := ⟨A0.out.1.below hbX A0.out.1.lt, stR.below A0.out.2 hbX⟩
    replace BB : Hid (Box Y5 (w.heap.size + 1) 29 #[.int .i64 po, .int .i64 pi, .slice x xm cap] ∧ Arg 0 Y5 (.slice x xm cap) pd) := ⟨BB.out.1.below hbX BB.out.1.lt, BB.out.2.below hbX⟩
    replace A1 : Hid (Box Y5 w2.heap.size 33 #[.slice a1 n1 c1, .slice b1 m1 d1, .slice e1 k1 f1, .int .i64 q1] ∧ stN.lies 0 Y5 [.slice a1 n1 c1, .slice b1 m1 d1, .slice e1 k1 f1, .int .i64 q1] s) := ⟨A1.out.1.below hbX A1.out.1.lt, stN.below A1.out.2 hbX⟩
    replace IN : Hid (Box Y5 dd 36 #[.int .i64 po, .int .i64 pi, .slice da dm dc] ∧ Own1 bs Y5 (.slice da dm dc) pd) := ⟨IN.out.1.below hbX IN.out.1.lt, bytesS.obelow IN.out.2 hbX⟩
    replace RS : Hid (RawS bs N Y5 (.slice a1 n1 c1) n1 ∧ (∃ hd : List Bool, hd.length = m1 ∧ boolsS.owns bs Y5 [.slice b1 m1 d1] hd ∧ ∀ g, (Value.slice b1 m1 d1).ownBlock = some g → g < N) ∧ Raw bs N Y5 (.slice e1 k1 f1) k1) := ⟨RS.out.1.same (.of_below hbX), by obtain ⟨hd, h1, h2, h3⟩ := RS.out.2.1; exact ⟨hd, h1, boolsS.obelow h2 hbX, h3⟩, RS.out.2.2.same (.of_below hbX)⟩
    replace A2 : Hid (Box Y5 y3.heap.size 33 #[.slice a2 n2 c2, .slice b2 m2 d2, .slice e2 k2 f2, .int .i64 q2] ∧ stN.lies N Y5 [.slice a2 n2 c2, .slice b2 m2 d2, .slice e2 k2 f2, .int .i64 q2] (pS s (po, pi, pd)) ∧ N ≤ y3.heap.size) := ⟨A2.out.1.below hbX A2.out.1.lt, stN.below A2.out.2.1 hbX, A2.out.2.2⟩
    replace A3 : Hid (Box Y5 y4.heap.size 26 #[.slice a3 n3 c3, .slice b3 m3 d3, .slice e3 k3 f3, .int .i64 q3] ∧ stR.lies N Y5 [.slice a3 n3 c3, .slice b3 m3 d3, .slice e3 k3 f3, .int .i64 q3] (pS s (po, pi, pd)) ∧ N ≤ y4.heap.size) := ⟨A3.out.1.below hbX A3.out.1.lt, stR.below A3.out.2.1 hbX, A3.out.2.2⟩
    replace HB : Hid (Below w.heap.size w Y5) := below_any HB.out hbX
    clear HC ho9 hb9 hbX hNz
    go_upto_region 8 with fail
    rw [← hY5]
    clear hY5
    have HC := rseal_any 0 [.slice a0 n0 c0, .slice b0 m0 d0, .slice e0 k0 f0, .int .i64 q0] s Y5 A0.out.2
    rw [← HE.out.2.1] at HC
    rw [← HE.out.2.2] at HC
    obtain ⟨A0c0, A0c1, A0c2, A0c3, -⟩ := A0.out.1.four
    go_wp2_with fail
    clear A0c0 A0c1 A0c2 A0c3
    refine HC.mono ?_
    rintro e9 y6 ⟨⟨us9, rfl, ho9⟩, hb9⟩
    obtain ⟨a5, n5, c5, b5, m5, d5, e5, k5, f5, q5, rfl⟩ := st_flatR ho9
    have hNz : N ≤ Y5.heap.size := HNS.out
    replace HNS : Hid (N ≤ y6.heap.size) := Nat.le_trans hNz hb9.size
    replace A0 : Hid (Box y6 w.heap.size 26 #[.slice a0 n0 c0, .slice b0 m0 d0, .slice e0 k0 f0, .int .i64 q0] ∧ stR.lies 0 y6 [.slice a0 n0 c0, .slice b0 m0 d0, .slice e0 k0 f0, .int .i64 q0] s) := ⟨A0.out.1.below hb9 A0.out.1.lt, stR.below A0.out.2 hb9⟩
    replace BB : Hid (Box y6 (w.heap.size + 1) 29 #[.int .i64 po, .int .i64 pi, .slice x xm cap] ∧ Arg 0 y6 (.slice x xm cap) pd) := ⟨BB.out.1.below hb9 BB.out.1.lt, BB.out.2.below hb9⟩
    replace A1 : Hid (Box y6 w2.heap.size 33 #[.slice a1 n1 c1, .slice b1 m1 d1, .slice e1 k1 f1, .int .i64 q1] ∧ stN.lies 0 y6 [.slice a1 n1 c1, .slice b1 m1 d1, .slice e1 k1 f1, .int .i64 q1] s) := ⟨A1.out.1.below hb9 A1.out.1.lt, stN.below A1.out.2 hb9⟩
    replace IN : Hid (Box y6 dd 36 #[.int .i64 po, .int .i64 pi, .slice da dm dc] ∧ Own1 bs y6 (.slice da dm dc) pd) := ⟨IN.out.1.below hb9 IN.out.1.lt, bytesS.obelow IN.out.2 hb9⟩
    replace RS : Hid (RawS bs N y6 (.slice a1 n1 c1) n1 ∧ (∃ hd : List Bool, hd.length = m1 ∧ boolsS.owns bs y6 [.slice b1 m1 d1] hd ∧ ∀ g, (Value.slice b1 m1 d1).ownBlock = some g → g < N) ∧ Raw bs N y6 (.slice e1 k1 f1) k1) := ⟨RS.out.1.same (.of_below hb9), by obtain ⟨hd, h1, h2, h3⟩ := RS.out.2.1; exact ⟨hd, h1, boolsS.obelow h2 hb9, h3⟩, RS.out.2.2.same (.of_below hb9)⟩
    replace A2 : Hid (Box y6 y3.heap.size 33 #[.slice a2 n2 c2, .slice b2 m2 d2, .slice e2 k2 f2, .int .i64 q2] ∧ stN.lies N y6 [.slice a2 n2 c2, .slice b2 m2 d2, .slice e2 k2 f2, .int .i64 q2] (pS s (po, pi, pd)) ∧ N ≤ y3.heap.size) := ⟨A2.out.1.below hb9 A2.out.1.lt, stN.below A2.out.2.1 hb9, A2.out.2.2⟩
    replace A3 : Hid (Box y6 y4.heap.size 26 #[.slice a3 n3 c3, .slice b3 m3 d3, .slice e3 k3 f3, .int .i64 q3] ∧ stR.lies N y6 [.slice a3 n3 c3, .slice b3 m3 d3, .slice e3 k3 f3, .int .i64 q3] (pS s (po, pi, pd)) ∧ N ≤ y4.heap.size) := ⟨A3.out.1.below hb9 A3.out.1.lt, stR.below A3.out.2.1 hb9, A3.out.2.2⟩
    replace A4 : Hid (Box y6 y5.heap.size 33 #[.slice a4 n4 c4, .slice b4 m4 d4, .slice e4 k4 f4, .int .i64 q4] ∧ stN.lies N y6 [.slice a4 n4 c4, .slice b4 m4 d4, .slice e4 k4 f4, .int .i64 q4] (sS s) ∧ N ≤ y5.heap.size) := ⟨A4.out.1.below hb9 A4.out.1.lt, stN.below A4.out.2.1 hb9, A4.out.2.2⟩
    replace HB : Hid (Below w.heap.size w y6) := below_any HB.out hb9
    obtain ⟨Y6, hY6⟩ : ∃ X, X = y6.alloc (.cells #[.slice a5 n5 c5, .slice b5 m5 d5, .slice e5 k5 f5, .int .i64 q5] 26) := ⟨_, rfl⟩
    have hbX : Below y6.heap.size y6 Y6 := by rw [hY6]; exact (Below.refl _ _).alloc (Nat.le_refl _) _
    have A5 : Hid (Box Y6 y6.heap.size 26 #[.slice a5 n5 c5, .slice b5 m5 d5, .slice e5 k5 f5, .int .i64 q5] ∧ stR.lies N Y6 [.slice a5 n5 c5, .slice b5 m5 d5, .slice e5 k5 f5, .int .i64 q5] (sS s) ∧ N ≤ y6.heap.size) := ⟨by rw [hY6]; exact Box.new _ _ _, stR.below (stR.weaken (stR.olies ho9) hNz) hbX, HNS.out⟩
    replace HNS : Hid (N ≤ Y6.heap.size) := Nat.le_trans HNS.out hbX.size
    replace A0 : Hid (Box Y6 w.heap.size 26 #[.slice a0 n0 c0, .slice b0 m0 d0, .slice e0 k0 f0, .int .i64 q0] ∧ stR.lies 0 Y6 [.slice a0 n0 c0, .slice b0 m0 d0, .slice e0 k0 f0, .int .i64 q0] s) := ⟨A0.out.1.below hbX A0.out.1.lt, stR.below A0.out.2 hbX⟩
    replace BB : Hid (Box Y6 (w.heap.size + 1) 29 #[.int .i64 po, .int .i64 pi, .slice x xm cap] ∧ Arg 0 Y6 (.slice x xm cap) pd) := ⟨BB.out.1.below hbX BB.out.1.lt, BB.out.2.below hbX⟩
    replace A1 : Hid (Box Y6 w2.heap.size 33 #[.slice a1 n1 c1, .slice b1 m1 d1, .slice e1 k1 f1, .int .i64 q1] ∧ stN.lies 0 Y6 [.slice a1 n1 c1, .slice b1 m1 d1, .slice e1 k1 f1, .int .i64 q1] s) := ⟨A1.out.1.below hbX A1.out.1.lt, stN.below A1.out.2 hbX⟩
    replace IN : Hid (Box Y6 dd 36 #[.int .i64 po, .int .i64 pi, .slice da dm dc] ∧ Own1 bs Y6 (.slice da dm dc) pd) := ⟨IN.out.1.below hbX IN.out.1.lt, bytesS.obelow IN.out.2 hbX⟩
    replace RS : Hid (RawS bs N Y6 (.slice a1 n1 c1) n1 ∧ (∃ hd : List Bool, hd.length = m1 ∧ boolsS.owns bs Y6 [.slice b1 m1 d1] hd ∧ ∀ g, (Value.slice b1 m1 d1).ownBlock = some g → g < N) ∧ Raw bs N Y6 (.slice e1 k1 f1) k1) := ⟨RS.out.1.same (.of_below hbX), by obtain ⟨hd, h1, h2, h3⟩ := RS.out.2.1; exact ⟨hd, h1, boolsS.obelow h2 hbX, h3⟩, RS.out.2.2.same (.of_below hbX)⟩
    replace A2 : Hid (Box Y6 y3.heap.size 33 #[.slice a2 n2 c2, .slice b2 m2 d2, .slice e2 k2 f2, .int .i64 q2] ∧ stN.lies N Y6 [.slice a2 n2 c2, .slice b2 m2 d2, .slice e2 k2 f2, .int .i64 q2] (pS s (po, pi, pd)) ∧ N ≤ y3.heap.size) := ⟨A2.out.1.below hbX A2.out.1.lt, stN.below A2.out.2.1 hbX, A2.out.2.2⟩
    replace A3 : Hid (Box Y6 y4.heap.size 26 #[.slice a3 n3 c3, .slice b3 m3 d3, .slice e3 k3 f3, .int .i64 q3] ∧ stR.lies N Y6 [.slice a3 n3 c3, .slice b3 m3 d3, .slice e3 k3 f3, .int .i64 q3] (pS s (po, pi, pd)) ∧ N ≤ y4.heap.size) := ⟨A3.out.1.below hbX A3.out.1.lt, stR.below A3.out.2.1 hbX, A3.out.2.2⟩
    replace A4 : Hid (Box Y6 y5.heap.size 33 #[.slice a4 n4 c4, .slice b4 m4 d4, .slice e4 k4 f4, .int .i64 q4] ∧ stN.lies N Y6 [.slice a4 n4 c4, .slice b4 m4 d4, .slice e4 k4 f4, .int .i64 q4] (sS s) ∧ N ≤ y5.heap.size) := ⟨A4.out.1.below hbX A4.out.1.lt, stN.below A4.out.2.1 hbX, A4.out.2.2⟩
    replace HB : Hid (Below w.heap.size w Y6) := below_any HB.out hbX
    clear HC ho9 hb9 hbX hNz
    go_upto_region 9 with fail
    rw [← hY6]
    clear hY6
    have SP : Hid (SPL w Y6 bs N w2.heap.size (.slice a1 n1 c1) (.slice b1 m1 d1) (.slice e1 k1 f1) n1 m1 k1 q1 Y6) := ⟨fun _ _ _ => rfl, Nat.le_refl _, HB.out, A1.out.1, RS.out.1, RS.out.2.2, RS.out.2.1⟩
    have HE8 : Hid (Eight bs Y6 (.slice da dm dc) dm) := ⟨pd, by rw [HDM.out, ← HF.out.2.2.2.2], by have := IN.out.2.row; rw [← HF.out.2.2.2.2, ← HDM.out] at this; exact this⟩
    have HC := spoil_eight bs (.slice da dm dc) dm Y6 HE8.out
    obtain ⟨INc0, INc1, INc2, -⟩ := IN.out.1.three
    go_wp2_with fail
    clear INc0 INc1 INc2
    refine HC.mono ?_
    rintro e9 w9 ⟨rfl, hg9, hE9⟩
    replace SP : Hid (SPL w Y6 bs N w2.heap.size (.slice a1 n1 c1) (.slice b1 m1 d1) (.slice e1 k1 f1) n1 m1 k1 q1 w9) := SP.out.step HBS.out.1 HE8.out HDL.out hg9 hE9
    clear HC hg9 hE9 HE8 HDL A1 RS IN BB
    have hl1 := run_len Try.underlying30 a1 n1 c1
    have hl2 := run_len Try.underlying23 b1 m1 d1
    have hl3 := run_len Try.underlying31 e1 k1 f1
    have hn1 : n1 ≤ 9223372036854775807 ∧ m1 ≤ 9223372036854775807 ∧ k1 ≤ 9223372036854775807 := HLEN.out
    go_wp2
    go_loopw [17] (fun i wr => ∃ k : Nat, k ≤ n1 ∧ i = .int .i64 k ∧ Hid (SPL w Y6 bs N w2.heap.size (.slice a1 n1 c1) (.slice b1 m1 d1) (.slice e1 k1 f1) n1 m1 k1 q1 wr)) (fun i _ => n1 - (intOf i).toNat)
    case atStart => exact ⟨0, Nat.zero_le _, rfl, SP.out⟩
    case round =>
      clear SP
      obtain ⟨k, hk, rfl, SP⟩ := hrel
      obtain ⟨x0, x1, x2, x3, -⟩ := SP.out.box.four
      by_cases hlt : k < n1
      · obtain ⟨g, a9, m9, c9, cs9, hix, hcs, hR, hm9, hB9⟩ := SP.out.segs.hold k hlt
        have hc9 := hB9.cell _ hcs
        have hki : (k : Int) < (n1 : Int) := by omega
        have hl9 := run_len Try.underlying31 a9 m9 c9
        have HG : Hid (cs9[k * 2 + 1]? = some (.slice a9 m9 c9)) := hcs
        unfold maxLen at hm9
        have S0 : Hid (SPL w Y6 bs N w2.heap.size (.slice a1 n1 c1) (.slice b1 m1 d1) (.slice e1 k1 f1) n1 m1 k1 q1 wr ∧ Raw bs N wr (.slice a9 m9 c9) m9 ∧ Box wr g 74 cs9) := ⟨SP.out, hR, hB9⟩
        clear hcs hR hB9
        go_wp2
        clear x0 x1 x2 x3 hc9
        go_loopw [18] (fun i wr => ∃ j : Nat, j ≤ m9 ∧ i = .int .i64 j ∧ Hid (SPL w Y6 bs N w2.heap.size (.slice a1 n1 c1) (.slice b1 m1 d1) (.slice e1 k1 f1) n1 m1 k1 q1 wr ∧ Raw bs N wr (.slice a9 m9 c9) m9 ∧ Box wr g 74 cs9)) (fun i _ => m9 - (intOf i).toNat)
        case atStart => exact ⟨0, Nat.zero_le _, rfl, S0.out⟩
        case round =>
          clear S0
          obtain ⟨j, hj, rfl, SJ⟩ := hrel
          obtain ⟨x0, x1, x2, x3, -⟩ := SJ.out.1.box.four
          have hc9 := SJ.out.2.2.cell _ HG.out
          by_cases hjm : j < m9
          · obtain ⟨b8, o8, a8, m8, c8, hix8, hc8, hE8, hl8⟩ := SJ.out.2.1.at j hjm
            have hji : (j : Int) < (m9 : Int) := by omega
            have HC := spoil_eight bs (.slice a8 m8 c8) m8 wr hE8
            have H8 : Hid (Eight bs wr (.slice a8 m8 c8) m8 ∧ ∀ g, (Value.slice a8 m8 c8).ownBlock = some g → g < N) := ⟨hE8, hl8⟩
            clear hE8 hl8
            go_wp2_with fail
            refine HC.mono ?_
            rintro e9 w9 ⟨rfl, hg9, hE9⟩
            have SJ2 : Hid (SPL w Y6 bs N w2.heap.size (.slice a1 n1 c1) (.slice b1 m1 d1) (.slice e1 k1 f1) n1 m1 k1 q1 w9 ∧ Raw bs N w9 (.slice a9 m9 c9) m9 ∧ Box w9 g 74 cs9) := ⟨SJ.out.1.step HBS.out.1 H8.out.1 H8.out.2 hg9 hE9, SJ.out.2.1.spoilt H8.out.1 hg9 hE9, SJ.out.2.2.grown hg9 (H8.out.1.box SJ.out.2.2 (by decide))⟩
            clear HC hg9 hE9 x0 x1 x2 x3 hc9 hix8 hc8
            go_wp2
            go_roundw
            case rel => exact ⟨j + 1, by omega, by go_num, SJ2.out⟩
            case measure => simp [intOf]; omega
          · obtain rfl : j = m9 := by omega
            have SP2 : Hid (SPL w Y6 bs N w2.heap.size (.slice a1 n1 c1) (.slice b1 m1 d1) (.slice e1 k1 f1) n1 m1 k1 q1 wr) := SJ.out.1
            go_wp2
            go_roundw
            case rel => exact ⟨k + 1, by omega, by go_num, SP2.out⟩
            case measure => simp [intOf]; omega
      · obtain rfl : k = n1 := by omega
        go_wp2
        clear x0 x1 x2 x3
        go_loopw [19] (fun i wr => ∃ j : Nat, j ≤ k1 ∧ i = .int .i64 j ∧ Hid (SPL w Y6 bs N w2.heap.size (.slice a1 k c1) (.slice b1 m1 d1) (.slice e1 k1 f1) k m1 k1 q1 wr)) (fun i _ => k1 - (intOf i).toNat)
        case atStart => exact ⟨0, Nat.zero_le _, rfl, SP.out⟩
        case round =>
          clear SP
          obtain ⟨j, hj, rfl, SP⟩ := hrel
          obtain ⟨x0, x1, x2, x3, -⟩ := SP.out.box.four
          by_cases hjm : j < k1
          · obtain ⟨b8, o8, a8, m8, c8, hix8, hc8, hE8, hl8⟩ := SP.out.opn.at j hjm
            have hji : (j : Int) < (k1 : Int) := by omega
            have HC := spoil_eight bs (.slice a8 m8 c8) m8 wr hE8
            have H8 : Hid (Eight bs wr (.slice a8 m8 c8) m8 ∧ ∀ g, (Value.slice a8 m8 c8).ownBlock = some g → g < N) := ⟨hE8, hl8⟩
            clear hE8 hl8
            go_wp2_with fail
            refine HC.mono ?_
            rintro e9 w9 ⟨rfl, hg9, hE9⟩
            have SP2 : Hid (SPL w Y6 bs N w2.heap.size (.slice a1 k c1) (.slice b1 m1 d1) (.slice e1 k1 f1) k m1 k1 q1 w9) := SP.out.step HBS.out.1 H8.out.1 H8.out.2 hg9 hE9
            clear HC hg9 hE9 x0 x1 x2 x3 hix8 hc8
            go_wp2
            go_roundw
            case rel => exact ⟨j + 1, by omega, by go_num, SP2.out⟩
            case measure => simp [intOf]; omega
          · obtain rfl : j = k1 := by omega
            go_wp2
            clear x0 x1 x2 x3
            go_loopw [20] (fun i wr => ∃ r : Nat, r ≤ m1 ∧ i = .int .i64 r ∧ Hid (SPL w Y6 bs N w2.heap.size (.slice a1 k c1) (.slice b1 m1 d1) (.slice e1 j f1) k m1 j q1 wr)) (fun i _ => m1 - (intOf i).toNat)
            case atStart => exact ⟨0, Nat.zero_le _, rfl, SP.out⟩
            case round =>
              clear SP
              obtain ⟨r, hr, rfl, SP⟩ := hrel
              obtain ⟨x0, x1, x2, x3, -⟩ := SP.out.box.four
              by_cases hrm : r < m1
              · obtain ⟨g8, x8, hix8, hc8, hf8, hgT, hst⟩ := SP.out.drew.flip HBS.out.1 r hrm
                have hri : (r : Int) < (m1 : Int) := by omega
                have SP2 : Hid (∀ y, SPL w Y6 bs N w2.heap.size (.slice a1 k c1) (.slice b1 m1 d1) (.slice e1 j f1) k m1 j q1 (wr.drew.setCell ⟨g8, r, none⟩ (.bool y))) := hst
                have hSS : wr.drew.cell? ⟨w2.heap.size, 1, none⟩ = some (.slice b1 m1 d1) ∧ wr.drew.cell? ⟨g8, r, none⟩ = some (.bool x8) := ⟨x1, hc8⟩
                clear hst hgT
                go_upto_region 24 with fail
                clear x0 x1 x2 x3
                refine AnyBut.begin (fun V => V.cell? ⟨w2.heap.size, 1, none⟩ = some (.slice b1 m1 d1) ∧ V.cell? ⟨g8, r, none⟩ = some (.bool x8)) 10 (by kernel_rfl) ?_
                refine tt 0 110 ?_ hSS ?_ ?_; rotate_left
                · intro W9 hSW; (try dsimp only at hSW); go_simp; try with_reducible rfl
                simp only [ua, ub, uc, ud]
                refine tt 1 111 ?_ hSS ?_ ?_; rotate_left
                · intro W9 hSW; (try dsimp only at hSW); go_simp; try with_reducible rfl
                simp only [ua, ub, uc, ud]
                refine tt 2 112 ?_ hSS ?_ ?_; rotate_left
                · intro W9 hSW; (try dsimp only at hSW); go_simp; try with_reducible rfl
                simp only [ua, ub, uc, ud]
                refine tt 3 113 ?_ hSS ?_ ?_; rotate_left
                · intro W9 hSW; (try dsimp only at hSW); go_simp; try with_reducible rfl
                simp only [ua, ub, uc, ud]
                refine tt 4 114 ?_ hSS ?_ ?_; rotate_left
                · intro W9 hSW; (try dsimp only at hSW); go_simp; try with_reducible rfl
                simp only [ua, ub, uc, ud]
                refine tt 5 115 ?_ hSS ?_ ?_; rotate_left
                · intro W9 hSW; (try dsimp only at hSW); go_simp; try with_reducible rfl
                simp only [ua, ub, uc, ud]
                refine tt 6 116 ?_ hSS ?_ ?_; rotate_left
                · intro W9 hSW; (try dsimp only at hSW); go_simp; try with_reducible rfl
                simp only [ua, ub, uc, ud]
                refine tt 7 117 ?_ hSS ?_ ?_; rotate_left
                · intro W9 hSW; (try dsimp only at hSW); go_simp; try with_reducible rfl
                simp only [ua, ub, uc, ud]
                refine tt 8 118 ?_ hSS ?_ ?_; rotate_left
                · intro W9 hSW; (try dsimp only at hSW); go_simp; try with_reducible rfl
                simp only [ua, ub, uc, ud]
                refine tt 9 119 ?_ hSS ?_ ?_; rotate_left
                · intro W9 hSW; (try dsimp only at hSW); go_simp; try with_reducible rfl
                simp only [ua, ub, uc, ud]
                refine AnyBut.last (by kernel_rfl) (by kernel_rfl) rfl (fun K hK => ?_)
                go_simp
                refine hK.out _ _ ?_
                clear hK hSS hc8 hf8 hix8
                go_wp2
                go_roundw
                case rel => exact ⟨r + 1, by omega, by go_num, SP2.out _⟩
                case measure => simp [intOf]; omega
              · obtain rfl : r = m1 := by omega
                obtain ⟨p0, p1, p2, p3, -⟩ := (SP.out.keep A2.out.1 A2.out.2.2).four
                obtain ⟨r0, r1, r2, r3, -⟩ := (SP.out.keep A3.out.1 A3.out.2.2).four
                have HC := alikeL_same N N [.slice a2 n2 c2, .slice b2 m2 d2, .slice e2 k2 f2, .int .i64 q2] [.slice a3 n3 c3, .slice b3 m3 d3, .slice e3 k3 f3, .int .i64 q3] (pS s (po, pi, pd)) wr (stN.keep A2.out.2.1 SP.out.same) (stR.keep A3.out.2.1 SP.out.same)
                go_wp2_with (go_at_call 18; refine (num_any _ _).mono ?_; rintro e9 wn ⟨rfl, rfl⟩)
                clear p0 p1 p2 p3 r0 r1 r2 r3 x0 x1 x2 x3
                refine HC.mono ?_
                rintro e9 w10 ⟨rfl, hb10⟩
                have B4 := SP.out.keep A4.out.1 A4.out.2.2
                have B5 := SP.out.keep A5.out.1 A5.out.2.2
                obtain ⟨p0, p1, p2, p3, -⟩ := (B4.below hb10 B4.lt).four
                obtain ⟨r0, r1, r2, r3, -⟩ := (B5.below hb10 B5.lt).four
                have HC2 := alikeL_same N N [.slice a4 n4 c4, .slice b4 m4 d4, .slice e4 k4 f4, .int .i64 q4] [.slice a5 n5 c5, .slice b5 m5 d5, .slice e5 k5 f5, .int .i64 q5] (sS s) w10 (stN.below (stN.keep A4.out.2.1 SP.out.same) hb10) (stR.below (stR.keep A5.out.2.1 SP.out.same) hb10)
                have HBW : Hid (Below w.heap.size w w10) := below_any SP.out.bel hb10
                clear HC hb10 B4 B5
                go_wp2_with (go_at_call 18; refine (num_any _ _).mono ?_; rintro e9 wn ⟨rfl, rfl⟩)
                clear p0 p1 p2 p3 r0 r1 r2 r3
                refine HC2.mono ?_
                rintro e9 w11 ⟨rfl, hb11⟩
                have HQ : Hid (post (.returned (.bool true)) w11) := HPo.out _ (below_any HBW.out hb11)
                clear HC2 hb11
                go_wp2
                exact HQ.out

set_option maxRecDepth 100000 in
theorem lifted (os : Os) (started : os.Started) (H : Type) (enc : TypeId × Value → H) :
    ReturnsInHanded {} Try.checked os 7 .any (Rows.logOwnSpec.pre6 enc Try.prog Try.f7 Rows.logOwnRow.domain false) (Rows.logOwnSpec.post enc Try.prog Try.f7 false true false false) := by
  refine returnsInHanded_of_change_sized (C := Try.checked) own started (by kernel_rfl) Try.func7
    (ChangeSpec.witness6 (enc := enc) (C := Try.checked) false ⟨#[], #[.agg #[.slice none 0 0, .slice none 0 0, .slice none 0 0, .int .i64 0], .agg #[.int .i64 0, .int .i64 0, .slice none 0 0]], []⟩ 8 (by kernel_rfl) (by kernel_rfl) (by kernel_rfl) (by kernel_rfl)) ?_
  intro W base args ds gs before hval0 hW hcnd hsz0 _
  have hval : ∀ (j : Nat) t v, Try.f7.params[j]? = some t → args[j]? = some v → Value.okWide Try.prog W .any base t v := hval0
  have hW' := hW
  obtain ⟨p, q, hA0, hV, rfl, hfz, hnd⟩ := hW
  have hA : DataW.TrodAll enc Try.prog W 0 (fun _ => true) true Try.f7.params.toList args.toList ds p := hA0
  have hsz : (DataW.weightsEach Try.prog (Try.f7.params.toList ++ Rows.logOwnSpec.plain.varTypes Try.prog) (ds ++ gs)).all (· ≤ reachBytes) = true := hsz0
  clear hsz0
  rw [Try.params7] at hA hval hsz
  obtain ⟨v0, vs0, d0, ds0, p0, q0, hargs, rfl, rfl, h0, r0⟩ := trodAll_cons hA
  obtain ⟨v1, vs1, d1, ds1, p1, q1, rfl, rfl, rfl, h1, r1⟩ := trodAll_cons r0
  obtain ⟨rfl, rfl, rfl⟩ := trodAll_nil r1
  obtain rfl : args = #[v0, v1] := by cases args; simp_all
  obtain ⟨rfl, rfl⟩ := trodVars_none hV
  obtain ⟨cs0, rfl, hc0⟩ := okWide_struct Try.underlying26 (hval 0 26 v0 rfl rfl)
  obtain ⟨us0, rfl⟩ := as_list cs0
  have k0 := h0
  have lt0 : ∀ x ∈ p0, x.block < W.heap.size := by obtain ⟨m, hm⟩ := k0; exact DataW.trod_lt m _ _ _ hm
  obtain ⟨m0, hm0⟩ := h0
  obtain ⟨s0, A0, F0'⟩ := stR.reads hm0
  have F0 := F0' fun n hn => by have := List.all_eq_true.1 hsz _ (DataW.weights_mem_each (j := 0) rfl rfl n hn); simpa using this
  obtain ⟨cs1, rfl, hc1⟩ := okWide_struct Try.underlying29 (hval 1 29 v1 rfl rfl)
  obtain ⟨us1, rfl⟩ := as_list cs1
  have k1 := h1
  have lt1 : ∀ x ∈ p1, x.block < W.heap.size := by obtain ⟨m, hm⟩ := k1; exact DataW.trod_lt m _ _ _ hm
  obtain ⟨m1, hm1⟩ := h1
  obtain ⟨s1, A1, F1'⟩ := bkR.reads hm1
  have F1 := F1' fun n hn => by have := List.all_eq_true.1 hsz _ (DataW.weights_mem_each (j := 1) rfl rfl n hn); simpa using this
  clear hA0 hval0
  refine (walk 0 0 us0 s0 us1 s1 W A0 (fits_st F0) A1 (fits_bk F1)).mono fun e W' ⟨he, bel⟩ => ?_
  subst he
  exact ⟨_, rfl, _, _, _, [], _, [], hW', trodAll_mk1 (shut_bool Try.underlying4 _), (trodAll_cons_mk (Below.trod laidOut (by kernel_rfl) (of_decide_eq_true (by kernel_rfl)) k0 bel lt0) (trodAll_cons_mk (Below.trod laidOut (by kernel_rfl) (of_decide_eq_true (by kernel_rfl)) k1 bel lt1) trodAll_mk0)), rfl, bel.frame _, fun h => by cases h⟩

theorem over : Rows.logOwnRow.holds Try.pinned (OpenSpec.ofChange Rows.logOwnSpec) :=
  OpenClaim.holds_of_wide 7 Try.f7 rfl rfl rfl rfl rfl rfl rfl ⟨rfl, rfl, rfl, rfl, rfl⟩ rfl rfl rfl rfl rfl (by kernel_rfl) Try.func7 (by kernel_rfl)
    (of_decide_eq_true (by kernel_rfl)) (by unfold Func.isWrapper; first | (rw [if_pos (by decide +kernel)]; kernel_rfl) | (rw [if_neg (by decide +kernel)]; exact ⟨rfl, rfl⟩))
    (fun os started H enc _ => lifted os started H enc)

end Go.Proofs.Ytefmajjbkioddaa.logOwn

namespace Go.Proofs.Ytefmajjbkioddaa
theorem logOwn_holds : Rows.LogOwnSaid := logOwn.over
#print axioms logOwn_holds
end Go.Proofs.Ytefmajjbkioddaa
