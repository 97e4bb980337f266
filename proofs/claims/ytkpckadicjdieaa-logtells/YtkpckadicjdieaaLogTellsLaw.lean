/-
  LogTells, proved: for every store, block and two numbers (as great as the form reads them): the call returns true, and changes nothing that was in memory. No condition of its own.
-/
import Derived.Test.YtkpckadicjdieaaLAll
import Derived.Test.YtkpckadicjdieaaLAlive
import Derived.Test.YtkpckadicjdieaaLOf
import Derived.Test.YtkpckadicjdieaaLAlike
import Derived.Test.YtkpckadicjdieaaFlat
import Derived.Test.YtkpckadicjdieaaRPut
import Derived.Test.YtkpckadicjdieaaLPut
import Derived.Test.YtkpckadicjdieaaRLCheck
import Derived.Test.YtkpckadicjdieaaRGet
namespace Go.Proofs.Ytkpckadicjdieaa.logTells
open Go.ChangeShapes Go.WideShapes Go.ChangeAt Go.RowKit
set_option linter.unusedVariables false

theorem fits_bk {p : Bk} (h : bkR.fits p) : p.2.2.length ≤ 140737488351232 := by
  obtain ⟨_, _, h4⟩ := h
  have b5 : Try.prog.bytesOf 5 = 1 := by kernel_rfl
  have h5 : p.2.2.length * Try.prog.bytesOf 5 ≤ 140737488351232 := h4
  rwa [b5, Nat.mul_one] at h5

set_option maxRecDepth 100000 in
set_option maxHeartbeats 16000000 in
theorem walk (n0 n1 : Nat) (us : List Value) (s : St) (ub : List Value) (p : Bk) (o i : Int) (w : World) (h : stR.lies n0 w us s) (hf : FitsL s) (hp : bkR.lies n1 w ub p) (hpf : p.2.2.length ≤ 140737488351232) (ho : I64 o) (hi : I64 i) :
    Calls Try.prog 3 #[.agg us.toArray, .agg ub.toArray, .int .i64 o, .int .i64 i] w fun e w' => e = .returned (.bool true) ∧ Below w.heap.size w w' := by
  obtain ⟨post, hpost⟩ : ∃ post : Ending → World → Prop, post = fun e w' => e = .returned (.bool true) ∧ Below w.heap.size w w' := ⟨_, rfl⟩
  have HPo : Hid (∀ w', Below w.heap.size w w' → post (.returned (.bool true)) w') := fun w' h => by rw [hpost]; exact ⟨rfl, h⟩
  rw [← hpost]
  clear hpost
  obtain ⟨a0, n0, c0, b0, m0, d0, e0, k0, f0, q0, rfl⟩ := st_flatL h
  obtain ⟨pa, pc, rfl, hPA, hpo, hpi⟩ := bk_view hp
  obtain ⟨pm, hpm⟩ : ∃ z, z = p.2.2.length := ⟨_, rfl⟩
  rw [← hpm] at hp hPA ⊢
  have HPI : Hid (I64 p.1 ∧ I64 p.2.1 ∧ p.2.2.length ≤ 140737488351232 ∧ pm = p.2.2.length) := ⟨hpo, hpi, hpf, hpm⟩
  have HO : Hid (I64 o ∧ I64 i) := ⟨ho, hi⟩
  have HF : Hid (FitsL s) := hf
  obtain ⟨pe, hpe⟩ : ∃ z, z = pE s p := ⟨_, rfl⟩
  obtain ⟨gb, hgb⟩ : ∃ z, z = (!decide ((gB s o i).length = 0)) := ⟨_, rfl⟩
  obtain ⟨ok, hok⟩ : ∃ z, z = okE s := ⟨_, rfl⟩
  have HE : Hid (pe = pE s p ∧ gb = (!decide ((gB s o i).length = 0)) ∧ ok = okE s) := ⟨hpe, hgb, hok⟩
  obtain ⟨W, hW⟩ : ∃ W, W = (w.alloc (.cells #[.slice a0 n0 c0, .slice b0 m0 d0, .slice e0 k0 f0, .int .i64 q0] 26)).alloc (.cells #[.int .i64 p.1, .int .i64 p.2.1, .slice pa pm pc] 29) := ⟨_, rfl⟩
  have HB : Hid (Below w.heap.size w W) := by rw [hW]; exact ((Below.refl _ _).alloc (Nat.le_refl _) _).alloc (by simp) _
  have A0 : Hid (Box W w.heap.size 26 #[.slice a0 n0 c0, .slice b0 m0 d0, .slice e0 k0 f0, .int .i64 q0] ∧ stR.lies 0 W [.slice a0 n0 c0, .slice b0 m0 d0, .slice e0 k0 f0, .int .i64 q0] s) := ⟨by rw [hW]; exact (Box.new _ _ _).alloc _, stR.below (stR.weaken h (Nat.zero_le _)) HB.out⟩
  have B0 : Hid (Box W (w.heap.size + 1) 29 #[.int .i64 p.1, .int .i64 p.2.1, .slice pa pm pc] ∧ bkR.lies 0 W [.int .i64 p.1, .int .i64 p.2.1, .slice pa pm pc] p) := ⟨by
    rw [hW]
    have := Box.new (w.alloc (.cells #[.slice a0 n0 c0, .slice b0 m0 d0, .slice e0 k0 f0, .int .i64 q0] 26)) 29 #[.int .i64 p.1, .int .i64 p.2.1, .slice pa pm pc]
    rwa [World.size_alloc] at this, bkR.below (bkR.weaken hp (Nat.zero_le _)) HB.out⟩
  clear h hf hp hPA hpo hpi hpf hpm ho hi hpe hgb hok
  go_enter Try.func3, Try.ntmps3
  go_upto_region 1 with fail
  rw [← hW]
  clear hW
  have HC := ofL_any 0 [.slice a0 n0 c0, .slice b0 m0 d0, .slice e0 k0 f0, .int .i64 q0] s W A0.out.2 HF.out
  obtain ⟨A0c0, A0c1, A0c2, A0c3, -⟩ := A0.out.1.four
  go_wp2_with fail
  clear A0c0 A0c1 A0c2 A0c3
  refine HC.mono ?_
  rintro e9 w1 ⟨⟨us9, rfl, ho9⟩, hb9⟩
  obtain ⟨a1, n1, c1, b1, m1, d1, e1, k1, f1, q1, rfl⟩ := st_flat ho9
  replace A0 : Hid (Box w1 w.heap.size 26 #[.slice a0 n0 c0, .slice b0 m0 d0, .slice e0 k0 f0, .int .i64 q0] ∧ stR.lies 0 w1 [.slice a0 n0 c0, .slice b0 m0 d0, .slice e0 k0 f0, .int .i64 q0] s) := ⟨A0.out.1.below hb9 A0.out.1.lt, stR.below A0.out.2 hb9⟩
  replace B0 : Hid (Box w1 (w.heap.size + 1) 29 #[.int .i64 p.1, .int .i64 p.2.1, .slice pa pm pc] ∧ bkR.lies 0 w1 [.int .i64 p.1, .int .i64 p.2.1, .slice pa pm pc] p) := ⟨B0.out.1.below hb9 B0.out.1.lt, bkR.below B0.out.2 hb9⟩
  replace HB : Hid (Below w.heap.size w w1) := below_any HB.out hb9
  obtain ⟨X1, hX1⟩ : ∃ X, X = w1.alloc (.cells #[.slice a1 n1 c1, .slice b1 m1 d1, .slice e1 k1 f1, .int .i64 q1] 33) := ⟨_, rfl⟩
  have hbX : Below w1.heap.size w1 X1 := by rw [hX1]; exact (Below.refl _ _).alloc (Nat.le_refl _) _
  have A1 : Hid (Box X1 w1.heap.size 33 #[.slice a1 n1 c1, .slice b1 m1 d1, .slice e1 k1 f1, .int .i64 q1] ∧ stN.lies 0 X1 [.slice a1 n1 c1, .slice b1 m1 d1, .slice e1 k1 f1, .int .i64 q1] s) := ⟨by rw [hX1]; exact Box.new _ _ _, stN.below (stN.weaken (stN.olies ho9) (Nat.zero_le _)) hbX⟩
  replace A0 : Hid (Box X1 w.heap.size 26 #[.slice a0 n0 c0, .slice b0 m0 d0, .slice e0 k0 f0, .int .i64 q0] ∧ stR.lies 0 X1 [.slice a0 n0 c0, .slice b0 m0 d0, .slice e0 k0 f0, .int .i64 q0] s) := ⟨A0.out.1.below hbX A0.out.1.lt, stR.below A0.out.2 hbX⟩
  replace B0 : Hid (Box X1 (w.heap.size + 1) 29 #[.int .i64 p.1, .int .i64 p.2.1, .slice pa pm pc] ∧ bkR.lies 0 X1 [.int .i64 p.1, .int .i64 p.2.1, .slice pa pm pc] p) := ⟨B0.out.1.below hbX B0.out.1.lt, bkR.below B0.out.2 hbX⟩
  replace HB : Hid (Below w.heap.size w X1) := below_any HB.out hbX
  clear HC ho9 hb9 hbX
  go_upto_region 2 with fail
  rw [← hX1]
  clear hX1
  have HPA : Hid (∀ V, Below X1.heap.size X1 V → Arg 0 V (.slice pa pm pc) p.2.2) := fun V hV => by
    obtain ⟨_, _, e8, hPA, _⟩ := bk_view B0.out.2
    simp only [List.cons.injEq, and_true, true_and] at e8
    rw [e8]
    exact hPA.below hV
  have HS : Hid (∀ V, Below X1.heap.size X1 V → V.cell? ⟨w.heap.size + 1, 0, none⟩ = some (.int .i64 p.1) ∧ V.cell? ⟨w.heap.size + 1, 1, none⟩ = some (.int .i64 p.2.1) ∧ V.cell? ⟨w.heap.size + 1, 2, none⟩ = some (.slice pa pm pc)) := fun V hV => by
    have h1 := (B0.out.1.below hV B0.out.1.lt).three
    exact ⟨h1.1, h1.2.1, h1.2.2.1⟩
  have HCY : Hid (∀ V, Below X1.heap.size X1 V → Calls Try.prog 10 #[.slice pa pm pc] V fun e w' => (∃ v', e = .returned v' ∧ Own1 V.heap.size w' v' p.2.2) ∧ Below V.heap.size V w') := fun V hV => copy_any 0 (.slice pa pm pc) p.2.2 V (HPA.out V hV) (by have := HPI.out.2.2.1; omega)
  go_cut [10] (fun u wx => ∃ dd, u = .pointer (some ⟨dd, 0, none⟩) ∧ Hid (Below X1.heap.size X1 wx ∧ ∃ ya yc, Box wx dd 36 #[.int .i64 p.1, .int .i64 p.2.1, .slice ya pm yc] ∧ Arg 0 wx (.slice ya pm yc) p.2.2))
  case first =>
    rename_i J K1 hJ hMt
    refine AnyBut.begin (fun V => V.cell? ⟨w.heap.size + 1, 0, none⟩ = some (.int .i64 p.1) ∧ V.cell? ⟨w.heap.size + 1, 1, none⟩ = some (.int .i64 p.2.1) ∧ V.cell? ⟨w.heap.size + 1, 2, none⟩ = some (.slice pa pm pc)) 1000 (by kernel_rfl) ?_
    have hSS := HS.out X1.drew (Below.refl _ X1).drew
    refine tx 0 27 hSS ?_
    simp only [ua, ub, uc, ud]
    refine tx 1 28 hSS ?_
    simp only [ua, ub, uc, ud]
    refine tx 2 29 hSS ?_
    simp only [ua, ub, uc, ud]
    refine tx 3 30 hSS ?_
    simp only [ua, ub, uc, ud]
    refine tx 4 31 hSS ?_
    simp only [ua, ub, uc, ud]
    refine tx 5 32 hSS ?_
    simp only [ua, ub, uc, ud]
    refine AnyBut.two (i := 6) (j := 8) (by kernel_rfl) rfl rfl (fun K hK => ?_) (fun K hK => ?_)
    · go_simp
      refine Calls.mono (HCY.out X1.drew (Below.refl _ X1).drew) ?_
      rintro e9 w9 ⟨⟨v9, rfl, ho9⟩, hb9⟩
      dsimp only
      have hb9 : Below X1.heap.size X1 w9 := ((Below.refl X1.heap.size X1).drew).trans (hb9.mono (Nat.le_refl _))
      refine hK.out _ _ (HS.out w9 hb9) ?_
      clear hK hSS
      have hSS := HS.out w9 hb9
      obtain ⟨ya, yc, rfl⟩ := ho9.shape
      rw [← HPI.out.2.2.2] at ho9 ⊢
      refine tx 7 34 hSS ?_
      simp only [ua, ub, uc, ud]
      refine AnyBut.step (i := 8) (by kernel_rfl) rfl (fun K hK => ?_)
      go_simp
      refine hK.out _ _ (HS.out _ (hb9.alloc hb9.size _)) ?_
      clear hK
      refine AnyBut.step (i := 9) (by kernel_rfl) rfl (fun K hK => ?_)
      go_simp
      refine hK.out _ _ (HS.out _ (hb9.alloc hb9.size _)) ?_
      clear hK
      refine AnyBut.done (by kernel_rfl) ?_
      refine hMt _ _ (Go.Met.intro (hJ _ _ ?_))
      (repeat (refine Exists.intro ?_ ?_; rotate_left 1))
      refine ⟨?rel1, ?fr1⟩
      case fr1 => rfl
      case rel1 => exact ⟨_, rfl, hb9.alloc hb9.size _, _, _, Box.new _ _ _, (ho9.arg.weaken (Nat.zero_le _)).below ((Below.refl _ _).alloc (Nat.le_refl _) _)⟩
    · go_simp
      obtain ⟨Z, hZ⟩ : ∃ Z, Z = (X1.alloc (.cells #[.int .i64 0, .int .i64 0, .slice none 0 0] 36)).drew := ⟨_, rfl⟩
      have hbz : Below X1.heap.size X1 Z := by rw [hZ]; exact ((Below.refl _ X1).alloc (Nat.le_refl _) _).drew
      have hBz : Box Z X1.heap.size 36 #[.int .i64 0, .int .i64 0, .slice none 0 0] := by rw [hZ]; exact Box.drew (Box.new _ _ _)
      rw [← hZ]
      refine hK.out _ _ (HS.out Z hbz) ?_
      clear hK hSS hZ
      refine AnyBut.step (i := 6) (by kernel_rfl) rfl (fun K hK => ?_)
      go_simp
      refine Calls.mono (HCY.out Z hbz) ?_
      rintro e9 w9 ⟨⟨v9, rfl, ho9⟩, hb9⟩
      dsimp only
      have hBp := hBz.below hb9 hBz.lt
      have hb9 : Below X1.heap.size X1 w9 := hbz.trans (hb9.mono hbz.size)
      refine hK.out _ _ (HS.out w9 hb9) ?_
      clear hK
      have hSS := HS.out w9 hb9
      obtain ⟨ya, yc, rfl⟩ := ho9.shape
      rw [← HPI.out.2.2.2] at ho9 ⊢
      refine tx 7 34 hSS ?_
      simp only [ua, ub, uc, ud]
      obtain ⟨z0, z1, z2, y0, y1, y2⟩ := hBp.three
      have HbQ : Hid (∀ u0 u1 u2, Below X1.heap.size X1 (((w9.setCell ⟨X1.heap.size, 0, none⟩ u0).setCell ⟨X1.heap.size, 1, none⟩ u1).setCell ⟨X1.heap.size, 2, none⟩ u2) ∧ Box (((w9.setCell ⟨X1.heap.size, 0, none⟩ u0).setCell ⟨X1.heap.size, 1, none⟩ u1).setCell ⟨X1.heap.size, 2, none⟩ u2) X1.heap.size 36 #[u0, u1, u2] ∧ Arg 0 (((w9.setCell ⟨X1.heap.size, 0, none⟩ u0).setCell ⟨X1.heap.size, 1, none⟩ u1).setCell ⟨X1.heap.size, 2, none⟩ u2) (.slice ya pm yc) p.2.2) := fun u0 u1 u2 => ⟨below_set3 hb9 (Nat.le_refl _) _ _ _, ((hBp.set 0 _).set 1 _).set 2 _, (Own1.arg (bytesS.osame ho9 (.set3 hBz.lt))).weaken (Nat.zero_le _)⟩
      clear hBp hBz hbz
      refine AnyBut.step (i := 9) (by kernel_rfl) rfl (fun K hK => ?_)
      go_simp
      refine hK.out _ _ (HS.out _ (HbQ.out _ _ _).1) ?_
      clear hK
      refine AnyBut.done (by kernel_rfl) ?_
      refine hMt _ _ (Go.Met.intro (hJ _ _ ?_))
      (repeat (refine Exists.intro ?_ ?_; rotate_left 1))
      refine ⟨?rel2, ?fr2⟩
      case fr2 => rfl
      case rel2 => exact ⟨_, rfl, (HbQ.out _ _ _).1, _, _, (HbQ.out _ _ _).2⟩
  case rest =>
    obtain ⟨dd, rfl, HXX⟩ := hcut
    obtain ⟨wx, hwx⟩ : ∃ U, U = wc := ⟨_, rfl⟩
    rw [← hwx] at HXX ⊢
    clear hwx
    obtain ⟨hbx, ya, yc, hBx, ho⟩ := HXX.out
    have B1 : Hid (Box wx dd 36 #[.int .i64 p.1, .int .i64 p.2.1, .slice ya pm yc] ∧ bkN.lies 0 wx [.int .i64 p.1, .int .i64 p.2.1, .slice ya pm yc] p) := ⟨hBx, bk_mk (p := p) ho HPI.out.1 HPI.out.2.1⟩
    replace A0 : Hid (Box wx w.heap.size 26 #[.slice a0 n0 c0, .slice b0 m0 d0, .slice e0 k0 f0, .int .i64 q0] ∧ stR.lies 0 wx [.slice a0 n0 c0, .slice b0 m0 d0, .slice e0 k0 f0, .int .i64 q0] s) := ⟨A0.out.1.below hbx A0.out.1.lt, stR.below A0.out.2 hbx⟩
    replace B0 : Hid (Box wx (w.heap.size + 1) 29 #[.int .i64 p.1, .int .i64 p.2.1, .slice pa pm pc] ∧ bkR.lies 0 wx [.int .i64 p.1, .int .i64 p.2.1, .slice pa pm pc] p) := ⟨B0.out.1.below hbx B0.out.1.lt, bkR.below B0.out.2 hbx⟩
    replace A1 : Hid (Box wx w1.heap.size 33 #[.slice a1 n1 c1, .slice b1 m1 d1, .slice e1 k1 f1, .int .i64 q1] ∧ stN.lies 0 wx [.slice a1 n1 c1, .slice b1 m1 d1, .slice e1 k1 f1, .int .i64 q1] s) := ⟨A1.out.1.below hbx A1.out.1.lt, stN.below A1.out.2 hbx⟩
    replace HB : Hid (Below w.heap.size w wx) := below_any HB.out hbx
    clear HXX hbx hBx ho HS HCY HPA
    have HC := put_any 0 0 [.slice a1 n1 c1, .slice b1 m1 d1, .slice e1 k1 f1, .int .i64 q1] s [.int .i64 p.1, .int .i64 p.2.1, .slice ya pm yc] p wx A1.out.2 B1.out.2 (Nat.zero_le _)
    rw [← HE.out.1] at HC
    obtain ⟨A1c0, A1c1, A1c2, A1c3, -⟩ := A1.out.1.four
    obtain ⟨B1c0, B1c1, B1c2, -⟩ := B1.out.1.three
    go_wp2_with fail
    clear A1c0 A1c1 A1c2 A1c3 B1c0 B1c1 B1c2
    refine HC.mono ?_
    rintro e9 w2 ⟨⟨us9, rfl, ho9⟩, hb9⟩
    obtain ⟨a2, n2, c2, b2, m2, d2, e2, k2, f2, q2, rfl⟩ := st_flat ho9
    replace A0 : Hid (Box w2 w.heap.size 26 #[.slice a0 n0 c0, .slice b0 m0 d0, .slice e0 k0 f0, .int .i64 q0] ∧ stR.lies 0 w2 [.slice a0 n0 c0, .slice b0 m0 d0, .slice e0 k0 f0, .int .i64 q0] s) := ⟨A0.out.1.below hb9 A0.out.1.lt, stR.below A0.out.2 hb9⟩
    replace B0 : Hid (Box w2 (w.heap.size + 1) 29 #[.int .i64 p.1, .int .i64 p.2.1, .slice pa pm pc] ∧ bkR.lies 0 w2 [.int .i64 p.1, .int .i64 p.2.1, .slice pa pm pc] p) := ⟨B0.out.1.below hb9 B0.out.1.lt, bkR.below B0.out.2 hb9⟩
    replace A1 : Hid (Box w2 w1.heap.size 33 #[.slice a1 n1 c1, .slice b1 m1 d1, .slice e1 k1 f1, .int .i64 q1] ∧ stN.lies 0 w2 [.slice a1 n1 c1, .slice b1 m1 d1, .slice e1 k1 f1, .int .i64 q1] s) := ⟨A1.out.1.below hb9 A1.out.1.lt, stN.below A1.out.2 hb9⟩
    replace B1 : Hid (Box w2 dd 36 #[.int .i64 p.1, .int .i64 p.2.1, .slice ya pm yc] ∧ bkN.lies 0 w2 [.int .i64 p.1, .int .i64 p.2.1, .slice ya pm yc] p) := ⟨B1.out.1.below hb9 B1.out.1.lt, bkN.below B1.out.2 hb9⟩
    replace HB : Hid (Below w.heap.size w w2) := below_any HB.out hb9
    obtain ⟨X2, hX2⟩ : ∃ X, X = w2.alloc (.cells #[.slice a2 n2 c2, .slice b2 m2 d2, .slice e2 k2 f2, .int .i64 q2] 33) := ⟨_, rfl⟩
    have hbX : Below w2.heap.size w2 X2 := by rw [hX2]; exact (Below.refl _ _).alloc (Nat.le_refl _) _
    have A2 : Hid (Box X2 w2.heap.size 33 #[.slice a2 n2 c2, .slice b2 m2 d2, .slice e2 k2 f2, .int .i64 q2] ∧ stN.lies 0 X2 [.slice a2 n2 c2, .slice b2 m2 d2, .slice e2 k2 f2, .int .i64 q2] (pS s p)) := ⟨by rw [hX2]; exact Box.new _ _ _, stN.below (stN.weaken (stN.olies ho9) (Nat.zero_le _)) hbX⟩
    replace A0 : Hid (Box X2 w.heap.size 26 #[.slice a0 n0 c0, .slice b0 m0 d0, .slice e0 k0 f0, .int .i64 q0] ∧ stR.lies 0 X2 [.slice a0 n0 c0, .slice b0 m0 d0, .slice e0 k0 f0, .int .i64 q0] s) := ⟨A0.out.1.below hbX A0.out.1.lt, stR.below A0.out.2 hbX⟩
    replace B0 : Hid (Box X2 (w.heap.size + 1) 29 #[.int .i64 p.1, .int .i64 p.2.1, .slice pa pm pc] ∧ bkR.lies 0 X2 [.int .i64 p.1, .int .i64 p.2.1, .slice pa pm pc] p) := ⟨B0.out.1.below hbX B0.out.1.lt, bkR.below B0.out.2 hbX⟩
    replace A1 : Hid (Box X2 w1.heap.size 33 #[.slice a1 n1 c1, .slice b1 m1 d1, .slice e1 k1 f1, .int .i64 q1] ∧ stN.lies 0 X2 [.slice a1 n1 c1, .slice b1 m1 d1, .slice e1 k1 f1, .int .i64 q1] s) := ⟨A1.out.1.below hbX A1.out.1.lt, stN.below A1.out.2 hbX⟩
    replace B1 : Hid (Box X2 dd 36 #[.int .i64 p.1, .int .i64 p.2.1, .slice ya pm yc] ∧ bkN.lies 0 X2 [.int .i64 p.1, .int .i64 p.2.1, .slice ya pm yc] p) := ⟨B1.out.1.below hbX B1.out.1.lt, bkN.below B1.out.2 hbX⟩
    replace HB : Hid (Below w.heap.size w X2) := below_any HB.out hbX
    clear HC ho9 hb9 hbX
    go_upto_region 4 with fail
    rw [← hX2]
    clear hX2
    have HC := rput_any 0 0 [.slice a0 n0 c0, .slice b0 m0 d0, .slice e0 k0 f0, .int .i64 q0] s [.int .i64 p.1, .int .i64 p.2.1, .slice pa pm pc] p X2 A0.out.2 B0.out.2 (Nat.zero_le _)
    rw [← HE.out.1] at HC
    obtain ⟨A0c0, A0c1, A0c2, A0c3, -⟩ := A0.out.1.four
    obtain ⟨B0c0, B0c1, B0c2, -⟩ := B0.out.1.three
    go_wp2_with fail
    clear A0c0 A0c1 A0c2 A0c3 B0c0 B0c1 B0c2
    refine HC.mono ?_
    rintro e9 w3 ⟨⟨us9, rfl, ho9⟩, hb9⟩
    obtain ⟨a3, n3, c3, b3, m3, d3, e3, k3, f3, q3, rfl⟩ := st_flatR ho9
    replace A0 : Hid (Box w3 w.heap.size 26 #[.slice a0 n0 c0, .slice b0 m0 d0, .slice e0 k0 f0, .int .i64 q0] ∧ stR.lies 0 w3 [.slice a0 n0 c0, .slice b0 m0 d0, .slice e0 k0 f0, .int .i64 q0] s) := ⟨A0.out.1.below hb9 A0.out.1.lt, stR.below A0.out.2 hb9⟩
    replace B0 : Hid (Box w3 (w.heap.size + 1) 29 #[.int .i64 p.1, .int .i64 p.2.1, .slice pa pm pc] ∧ bkR.lies 0 w3 [.int .i64 p.1, .int .i64 p.2.1, .slice pa pm pc] p) := ⟨B0.out.1.below hb9 B0.out.1.lt, bkR.below B0.out.2 hb9⟩
    replace A1 : Hid (Box w3 w1.heap.size 33 #[.slice a1 n1 c1, .slice b1 m1 d1, .slice e1 k1 f1, .int .i64 q1] ∧ stN.lies 0 w3 [.slice a1 n1 c1, .slice b1 m1 d1, .slice e1 k1 f1, .int .i64 q1] s) := ⟨A1.out.1.below hb9 A1.out.1.lt, stN.below A1.out.2 hb9⟩
    replace B1 : Hid (Box w3 dd 36 #[.int .i64 p.1, .int .i64 p.2.1, .slice ya pm yc] ∧ bkN.lies 0 w3 [.int .i64 p.1, .int .i64 p.2.1, .slice ya pm yc] p) := ⟨B1.out.1.below hb9 B1.out.1.lt, bkN.below B1.out.2 hb9⟩
    replace A2 : Hid (Box w3 w2.heap.size 33 #[.slice a2 n2 c2, .slice b2 m2 d2, .slice e2 k2 f2, .int .i64 q2] ∧ stN.lies 0 w3 [.slice a2 n2 c2, .slice b2 m2 d2, .slice e2 k2 f2, .int .i64 q2] (pS s p)) := ⟨A2.out.1.below hb9 A2.out.1.lt, stN.below A2.out.2 hb9⟩
    replace HB : Hid (Below w.heap.size w w3) := below_any HB.out hb9
    obtain ⟨X3, hX3⟩ : ∃ X, X = w3.alloc (.cells #[.slice a3 n3 c3, .slice b3 m3 d3, .slice e3 k3 f3, .int .i64 q3] 26) := ⟨_, rfl⟩
    have hbX : Below w3.heap.size w3 X3 := by rw [hX3]; exact (Below.refl _ _).alloc (Nat.le_refl _) _
    have A3 : Hid (Box X3 w3.heap.size 26 #[.slice a3 n3 c3, .slice b3 m3 d3, .slice e3 k3 f3, .int .i64 q3] ∧ stR.lies 0 X3 [.slice a3 n3 c3, .slice b3 m3 d3, .slice e3 k3 f3, .int .i64 q3] (pS s p)) := ⟨by rw [hX3]; exact Box.new _ _ _, stR.below (stR.weaken (stR.olies ho9) (Nat.zero_le _)) hbX⟩
    replace A0 : Hid (Box X3 w.heap.size 26 #[.slice a0 n0 c0, .slice b0 m0 d0, .slice e0 k0 f0, .int .i64 q0] ∧ stR.lies 0 X3 [.slice a0 n0 c0, .slice b0 m0 d0, .slice e0 k0 f0, .int .i64 q0] s) := ⟨A0.out.1.below hbX A0.out.1.lt, stR.below A0.out.2 hbX⟩
    replace B0 : Hid (Box X3 (w.heap.size + 1) 29 #[.int .i64 p.1, .int .i64 p.2.1, .slice pa pm pc] ∧ bkR.lies 0 X3 [.int .i64 p.1, .int .i64 p.2.1, .slice pa pm pc] p) := ⟨B0.out.1.below hbX B0.out.1.lt, bkR.below B0.out.2 hbX⟩
    replace A1 : Hid (Box X3 w1.heap.size 33 #[.slice a1 n1 c1, .slice b1 m1 d1, .slice e1 k1 f1, .int .i64 q1] ∧ stN.lies 0 X3 [.slice a1 n1 c1, .slice b1 m1 d1, .slice e1 k1 f1, .int .i64 q1] s) := ⟨A1.out.1.below hbX A1.out.1.lt, stN.below A1.out.2 hbX⟩
    replace B1 : Hid (Box X3 dd 36 #[.int .i64 p.1, .int .i64 p.2.1, .slice ya pm yc] ∧ bkN.lies 0 X3 [.int .i64 p.1, .int .i64 p.2.1, .slice ya pm yc] p) := ⟨B1.out.1.below hbX B1.out.1.lt, bkN.below B1.out.2 hbX⟩
    replace A2 : Hid (Box X3 w2.heap.size 33 #[.slice a2 n2 c2, .slice b2 m2 d2, .slice e2 k2 f2, .int .i64 q2] ∧ stN.lies 0 X3 [.slice a2 n2 c2, .slice b2 m2 d2, .slice e2 k2 f2, .int .i64 q2] (pS s p)) := ⟨A2.out.1.below hbX A2.out.1.lt, stN.below A2.out.2 hbX⟩
    replace HB : Hid (Below w.heap.size w X3) := below_any HB.out hbX
    clear HC ho9 hb9 hbX
    go_upto_region 5 with fail
    rw [← hX3]
    clear hX3
    have HC := get_any 0 [.slice a1 n1 c1, .slice b1 m1 d1, .slice e1 k1 f1, .int .i64 q1] s o i X3 A1.out.2 HO.out.1 HO.out.2
    rw [← HE.out.2.1] at HC
    rw [← HE.out.2.2] at HC
    obtain ⟨A1c0, A1c1, A1c2, A1c3, -⟩ := A1.out.1.four
    go_wp2_with fail
    clear A1c0 A1c1 A1c2 A1c3
    refine HC.mono ?_
    rintro e9 w4 ⟨⟨v9, rfl, ho9⟩, hb9⟩
    obtain ⟨aA4, cA4, hv9⟩ := ho9.shape
    obtain ⟨zA4, hz9⟩ : ∃ z, z = (gB s o i).length := ⟨_, rfl⟩
    rw [← hz9] at hv9
    subst hv9
    have A4 : Hid (Arg 0 w4 (.slice aA4 zA4 cA4) (gB s o i)) := ho9.arg.weaken (Nat.zero_le _)
    replace A0 : Hid (Box w4 w.heap.size 26 #[.slice a0 n0 c0, .slice b0 m0 d0, .slice e0 k0 f0, .int .i64 q0] ∧ stR.lies 0 w4 [.slice a0 n0 c0, .slice b0 m0 d0, .slice e0 k0 f0, .int .i64 q0] s) := ⟨A0.out.1.below hb9 A0.out.1.lt, stR.below A0.out.2 hb9⟩
    replace B0 : Hid (Box w4 (w.heap.size + 1) 29 #[.int .i64 p.1, .int .i64 p.2.1, .slice pa pm pc] ∧ bkR.lies 0 w4 [.int .i64 p.1, .int .i64 p.2.1, .slice pa pm pc] p) := ⟨B0.out.1.below hb9 B0.out.1.lt, bkR.below B0.out.2 hb9⟩
    replace A1 : Hid (Box w4 w1.heap.size 33 #[.slice a1 n1 c1, .slice b1 m1 d1, .slice e1 k1 f1, .int .i64 q1] ∧ stN.lies 0 w4 [.slice a1 n1 c1, .slice b1 m1 d1, .slice e1 k1 f1, .int .i64 q1] s) := ⟨A1.out.1.below hb9 A1.out.1.lt, stN.below A1.out.2 hb9⟩
    replace B1 : Hid (Box w4 dd 36 #[.int .i64 p.1, .int .i64 p.2.1, .slice ya pm yc] ∧ bkN.lies 0 w4 [.int .i64 p.1, .int .i64 p.2.1, .slice ya pm yc] p) := ⟨B1.out.1.below hb9 B1.out.1.lt, bkN.below B1.out.2 hb9⟩
    replace A2 : Hid (Box w4 w2.heap.size 33 #[.slice a2 n2 c2, .slice b2 m2 d2, .slice e2 k2 f2, .int .i64 q2] ∧ stN.lies 0 w4 [.slice a2 n2 c2, .slice b2 m2 d2, .slice e2 k2 f2, .int .i64 q2] (pS s p)) := ⟨A2.out.1.below hb9 A2.out.1.lt, stN.below A2.out.2 hb9⟩
    replace A3 : Hid (Box w4 w3.heap.size 26 #[.slice a3 n3 c3, .slice b3 m3 d3, .slice e3 k3 f3, .int .i64 q3] ∧ stR.lies 0 w4 [.slice a3 n3 c3, .slice b3 m3 d3, .slice e3 k3 f3, .int .i64 q3] (pS s p)) := ⟨A3.out.1.below hb9 A3.out.1.lt, stR.below A3.out.2 hb9⟩
    replace HB : Hid (Below w.heap.size w w4) := below_any HB.out hb9
    clear HC ho9 hb9 hz9
    have HC := rget_any 0 [.slice a0 n0 c0, .slice b0 m0 d0, .slice e0 k0 f0, .int .i64 q0] s o i w4 A0.out.2 HO.out.1 HO.out.2
    rw [← HE.out.2.1] at HC
    rw [← HE.out.2.2] at HC
    obtain ⟨A0c0, A0c1, A0c2, A0c3, -⟩ := A0.out.1.four
    go_wp2_with fail
    clear A0c0 A0c1 A0c2 A0c3
    refine HC.mono ?_
    rintro e9 w5 ⟨⟨v9, rfl, ho9⟩, hb9⟩
    obtain ⟨aA5, cA5, hv9⟩ := ho9.shape
    obtain ⟨zA5, hz9⟩ : ∃ z, z = (gB s o i).length := ⟨_, rfl⟩
    rw [← hz9] at hv9
    subst hv9
    have A5 : Hid (Arg 0 w5 (.slice aA5 zA5 cA5) (gB s o i)) := ho9.arg.weaken (Nat.zero_le _)
    replace A0 : Hid (Box w5 w.heap.size 26 #[.slice a0 n0 c0, .slice b0 m0 d0, .slice e0 k0 f0, .int .i64 q0] ∧ stR.lies 0 w5 [.slice a0 n0 c0, .slice b0 m0 d0, .slice e0 k0 f0, .int .i64 q0] s) := ⟨A0.out.1.below hb9 A0.out.1.lt, stR.below A0.out.2 hb9⟩
    replace B0 : Hid (Box w5 (w.heap.size + 1) 29 #[.int .i64 p.1, .int .i64 p.2.1, .slice pa pm pc] ∧ bkR.lies 0 w5 [.int .i64 p.1, .int .i64 p.2.1, .slice pa pm pc] p) := ⟨B0.out.1.below hb9 B0.out.1.lt, bkR.below B0.out.2 hb9⟩
    replace A1 : Hid (Box w5 w1.heap.size 33 #[.slice a1 n1 c1, .slice b1 m1 d1, .slice e1 k1 f1, .int .i64 q1] ∧ stN.lies 0 w5 [.slice a1 n1 c1, .slice b1 m1 d1, .slice e1 k1 f1, .int .i64 q1] s) := ⟨A1.out.1.below hb9 A1.out.1.lt, stN.below A1.out.2 hb9⟩
    replace B1 : Hid (Box w5 dd 36 #[.int .i64 p.1, .int .i64 p.2.1, .slice ya pm yc] ∧ bkN.lies 0 w5 [.int .i64 p.1, .int .i64 p.2.1, .slice ya pm yc] p) := ⟨B1.out.1.below hb9 B1.out.1.lt, bkN.below B1.out.2 hb9⟩
    replace A2 : Hid (Box w5 w2.heap.size 33 #[.slice a2 n2 c2, .slice b2 m2 d2, .slice e2 k2 f2, .int .i64 q2] ∧ stN.lies 0 w5 [.slice a2 n2 c2, .slice b2 m2 d2, .slice e2 k2 f2, .int .i64 q2] (pS s p)) := ⟨A2.out.1.below hb9 A2.out.1.lt, stN.below A2.out.2 hb9⟩
    replace A3 : Hid (Box w5 w3.heap.size 26 #[.slice a3 n3 c3, .slice b3 m3 d3, .slice e3 k3 f3, .int .i64 q3] ∧ stR.lies 0 w5 [.slice a3 n3 c3, .slice b3 m3 d3, .slice e3 k3 f3, .int .i64 q3] (pS s p)) := ⟨A3.out.1.below hb9 A3.out.1.lt, stR.below A3.out.2 hb9⟩
    replace A4 : Hid (Arg 0 w5 (.slice aA4 zA4 cA4) (gB s o i)) := A4.out.below hb9
    replace HB : Hid (Below w.heap.size w w5) := below_any HB.out hb9
    clear HC ho9 hb9 hz9
    have HC := all_any 0 [.slice a1 n1 c1, .slice b1 m1 d1, .slice e1 k1 f1, .int .i64 q1] s w5 A1.out.2
    rw [← HE.out.2.2] at HC
    obtain ⟨A1c0, A1c1, A1c2, A1c3, -⟩ := A1.out.1.four
    go_wp2_with fail
    clear A1c0 A1c1 A1c2 A1c3
    refine HC.mono ?_
    rintro e9 w6 ⟨⟨v9, L1, rfl, ho9, hA9, hN9⟩, hb9⟩
    have HL1 : Hid ((Ok s → AllOf s L1) ∧ (¬ Ok s → L1 = [])) := ⟨hA9, hN9⟩
    obtain ⟨aA6, cA6, _, hv9, -⟩ := Shape.list_own (S := bkN) (ht := Try.underlying31) (hc := cells31) ho9
    obtain rfl : v9 = _ := (List.cons.inj hv9).1
    obtain ⟨zA6, hz9⟩ : ∃ z, z = (L1).length := ⟨_, rfl⟩
    rw [← hz9] at ho9 ⊢
    have A6 : Hid (bksN.lies 0 w6 [.slice aA6 zA6 cA6] L1) := bksN.weaken (bksN.olies ho9) (Nat.zero_le _)
    have A6l : Hid (zA6 = (L1).length) := hz9
    replace A0 : Hid (Box w6 w.heap.size 26 #[.slice a0 n0 c0, .slice b0 m0 d0, .slice e0 k0 f0, .int .i64 q0] ∧ stR.lies 0 w6 [.slice a0 n0 c0, .slice b0 m0 d0, .slice e0 k0 f0, .int .i64 q0] s) := ⟨A0.out.1.below hb9 A0.out.1.lt, stR.below A0.out.2 hb9⟩
    replace B0 : Hid (Box w6 (w.heap.size + 1) 29 #[.int .i64 p.1, .int .i64 p.2.1, .slice pa pm pc] ∧ bkR.lies 0 w6 [.int .i64 p.1, .int .i64 p.2.1, .slice pa pm pc] p) := ⟨B0.out.1.below hb9 B0.out.1.lt, bkR.below B0.out.2 hb9⟩
    replace A1 : Hid (Box w6 w1.heap.size 33 #[.slice a1 n1 c1, .slice b1 m1 d1, .slice e1 k1 f1, .int .i64 q1] ∧ stN.lies 0 w6 [.slice a1 n1 c1, .slice b1 m1 d1, .slice e1 k1 f1, .int .i64 q1] s) := ⟨A1.out.1.below hb9 A1.out.1.lt, stN.below A1.out.2 hb9⟩
    replace B1 : Hid (Box w6 dd 36 #[.int .i64 p.1, .int .i64 p.2.1, .slice ya pm yc] ∧ bkN.lies 0 w6 [.int .i64 p.1, .int .i64 p.2.1, .slice ya pm yc] p) := ⟨B1.out.1.below hb9 B1.out.1.lt, bkN.below B1.out.2 hb9⟩
    replace A2 : Hid (Box w6 w2.heap.size 33 #[.slice a2 n2 c2, .slice b2 m2 d2, .slice e2 k2 f2, .int .i64 q2] ∧ stN.lies 0 w6 [.slice a2 n2 c2, .slice b2 m2 d2, .slice e2 k2 f2, .int .i64 q2] (pS s p)) := ⟨A2.out.1.below hb9 A2.out.1.lt, stN.below A2.out.2 hb9⟩
    replace A3 : Hid (Box w6 w3.heap.size 26 #[.slice a3 n3 c3, .slice b3 m3 d3, .slice e3 k3 f3, .int .i64 q3] ∧ stR.lies 0 w6 [.slice a3 n3 c3, .slice b3 m3 d3, .slice e3 k3 f3, .int .i64 q3] (pS s p)) := ⟨A3.out.1.below hb9 A3.out.1.lt, stR.below A3.out.2 hb9⟩
    replace A4 : Hid (Arg 0 w6 (.slice aA4 zA4 cA4) (gB s o i)) := A4.out.below hb9
    replace A5 : Hid (Arg 0 w6 (.slice aA5 zA5 cA5) (gB s o i)) := A5.out.below hb9
    replace HB : Hid (Below w.heap.size w w6) := below_any HB.out hb9
    clear HC ho9 hb9 hv9 hz9 hA9 hN9
    have HC := rall_any 0 [.slice a0 n0 c0, .slice b0 m0 d0, .slice e0 k0 f0, .int .i64 q0] s w6 A0.out.2
    rw [← HE.out.2.2] at HC
    obtain ⟨A0c0, A0c1, A0c2, A0c3, -⟩ := A0.out.1.four
    go_wp2_with fail
    clear A0c0 A0c1 A0c2 A0c3
    refine HC.mono ?_
    rintro e9 w7 ⟨⟨v9, L2, rfl, ho9, hA9, hN9⟩, hb9⟩
    have HL2 : Hid ((Ok s → AllOf s L2) ∧ (¬ Ok s → L2 = [])) := ⟨hA9, hN9⟩
    obtain ⟨aA7, cA7, _, hv9, -⟩ := Shape.list_own (S := bkR) (ht := Try.underlying24) (hc := cells24) ho9
    obtain rfl : v9 = _ := (List.cons.inj hv9).1
    obtain ⟨zA7, hz9⟩ : ∃ z, z = (L2).length := ⟨_, rfl⟩
    rw [← hz9] at ho9 ⊢
    have A7 : Hid (bksR.lies 0 w7 [.slice aA7 zA7 cA7] L2) := bksR.weaken (bksR.olies ho9) (Nat.zero_le _)
    have A7l : Hid (zA7 = (L2).length) := hz9
    replace A0 : Hid (Box w7 w.heap.size 26 #[.slice a0 n0 c0, .slice b0 m0 d0, .slice e0 k0 f0, .int .i64 q0] ∧ stR.lies 0 w7 [.slice a0 n0 c0, .slice b0 m0 d0, .slice e0 k0 f0, .int .i64 q0] s) := ⟨A0.out.1.below hb9 A0.out.1.lt, stR.below A0.out.2 hb9⟩
    replace B0 : Hid (Box w7 (w.heap.size + 1) 29 #[.int .i64 p.1, .int .i64 p.2.1, .slice pa pm pc] ∧ bkR.lies 0 w7 [.int .i64 p.1, .int .i64 p.2.1, .slice pa pm pc] p) := ⟨B0.out.1.below hb9 B0.out.1.lt, bkR.below B0.out.2 hb9⟩
    replace A1 : Hid (Box w7 w1.heap.size 33 #[.slice a1 n1 c1, .slice b1 m1 d1, .slice e1 k1 f1, .int .i64 q1] ∧ stN.lies 0 w7 [.slice a1 n1 c1, .slice b1 m1 d1, .slice e1 k1 f1, .int .i64 q1] s) := ⟨A1.out.1.below hb9 A1.out.1.lt, stN.below A1.out.2 hb9⟩
    replace B1 : Hid (Box w7 dd 36 #[.int .i64 p.1, .int .i64 p.2.1, .slice ya pm yc] ∧ bkN.lies 0 w7 [.int .i64 p.1, .int .i64 p.2.1, .slice ya pm yc] p) := ⟨B1.out.1.below hb9 B1.out.1.lt, bkN.below B1.out.2 hb9⟩
    replace A2 : Hid (Box w7 w2.heap.size 33 #[.slice a2 n2 c2, .slice b2 m2 d2, .slice e2 k2 f2, .int .i64 q2] ∧ stN.lies 0 w7 [.slice a2 n2 c2, .slice b2 m2 d2, .slice e2 k2 f2, .int .i64 q2] (pS s p)) := ⟨A2.out.1.below hb9 A2.out.1.lt, stN.below A2.out.2 hb9⟩
    replace A3 : Hid (Box w7 w3.heap.size 26 #[.slice a3 n3 c3, .slice b3 m3 d3, .slice e3 k3 f3, .int .i64 q3] ∧ stR.lies 0 w7 [.slice a3 n3 c3, .slice b3 m3 d3, .slice e3 k3 f3, .int .i64 q3] (pS s p)) := ⟨A3.out.1.below hb9 A3.out.1.lt, stR.below A3.out.2 hb9⟩
    replace A4 : Hid (Arg 0 w7 (.slice aA4 zA4 cA4) (gB s o i)) := A4.out.below hb9
    replace A5 : Hid (Arg 0 w7 (.slice aA5 zA5 cA5) (gB s o i)) := A5.out.below hb9
    replace A6 : Hid (bksN.lies 0 w7 [(.slice aA6 zA6 cA6)] L1) := bksN.below A6.out hb9
    replace HB : Hid (Below w.heap.size w w7) := below_any HB.out hb9
    clear HC ho9 hb9 hv9 hz9 hA9 hN9
    have HLL : Hid (L1 = L2) := show _ = _ by
      by_cases hk : Ok s
      · exact (HL1.out.1 hk).eq (HL2.out.1 hk)
      · rw [HL1.out.2 hk, HL2.out.2 hk]
    have HC := alikeL_same 0 0 [.slice a2 n2 c2, .slice b2 m2 d2, .slice e2 k2 f2, .int .i64 q2] [.slice a3 n3 c3, .slice b3 m3 d3, .slice e3 k3 f3, .int .i64 q3] (pS s p) w7 A2.out.2 A3.out.2
    obtain ⟨A2c0, A2c1, A2c2, A2c3, -⟩ := A2.out.1.four
    obtain ⟨A3c0, A3c1, A3c2, A3c3, -⟩ := A3.out.1.four
    go_wp2_with (go_at_call 18; refine (num_any _ _).mono ?_; rintro e9 wn ⟨rfl, rfl⟩)
    clear A2c0 A2c1 A2c2 A2c3 A3c0 A3c1 A3c2 A3c3
    refine HC.mono ?_
    rintro e9 w8 ⟨rfl, hb9⟩
    replace A0 : Hid (Box w8 w.heap.size 26 #[.slice a0 n0 c0, .slice b0 m0 d0, .slice e0 k0 f0, .int .i64 q0] ∧ stR.lies 0 w8 [.slice a0 n0 c0, .slice b0 m0 d0, .slice e0 k0 f0, .int .i64 q0] s) := ⟨A0.out.1.below hb9 A0.out.1.lt, stR.below A0.out.2 hb9⟩
    replace B0 : Hid (Box w8 (w.heap.size + 1) 29 #[.int .i64 p.1, .int .i64 p.2.1, .slice pa pm pc] ∧ bkR.lies 0 w8 [.int .i64 p.1, .int .i64 p.2.1, .slice pa pm pc] p) := ⟨B0.out.1.below hb9 B0.out.1.lt, bkR.below B0.out.2 hb9⟩
    replace A1 : Hid (Box w8 w1.heap.size 33 #[.slice a1 n1 c1, .slice b1 m1 d1, .slice e1 k1 f1, .int .i64 q1] ∧ stN.lies 0 w8 [.slice a1 n1 c1, .slice b1 m1 d1, .slice e1 k1 f1, .int .i64 q1] s) := ⟨A1.out.1.below hb9 A1.out.1.lt, stN.below A1.out.2 hb9⟩
    replace B1 : Hid (Box w8 dd 36 #[.int .i64 p.1, .int .i64 p.2.1, .slice ya pm yc] ∧ bkN.lies 0 w8 [.int .i64 p.1, .int .i64 p.2.1, .slice ya pm yc] p) := ⟨B1.out.1.below hb9 B1.out.1.lt, bkN.below B1.out.2 hb9⟩
    replace A2 : Hid (Box w8 w2.heap.size 33 #[.slice a2 n2 c2, .slice b2 m2 d2, .slice e2 k2 f2, .int .i64 q2] ∧ stN.lies 0 w8 [.slice a2 n2 c2, .slice b2 m2 d2, .slice e2 k2 f2, .int .i64 q2] (pS s p)) := ⟨A2.out.1.below hb9 A2.out.1.lt, stN.below A2.out.2 hb9⟩
    replace A3 : Hid (Box w8 w3.heap.size 26 #[.slice a3 n3 c3, .slice b3 m3 d3, .slice e3 k3 f3, .int .i64 q3] ∧ stR.lies 0 w8 [.slice a3 n3 c3, .slice b3 m3 d3, .slice e3 k3 f3, .int .i64 q3] (pS s p)) := ⟨A3.out.1.below hb9 A3.out.1.lt, stR.below A3.out.2 hb9⟩
    replace A4 : Hid (Arg 0 w8 (.slice aA4 zA4 cA4) (gB s o i)) := A4.out.below hb9
    replace A5 : Hid (Arg 0 w8 (.slice aA5 zA5 cA5) (gB s o i)) := A5.out.below hb9
    replace A6 : Hid (bksN.lies 0 w8 [(.slice aA6 zA6 cA6)] L1) := bksN.below A6.out hb9
    replace A7 : Hid (bksR.lies 0 w8 [(.slice aA7 zA7 cA7)] L2) := bksR.below A7.out hb9
    replace HB : Hid (Below w.heap.size w w8) := below_any HB.out hb9
    clear HC hb9
    have HC := same_any 0 0 _ _ (gB s o i) (gB s o i) w8 A4.out A5.out
    rw [decide_eq_true rfl] at HC
    go_wp2_with (go_at_call 18; refine (num_any _ _).mono ?_; rintro e9 wn ⟨rfl, rfl⟩)
    refine HC.mono ?_
    rintro e9 w9 ⟨rfl, q9, hq9⟩
    have hb9 : Below w8.heap.size w8 w9 := by rw [hq9]; exact below_drewN (Below.refl _ _) q9
    replace A0 : Hid (Box w9 w.heap.size 26 #[.slice a0 n0 c0, .slice b0 m0 d0, .slice e0 k0 f0, .int .i64 q0] ∧ stR.lies 0 w9 [.slice a0 n0 c0, .slice b0 m0 d0, .slice e0 k0 f0, .int .i64 q0] s) := ⟨A0.out.1.below hb9 A0.out.1.lt, stR.below A0.out.2 hb9⟩
    replace B0 : Hid (Box w9 (w.heap.size + 1) 29 #[.int .i64 p.1, .int .i64 p.2.1, .slice pa pm pc] ∧ bkR.lies 0 w9 [.int .i64 p.1, .int .i64 p.2.1, .slice pa pm pc] p) := ⟨B0.out.1.below hb9 B0.out.1.lt, bkR.below B0.out.2 hb9⟩
    replace A1 : Hid (Box w9 w1.heap.size 33 #[.slice a1 n1 c1, .slice b1 m1 d1, .slice e1 k1 f1, .int .i64 q1] ∧ stN.lies 0 w9 [.slice a1 n1 c1, .slice b1 m1 d1, .slice e1 k1 f1, .int .i64 q1] s) := ⟨A1.out.1.below hb9 A1.out.1.lt, stN.below A1.out.2 hb9⟩
    replace B1 : Hid (Box w9 dd 36 #[.int .i64 p.1, .int .i64 p.2.1, .slice ya pm yc] ∧ bkN.lies 0 w9 [.int .i64 p.1, .int .i64 p.2.1, .slice ya pm yc] p) := ⟨B1.out.1.below hb9 B1.out.1.lt, bkN.below B1.out.2 hb9⟩
    replace A2 : Hid (Box w9 w2.heap.size 33 #[.slice a2 n2 c2, .slice b2 m2 d2, .slice e2 k2 f2, .int .i64 q2] ∧ stN.lies 0 w9 [.slice a2 n2 c2, .slice b2 m2 d2, .slice e2 k2 f2, .int .i64 q2] (pS s p)) := ⟨A2.out.1.below hb9 A2.out.1.lt, stN.below A2.out.2 hb9⟩
    replace A3 : Hid (Box w9 w3.heap.size 26 #[.slice a3 n3 c3, .slice b3 m3 d3, .slice e3 k3 f3, .int .i64 q3] ∧ stR.lies 0 w9 [.slice a3 n3 c3, .slice b3 m3 d3, .slice e3 k3 f3, .int .i64 q3] (pS s p)) := ⟨A3.out.1.below hb9 A3.out.1.lt, stR.below A3.out.2 hb9⟩
    replace A4 : Hid (Arg 0 w9 (.slice aA4 zA4 cA4) (gB s o i)) := A4.out.below hb9
    replace A5 : Hid (Arg 0 w9 (.slice aA5 zA5 cA5) (gB s o i)) := A5.out.below hb9
    replace A6 : Hid (bksN.lies 0 w9 [(.slice aA6 zA6 cA6)] L1) := bksN.below A6.out hb9
    replace A7 : Hid (bksR.lies 0 w9 [(.slice aA7 zA7 cA7)] L2) := bksR.below A7.out hb9
    replace HB : Hid (Below w.heap.size w w9) := below_any HB.out hb9
    clear HC hb9 hq9
    have HC := alikeBlocks_any 0 0 _ _ L1 L2 w9 A6.out A7.out
    rw [if_pos HLL.out] at HC
    go_wp2_with (go_at_call 18; refine (num_any _ _).mono ?_; rintro e9 wn ⟨rfl, rfl⟩)
    refine HC.mono ?_
    rintro e9 w10 ⟨rfl, hb9⟩
    replace A0 : Hid (Box w10 w.heap.size 26 #[.slice a0 n0 c0, .slice b0 m0 d0, .slice e0 k0 f0, .int .i64 q0] ∧ stR.lies 0 w10 [.slice a0 n0 c0, .slice b0 m0 d0, .slice e0 k0 f0, .int .i64 q0] s) := ⟨A0.out.1.below hb9 A0.out.1.lt, stR.below A0.out.2 hb9⟩
    replace B0 : Hid (Box w10 (w.heap.size + 1) 29 #[.int .i64 p.1, .int .i64 p.2.1, .slice pa pm pc] ∧ bkR.lies 0 w10 [.int .i64 p.1, .int .i64 p.2.1, .slice pa pm pc] p) := ⟨B0.out.1.below hb9 B0.out.1.lt, bkR.below B0.out.2 hb9⟩
    replace A1 : Hid (Box w10 w1.heap.size 33 #[.slice a1 n1 c1, .slice b1 m1 d1, .slice e1 k1 f1, .int .i64 q1] ∧ stN.lies 0 w10 [.slice a1 n1 c1, .slice b1 m1 d1, .slice e1 k1 f1, .int .i64 q1] s) := ⟨A1.out.1.below hb9 A1.out.1.lt, stN.below A1.out.2 hb9⟩
    replace B1 : Hid (Box w10 dd 36 #[.int .i64 p.1, .int .i64 p.2.1, .slice ya pm yc] ∧ bkN.lies 0 w10 [.int .i64 p.1, .int .i64 p.2.1, .slice ya pm yc] p) := ⟨B1.out.1.below hb9 B1.out.1.lt, bkN.below B1.out.2 hb9⟩
    replace A2 : Hid (Box w10 w2.heap.size 33 #[.slice a2 n2 c2, .slice b2 m2 d2, .slice e2 k2 f2, .int .i64 q2] ∧ stN.lies 0 w10 [.slice a2 n2 c2, .slice b2 m2 d2, .slice e2 k2 f2, .int .i64 q2] (pS s p)) := ⟨A2.out.1.below hb9 A2.out.1.lt, stN.below A2.out.2 hb9⟩
    replace A3 : Hid (Box w10 w3.heap.size 26 #[.slice a3 n3 c3, .slice b3 m3 d3, .slice e3 k3 f3, .int .i64 q3] ∧ stR.lies 0 w10 [.slice a3 n3 c3, .slice b3 m3 d3, .slice e3 k3 f3, .int .i64 q3] (pS s p)) := ⟨A3.out.1.below hb9 A3.out.1.lt, stR.below A3.out.2 hb9⟩
    replace A4 : Hid (Arg 0 w10 (.slice aA4 zA4 cA4) (gB s o i)) := A4.out.below hb9
    replace A5 : Hid (Arg 0 w10 (.slice aA5 zA5 cA5) (gB s o i)) := A5.out.below hb9
    replace A6 : Hid (bksN.lies 0 w10 [(.slice aA6 zA6 cA6)] L1) := bksN.below A6.out hb9
    replace A7 : Hid (bksR.lies 0 w10 [(.slice aA7 zA7 cA7)] L2) := bksR.below A7.out hb9
    replace HB : Hid (Below w.heap.size w w10) := below_any HB.out hb9
    clear HC hb9
    go_upto_region 11 with (go_at_call 18; refine (num_any _ _).mono ?_; rintro e9 wn ⟨rfl, rfl⟩)
    have HS : Hid (∀ V, Below w10.heap.size w10 V → V.cell? ⟨w1.heap.size, 0, none⟩ = some (.slice a1 n1 c1) ∧ V.cell? ⟨w1.heap.size, 1, none⟩ = some (.slice b1 m1 d1) ∧ V.cell? ⟨w1.heap.size, 2, none⟩ = some (.slice e1 k1 f1) ∧ V.cell? ⟨w1.heap.size, 3, none⟩ = some (.int .i64 q1) ∧ V.cell? ⟨w.heap.size, 0, none⟩ = some (.slice a0 n0 c0) ∧ V.cell? ⟨w.heap.size, 1, none⟩ = some (.slice b0 m0 d0) ∧ V.cell? ⟨w.heap.size, 2, none⟩ = some (.slice e0 k0 f0) ∧ V.cell? ⟨w.heap.size, 3, none⟩ = some (.int .i64 q0) ∧ V.cell? ⟨dd, 2, none⟩ = some (.slice ya pm yc) ∧ V.cell? ⟨(w.heap.size + 1), 2, none⟩ = some (.slice pa pm pc)) := fun V hV => ⟨(A1.out.1.below hV A1.out.1.lt).four.1, (A1.out.1.below hV A1.out.1.lt).four.2.1, (A1.out.1.below hV A1.out.1.lt).four.2.2.1, (A1.out.1.below hV A1.out.1.lt).four.2.2.2.1, (A0.out.1.below hV A0.out.1.lt).four.1, (A0.out.1.below hV A0.out.1.lt).four.2.1, (A0.out.1.below hV A0.out.1.lt).four.2.2.1, (A0.out.1.below hV A0.out.1.lt).four.2.2.2.1, (B1.out.1.below hV B1.out.1.lt).three.2.2.1, (B0.out.1.below hV B0.out.1.lt).three.2.2.1⟩
    have HC1 : Hid (∀ V, Below w10.heap.size w10 V → Calls Try.prog 21 #[.agg #[.slice a1 n1 c1, .slice b1 m1 d1, .slice e1 k1 f1, .int .i64 q1]] V fun e w' => e = .returned (.int .i64 ok) ∧ Below V.heap.size V w') := fun V hV => by rw [HE.out.2.2]; exact checkL_any 0 [.slice a1 n1 c1, .slice b1 m1 d1, .slice e1 k1 f1, .int .i64 q1] s V (stN.below A1.out.2 hV)
    have HC2 : Hid (∀ V, Below w10.heap.size w10 V → Calls Try.prog 18 #[.int .i64 ok] V fun e w' => e = .returned (.int .i64 ok) ∧ Below V.heap.size V w') := fun V hV => (num_any _ _).mono (by rintro e9 w9 ⟨rfl, rfl⟩; exact ⟨rfl, Below.refl _ _⟩)
    have HC3 : Hid (∀ V, Below w10.heap.size w10 V → Calls Try.prog 22 #[.agg #[.slice a0 n0 c0, .slice b0 m0 d0, .slice e0 k0 f0, .int .i64 q0]] V fun e w' => e = .returned (.int .i64 ok) ∧ Below V.heap.size V w') := fun V hV => by rw [HE.out.2.2]; exact rcheckL_any 0 [.slice a0 n0 c0, .slice b0 m0 d0, .slice e0 k0 f0, .int .i64 q0] s V (stR.below A0.out.2 hV)
    have HC4 : Hid (∀ V, Below w10.heap.size w10 V → Calls Try.prog 17 #[.agg #[.slice a1 n1 c1, .slice b1 m1 d1, .slice e1 k1 f1, .int .i64 q1], .agg #[.slice a0 n0 c0, .slice b0 m0 d0, .slice e0 k0 f0, .int .i64 q0]] V fun e w' => e = .returned (.int .i64 0) ∧ Below V.heap.size V w') := fun V hV => alikeL_same 0 0 [.slice a1 n1 c1, .slice b1 m1 d1, .slice e1 k1 f1, .int .i64 q1] [.slice a0 n0 c0, .slice b0 m0 d0, .slice e0 k0 f0, .int .i64 q0] s V (stN.below A1.out.2 hV) (stR.below A0.out.2 hV)
    have HC5 : Hid (∀ V, Below w10.heap.size w10 V → Calls Try.prog 19 #[.slice ya pm yc, .slice pa pm pc] V fun e w' => e = .returned (.bool true) ∧ Below V.heap.size V w') := fun V hV => (same_any 0 0 _ _ p.2.2 p.2.2 V (by obtain ⟨_, _, e8, hPA, _⟩ := bk_view B1.out.2; simp only [List.cons.injEq, and_true, true_and] at e8; rw [e8]; exact hPA.below hV) (by obtain ⟨_, _, e8, hPA, _⟩ := bk_view B0.out.2; simp only [List.cons.injEq, and_true, true_and] at e8; rw [e8]; exact hPA.below hV)).mono (by rintro e9 w9 ⟨rfl, q9, rfl⟩; exact ⟨by rw [decide_eq_true rfl], below_drewN (Below.refl _ _) q9⟩)
    have HC6 : Hid (∀ V, Below w10.heap.size w10 V → Calls Try.prog 23 #[] V fun e w' => e = .returned (.bool true) ∧ Below V.heap.size V w') := fun V hV => alive_any V
    refine AnyBut.begin (fun V => V.cell? ⟨w1.heap.size, 0, none⟩ = some (.slice a1 n1 c1) ∧ V.cell? ⟨w1.heap.size, 1, none⟩ = some (.slice b1 m1 d1) ∧ V.cell? ⟨w1.heap.size, 2, none⟩ = some (.slice e1 k1 f1) ∧ V.cell? ⟨w1.heap.size, 3, none⟩ = some (.int .i64 q1) ∧ V.cell? ⟨w.heap.size, 0, none⟩ = some (.slice a0 n0 c0) ∧ V.cell? ⟨w.heap.size, 1, none⟩ = some (.slice b0 m0 d0) ∧ V.cell? ⟨w.heap.size, 2, none⟩ = some (.slice e0 k0 f0) ∧ V.cell? ⟨w.heap.size, 3, none⟩ = some (.int .i64 q0) ∧ V.cell? ⟨dd, 2, none⟩ = some (.slice ya pm yc) ∧ V.cell? ⟨(w.heap.size + 1), 2, none⟩ = some (.slice pa pm pc)) 1000 (by kernel_rfl) ?_
    have hSS := HS.out w10.drew (Below.refl _ w10).drew
    have hbV : Below w10.heap.size w10 w10.drew := (Below.refl _ w10).drew
    refine tx 0 112 hSS ?_
    simp only [ua, ub, uc, ud]
    refine tx 3 115 hSS ?_
    simp only [ua, ub, uc, ud]
    refine AnyBut.step (i := 1) (by kernel_rfl) rfl (fun K hK => ?_)
    go_simp
    refine Calls.mono (HC1.out _ hbV) ?_
    rintro e9 w11 ⟨rfl, hb9⟩
    dsimp only
    replace hbV : Below w10.heap.size w10 w11 := below_any hbV hb9
    refine hK.out _ _ (HS.out w11 hbV) ?_
    clear hK hSS hb9
    have hSS := HS.out w11 hbV
    refine AnyBut.step (i := 2) (by kernel_rfl) rfl (fun K hK => ?_)
    go_simp
    refine Calls.mono (HC2.out _ hbV) ?_
    rintro e9 w12 ⟨rfl, hb9⟩
    dsimp only
    replace hbV : Below w10.heap.size w10 w12 := below_any hbV hb9
    refine hK.out _ _ (HS.out w12 hbV) ?_
    clear hK hSS hb9
    have hSS := HS.out w12 hbV
    refine AnyBut.step (i := 4) (by kernel_rfl) rfl (fun K hK => ?_)
    go_simp
    refine Calls.mono (HC3.out _ hbV) ?_
    rintro e9 w13 ⟨rfl, hb9⟩
    dsimp only
    replace hbV : Below w10.heap.size w10 w13 := below_any hbV hb9
    refine hK.out _ _ (HS.out w13 hbV) ?_
    clear hK hSS hb9
    have hSS := HS.out w13 hbV
    refine tx 5 117 hSS ?_
    simp only [ua, ub, uc, ud]
    refine tx 6 118 hSS ?_
    simp only [ua, ub, uc, ud]
    refine tx 7 119 hSS ?_
    simp only [ua, ub, uc, ud]
    refine tx 8 120 hSS ?_
    simp only [ua, ub, uc, ud]
    refine AnyBut.step (i := 9) (by kernel_rfl) rfl (fun K hK => ?_)
    go_simp
    refine Calls.mono (HC4.out _ hbV) ?_
    rintro e9 w14 ⟨rfl, hb9⟩
    dsimp only
    replace hbV : Below w10.heap.size w10 w14 := below_any hbV hb9
    refine hK.out _ _ (HS.out w14 hbV) ?_
    clear hK hSS hb9
    have hSS := HS.out w14 hbV
    refine tx 10 122 hSS ?_
    simp only [ua, ub, uc, ud]
    refine tx 11 123 hSS ?_
    simp only [ua, ub, uc, ud]
    refine tx 12 124 hSS ?_
    simp only [ua, ub, uc, ud]
    refine tx 13 125 hSS ?_
    simp only [ua, ub, uc, ud]
    refine tx 14 126 hSS ?_
    simp only [ua, ub, uc, ud]
    refine tx 15 127 hSS ?_
    simp only [ua, ub, uc, ud]
    refine tx 16 128 hSS ?_
    simp only [ua, ub, uc, ud]
    refine AnyBut.step (i := 17) (by kernel_rfl) rfl (fun K hK => ?_)
    go_simp
    refine Calls.mono (HC5.out _ hbV) ?_
    rintro e9 w15 ⟨rfl, hb9⟩
    dsimp only
    replace hbV : Below w10.heap.size w10 w15 := below_any hbV hb9
    refine hK.out _ _ (HS.out w15 hbV) ?_
    clear hK hSS hb9
    have hSS := HS.out w15 hbV
    refine tx 18 130 hSS ?_
    simp only [ua, ub, uc, ud]
    refine tx 19 131 hSS ?_
    simp only [ua, ub, uc, ud]
    refine AnyBut.step (i := 20) (by kernel_rfl) rfl (fun K hK => ?_)
    go_simp
    refine Calls.mono (HC6.out _ hbV) ?_
    rintro e9 w16 ⟨rfl, hb9⟩
    dsimp only
    replace hbV : Below w10.heap.size w10 w16 := below_any hbV hb9
    refine hK.out _ _ (HS.out w16 hbV) ?_
    clear hK hSS hb9
    have hSS := HS.out w16 hbV
    refine tx 21 133 hSS ?_
    simp only [ua, ub, uc, ud]
    refine tx 22 8 hSS ?_
    simp only [ua, ub, uc, ud]
    refine AnyBut.done (by kernel_rfl) ?_
    clear hSS HS HC1 HC2 HC3 HC4 HC5 HC6
    replace A0 : Hid (Box w16 w.heap.size 26 #[.slice a0 n0 c0, .slice b0 m0 d0, .slice e0 k0 f0, .int .i64 q0] ∧ stR.lies 0 w16 [.slice a0 n0 c0, .slice b0 m0 d0, .slice e0 k0 f0, .int .i64 q0] s) := ⟨A0.out.1.below hbV A0.out.1.lt, stR.below A0.out.2 hbV⟩
    replace B0 : Hid (Box w16 (w.heap.size + 1) 29 #[.int .i64 p.1, .int .i64 p.2.1, .slice pa pm pc] ∧ bkR.lies 0 w16 [.int .i64 p.1, .int .i64 p.2.1, .slice pa pm pc] p) := ⟨B0.out.1.below hbV B0.out.1.lt, bkR.below B0.out.2 hbV⟩
    replace A1 : Hid (Box w16 w1.heap.size 33 #[.slice a1 n1 c1, .slice b1 m1 d1, .slice e1 k1 f1, .int .i64 q1] ∧ stN.lies 0 w16 [.slice a1 n1 c1, .slice b1 m1 d1, .slice e1 k1 f1, .int .i64 q1] s) := ⟨A1.out.1.below hbV A1.out.1.lt, stN.below A1.out.2 hbV⟩
    replace B1 : Hid (Box w16 dd 36 #[.int .i64 p.1, .int .i64 p.2.1, .slice ya pm yc] ∧ bkN.lies 0 w16 [.int .i64 p.1, .int .i64 p.2.1, .slice ya pm yc] p) := ⟨B1.out.1.below hbV B1.out.1.lt, bkN.below B1.out.2 hbV⟩
    replace A2 : Hid (Box w16 w2.heap.size 33 #[.slice a2 n2 c2, .slice b2 m2 d2, .slice e2 k2 f2, .int .i64 q2] ∧ stN.lies 0 w16 [.slice a2 n2 c2, .slice b2 m2 d2, .slice e2 k2 f2, .int .i64 q2] (pS s p)) := ⟨A2.out.1.below hbV A2.out.1.lt, stN.below A2.out.2 hbV⟩
    replace A3 : Hid (Box w16 w3.heap.size 26 #[.slice a3 n3 c3, .slice b3 m3 d3, .slice e3 k3 f3, .int .i64 q3] ∧ stR.lies 0 w16 [.slice a3 n3 c3, .slice b3 m3 d3, .slice e3 k3 f3, .int .i64 q3] (pS s p)) := ⟨A3.out.1.below hbV A3.out.1.lt, stR.below A3.out.2 hbV⟩
    replace A4 : Hid (Arg 0 w16 (.slice aA4 zA4 cA4) (gB s o i)) := A4.out.below hbV
    replace A5 : Hid (Arg 0 w16 (.slice aA5 zA5 cA5) (gB s o i)) := A5.out.below hbV
    replace A6 : Hid (bksN.lies 0 w16 [(.slice aA6 zA6 cA6)] L1) := bksN.below A6.out hbV
    replace A7 : Hid (bksR.lies 0 w16 [(.slice aA7 zA7 cA7)] L2) := bksR.below A7.out hbV
    replace HB : Hid (Below w.heap.size w w16) := below_any HB.out hbV
    clear hbV
    have HQ : Hid (post (.returned (.bool true)) w16) := HPo.out _ HB.out
    go_wp2
    exact HQ.out

set_option maxRecDepth 100000 in
theorem lifted (os : Os) (started : os.Started) (H : Type) (enc : TypeId × Value → H) :
    ReturnsInHanded {} Try.checked os 3 .any (Rows.logTellsSpec.pre6 enc Try.prog Try.f3 Rows.logTellsRow.domain false) (Rows.logTellsSpec.post enc Try.prog Try.f3 false true false false) := by
  refine returnsInHanded_of_change_sized (C := Try.checked) own started (by kernel_rfl) Try.func3
    (ChangeSpec.witness6 (enc := enc) (C := Try.checked) false ⟨#[], #[.agg #[.slice none 0 0, .slice none 0 0, .slice none 0 0, .int .i64 0], .agg #[.int .i64 0, .int .i64 0, .slice none 0 0], .int .i64 0, .int .i64 0], []⟩ 8 (by kernel_rfl) (by kernel_rfl) (by kernel_rfl) (by kernel_rfl)) ?_
  intro W base args ds gs before hval0 hW hcnd hsz0 _
  have hval : ∀ (j : Nat) t v, Try.f3.params[j]? = some t → args[j]? = some v → Value.okWide Try.prog W .any base t v := hval0
  have hW' := hW
  obtain ⟨p, q, hA0, hV, rfl, hfz, hnd⟩ := hW
  have hA : DataW.TrodAll enc Try.prog W 0 (fun _ => true) true Try.f3.params.toList args.toList ds p := hA0
  have hsz : (DataW.weightsEach Try.prog (Try.f3.params.toList ++ Rows.logTellsSpec.plain.varTypes Try.prog) (ds ++ gs)).all (· ≤ reachBytes) = true := hsz0
  clear hsz0
  rw [Try.params3] at hA hval hsz
  obtain ⟨v0, vs0, d0, ds0, p0, q0, hargs, rfl, rfl, h0, r0⟩ := trodAll_cons hA
  obtain ⟨v1, vs1, d1, ds1, p1, q1, rfl, rfl, rfl, h1, r1⟩ := trodAll_cons r0
  obtain ⟨v2, vs2, d2, ds2, p2, q2, rfl, rfl, rfl, h2, r2⟩ := trodAll_cons r1
  obtain ⟨v3, vs3, d3, ds3, p3, q3, rfl, rfl, rfl, h3, r3⟩ := trodAll_cons r2
  obtain ⟨rfl, rfl, rfl⟩ := trodAll_nil r3
  obtain rfl : args = #[v0, v1, v2, v3] := by cases args; simp_all
  obtain ⟨rfl, rfl⟩ := trodVars_none hV
  obtain ⟨cs0, rfl, hc0⟩ := okWide_struct Try.underlying26 (hval 0 26 v0 rfl rfl)
  obtain ⟨us0, rfl⟩ := as_list cs0
  have k0 := h0
  have lt0 : ∀ x ∈ p0, x.block < W.heap.size := by obtain ⟨m, hm⟩ := k0; exact DataW.trod_lt m _ _ _ hm
  obtain ⟨m0, hm0⟩ := h0
  obtain ⟨s0, A0, F0'⟩ := stR.reads hm0
  have F0 := F0' fun n hn => by have := List.all_eq_true.1 hsz _ (DataW.weights_mem_each (j := 0) rfl rfl n hn); simpa using this
  obtain ⟨cs1, rfl, hc1⟩ := okWide_struct Try.underlying29 (hval 1 29 v1 rfl rfl)
  obtain ⟨us1, rfl⟩ := as_list cs1
  have k1 := h1
  have lt1 : ∀ x ∈ p1, x.block < W.heap.size := by obtain ⟨m, hm⟩ := k1; exact DataW.trod_lt m _ _ _ hm
  obtain ⟨m1, hm1⟩ := h1
  obtain ⟨s1, A1, F1'⟩ := bkR.reads hm1
  have F1 := F1' fun n hn => by have := List.all_eq_true.1 hsz _ (DataW.weights_mem_each (j := 1) rfl rfl n hn); simpa using this
  obtain ⟨a2, rfl, rfl, rfl, w2⟩ := open_int Try.underlying3 (hval 2 3 v2 rfl rfl) h2
  have b2 := bounds_i64 w2
  obtain ⟨a3, rfl, rfl, rfl, w3⟩ := open_int Try.underlying3 (hval 3 3 v3 rfl rfl) h3
  have b3 := bounds_i64 w3
  clear hA0 hval0
  refine (walk 0 0 us0 s0 us1 s1 a2 a3 W A0 (fits_st F0) A1 (fits_bk F1) (bounds_i64 w2) (bounds_i64 w3)).mono fun e W' ⟨he, bel⟩ => ?_
  subst he
  exact ⟨_, rfl, _, _, _, [], _, [], hW', trodAll_mk1 (shut_bool Try.underlying4 _), (trodAll_cons_mk (Below.trod laidOut (by kernel_rfl) (of_decide_eq_true (by kernel_rfl)) k0 bel lt0) (trodAll_cons_mk (Below.trod laidOut (by kernel_rfl) (of_decide_eq_true (by kernel_rfl)) k1 bel lt1) (trodAll_cons_mk (shut_int Try.underlying3 w2) (trodAll_cons_mk (shut_int Try.underlying3 w3) trodAll_mk0)))), rfl, bel.frame _, fun h => by cases h⟩

theorem over : Rows.logTellsRow.holds Try.pinned (OpenSpec.ofChange Rows.logTellsSpec) :=
  OpenClaim.holds_of_wide 3 Try.f3 rfl rfl rfl rfl rfl rfl rfl ⟨rfl, rfl, rfl, rfl, rfl⟩ rfl rfl rfl rfl rfl (by kernel_rfl) Try.func3 (by kernel_rfl)
    (of_decide_eq_true (by kernel_rfl)) (by unfold Func.isWrapper; first | (rw [if_pos (by decide +kernel)]; kernel_rfl) | (rw [if_neg (by decide +kernel)]; exact ⟨rfl, rfl⟩))
    (fun os started H enc _ => lifted os started H enc)

end Go.Proofs.Ytkpckadicjdieaa.logTells

namespace Go.Proofs.Ytkpckadicjdieaa
theorem logTells_holds : Rows.LogTellsSaid := logTells.over
#print axioms logTells_holds
end Go.Proofs.Ytkpckadicjdieaa
