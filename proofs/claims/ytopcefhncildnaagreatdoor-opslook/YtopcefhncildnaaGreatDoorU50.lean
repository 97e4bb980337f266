/-
  OpsLook: the walk of the law.
-/
import Derived.Test.YtopcefhncildnaaGreatDoorU48
import Derived.Test.YtopcefhncildnaaGreatDoorU49
set_option maxRecDepth 100000
set_option maxHeartbeats 32000000
namespace Go.Proofs.YtopcefhncildnaaGreatDoor.opsLook
open Go.RowKit K
open P (serr sval ArgT OwnT)
set_option linter.unusedVariables false
theorem told {l : List Nd} {nx k : Int} {p t : ByteArray} {off m : Int} {d : List Int} {s' : St} {r : Rp} {e : Int} (h : ApT l nx k p t off m d s' r e) : (e ≠ 0 ∧ s'.1 = [] ∧ r.1 = 0) ∨ (e = 0 ∧ k < 9 ∧ r.1 = 0) ∨ (e = 0 ∧ (k < 9 → r.1 ≠ 0) ∧ s' = (l, nx)) := by
 rcases h with ⟨_, rfl, rfl, rfl⟩ | ⟨_, h, rfl, rfl, rfl⟩ | ⟨_, _, rfl, hk, e2, s2, _, ⟨h, rfl, rfl⟩ | ⟨rfl, rfl, rfl⟩⟩ | ⟨_, _, rfl, hk, rfl, _⟩
 · exact .inl ⟨by decide, rfl, rfl⟩
 · exact .inl ⟨h, rfl, rfl⟩
 · exact .inr (.inr ⟨rfl, fun _ => h, rfl⟩)
 · exact .inr (.inl ⟨rfl, hk, rfl⟩)
 · exact .inr (.inr ⟨rfl, fun h => absurd h (by omega), rfl⟩)
theorem walk (us : List Value) (s : St) (uo : List Value) (q : Opd) (w : World) (hA : stR.lies 0 w us s) (hF : FitsS s.1) (hO : opS.lies 0 w uo q) (hg : Glob w) :
   Calls Tryz.prog 4 #[.agg us.toArray, .agg uo.toArray] w fun e w' => e = .returned (.bool true) ∧ Below w.heap.size w w' := by
 obtain ⟨a, c, rfl, hs, hI, hm⟩ := st_viewR hA
 obtain ⟨da, dc, rfl, hD, hki, hp, ht, ho, hmI⟩ := op_view hO
 obtain ⟨l, nx⟩ := s
 obtain ⟨k, p, t, off, m, d⟩ := q
 simp only at hs hI hm hF hD hki hp ht ho hmI ⊢
 obtain ⟨n, hn⟩ := exa (l.length)
 obtain ⟨dl, hdl⟩ := exa (d.length)
 rw [← hdl] at hD ⊢
 rw [← hn] at hs hm ⊢
 unfold maxLen at hm
 have H0 : Hid (ndsR.lies 0 w [.slice a n c] l ∧ n = l.length ∧ FitsS l ∧ p.size ≤ maxLen ∧ t.size ≤ maxLen ∧ I64 off ∧ I64 m ∧ dl = d.length ∧ Arg 0 w (.slice da dl dc) d ∧ ∀ V, Below w.heap.size w V → Glob V) := ⟨hs, hn, hF, hp, ht, ho, hmI, hdl, hD, fun V hV => hg.below hV hg.lt⟩
 obtain ⟨V0, hV0⟩ := exa ((w.alloc (.cells #[.slice a n c, .int .i64 nx] 24)).alloc (.cells #[.int .i64 k, .string p, .string t, .int .i64 off, .int .i64 m, .slice da dl dc] 56))
 have hb0 : Below w.heap.size w V0 := by rw [hV0]; exact ((Below.refl _ w).alloc (Nat.le_refl _) _).alloc (by simp) _
 have hB1 : Box V0 w.heap.size 24 #[.slice a n c, .int .i64 nx] := by rw [hV0]; exact (Box.new _ _ _).alloc _
 have hB2 : Box V0 (w.heap.size + 1) 56 #[.int .i64 k, .string p, .string t, .int .i64 off, .int .i64 m, .slice da dl dc] := by (
 rw [hV0]
 have := Box.new (w.alloc (.cells #[.slice a n c, .int .i64 nx] 24)) 56 #[.int .i64 k, .string p, .string t, .int .i64 off, .int .i64 m, .slice da dl dc]
 rwa [World.size_alloc] at this)
 have HB0 : Hid (Below w.heap.size w V0 ∧ Box V0 w.heap.size 24 #[.slice a n c, .int .i64 nx] ∧ Box V0 (w.heap.size + 1) 56 #[.int .i64 k, .string p, .string t, .int .i64 off, .int .i64 m, .slice da dl dc]) := ⟨hb0, hB1, hB2⟩
 have HCa := K.alive_any V0 (H0.out.2.2.2.2.2.2.2.2.2 _ hb0)
 clear hA hs hn hF hp ht ho hmI hI hg hdl hD hki hO hm hb0 hB1 hB2
 go_enter Tryz.func4, Tryz.ntmps4
 go_wp2_with fail
 rw [← hV0]
 clear hV0
 refine HCa.mono ?_
 rintro e wa ⟨rfl, hba⟩
 have HX : Hid (Below w.heap.size w wa ∧ Box wa w.heap.size 24 #[.slice a n c, .int .i64 nx] ∧ Box wa (w.heap.size + 1) 56 #[.int .i64 k, .string p, .string t, .int .i64 off, .int .i64 m, .slice da dl dc]) := ⟨below_any HB0.out.1 hba, HB0.out.2.1.below hba HB0.out.2.1.lt, HB0.out.2.2.below hba HB0.out.2.2.lt⟩
 clear hba HCa HB0
 have HS : ∀ V, Below wa.heap.size wa V → (V.cell? ⟨w.heap.size, 0, none⟩ = some (.slice a n c) ∧ V.cell? ⟨w.heap.size, 1, none⟩ = some (.int .i64 nx) ∧ V.cell? ⟨w.heap.size + 1, 0, none⟩ = some (.int .i64 k) ∧ V.cell? ⟨w.heap.size + 1, 1, none⟩ = some (.string p) ∧ V.cell? ⟨w.heap.size + 1, 2, none⟩ = some (.string t) ∧ V.cell? ⟨w.heap.size + 1, 3, none⟩ = some (.int .i64 off) ∧ V.cell? ⟨w.heap.size + 1, 4, none⟩ = some (.int .i64 m) ∧ V.cell? ⟨w.heap.size + 1, 5, none⟩ = some (.slice da dl dc)) := fun V hV => by (
 obtain ⟨h0, h1, -, -⟩ := (HX.out.2.1.below hV HX.out.2.1.lt).two
 have h2 := HX.out.2.2.below hV HX.out.2.2.lt
 exact ⟨h0, h1, h2.cell 0 rfl, h2.cell 1 rfl, h2.cell 2 rfl, h2.cell 3 rfl, h2.cell 4 rfl, h2.cell 5 rfl⟩)
 have HCO : ∀ V, Below wa.heap.size wa V → Calls Tryz.prog 10 #[.agg #[.slice a n c, .int .i64 nx]] V fun e w' => (∃ a' c', e = .returned (.agg #[.slice a' n c', .int .i64 nx]) ∧ ndsN.owns V.heap.size w' [.slice a' n c'] l) ∧ Below V.heap.size V w' := fun V hV => of_f (nx := nx) H0.out.2.1 (ndsR.below H0.out.1 (below_any HX.out.1 hV)) H0.out.2.2.1
 have HCP : ∀ V a1 c1, Below wa.heap.size wa V → ndsN.lies wa.heap.size V [.slice a1 n c1] l → Calls Tryz.prog 20 #[.agg #[.slice a1 n c1, .int .i64 nx], .agg #[.int .i64 k, .string p, .string t, .int .i64 off, .int .i64 m, .slice da dl dc]] V (ApP l nx k p t off m d V) := fun V a1 c1 hV hl => apply_any (nx := nx) (k := k) H0.out.2.1 H0.out.2.2.2.1 H0.out.2.2.2.2.1 H0.out.2.2.2.2.2.1 H0.out.2.2.2.2.2.2.1 H0.out.2.2.2.2.2.2.2.1 (H0.out.2.2.2.2.2.2.2.2.1.below (below_any HX.out.1 hV)) hl (H0.out.2.2.2.2.2.2.2.2.2 _ (below_any HX.out.1 hV))
 have HSH : Hid (∀ V, Below wa.heap.size wa V → (V.cell? ⟨w.heap.size, 0, none⟩ = some (.slice a n c) ∧ V.cell? ⟨w.heap.size, 1, none⟩ = some (.int .i64 nx) ∧ V.cell? ⟨w.heap.size + 1, 0, none⟩ = some (.int .i64 k) ∧ V.cell? ⟨w.heap.size + 1, 1, none⟩ = some (.string p) ∧ V.cell? ⟨w.heap.size + 1, 2, none⟩ = some (.string t) ∧ V.cell? ⟨w.heap.size + 1, 3, none⟩ = some (.int .i64 off) ∧ V.cell? ⟨w.heap.size + 1, 4, none⟩ = some (.int .i64 m) ∧ V.cell? ⟨w.heap.size + 1, 5, none⟩ = some (.slice da dl dc))) := HS
 have HCOH : Hid (∀ V, Below wa.heap.size wa V → Calls Tryz.prog 10 #[.agg #[.slice a n c, .int .i64 nx]] V fun e w' => (∃ a' c', e = .returned (.agg #[.slice a' n c', .int .i64 nx]) ∧ ndsN.owns V.heap.size w' [.slice a' n c'] l) ∧ Below V.heap.size V w') := HCO
 have HCPH : Hid (∀ V a1 c1, Below wa.heap.size wa V → ndsN.lies wa.heap.size V [.slice a1 n c1] l → Calls Tryz.prog 20 #[.agg #[.slice a1 n c1, .int .i64 nx], .agg #[.int .i64 k, .string p, .string t, .int .i64 off, .int .i64 m, .slice da dl dc]] V (ApP l nx k p t off m d V)) := HCP
 clear HS HCO HCP
 go_upto_region 3 with fail
 go_cut [5, 6, 7] (fun u5 u6 u7 wx => ∃ (b5 b6 : Nat) (e3 : Int), u5 = .pointer (some ⟨b5, 0, none⟩) ∧ u6 = .pointer (some ⟨b6, 0, none⟩) ∧ u7 = .int .i64 e3 ∧ Hid (∃ (a3 : Option Addr) (n3 c3 : Nat) (x3 : Int) (l3 : List Nd) (k3 z3 : Int) (xx yy : Option Addr) (xc yc : Nat) (D3 : List Int) (O3 : List ByteArray), Below wa.heap.size wa wx ∧ Box wx b5 29 #[.slice a3 n3 c3, .int .i64 x3] ∧ Box wx b6 59 #[.int .i64 k3, .int .i64 z3, .slice xx D3.length xc, .slice yy O3.length yc] ∧ n3 = l3.length ∧ ndsN.owns wa.heap.size wx [.slice a3 n3 c3] l3 ∧ ApT l nx k p t off m d (l3, x3) (k3, z3, D3, O3) e3))
 case first => (
 rename_i J K1 hJ hMt
 refine AnyBut.begin (fun V => V.cell? ⟨w.heap.size, 0, none⟩ = some (.slice a n c) ∧ V.cell? ⟨w.heap.size, 1, none⟩ = some (.int .i64 nx) ∧ V.cell? ⟨w.heap.size + 1, 0, none⟩ = some (.int .i64 k) ∧ V.cell? ⟨w.heap.size + 1, 1, none⟩ = some (.string p) ∧ V.cell? ⟨w.heap.size + 1, 2, none⟩ = some (.string t) ∧ V.cell? ⟨w.heap.size + 1, 3, none⟩ = some (.int .i64 off) ∧ V.cell? ⟨w.heap.size + 1, 4, none⟩ = some (.int .i64 m) ∧ V.cell? ⟨w.heap.size + 1, 5, none⟩ = some (.slice da dl dc)) 1000 (by kernel_rfl) ?_
 obtain ⟨X0, hX0⟩ := exa (wa.drew)
 have hbV : Below wa.heap.size wa X0 := by rw [hX0]; exact (Below.refl _ wa).drew
 rw [← hX0]
 clear hX0
 have hSS := HSH.out X0 hbV
 refine tx 0 11 hSS ?_; simp only [ua,ub,uc,ud]
 refine tx 2 13 hSS ?_; simp only [ua,ub,uc,ud]
 clear hSS
 refine AnyBut.three (i := 1) (j := 8) (k := 9) (by kernel_rfl) rfl rfl rfl (fun K hK => ?_) (fun K hK => ?_) (fun K hK => ?_)
 · go_simp
   refine Calls.mono (HCOH.out X0 hbV) ?_
   rintro e9 V1 ⟨⟨a1, c1, rfl, ho1⟩, hb9⟩
   dsimp only
   have HO : ndsN.lies wa.heap.size V1 [.slice a1 n c1] l := ndsN.weaken (ndsN.olies ho1) hbV.size
   clear ho1
   replace hbV : Below wa.heap.size wa V1 := below_any hbV hb9
   refine hK.out _ _ (HSH.out V1 hbV) ?_
   clear hK hb9
   refine AnyBut.three (i := 3) (j := 8) (k := 9) (by kernel_rfl) rfl rfl rfl (fun K hK => ?_) (fun K hK => ?_) (fun K hK => ?_)
   · go_simp
     refine Calls.mono (HCPH.out V1 a1 c1 hbV HO) ?_
     rintro e9 V2 ⟨⟨a3, n3, c3, x3, l3, k3, z3, xx, yy, xc, yc, D3, O3, e3, rfl, hn3, ho3, -, -, hT3⟩, hb9⟩
     dsimp only
     have HL : ndsN.owns wa.heap.size V2 [.slice a3 n3 c3] l3 := ndsN.oweaken ho3 hbV.size
     have HN3 : Hid (n3 = l3.length ∧ ApT l nx k p t off m d (l3, x3) (k3, z3, D3, O3) e3) := ⟨hn3, hT3⟩
     clear ho3 hn3 hT3
     replace HO := ndsN.below HO hb9
     replace hbV : Below wa.heap.size wa V2 := below_any hbV hb9
     refine hK.out _ _ (HSH.out V2 hbV) ?_
     clear hK hb9
     have hSS := HSH.out V2 hbV
     refine tx 4 10 hSS ?_; simp only [ua,ub,uc,ud]
     refine tx 5 15 hSS ?_; simp only [ua,ub,uc,ud]
     refine tx 6 16 hSS ?_; simp only [ua,ub,uc,ud]
     refine tx 7 17 hSS ?_; simp only [ua,ub,uc,ud]
     clear hSS
     refine AnyBut.two (i := 8) (j := 9) (by kernel_rfl) rfl rfl (fun K hK => ?_) (fun K hK => ?_)
     · go_simp
       obtain ⟨V3, hV3⟩ := exa (V2.alloc (.cells #[.slice none 0 0, .int .i64 0] 29))
       have hb9 : Below V2.heap.size V2 V3 := by rw [hV3]; exact (Below.refl _ _).alloc (Nat.le_refl _) _
       have B5 : Box V3 V2.heap.size 29 #[.slice none 0 0, .int .i64 0] := by rw [hV3]; exact Box.new _ _ _
       obtain ⟨b5, hb5⟩ := exa (V2.heap.size)
       have hb5' : wa.heap.size ≤ b5 := by rw [hb5]; exact hbV.size
       rw [← hb5] at B5 ⊢
       rw [← hV3]
       clear hV3 hb5
       replace HO := ndsN.below HO hb9
       replace HL := ndsN.obelow HL hb9
       replace hbV : Below wa.heap.size wa V3 := below_any hbV hb9
       refine hK.out _ _ (HSH.out V3 hbV) ?_
       clear hK hb9
       refine AnyBut.step (i := 9) (by kernel_rfl) rfl (fun K hK => ?_)
       go_simp
       obtain ⟨V4, hV4⟩ := exa (V3.alloc (.cells #[.int .i64 0, .int .i64 0, .slice none 0 0, .slice none 0 0] 59))
       have hb9 : Below V3.heap.size V3 V4 := by rw [hV4]; exact (Below.refl _ _).alloc (Nat.le_refl _) _
       have B6 : Box V4 V3.heap.size 59 #[.int .i64 0, .int .i64 0, .slice none 0 0, .slice none 0 0] := by rw [hV4]; exact Box.new _ _ _
       obtain ⟨b6, hb6⟩ := exa (V3.heap.size)
       have hb6' : wa.heap.size ≤ b6 := by rw [hb6]; exact hbV.size
       rw [← hb6] at B6 ⊢
       rw [← hV4]
       clear hV4 hb6
       replace HO := ndsN.below HO hb9
       replace HL := ndsN.obelow HL hb9
       replace B5 := B5.below hb9 B5.lt
       replace hbV : Below wa.heap.size wa V4 := below_any hbV hb9
       refine hK.out _ _ (HSH.out V4 hbV) ?_
       clear hK hb9
       obtain ⟨d0, d1, e0, e1⟩ := B5.two
       obtain ⟨f0, f1, f2, f3, g0, g1, g2, g3⟩ := box_four B6
       have hne := box_ne B5 B6 (by decide)
       refine AnyBut.step (i := 10) (by kernel_rfl) rfl (fun K hK => ?_)
       go_simp
       have C5 : Box ((V4.setCell ⟨b5, 0, none⟩ (.slice a3 n3 c3)).setCell ⟨b5, 1, none⟩ (.int .i64 x3)) b5 29 #[.slice a3 n3 c3, .int .i64 x3] := (B5.set 0 _).set 1 _
       have C6 := (B6.other (i := 0) (x := .slice a3 n3 c3) hne.symm).other (i := 1) (x := .int .i64 x3) hne.symm
       have CO : ndsN.owns wa.heap.size ((V4.setCell ⟨b5, 0, none⟩ (.slice a3 n3 c3)).setCell ⟨b5, 1, none⟩ (.int .i64 x3)) [.slice a3 n3 c3] l3 := ndsN.ogrown (ndsN.ogrown HL (grown_set _ _ _ _) (B5.clear (by decide))) (grown_set _ _ _ _) ((B5.set 0 _).clear (by decide))
       have hbW : Below wa.heap.size wa ((V4.setCell ⟨b5, 0, none⟩ (.slice a3 n3 c3)).setCell ⟨b5, 1, none⟩ (.int .i64 x3)) := below_set2 hbV hb5' _ _
       obtain ⟨Z, hZ⟩ := exa ((V4.setCell ⟨b5, 0, none⟩ (.slice a3 n3 c3)).setCell ⟨b5, 1, none⟩ (.int .i64 x3))
       rw [← hZ] at C5 C6 CO hbW ⊢
       refine hK.out _ _ (HSH.out Z hbW) ?_
       clear hK hZ d0 d1 e0 e1 f0 f1 f2 f3 g0 g1 g2 g3
       obtain ⟨f0, f1, f2, f3, g0, g1, g2, g3⟩ := box_four C6
       refine AnyBut.step (i := 11) (by kernel_rfl) rfl (fun K hK => ?_)
       go_simp
       refine hK.out _ _ (HSH.out _ (below_set4 hbW hb6' _ _ _ _)) ?_
       clear hK
       have D5 := (((C5.other (i := 0) (x := .int .i64 k3) hne).other (i := 1) (x := .int .i64 z3) hne).other (i := 2) (x := .slice xx D3.length xc) hne).other (i := 3) (x := .slice yy O3.length yc) hne
       have D6 : Box ((((Z.setCell ⟨b6, 0, none⟩ (.int .i64 k3)).setCell ⟨b6, 1, none⟩ (.int .i64 z3)).setCell ⟨b6, 2, none⟩ (.slice xx D3.length xc)).setCell ⟨b6, 3, none⟩ (.slice yy O3.length yc)) b6 59 #[.int .i64 k3, .int .i64 z3, .slice xx D3.length xc, .slice yy O3.length yc] := (((C6.set 0 _).set 1 _).set 2 _).set 3 _
       have DO := own_set4 ndsN (t := 59) (by decide) CO C6 (.int .i64 k3) (.int .i64 z3) (.slice xx D3.length xc) (.slice yy O3.length yc)
       have hbD := below_set4 hbW hb6' (.int .i64 k3) (.int .i64 z3) (.slice xx D3.length xc) (.slice yy O3.length yc)
       refine AnyBut.step (i := 12) (by kernel_rfl) rfl (fun K hK => ?_)
       go_simp
       refine hK.out _ _ (HSH.out _ hbD) ?_
       clear hK
       refine AnyBut.done (by kernel_rfl) ?_
       refine hMt _ _ (Go.Met.intro (hJ _ _ ?_))
       (repeat (refine Exists.intro ?_ ?_; rotate_left 1))
       refine ⟨?rel, ?fr⟩
       case fr => rfl
       case rel => exact ⟨b5, b6, e3, rfl, rfl, rfl, a3, n3, c3, x3, l3, k3, z3, xx, yy, xc, yc, D3, O3, hbD, D5, D6, HN3.out.1, DO, HN3.out.2⟩
     · go_simp
       obtain ⟨V5, hV5⟩ := exa (V2.alloc (.cells #[.int .i64 0, .int .i64 0, .slice none 0 0, .slice none 0 0] 59))
       have hb9 : Below V2.heap.size V2 V5 := by rw [hV5]; exact (Below.refl _ _).alloc (Nat.le_refl _) _
       have B6 : Box V5 V2.heap.size 59 #[.int .i64 0, .int .i64 0, .slice none 0 0, .slice none 0 0] := by rw [hV5]; exact Box.new _ _ _
       obtain ⟨b6, hb6⟩ := exa (V2.heap.size)
       have hb6' : wa.heap.size ≤ b6 := by rw [hb6]; exact hbV.size
       rw [← hb6] at B6 ⊢
       rw [← hV5]
       clear hV5 hb6
       replace HO := ndsN.below HO hb9
       replace HL := ndsN.obelow HL hb9
       replace hbV : Below wa.heap.size wa V5 := below_any hbV hb9
       refine hK.out _ _ (HSH.out V5 hbV) ?_
       clear hK hb9
       refine AnyBut.step (i := 8) (by kernel_rfl) rfl (fun K hK => ?_)
       go_simp
       obtain ⟨V6, hV6⟩ := exa (V5.alloc (.cells #[.slice none 0 0, .int .i64 0] 29))
       have hb9 : Below V5.heap.size V5 V6 := by rw [hV6]; exact (Below.refl _ _).alloc (Nat.le_refl _) _
       have B5 : Box V6 V5.heap.size 29 #[.slice none 0 0, .int .i64 0] := by rw [hV6]; exact Box.new _ _ _
       obtain ⟨b5, hb5⟩ := exa (V5.heap.size)
       have hb5' : wa.heap.size ≤ b5 := by rw [hb5]; exact hbV.size
       rw [← hb5] at B5 ⊢
       rw [← hV6]
       clear hV6 hb5
       replace HO := ndsN.below HO hb9
       replace HL := ndsN.obelow HL hb9
       replace B6 := B6.below hb9 B6.lt
       replace hbV : Below wa.heap.size wa V6 := below_any hbV hb9
       refine hK.out _ _ (HSH.out V6 hbV) ?_
       clear hK hb9
       obtain ⟨d0, d1, e0, e1⟩ := B5.two
       obtain ⟨f0, f1, f2, f3, g0, g1, g2, g3⟩ := box_four B6
       have hne := box_ne B5 B6 (by decide)
       refine AnyBut.step (i := 10) (by kernel_rfl) rfl (fun K hK => ?_)
       go_simp
       have C5 : Box ((V6.setCell ⟨b5, 0, none⟩ (.slice a3 n3 c3)).setCell ⟨b5, 1, none⟩ (.int .i64 x3)) b5 29 #[.slice a3 n3 c3, .int .i64 x3] := (B5.set 0 _).set 1 _
       have C6 := (B6.other (i := 0) (x := .slice a3 n3 c3) hne.symm).other (i := 1) (x := .int .i64 x3) hne.symm
       have CO : ndsN.owns wa.heap.size ((V6.setCell ⟨b5, 0, none⟩ (.slice a3 n3 c3)).setCell ⟨b5, 1, none⟩ (.int .i64 x3)) [.slice a3 n3 c3] l3 := ndsN.ogrown (ndsN.ogrown HL (grown_set _ _ _ _) (B5.clear (by decide))) (grown_set _ _ _ _) ((B5.set 0 _).clear (by decide))
       have hbW : Below wa.heap.size wa ((V6.setCell ⟨b5, 0, none⟩ (.slice a3 n3 c3)).setCell ⟨b5, 1, none⟩ (.int .i64 x3)) := below_set2 hbV hb5' _ _
       obtain ⟨Z, hZ⟩ := exa ((V6.setCell ⟨b5, 0, none⟩ (.slice a3 n3 c3)).setCell ⟨b5, 1, none⟩ (.int .i64 x3))
       rw [← hZ] at C5 C6 CO hbW ⊢
       refine hK.out _ _ (HSH.out Z hbW) ?_
       clear hK hZ d0 d1 e0 e1 f0 f1 f2 f3 g0 g1 g2 g3
       obtain ⟨f0, f1, f2, f3, g0, g1, g2, g3⟩ := box_four C6
       refine AnyBut.step (i := 11) (by kernel_rfl) rfl (fun K hK => ?_)
       go_simp
       refine hK.out _ _ (HSH.out _ (below_set4 hbW hb6' _ _ _ _)) ?_
       clear hK
       have D5 := (((C5.other (i := 0) (x := .int .i64 k3) hne).other (i := 1) (x := .int .i64 z3) hne).other (i := 2) (x := .slice xx D3.length xc) hne).other (i := 3) (x := .slice yy O3.length yc) hne
       have D6 : Box ((((Z.setCell ⟨b6, 0, none⟩ (.int .i64 k3)).setCell ⟨b6, 1, none⟩ (.int .i64 z3)).setCell ⟨b6, 2, none⟩ (.slice xx D3.length xc)).setCell ⟨b6, 3, none⟩ (.slice yy O3.length yc)) b6 59 #[.int .i64 k3, .int .i64 z3, .slice xx D3.length xc, .slice yy O3.length yc] := (((C6.set 0 _).set 1 _).set 2 _).set 3 _
       have DO := own_set4 ndsN (t := 59) (by decide) CO C6 (.int .i64 k3) (.int .i64 z3) (.slice xx D3.length xc) (.slice yy O3.length yc)
       have hbD := below_set4 hbW hb6' (.int .i64 k3) (.int .i64 z3) (.slice xx D3.length xc) (.slice yy O3.length yc)
       refine AnyBut.step (i := 12) (by kernel_rfl) rfl (fun K hK => ?_)
       go_simp
       refine hK.out _ _ (HSH.out _ hbD) ?_
       clear hK
       refine AnyBut.done (by kernel_rfl) ?_
       refine hMt _ _ (Go.Met.intro (hJ _ _ ?_))
       (repeat (refine Exists.intro ?_ ?_; rotate_left 1))
       refine ⟨?rel, ?fr⟩
       case fr => rfl
       case rel => exact ⟨b5, b6, e3, rfl, rfl, rfl, a3, n3, c3, x3, l3, k3, z3, xx, yy, xc, yc, D3, O3, hbD, D5, D6, HN3.out.1, DO, HN3.out.2⟩
   · go_simp
     obtain ⟨V7, hV7⟩ := exa (V1.alloc (.cells #[.slice none 0 0, .int .i64 0] 29))
     have hb9 : Below V1.heap.size V1 V7 := by rw [hV7]; exact (Below.refl _ _).alloc (Nat.le_refl _) _
     have B5 : Box V7 V1.heap.size 29 #[.slice none 0 0, .int .i64 0] := by rw [hV7]; exact Box.new _ _ _
     obtain ⟨b5, hb5⟩ := exa (V1.heap.size)
     have hb5' : wa.heap.size ≤ b5 := by rw [hb5]; exact hbV.size
     rw [← hb5] at B5 ⊢
     rw [← hV7]
     clear hV7 hb5
     replace HO := ndsN.below HO hb9
     replace hbV : Below wa.heap.size wa V7 := below_any hbV hb9
     refine hK.out _ _ (HSH.out V7 hbV) ?_
     clear hK hb9
     refine AnyBut.two (i := 3) (j := 9) (by kernel_rfl) rfl rfl (fun K hK => ?_) (fun K hK => ?_)
     · go_simp
       refine Calls.mono (HCPH.out V7 a1 c1 hbV HO) ?_
       rintro e9 V8 ⟨⟨a3, n3, c3, x3, l3, k3, z3, xx, yy, xc, yc, D3, O3, e3, rfl, hn3, ho3, -, -, hT3⟩, hb9⟩
       dsimp only
       have HL : ndsN.owns wa.heap.size V8 [.slice a3 n3 c3] l3 := ndsN.oweaken ho3 hbV.size
       have HN3 : Hid (n3 = l3.length ∧ ApT l nx k p t off m d (l3, x3) (k3, z3, D3, O3) e3) := ⟨hn3, hT3⟩
       clear ho3 hn3 hT3
       replace HO := ndsN.below HO hb9
       replace B5 := B5.below hb9 B5.lt
       replace hbV : Below wa.heap.size wa V8 := below_any hbV hb9
       refine hK.out _ _ (HSH.out V8 hbV) ?_
       clear hK hb9
       have hSS := HSH.out V8 hbV
       refine tx 4 10 hSS ?_; simp only [ua,ub,uc,ud]
       refine tx 5 15 hSS ?_; simp only [ua,ub,uc,ud]
       refine tx 6 16 hSS ?_; simp only [ua,ub,uc,ud]
       refine tx 7 17 hSS ?_; simp only [ua,ub,uc,ud]
       clear hSS
       refine AnyBut.step (i := 9) (by kernel_rfl) rfl (fun K hK => ?_)
       go_simp
       obtain ⟨V9, hV9⟩ := exa (V8.alloc (.cells #[.int .i64 0, .int .i64 0, .slice none 0 0, .slice none 0 0] 59))
       have hb9 : Below V8.heap.size V8 V9 := by rw [hV9]; exact (Below.refl _ _).alloc (Nat.le_refl _) _
       have B6 : Box V9 V8.heap.size 59 #[.int .i64 0, .int .i64 0, .slice none 0 0, .slice none 0 0] := by rw [hV9]; exact Box.new _ _ _
       obtain ⟨b6, hb6⟩ := exa (V8.heap.size)
       have hb6' : wa.heap.size ≤ b6 := by rw [hb6]; exact hbV.size
       rw [← hb6] at B6 ⊢
       rw [← hV9]
       clear hV9 hb6
       replace HO := ndsN.below HO hb9
       replace B5 := B5.below hb9 B5.lt
       replace HL := ndsN.obelow HL hb9
       replace hbV : Below wa.heap.size wa V9 := below_any hbV hb9
       refine hK.out _ _ (HSH.out V9 hbV) ?_
       clear hK hb9
       obtain ⟨d0, d1, e0, e1⟩ := B5.two
       obtain ⟨f0, f1, f2, f3, g0, g1, g2, g3⟩ := box_four B6
       have hne := box_ne B5 B6 (by decide)
       refine AnyBut.step (i := 10) (by kernel_rfl) rfl (fun K hK => ?_)
       go_simp
       have C5 : Box ((V9.setCell ⟨b5, 0, none⟩ (.slice a3 n3 c3)).setCell ⟨b5, 1, none⟩ (.int .i64 x3)) b5 29 #[.slice a3 n3 c3, .int .i64 x3] := (B5.set 0 _).set 1 _
       have C6 := (B6.other (i := 0) (x := .slice a3 n3 c3) hne.symm).other (i := 1) (x := .int .i64 x3) hne.symm
       have CO : ndsN.owns wa.heap.size ((V9.setCell ⟨b5, 0, none⟩ (.slice a3 n3 c3)).setCell ⟨b5, 1, none⟩ (.int .i64 x3)) [.slice a3 n3 c3] l3 := ndsN.ogrown (ndsN.ogrown HL (grown_set _ _ _ _) (B5.clear (by decide))) (grown_set _ _ _ _) ((B5.set 0 _).clear (by decide))
       have hbW : Below wa.heap.size wa ((V9.setCell ⟨b5, 0, none⟩ (.slice a3 n3 c3)).setCell ⟨b5, 1, none⟩ (.int .i64 x3)) := below_set2 hbV hb5' _ _
       obtain ⟨Z, hZ⟩ := exa ((V9.setCell ⟨b5, 0, none⟩ (.slice a3 n3 c3)).setCell ⟨b5, 1, none⟩ (.int .i64 x3))
       rw [← hZ] at C5 C6 CO hbW ⊢
       refine hK.out _ _ (HSH.out Z hbW) ?_
       clear hK hZ d0 d1 e0 e1 f0 f1 f2 f3 g0 g1 g2 g3
       obtain ⟨f0, f1, f2, f3, g0, g1, g2, g3⟩ := box_four C6
       refine AnyBut.step (i := 11) (by kernel_rfl) rfl (fun K hK => ?_)
       go_simp
       refine hK.out _ _ (HSH.out _ (below_set4 hbW hb6' _ _ _ _)) ?_
       clear hK
       have D5 := (((C5.other (i := 0) (x := .int .i64 k3) hne).other (i := 1) (x := .int .i64 z3) hne).other (i := 2) (x := .slice xx D3.length xc) hne).other (i := 3) (x := .slice yy O3.length yc) hne
       have D6 : Box ((((Z.setCell ⟨b6, 0, none⟩ (.int .i64 k3)).setCell ⟨b6, 1, none⟩ (.int .i64 z3)).setCell ⟨b6, 2, none⟩ (.slice xx D3.length xc)).setCell ⟨b6, 3, none⟩ (.slice yy O3.length yc)) b6 59 #[.int .i64 k3, .int .i64 z3, .slice xx D3.length xc, .slice yy O3.length yc] := (((C6.set 0 _).set 1 _).set 2 _).set 3 _
       have DO := own_set4 ndsN (t := 59) (by decide) CO C6 (.int .i64 k3) (.int .i64 z3) (.slice xx D3.length xc) (.slice yy O3.length yc)
       have hbD := below_set4 hbW hb6' (.int .i64 k3) (.int .i64 z3) (.slice xx D3.length xc) (.slice yy O3.length yc)
       refine AnyBut.step (i := 12) (by kernel_rfl) rfl (fun K hK => ?_)
       go_simp
       refine hK.out _ _ (HSH.out _ hbD) ?_
       clear hK
       refine AnyBut.done (by kernel_rfl) ?_
       refine hMt _ _ (Go.Met.intro (hJ _ _ ?_))
       (repeat (refine Exists.intro ?_ ?_; rotate_left 1))
       refine ⟨?rel, ?fr⟩
       case fr => rfl
       case rel => exact ⟨b5, b6, e3, rfl, rfl, rfl, a3, n3, c3, x3, l3, k3, z3, xx, yy, xc, yc, D3, O3, hbD, D5, D6, HN3.out.1, DO, HN3.out.2⟩
     · go_simp
       obtain ⟨V10, hV10⟩ := exa (V7.alloc (.cells #[.int .i64 0, .int .i64 0, .slice none 0 0, .slice none 0 0] 59))
       have hb9 : Below V7.heap.size V7 V10 := by rw [hV10]; exact (Below.refl _ _).alloc (Nat.le_refl _) _
       have B6 : Box V10 V7.heap.size 59 #[.int .i64 0, .int .i64 0, .slice none 0 0, .slice none 0 0] := by rw [hV10]; exact Box.new _ _ _
       obtain ⟨b6, hb6⟩ := exa (V7.heap.size)
       have hb6' : wa.heap.size ≤ b6 := by rw [hb6]; exact hbV.size
       rw [← hb6] at B6 ⊢
       rw [← hV10]
       clear hV10 hb6
       replace HO := ndsN.below HO hb9
       replace B5 := B5.below hb9 B5.lt
       replace hbV : Below wa.heap.size wa V10 := below_any hbV hb9
       refine hK.out _ _ (HSH.out V10 hbV) ?_
       clear hK hb9
       refine AnyBut.step (i := 3) (by kernel_rfl) rfl (fun K hK => ?_)
       go_simp
       refine Calls.mono (HCPH.out V10 a1 c1 hbV HO) ?_
       rintro e9 V11 ⟨⟨a3, n3, c3, x3, l3, k3, z3, xx, yy, xc, yc, D3, O3, e3, rfl, hn3, ho3, -, -, hT3⟩, hb9⟩
       dsimp only
       have HL : ndsN.owns wa.heap.size V11 [.slice a3 n3 c3] l3 := ndsN.oweaken ho3 hbV.size
       have HN3 : Hid (n3 = l3.length ∧ ApT l nx k p t off m d (l3, x3) (k3, z3, D3, O3) e3) := ⟨hn3, hT3⟩
       clear ho3 hn3 hT3
       replace HO := ndsN.below HO hb9
       replace B5 := B5.below hb9 B5.lt
       replace B6 := B6.below hb9 B6.lt
       replace hbV : Below wa.heap.size wa V11 := below_any hbV hb9
       refine hK.out _ _ (HSH.out V11 hbV) ?_
       clear hK hb9
       have hSS := HSH.out V11 hbV
       refine tx 4 10 hSS ?_; simp only [ua,ub,uc,ud]
       refine tx 5 15 hSS ?_; simp only [ua,ub,uc,ud]
       refine tx 6 16 hSS ?_; simp only [ua,ub,uc,ud]
       refine tx 7 17 hSS ?_; simp only [ua,ub,uc,ud]
       clear hSS
       obtain ⟨d0, d1, e0, e1⟩ := B5.two
       obtain ⟨f0, f1, f2, f3, g0, g1, g2, g3⟩ := box_four B6
       have hne := box_ne B5 B6 (by decide)
       refine AnyBut.step (i := 10) (by kernel_rfl) rfl (fun K hK => ?_)
       go_simp
       have C5 : Box ((V11.setCell ⟨b5, 0, none⟩ (.slice a3 n3 c3)).setCell ⟨b5, 1, none⟩ (.int .i64 x3)) b5 29 #[.slice a3 n3 c3, .int .i64 x3] := (B5.set 0 _).set 1 _
       have C6 := (B6.other (i := 0) (x := .slice a3 n3 c3) hne.symm).other (i := 1) (x := .int .i64 x3) hne.symm
       have CO : ndsN.owns wa.heap.size ((V11.setCell ⟨b5, 0, none⟩ (.slice a3 n3 c3)).setCell ⟨b5, 1, none⟩ (.int .i64 x3)) [.slice a3 n3 c3] l3 := ndsN.ogrown (ndsN.ogrown HL (grown_set _ _ _ _) (B5.clear (by decide))) (grown_set _ _ _ _) ((B5.set 0 _).clear (by decide))
       have hbW : Below wa.heap.size wa ((V11.setCell ⟨b5, 0, none⟩ (.slice a3 n3 c3)).setCell ⟨b5, 1, none⟩ (.int .i64 x3)) := below_set2 hbV hb5' _ _
       obtain ⟨Z, hZ⟩ := exa ((V11.setCell ⟨b5, 0, none⟩ (.slice a3 n3 c3)).setCell ⟨b5, 1, none⟩ (.int .i64 x3))
       rw [← hZ] at C5 C6 CO hbW ⊢
       refine hK.out _ _ (HSH.out Z hbW) ?_
       clear hK hZ d0 d1 e0 e1 f0 f1 f2 f3 g0 g1 g2 g3
       obtain ⟨f0, f1, f2, f3, g0, g1, g2, g3⟩ := box_four C6
       refine AnyBut.step (i := 11) (by kernel_rfl) rfl (fun K hK => ?_)
       go_simp
       refine hK.out _ _ (HSH.out _ (below_set4 hbW hb6' _ _ _ _)) ?_
       clear hK
       have D5 := (((C5.other (i := 0) (x := .int .i64 k3) hne).other (i := 1) (x := .int .i64 z3) hne).other (i := 2) (x := .slice xx D3.length xc) hne).other (i := 3) (x := .slice yy O3.length yc) hne
       have D6 : Box ((((Z.setCell ⟨b6, 0, none⟩ (.int .i64 k3)).setCell ⟨b6, 1, none⟩ (.int .i64 z3)).setCell ⟨b6, 2, none⟩ (.slice xx D3.length xc)).setCell ⟨b6, 3, none⟩ (.slice yy O3.length yc)) b6 59 #[.int .i64 k3, .int .i64 z3, .slice xx D3.length xc, .slice yy O3.length yc] := (((C6.set 0 _).set 1 _).set 2 _).set 3 _
       have DO := own_set4 ndsN (t := 59) (by decide) CO C6 (.int .i64 k3) (.int .i64 z3) (.slice xx D3.length xc) (.slice yy O3.length yc)
       have hbD := below_set4 hbW hb6' (.int .i64 k3) (.int .i64 z3) (.slice xx D3.length xc) (.slice yy O3.length yc)
       refine AnyBut.step (i := 12) (by kernel_rfl) rfl (fun K hK => ?_)
       go_simp
       refine hK.out _ _ (HSH.out _ hbD) ?_
       clear hK
       refine AnyBut.done (by kernel_rfl) ?_
       refine hMt _ _ (Go.Met.intro (hJ _ _ ?_))
       (repeat (refine Exists.intro ?_ ?_; rotate_left 1))
       refine ⟨?rel, ?fr⟩
       case fr => rfl
       case rel => exact ⟨b5, b6, e3, rfl, rfl, rfl, a3, n3, c3, x3, l3, k3, z3, xx, yy, xc, yc, D3, O3, hbD, D5, D6, HN3.out.1, DO, HN3.out.2⟩
   · go_simp
     obtain ⟨V12, hV12⟩ := exa (V1.alloc (.cells #[.int .i64 0, .int .i64 0, .slice none 0 0, .slice none 0 0] 59))
     have hb9 : Below V1.heap.size V1 V12 := by rw [hV12]; exact (Below.refl _ _).alloc (Nat.le_refl _) _
     have B6 : Box V12 V1.heap.size 59 #[.int .i64 0, .int .i64 0, .slice none 0 0, .slice none 0 0] := by rw [hV12]; exact Box.new _ _ _
     obtain ⟨b6, hb6⟩ := exa (V1.heap.size)
     have hb6' : wa.heap.size ≤ b6 := by rw [hb6]; exact hbV.size
     rw [← hb6] at B6 ⊢
     rw [← hV12]
     clear hV12 hb6
     replace HO := ndsN.below HO hb9
     replace hbV : Below wa.heap.size wa V12 := below_any hbV hb9
     refine hK.out _ _ (HSH.out V12 hbV) ?_
     clear hK hb9
     refine AnyBut.two (i := 3) (j := 8) (by kernel_rfl) rfl rfl (fun K hK => ?_) (fun K hK => ?_)
     · go_simp
       refine Calls.mono (HCPH.out V12 a1 c1 hbV HO) ?_
       rintro e9 V13 ⟨⟨a3, n3, c3, x3, l3, k3, z3, xx, yy, xc, yc, D3, O3, e3, rfl, hn3, ho3, -, -, hT3⟩, hb9⟩
       dsimp only
       have HL : ndsN.owns wa.heap.size V13 [.slice a3 n3 c3] l3 := ndsN.oweaken ho3 hbV.size
       have HN3 : Hid (n3 = l3.length ∧ ApT l nx k p t off m d (l3, x3) (k3, z3, D3, O3) e3) := ⟨hn3, hT3⟩
       clear ho3 hn3 hT3
       replace HO := ndsN.below HO hb9
       replace B6 := B6.below hb9 B6.lt
       replace hbV : Below wa.heap.size wa V13 := below_any hbV hb9
       refine hK.out _ _ (HSH.out V13 hbV) ?_
       clear hK hb9
       have hSS := HSH.out V13 hbV
       refine tx 4 10 hSS ?_; simp only [ua,ub,uc,ud]
       refine tx 5 15 hSS ?_; simp only [ua,ub,uc,ud]
       refine tx 6 16 hSS ?_; simp only [ua,ub,uc,ud]
       refine tx 7 17 hSS ?_; simp only [ua,ub,uc,ud]
       clear hSS
       refine AnyBut.step (i := 8) (by kernel_rfl) rfl (fun K hK => ?_)
       go_simp
       obtain ⟨V14, hV14⟩ := exa (V13.alloc (.cells #[.slice none 0 0, .int .i64 0] 29))
       have hb9 : Below V13.heap.size V13 V14 := by rw [hV14]; exact (Below.refl _ _).alloc (Nat.le_refl _) _
       have B5 : Box V14 V13.heap.size 29 #[.slice none 0 0, .int .i64 0] := by rw [hV14]; exact Box.new _ _ _
       obtain ⟨b5, hb5⟩ := exa (V13.heap.size)
       have hb5' : wa.heap.size ≤ b5 := by rw [hb5]; exact hbV.size
       rw [← hb5] at B5 ⊢
       rw [← hV14]
       clear hV14 hb5
       replace HO := ndsN.below HO hb9
       replace B6 := B6.below hb9 B6.lt
       replace HL := ndsN.obelow HL hb9
       replace hbV : Below wa.heap.size wa V14 := below_any hbV hb9
       refine hK.out _ _ (HSH.out V14 hbV) ?_
       clear hK hb9
       obtain ⟨d0, d1, e0, e1⟩ := B5.two
       obtain ⟨f0, f1, f2, f3, g0, g1, g2, g3⟩ := box_four B6
       have hne := box_ne B5 B6 (by decide)
       refine AnyBut.step (i := 10) (by kernel_rfl) rfl (fun K hK => ?_)
       go_simp
       have C5 : Box ((V14.setCell ⟨b5, 0, none⟩ (.slice a3 n3 c3)).setCell ⟨b5, 1, none⟩ (.int .i64 x3)) b5 29 #[.slice a3 n3 c3, .int .i64 x3] := (B5.set 0 _).set 1 _
       have C6 := (B6.other (i := 0) (x := .slice a3 n3 c3) hne.symm).other (i := 1) (x := .int .i64 x3) hne.symm
       have CO : ndsN.owns wa.heap.size ((V14.setCell ⟨b5, 0, none⟩ (.slice a3 n3 c3)).setCell ⟨b5, 1, none⟩ (.int .i64 x3)) [.slice a3 n3 c3] l3 := ndsN.ogrown (ndsN.ogrown HL (grown_set _ _ _ _) (B5.clear (by decide))) (grown_set _ _ _ _) ((B5.set 0 _).clear (by decide))
       have hbW : Below wa.heap.size wa ((V14.setCell ⟨b5, 0, none⟩ (.slice a3 n3 c3)).setCell ⟨b5, 1, none⟩ (.int .i64 x3)) := below_set2 hbV hb5' _ _
       obtain ⟨Z, hZ⟩ := exa ((V14.setCell ⟨b5, 0, none⟩ (.slice a3 n3 c3)).setCell ⟨b5, 1, none⟩ (.int .i64 x3))
       rw [← hZ] at C5 C6 CO hbW ⊢
       refine hK.out _ _ (HSH.out Z hbW) ?_
       clear hK hZ d0 d1 e0 e1 f0 f1 f2 f3 g0 g1 g2 g3
       obtain ⟨f0, f1, f2, f3, g0, g1, g2, g3⟩ := box_four C6
       refine AnyBut.step (i := 11) (by kernel_rfl) rfl (fun K hK => ?_)
       go_simp
       refine hK.out _ _ (HSH.out _ (below_set4 hbW hb6' _ _ _ _)) ?_
       clear hK
       have D5 := (((C5.other (i := 0) (x := .int .i64 k3) hne).other (i := 1) (x := .int .i64 z3) hne).other (i := 2) (x := .slice xx D3.length xc) hne).other (i := 3) (x := .slice yy O3.length yc) hne
       have D6 : Box ((((Z.setCell ⟨b6, 0, none⟩ (.int .i64 k3)).setCell ⟨b6, 1, none⟩ (.int .i64 z3)).setCell ⟨b6, 2, none⟩ (.slice xx D3.length xc)).setCell ⟨b6, 3, none⟩ (.slice yy O3.length yc)) b6 59 #[.int .i64 k3, .int .i64 z3, .slice xx D3.length xc, .slice yy O3.length yc] := (((C6.set 0 _).set 1 _).set 2 _).set 3 _
       have DO := own_set4 ndsN (t := 59) (by decide) CO C6 (.int .i64 k3) (.int .i64 z3) (.slice xx D3.length xc) (.slice yy O3.length yc)
       have hbD := below_set4 hbW hb6' (.int .i64 k3) (.int .i64 z3) (.slice xx D3.length xc) (.slice yy O3.length yc)
       refine AnyBut.step (i := 12) (by kernel_rfl) rfl (fun K hK => ?_)
       go_simp
       refine hK.out _ _ (HSH.out _ hbD) ?_
       clear hK
       refine AnyBut.done (by kernel_rfl) ?_
       refine hMt _ _ (Go.Met.intro (hJ _ _ ?_))
       (repeat (refine Exists.intro ?_ ?_; rotate_left 1))
       refine ⟨?rel, ?fr⟩
       case fr => rfl
       case rel => exact ⟨b5, b6, e3, rfl, rfl, rfl, a3, n3, c3, x3, l3, k3, z3, xx, yy, xc, yc, D3, O3, hbD, D5, D6, HN3.out.1, DO, HN3.out.2⟩
     · go_simp
       obtain ⟨V15, hV15⟩ := exa (V12.alloc (.cells #[.slice none 0 0, .int .i64 0] 29))
       have hb9 : Below V12.heap.size V12 V15 := by rw [hV15]; exact (Below.refl _ _).alloc (Nat.le_refl _) _
       have B5 : Box V15 V12.heap.size 29 #[.slice none 0 0, .int .i64 0] := by rw [hV15]; exact Box.new _ _ _
       obtain ⟨b5, hb5⟩ := exa (V12.heap.size)
       have hb5' : wa.heap.size ≤ b5 := by rw [hb5]; exact hbV.size
       rw [← hb5] at B5 ⊢
       rw [← hV15]
       clear hV15 hb5
       replace HO := ndsN.below HO hb9
       replace B6 := B6.below hb9 B6.lt
       replace hbV : Below wa.heap.size wa V15 := below_any hbV hb9
       refine hK.out _ _ (HSH.out V15 hbV) ?_
       clear hK hb9
       refine AnyBut.step (i := 3) (by kernel_rfl) rfl (fun K hK => ?_)
       go_simp
       refine Calls.mono (HCPH.out V15 a1 c1 hbV HO) ?_
       rintro e9 V16 ⟨⟨a3, n3, c3, x3, l3, k3, z3, xx, yy, xc, yc, D3, O3, e3, rfl, hn3, ho3, -, -, hT3⟩, hb9⟩
       dsimp only
       have HL : ndsN.owns wa.heap.size V16 [.slice a3 n3 c3] l3 := ndsN.oweaken ho3 hbV.size
       have HN3 : Hid (n3 = l3.length ∧ ApT l nx k p t off m d (l3, x3) (k3, z3, D3, O3) e3) := ⟨hn3, hT3⟩
       clear ho3 hn3 hT3
       replace HO := ndsN.below HO hb9
       replace B6 := B6.below hb9 B6.lt
       replace B5 := B5.below hb9 B5.lt
       replace hbV : Below wa.heap.size wa V16 := below_any hbV hb9
       refine hK.out _ _ (HSH.out V16 hbV) ?_
       clear hK hb9
       have hSS := HSH.out V16 hbV
       refine tx 4 10 hSS ?_; simp only [ua,ub,uc,ud]
       refine tx 5 15 hSS ?_; simp only [ua,ub,uc,ud]
       refine tx 6 16 hSS ?_; simp only [ua,ub,uc,ud]
       refine tx 7 17 hSS ?_; simp only [ua,ub,uc,ud]
       clear hSS
       obtain ⟨d0, d1, e0, e1⟩ := B5.two
       obtain ⟨f0, f1, f2, f3, g0, g1, g2, g3⟩ := box_four B6
       have hne := box_ne B5 B6 (by decide)
       refine AnyBut.step (i := 10) (by kernel_rfl) rfl (fun K hK => ?_)
       go_simp
       have C5 : Box ((V16.setCell ⟨b5, 0, none⟩ (.slice a3 n3 c3)).setCell ⟨b5, 1, none⟩ (.int .i64 x3)) b5 29 #[.slice a3 n3 c3, .int .i64 x3] := (B5.set 0 _).set 1 _
       have C6 := (B6.other (i := 0) (x := .slice a3 n3 c3) hne.symm).other (i := 1) (x := .int .i64 x3) hne.symm
       have CO : ndsN.owns wa.heap.size ((V16.setCell ⟨b5, 0, none⟩ (.slice a3 n3 c3)).setCell ⟨b5, 1, none⟩ (.int .i64 x3)) [.slice a3 n3 c3] l3 := ndsN.ogrown (ndsN.ogrown HL (grown_set _ _ _ _) (B5.clear (by decide))) (grown_set _ _ _ _) ((B5.set 0 _).clear (by decide))
       have hbW : Below wa.heap.size wa ((V16.setCell ⟨b5, 0, none⟩ (.slice a3 n3 c3)).setCell ⟨b5, 1, none⟩ (.int .i64 x3)) := below_set2 hbV hb5' _ _
       obtain ⟨Z, hZ⟩ := exa ((V16.setCell ⟨b5, 0, none⟩ (.slice a3 n3 c3)).setCell ⟨b5, 1, none⟩ (.int .i64 x3))
       rw [← hZ] at C5 C6 CO hbW ⊢
       refine hK.out _ _ (HSH.out Z hbW) ?_
       clear hK hZ d0 d1 e0 e1 f0 f1 f2 f3 g0 g1 g2 g3
       obtain ⟨f0, f1, f2, f3, g0, g1, g2, g3⟩ := box_four C6
       refine AnyBut.step (i := 11) (by kernel_rfl) rfl (fun K hK => ?_)
       go_simp
       refine hK.out _ _ (HSH.out _ (below_set4 hbW hb6' _ _ _ _)) ?_
       clear hK
       have D5 := (((C5.other (i := 0) (x := .int .i64 k3) hne).other (i := 1) (x := .int .i64 z3) hne).other (i := 2) (x := .slice xx D3.length xc) hne).other (i := 3) (x := .slice yy O3.length yc) hne
       have D6 : Box ((((Z.setCell ⟨b6, 0, none⟩ (.int .i64 k3)).setCell ⟨b6, 1, none⟩ (.int .i64 z3)).setCell ⟨b6, 2, none⟩ (.slice xx D3.length xc)).setCell ⟨b6, 3, none⟩ (.slice yy O3.length yc)) b6 59 #[.int .i64 k3, .int .i64 z3, .slice xx D3.length xc, .slice yy O3.length yc] := (((C6.set 0 _).set 1 _).set 2 _).set 3 _
       have DO := own_set4 ndsN (t := 59) (by decide) CO C6 (.int .i64 k3) (.int .i64 z3) (.slice xx D3.length xc) (.slice yy O3.length yc)
       have hbD := below_set4 hbW hb6' (.int .i64 k3) (.int .i64 z3) (.slice xx D3.length xc) (.slice yy O3.length yc)
       refine AnyBut.step (i := 12) (by kernel_rfl) rfl (fun K hK => ?_)
       go_simp
       refine hK.out _ _ (HSH.out _ hbD) ?_
       clear hK
       refine AnyBut.done (by kernel_rfl) ?_
       refine hMt _ _ (Go.Met.intro (hJ _ _ ?_))
       (repeat (refine Exists.intro ?_ ?_; rotate_left 1))
       refine ⟨?rel, ?fr⟩
       case fr => rfl
       case rel => exact ⟨b5, b6, e3, rfl, rfl, rfl, a3, n3, c3, x3, l3, k3, z3, xx, yy, xc, yc, D3, O3, hbD, D5, D6, HN3.out.1, DO, HN3.out.2⟩
 · go_simp
   obtain ⟨V17, hV17⟩ := exa (X0.alloc (.cells #[.slice none 0 0, .int .i64 0] 29))
   have hb9 : Below X0.heap.size X0 V17 := by rw [hV17]; exact (Below.refl _ _).alloc (Nat.le_refl _) _
   have B5 : Box V17 X0.heap.size 29 #[.slice none 0 0, .int .i64 0] := by rw [hV17]; exact Box.new _ _ _
   obtain ⟨b5, hb5⟩ := exa (X0.heap.size)
   have hb5' : wa.heap.size ≤ b5 := by rw [hb5]; exact hbV.size
   rw [← hb5] at B5 ⊢
   rw [← hV17]
   clear hV17 hb5
   replace hbV : Below wa.heap.size wa V17 := below_any hbV hb9
   refine hK.out _ _ (HSH.out V17 hbV) ?_
   clear hK hb9
   refine AnyBut.two (i := 1) (j := 9) (by kernel_rfl) rfl rfl (fun K hK => ?_) (fun K hK => ?_)
   · go_simp
     refine Calls.mono (HCOH.out V17 hbV) ?_
     rintro e9 V18 ⟨⟨a1, c1, rfl, ho1⟩, hb9⟩
     dsimp only
     have HO : ndsN.lies wa.heap.size V18 [.slice a1 n c1] l := ndsN.weaken (ndsN.olies ho1) hbV.size
     clear ho1
     replace B5 := B5.below hb9 B5.lt
     replace hbV : Below wa.heap.size wa V18 := below_any hbV hb9
     refine hK.out _ _ (HSH.out V18 hbV) ?_
     clear hK hb9
     refine AnyBut.two (i := 3) (j := 9) (by kernel_rfl) rfl rfl (fun K hK => ?_) (fun K hK => ?_)
     · go_simp
       refine Calls.mono (HCPH.out V18 a1 c1 hbV HO) ?_
       rintro e9 V19 ⟨⟨a3, n3, c3, x3, l3, k3, z3, xx, yy, xc, yc, D3, O3, e3, rfl, hn3, ho3, -, -, hT3⟩, hb9⟩
       dsimp only
       have HL : ndsN.owns wa.heap.size V19 [.slice a3 n3 c3] l3 := ndsN.oweaken ho3 hbV.size
       have HN3 : Hid (n3 = l3.length ∧ ApT l nx k p t off m d (l3, x3) (k3, z3, D3, O3) e3) := ⟨hn3, hT3⟩
       clear ho3 hn3 hT3
       replace B5 := B5.below hb9 B5.lt
       replace HO := ndsN.below HO hb9
       replace hbV : Below wa.heap.size wa V19 := below_any hbV hb9
       refine hK.out _ _ (HSH.out V19 hbV) ?_
       clear hK hb9
       have hSS := HSH.out V19 hbV
       refine tx 4 10 hSS ?_; simp only [ua,ub,uc,ud]
       refine tx 5 15 hSS ?_; simp only [ua,ub,uc,ud]
       refine tx 6 16 hSS ?_; simp only [ua,ub,uc,ud]
       refine tx 7 17 hSS ?_; simp only [ua,ub,uc,ud]
       clear hSS
       refine AnyBut.step (i := 9) (by kernel_rfl) rfl (fun K hK => ?_)
       go_simp
       obtain ⟨V20, hV20⟩ := exa (V19.alloc (.cells #[.int .i64 0, .int .i64 0, .slice none 0 0, .slice none 0 0] 59))
       have hb9 : Below V19.heap.size V19 V20 := by rw [hV20]; exact (Below.refl _ _).alloc (Nat.le_refl _) _
       have B6 : Box V20 V19.heap.size 59 #[.int .i64 0, .int .i64 0, .slice none 0 0, .slice none 0 0] := by rw [hV20]; exact Box.new _ _ _
       obtain ⟨b6, hb6⟩ := exa (V19.heap.size)
       have hb6' : wa.heap.size ≤ b6 := by rw [hb6]; exact hbV.size
       rw [← hb6] at B6 ⊢
       rw [← hV20]
       clear hV20 hb6
       replace B5 := B5.below hb9 B5.lt
       replace HO := ndsN.below HO hb9
       replace HL := ndsN.obelow HL hb9
       replace hbV : Below wa.heap.size wa V20 := below_any hbV hb9
       refine hK.out _ _ (HSH.out V20 hbV) ?_
       clear hK hb9
       obtain ⟨d0, d1, e0, e1⟩ := B5.two
       obtain ⟨f0, f1, f2, f3, g0, g1, g2, g3⟩ := box_four B6
       have hne := box_ne B5 B6 (by decide)
       refine AnyBut.step (i := 10) (by kernel_rfl) rfl (fun K hK => ?_)
       go_simp
       have C5 : Box ((V20.setCell ⟨b5, 0, none⟩ (.slice a3 n3 c3)).setCell ⟨b5, 1, none⟩ (.int .i64 x3)) b5 29 #[.slice a3 n3 c3, .int .i64 x3] := (B5.set 0 _).set 1 _
       have C6 := (B6.other (i := 0) (x := .slice a3 n3 c3) hne.symm).other (i := 1) (x := .int .i64 x3) hne.symm
       have CO : ndsN.owns wa.heap.size ((V20.setCell ⟨b5, 0, none⟩ (.slice a3 n3 c3)).setCell ⟨b5, 1, none⟩ (.int .i64 x3)) [.slice a3 n3 c3] l3 := ndsN.ogrown (ndsN.ogrown HL (grown_set _ _ _ _) (B5.clear (by decide))) (grown_set _ _ _ _) ((B5.set 0 _).clear (by decide))
       have hbW : Below wa.heap.size wa ((V20.setCell ⟨b5, 0, none⟩ (.slice a3 n3 c3)).setCell ⟨b5, 1, none⟩ (.int .i64 x3)) := below_set2 hbV hb5' _ _
       obtain ⟨Z, hZ⟩ := exa ((V20.setCell ⟨b5, 0, none⟩ (.slice a3 n3 c3)).setCell ⟨b5, 1, none⟩ (.int .i64 x3))
       rw [← hZ] at C5 C6 CO hbW ⊢
       refine hK.out _ _ (HSH.out Z hbW) ?_
       clear hK hZ d0 d1 e0 e1 f0 f1 f2 f3 g0 g1 g2 g3
       obtain ⟨f0, f1, f2, f3, g0, g1, g2, g3⟩ := box_four C6
       refine AnyBut.step (i := 11) (by kernel_rfl) rfl (fun K hK => ?_)
       go_simp
       refine hK.out _ _ (HSH.out _ (below_set4 hbW hb6' _ _ _ _)) ?_
       clear hK
       have D5 := (((C5.other (i := 0) (x := .int .i64 k3) hne).other (i := 1) (x := .int .i64 z3) hne).other (i := 2) (x := .slice xx D3.length xc) hne).other (i := 3) (x := .slice yy O3.length yc) hne
       have D6 : Box ((((Z.setCell ⟨b6, 0, none⟩ (.int .i64 k3)).setCell ⟨b6, 1, none⟩ (.int .i64 z3)).setCell ⟨b6, 2, none⟩ (.slice xx D3.length xc)).setCell ⟨b6, 3, none⟩ (.slice yy O3.length yc)) b6 59 #[.int .i64 k3, .int .i64 z3, .slice xx D3.length xc, .slice yy O3.length yc] := (((C6.set 0 _).set 1 _).set 2 _).set 3 _
       have DO := own_set4 ndsN (t := 59) (by decide) CO C6 (.int .i64 k3) (.int .i64 z3) (.slice xx D3.length xc) (.slice yy O3.length yc)
       have hbD := below_set4 hbW hb6' (.int .i64 k3) (.int .i64 z3) (.slice xx D3.length xc) (.slice yy O3.length yc)
       refine AnyBut.step (i := 12) (by kernel_rfl) rfl (fun K hK => ?_)
       go_simp
       refine hK.out _ _ (HSH.out _ hbD) ?_
       clear hK
       refine AnyBut.done (by kernel_rfl) ?_
       refine hMt _ _ (Go.Met.intro (hJ _ _ ?_))
       (repeat (refine Exists.intro ?_ ?_; rotate_left 1))
       refine ⟨?rel, ?fr⟩
       case fr => rfl
       case rel => exact ⟨b5, b6, e3, rfl, rfl, rfl, a3, n3, c3, x3, l3, k3, z3, xx, yy, xc, yc, D3, O3, hbD, D5, D6, HN3.out.1, DO, HN3.out.2⟩
     · go_simp
       obtain ⟨V21, hV21⟩ := exa (V18.alloc (.cells #[.int .i64 0, .int .i64 0, .slice none 0 0, .slice none 0 0] 59))
       have hb9 : Below V18.heap.size V18 V21 := by rw [hV21]; exact (Below.refl _ _).alloc (Nat.le_refl _) _
       have B6 : Box V21 V18.heap.size 59 #[.int .i64 0, .int .i64 0, .slice none 0 0, .slice none 0 0] := by rw [hV21]; exact Box.new _ _ _
       obtain ⟨b6, hb6⟩ := exa (V18.heap.size)
       have hb6' : wa.heap.size ≤ b6 := by rw [hb6]; exact hbV.size
       rw [← hb6] at B6 ⊢
       rw [← hV21]
       clear hV21 hb6
       replace B5 := B5.below hb9 B5.lt
       replace HO := ndsN.below HO hb9
       replace hbV : Below wa.heap.size wa V21 := below_any hbV hb9
       refine hK.out _ _ (HSH.out V21 hbV) ?_
       clear hK hb9
       refine AnyBut.step (i := 3) (by kernel_rfl) rfl (fun K hK => ?_)
       go_simp
       refine Calls.mono (HCPH.out V21 a1 c1 hbV HO) ?_
       rintro e9 V22 ⟨⟨a3, n3, c3, x3, l3, k3, z3, xx, yy, xc, yc, D3, O3, e3, rfl, hn3, ho3, -, -, hT3⟩, hb9⟩
       dsimp only
       have HL : ndsN.owns wa.heap.size V22 [.slice a3 n3 c3] l3 := ndsN.oweaken ho3 hbV.size
       have HN3 : Hid (n3 = l3.length ∧ ApT l nx k p t off m d (l3, x3) (k3, z3, D3, O3) e3) := ⟨hn3, hT3⟩
       clear ho3 hn3 hT3
       replace B5 := B5.below hb9 B5.lt
       replace HO := ndsN.below HO hb9
       replace B6 := B6.below hb9 B6.lt
       replace hbV : Below wa.heap.size wa V22 := below_any hbV hb9
       refine hK.out _ _ (HSH.out V22 hbV) ?_
       clear hK hb9
       have hSS := HSH.out V22 hbV
       refine tx 4 10 hSS ?_; simp only [ua,ub,uc,ud]
       refine tx 5 15 hSS ?_; simp only [ua,ub,uc,ud]
       refine tx 6 16 hSS ?_; simp only [ua,ub,uc,ud]
       refine tx 7 17 hSS ?_; simp only [ua,ub,uc,ud]
       clear hSS
       obtain ⟨d0, d1, e0, e1⟩ := B5.two
       obtain ⟨f0, f1, f2, f3, g0, g1, g2, g3⟩ := box_four B6
       have hne := box_ne B5 B6 (by decide)
       refine AnyBut.step (i := 10) (by kernel_rfl) rfl (fun K hK => ?_)
       go_simp
       have C5 : Box ((V22.setCell ⟨b5, 0, none⟩ (.slice a3 n3 c3)).setCell ⟨b5, 1, none⟩ (.int .i64 x3)) b5 29 #[.slice a3 n3 c3, .int .i64 x3] := (B5.set 0 _).set 1 _
       have C6 := (B6.other (i := 0) (x := .slice a3 n3 c3) hne.symm).other (i := 1) (x := .int .i64 x3) hne.symm
       have CO : ndsN.owns wa.heap.size ((V22.setCell ⟨b5, 0, none⟩ (.slice a3 n3 c3)).setCell ⟨b5, 1, none⟩ (.int .i64 x3)) [.slice a3 n3 c3] l3 := ndsN.ogrown (ndsN.ogrown HL (grown_set _ _ _ _) (B5.clear (by decide))) (grown_set _ _ _ _) ((B5.set 0 _).clear (by decide))
       have hbW : Below wa.heap.size wa ((V22.setCell ⟨b5, 0, none⟩ (.slice a3 n3 c3)).setCell ⟨b5, 1, none⟩ (.int .i64 x3)) := below_set2 hbV hb5' _ _
       obtain ⟨Z, hZ⟩ := exa ((V22.setCell ⟨b5, 0, none⟩ (.slice a3 n3 c3)).setCell ⟨b5, 1, none⟩ (.int .i64 x3))
       rw [← hZ] at C5 C6 CO hbW ⊢
       refine hK.out _ _ (HSH.out Z hbW) ?_
       clear hK hZ d0 d1 e0 e1 f0 f1 f2 f3 g0 g1 g2 g3
       obtain ⟨f0, f1, f2, f3, g0, g1, g2, g3⟩ := box_four C6
       refine AnyBut.step (i := 11) (by kernel_rfl) rfl (fun K hK => ?_)
       go_simp
       refine hK.out _ _ (HSH.out _ (below_set4 hbW hb6' _ _ _ _)) ?_
       clear hK
       have D5 := (((C5.other (i := 0) (x := .int .i64 k3) hne).other (i := 1) (x := .int .i64 z3) hne).other (i := 2) (x := .slice xx D3.length xc) hne).other (i := 3) (x := .slice yy O3.length yc) hne
       have D6 : Box ((((Z.setCell ⟨b6, 0, none⟩ (.int .i64 k3)).setCell ⟨b6, 1, none⟩ (.int .i64 z3)).setCell ⟨b6, 2, none⟩ (.slice xx D3.length xc)).setCell ⟨b6, 3, none⟩ (.slice yy O3.length yc)) b6 59 #[.int .i64 k3, .int .i64 z3, .slice xx D3.length xc, .slice yy O3.length yc] := (((C6.set 0 _).set 1 _).set 2 _).set 3 _
       have DO := own_set4 ndsN (t := 59) (by decide) CO C6 (.int .i64 k3) (.int .i64 z3) (.slice xx D3.length xc) (.slice yy O3.length yc)
       have hbD := below_set4 hbW hb6' (.int .i64 k3) (.int .i64 z3) (.slice xx D3.length xc) (.slice yy O3.length yc)
       refine AnyBut.step (i := 12) (by kernel_rfl) rfl (fun K hK => ?_)
       go_simp
       refine hK.out _ _ (HSH.out _ hbD) ?_
       clear hK
       refine AnyBut.done (by kernel_rfl) ?_
       refine hMt _ _ (Go.Met.intro (hJ _ _ ?_))
       (repeat (refine Exists.intro ?_ ?_; rotate_left 1))
       refine ⟨?rel, ?fr⟩
       case fr => rfl
       case rel => exact ⟨b5, b6, e3, rfl, rfl, rfl, a3, n3, c3, x3, l3, k3, z3, xx, yy, xc, yc, D3, O3, hbD, D5, D6, HN3.out.1, DO, HN3.out.2⟩
   · go_simp
     obtain ⟨V23, hV23⟩ := exa (V17.alloc (.cells #[.int .i64 0, .int .i64 0, .slice none 0 0, .slice none 0 0] 59))
     have hb9 : Below V17.heap.size V17 V23 := by rw [hV23]; exact (Below.refl _ _).alloc (Nat.le_refl _) _
     have B6 : Box V23 V17.heap.size 59 #[.int .i64 0, .int .i64 0, .slice none 0 0, .slice none 0 0] := by rw [hV23]; exact Box.new _ _ _
     obtain ⟨b6, hb6⟩ := exa (V17.heap.size)
     have hb6' : wa.heap.size ≤ b6 := by rw [hb6]; exact hbV.size
     rw [← hb6] at B6 ⊢
     rw [← hV23]
     clear hV23 hb6
     replace B5 := B5.below hb9 B5.lt
     replace hbV : Below wa.heap.size wa V23 := below_any hbV hb9
     refine hK.out _ _ (HSH.out V23 hbV) ?_
     clear hK hb9
     refine AnyBut.step (i := 1) (by kernel_rfl) rfl (fun K hK => ?_)
     go_simp
     refine Calls.mono (HCOH.out V23 hbV) ?_
     rintro e9 V24 ⟨⟨a1, c1, rfl, ho1⟩, hb9⟩
     dsimp only
     have HO : ndsN.lies wa.heap.size V24 [.slice a1 n c1] l := ndsN.weaken (ndsN.olies ho1) hbV.size
     clear ho1
     replace B5 := B5.below hb9 B5.lt
     replace B6 := B6.below hb9 B6.lt
     replace hbV : Below wa.heap.size wa V24 := below_any hbV hb9
     refine hK.out _ _ (HSH.out V24 hbV) ?_
     clear hK hb9
     refine AnyBut.step (i := 3) (by kernel_rfl) rfl (fun K hK => ?_)
     go_simp
     refine Calls.mono (HCPH.out V24 a1 c1 hbV HO) ?_
     rintro e9 V25 ⟨⟨a3, n3, c3, x3, l3, k3, z3, xx, yy, xc, yc, D3, O3, e3, rfl, hn3, ho3, -, -, hT3⟩, hb9⟩
     dsimp only
     have HL : ndsN.owns wa.heap.size V25 [.slice a3 n3 c3] l3 := ndsN.oweaken ho3 hbV.size
     have HN3 : Hid (n3 = l3.length ∧ ApT l nx k p t off m d (l3, x3) (k3, z3, D3, O3) e3) := ⟨hn3, hT3⟩
     clear ho3 hn3 hT3
     replace B5 := B5.below hb9 B5.lt
     replace B6 := B6.below hb9 B6.lt
     replace HO := ndsN.below HO hb9
     replace hbV : Below wa.heap.size wa V25 := below_any hbV hb9
     refine hK.out _ _ (HSH.out V25 hbV) ?_
     clear hK hb9
     have hSS := HSH.out V25 hbV
     refine tx 4 10 hSS ?_; simp only [ua,ub,uc,ud]
     refine tx 5 15 hSS ?_; simp only [ua,ub,uc,ud]
     refine tx 6 16 hSS ?_; simp only [ua,ub,uc,ud]
     refine tx 7 17 hSS ?_; simp only [ua,ub,uc,ud]
     clear hSS
     obtain ⟨d0, d1, e0, e1⟩ := B5.two
     obtain ⟨f0, f1, f2, f3, g0, g1, g2, g3⟩ := box_four B6
     have hne := box_ne B5 B6 (by decide)
     refine AnyBut.step (i := 10) (by kernel_rfl) rfl (fun K hK => ?_)
     go_simp
     have C5 : Box ((V25.setCell ⟨b5, 0, none⟩ (.slice a3 n3 c3)).setCell ⟨b5, 1, none⟩ (.int .i64 x3)) b5 29 #[.slice a3 n3 c3, .int .i64 x3] := (B5.set 0 _).set 1 _
     have C6 := (B6.other (i := 0) (x := .slice a3 n3 c3) hne.symm).other (i := 1) (x := .int .i64 x3) hne.symm
     have CO : ndsN.owns wa.heap.size ((V25.setCell ⟨b5, 0, none⟩ (.slice a3 n3 c3)).setCell ⟨b5, 1, none⟩ (.int .i64 x3)) [.slice a3 n3 c3] l3 := ndsN.ogrown (ndsN.ogrown HL (grown_set _ _ _ _) (B5.clear (by decide))) (grown_set _ _ _ _) ((B5.set 0 _).clear (by decide))
     have hbW : Below wa.heap.size wa ((V25.setCell ⟨b5, 0, none⟩ (.slice a3 n3 c3)).setCell ⟨b5, 1, none⟩ (.int .i64 x3)) := below_set2 hbV hb5' _ _
     obtain ⟨Z, hZ⟩ := exa ((V25.setCell ⟨b5, 0, none⟩ (.slice a3 n3 c3)).setCell ⟨b5, 1, none⟩ (.int .i64 x3))
     rw [← hZ] at C5 C6 CO hbW ⊢
     refine hK.out _ _ (HSH.out Z hbW) ?_
     clear hK hZ d0 d1 e0 e1 f0 f1 f2 f3 g0 g1 g2 g3
     obtain ⟨f0, f1, f2, f3, g0, g1, g2, g3⟩ := box_four C6
     refine AnyBut.step (i := 11) (by kernel_rfl) rfl (fun K hK => ?_)
     go_simp
     refine hK.out _ _ (HSH.out _ (below_set4 hbW hb6' _ _ _ _)) ?_
     clear hK
     have D5 := (((C5.other (i := 0) (x := .int .i64 k3) hne).other (i := 1) (x := .int .i64 z3) hne).other (i := 2) (x := .slice xx D3.length xc) hne).other (i := 3) (x := .slice yy O3.length yc) hne
     have D6 : Box ((((Z.setCell ⟨b6, 0, none⟩ (.int .i64 k3)).setCell ⟨b6, 1, none⟩ (.int .i64 z3)).setCell ⟨b6, 2, none⟩ (.slice xx D3.length xc)).setCell ⟨b6, 3, none⟩ (.slice yy O3.length yc)) b6 59 #[.int .i64 k3, .int .i64 z3, .slice xx D3.length xc, .slice yy O3.length yc] := (((C6.set 0 _).set 1 _).set 2 _).set 3 _
     have DO := own_set4 ndsN (t := 59) (by decide) CO C6 (.int .i64 k3) (.int .i64 z3) (.slice xx D3.length xc) (.slice yy O3.length yc)
     have hbD := below_set4 hbW hb6' (.int .i64 k3) (.int .i64 z3) (.slice xx D3.length xc) (.slice yy O3.length yc)
     refine AnyBut.step (i := 12) (by kernel_rfl) rfl (fun K hK => ?_)
     go_simp
     refine hK.out _ _ (HSH.out _ hbD) ?_
     clear hK
     refine AnyBut.done (by kernel_rfl) ?_
     refine hMt _ _ (Go.Met.intro (hJ _ _ ?_))
     (repeat (refine Exists.intro ?_ ?_; rotate_left 1))
     refine ⟨?rel, ?fr⟩
     case fr => rfl
     case rel => exact ⟨b5, b6, e3, rfl, rfl, rfl, a3, n3, c3, x3, l3, k3, z3, xx, yy, xc, yc, D3, O3, hbD, D5, D6, HN3.out.1, DO, HN3.out.2⟩
 · go_simp
   obtain ⟨V26, hV26⟩ := exa (X0.alloc (.cells #[.int .i64 0, .int .i64 0, .slice none 0 0, .slice none 0 0] 59))
   have hb9 : Below X0.heap.size X0 V26 := by rw [hV26]; exact (Below.refl _ _).alloc (Nat.le_refl _) _
   have B6 : Box V26 X0.heap.size 59 #[.int .i64 0, .int .i64 0, .slice none 0 0, .slice none 0 0] := by rw [hV26]; exact Box.new _ _ _
   obtain ⟨b6, hb6⟩ := exa (X0.heap.size)
   have hb6' : wa.heap.size ≤ b6 := by rw [hb6]; exact hbV.size
   rw [← hb6] at B6 ⊢
   rw [← hV26]
   clear hV26 hb6
   replace hbV : Below wa.heap.size wa V26 := below_any hbV hb9
   refine hK.out _ _ (HSH.out V26 hbV) ?_
   clear hK hb9
   refine AnyBut.two (i := 1) (j := 8) (by kernel_rfl) rfl rfl (fun K hK => ?_) (fun K hK => ?_)
   · go_simp
     refine Calls.mono (HCOH.out V26 hbV) ?_
     rintro e9 V27 ⟨⟨a1, c1, rfl, ho1⟩, hb9⟩
     dsimp only
     have HO : ndsN.lies wa.heap.size V27 [.slice a1 n c1] l := ndsN.weaken (ndsN.olies ho1) hbV.size
     clear ho1
     replace B6 := B6.below hb9 B6.lt
     replace hbV : Below wa.heap.size wa V27 := below_any hbV hb9
     refine hK.out _ _ (HSH.out V27 hbV) ?_
     clear hK hb9
     refine AnyBut.two (i := 3) (j := 8) (by kernel_rfl) rfl rfl (fun K hK => ?_) (fun K hK => ?_)
     · go_simp
       refine Calls.mono (HCPH.out V27 a1 c1 hbV HO) ?_
       rintro e9 V28 ⟨⟨a3, n3, c3, x3, l3, k3, z3, xx, yy, xc, yc, D3, O3, e3, rfl, hn3, ho3, -, -, hT3⟩, hb9⟩
       dsimp only
       have HL : ndsN.owns wa.heap.size V28 [.slice a3 n3 c3] l3 := ndsN.oweaken ho3 hbV.size
       have HN3 : Hid (n3 = l3.length ∧ ApT l nx k p t off m d (l3, x3) (k3, z3, D3, O3) e3) := ⟨hn3, hT3⟩
       clear ho3 hn3 hT3
       replace B6 := B6.below hb9 B6.lt
       replace HO := ndsN.below HO hb9
       replace hbV : Below wa.heap.size wa V28 := below_any hbV hb9
       refine hK.out _ _ (HSH.out V28 hbV) ?_
       clear hK hb9
       have hSS := HSH.out V28 hbV
       refine tx 4 10 hSS ?_; simp only [ua,ub,uc,ud]
       refine tx 5 15 hSS ?_; simp only [ua,ub,uc,ud]
       refine tx 6 16 hSS ?_; simp only [ua,ub,uc,ud]
       refine tx 7 17 hSS ?_; simp only [ua,ub,uc,ud]
       clear hSS
       refine AnyBut.step (i := 8) (by kernel_rfl) rfl (fun K hK => ?_)
       go_simp
       obtain ⟨V29, hV29⟩ := exa (V28.alloc (.cells #[.slice none 0 0, .int .i64 0] 29))
       have hb9 : Below V28.heap.size V28 V29 := by rw [hV29]; exact (Below.refl _ _).alloc (Nat.le_refl _) _
       have B5 : Box V29 V28.heap.size 29 #[.slice none 0 0, .int .i64 0] := by rw [hV29]; exact Box.new _ _ _
       obtain ⟨b5, hb5⟩ := exa (V28.heap.size)
       have hb5' : wa.heap.size ≤ b5 := by rw [hb5]; exact hbV.size
       rw [← hb5] at B5 ⊢
       rw [← hV29]
       clear hV29 hb5
       replace B6 := B6.below hb9 B6.lt
       replace HO := ndsN.below HO hb9
       replace HL := ndsN.obelow HL hb9
       replace hbV : Below wa.heap.size wa V29 := below_any hbV hb9
       refine hK.out _ _ (HSH.out V29 hbV) ?_
       clear hK hb9
       obtain ⟨d0, d1, e0, e1⟩ := B5.two
       obtain ⟨f0, f1, f2, f3, g0, g1, g2, g3⟩ := box_four B6
       have hne := box_ne B5 B6 (by decide)
       refine AnyBut.step (i := 10) (by kernel_rfl) rfl (fun K hK => ?_)
       go_simp
       have C5 : Box ((V29.setCell ⟨b5, 0, none⟩ (.slice a3 n3 c3)).setCell ⟨b5, 1, none⟩ (.int .i64 x3)) b5 29 #[.slice a3 n3 c3, .int .i64 x3] := (B5.set 0 _).set 1 _
       have C6 := (B6.other (i := 0) (x := .slice a3 n3 c3) hne.symm).other (i := 1) (x := .int .i64 x3) hne.symm
       have CO : ndsN.owns wa.heap.size ((V29.setCell ⟨b5, 0, none⟩ (.slice a3 n3 c3)).setCell ⟨b5, 1, none⟩ (.int .i64 x3)) [.slice a3 n3 c3] l3 := ndsN.ogrown (ndsN.ogrown HL (grown_set _ _ _ _) (B5.clear (by decide))) (grown_set _ _ _ _) ((B5.set 0 _).clear (by decide))
       have hbW : Below wa.heap.size wa ((V29.setCell ⟨b5, 0, none⟩ (.slice a3 n3 c3)).setCell ⟨b5, 1, none⟩ (.int .i64 x3)) := below_set2 hbV hb5' _ _
       obtain ⟨Z, hZ⟩ := exa ((V29.setCell ⟨b5, 0, none⟩ (.slice a3 n3 c3)).setCell ⟨b5, 1, none⟩ (.int .i64 x3))
       rw [← hZ] at C5 C6 CO hbW ⊢
       refine hK.out _ _ (HSH.out Z hbW) ?_
       clear hK hZ d0 d1 e0 e1 f0 f1 f2 f3 g0 g1 g2 g3
       obtain ⟨f0, f1, f2, f3, g0, g1, g2, g3⟩ := box_four C6
       refine AnyBut.step (i := 11) (by kernel_rfl) rfl (fun K hK => ?_)
       go_simp
       refine hK.out _ _ (HSH.out _ (below_set4 hbW hb6' _ _ _ _)) ?_
       clear hK
       have D5 := (((C5.other (i := 0) (x := .int .i64 k3) hne).other (i := 1) (x := .int .i64 z3) hne).other (i := 2) (x := .slice xx D3.length xc) hne).other (i := 3) (x := .slice yy O3.length yc) hne
       have D6 : Box ((((Z.setCell ⟨b6, 0, none⟩ (.int .i64 k3)).setCell ⟨b6, 1, none⟩ (.int .i64 z3)).setCell ⟨b6, 2, none⟩ (.slice xx D3.length xc)).setCell ⟨b6, 3, none⟩ (.slice yy O3.length yc)) b6 59 #[.int .i64 k3, .int .i64 z3, .slice xx D3.length xc, .slice yy O3.length yc] := (((C6.set 0 _).set 1 _).set 2 _).set 3 _
       have DO := own_set4 ndsN (t := 59) (by decide) CO C6 (.int .i64 k3) (.int .i64 z3) (.slice xx D3.length xc) (.slice yy O3.length yc)
       have hbD := below_set4 hbW hb6' (.int .i64 k3) (.int .i64 z3) (.slice xx D3.length xc) (.slice yy O3.length yc)
       refine AnyBut.step (i := 12) (by kernel_rfl) rfl (fun K hK => ?_)
       go_simp
       refine hK.out _ _ (HSH.out _ hbD) ?_
       clear hK
       refine AnyBut.done (by kernel_rfl) ?_
       refine hMt _ _ (Go.Met.intro (hJ _ _ ?_))
       (repeat (refine Exists.intro ?_ ?_; rotate_left 1))
       refine ⟨?rel, ?fr⟩
       case fr => rfl
       case rel => exact ⟨b5, b6, e3, rfl, rfl, rfl, a3, n3, c3, x3, l3, k3, z3, xx, yy, xc, yc, D3, O3, hbD, D5, D6, HN3.out.1, DO, HN3.out.2⟩
     · go_simp
       obtain ⟨V30, hV30⟩ := exa (V27.alloc (.cells #[.slice none 0 0, .int .i64 0] 29))
       have hb9 : Below V27.heap.size V27 V30 := by rw [hV30]; exact (Below.refl _ _).alloc (Nat.le_refl _) _
       have B5 : Box V30 V27.heap.size 29 #[.slice none 0 0, .int .i64 0] := by rw [hV30]; exact Box.new _ _ _
       obtain ⟨b5, hb5⟩ := exa (V27.heap.size)
       have hb5' : wa.heap.size ≤ b5 := by rw [hb5]; exact hbV.size
       rw [← hb5] at B5 ⊢
       rw [← hV30]
       clear hV30 hb5
       replace B6 := B6.below hb9 B6.lt
       replace HO := ndsN.below HO hb9
       replace hbV : Below wa.heap.size wa V30 := below_any hbV hb9
       refine hK.out _ _ (HSH.out V30 hbV) ?_
       clear hK hb9
       refine AnyBut.step (i := 3) (by kernel_rfl) rfl (fun K hK => ?_)
       go_simp
       refine Calls.mono (HCPH.out V30 a1 c1 hbV HO) ?_
       rintro e9 V31 ⟨⟨a3, n3, c3, x3, l3, k3, z3, xx, yy, xc, yc, D3, O3, e3, rfl, hn3, ho3, -, -, hT3⟩, hb9⟩
       dsimp only
       have HL : ndsN.owns wa.heap.size V31 [.slice a3 n3 c3] l3 := ndsN.oweaken ho3 hbV.size
       have HN3 : Hid (n3 = l3.length ∧ ApT l nx k p t off m d (l3, x3) (k3, z3, D3, O3) e3) := ⟨hn3, hT3⟩
       clear ho3 hn3 hT3
       replace B6 := B6.below hb9 B6.lt
       replace HO := ndsN.below HO hb9
       replace B5 := B5.below hb9 B5.lt
       replace hbV : Below wa.heap.size wa V31 := below_any hbV hb9
       refine hK.out _ _ (HSH.out V31 hbV) ?_
       clear hK hb9
       have hSS := HSH.out V31 hbV
       refine tx 4 10 hSS ?_; simp only [ua,ub,uc,ud]
       refine tx 5 15 hSS ?_; simp only [ua,ub,uc,ud]
       refine tx 6 16 hSS ?_; simp only [ua,ub,uc,ud]
       refine tx 7 17 hSS ?_; simp only [ua,ub,uc,ud]
       clear hSS
       obtain ⟨d0, d1, e0, e1⟩ := B5.two
       obtain ⟨f0, f1, f2, f3, g0, g1, g2, g3⟩ := box_four B6
       have hne := box_ne B5 B6 (by decide)
       refine AnyBut.step (i := 10) (by kernel_rfl) rfl (fun K hK => ?_)
       go_simp
       have C5 : Box ((V31.setCell ⟨b5, 0, none⟩ (.slice a3 n3 c3)).setCell ⟨b5, 1, none⟩ (.int .i64 x3)) b5 29 #[.slice a3 n3 c3, .int .i64 x3] := (B5.set 0 _).set 1 _
       have C6 := (B6.other (i := 0) (x := .slice a3 n3 c3) hne.symm).other (i := 1) (x := .int .i64 x3) hne.symm
       have CO : ndsN.owns wa.heap.size ((V31.setCell ⟨b5, 0, none⟩ (.slice a3 n3 c3)).setCell ⟨b5, 1, none⟩ (.int .i64 x3)) [.slice a3 n3 c3] l3 := ndsN.ogrown (ndsN.ogrown HL (grown_set _ _ _ _) (B5.clear (by decide))) (grown_set _ _ _ _) ((B5.set 0 _).clear (by decide))
       have hbW : Below wa.heap.size wa ((V31.setCell ⟨b5, 0, none⟩ (.slice a3 n3 c3)).setCell ⟨b5, 1, none⟩ (.int .i64 x3)) := below_set2 hbV hb5' _ _
       obtain ⟨Z, hZ⟩ := exa ((V31.setCell ⟨b5, 0, none⟩ (.slice a3 n3 c3)).setCell ⟨b5, 1, none⟩ (.int .i64 x3))
       rw [← hZ] at C5 C6 CO hbW ⊢
       refine hK.out _ _ (HSH.out Z hbW) ?_
       clear hK hZ d0 d1 e0 e1 f0 f1 f2 f3 g0 g1 g2 g3
       obtain ⟨f0, f1, f2, f3, g0, g1, g2, g3⟩ := box_four C6
       refine AnyBut.step (i := 11) (by kernel_rfl) rfl (fun K hK => ?_)
       go_simp
       refine hK.out _ _ (HSH.out _ (below_set4 hbW hb6' _ _ _ _)) ?_
       clear hK
       have D5 := (((C5.other (i := 0) (x := .int .i64 k3) hne).other (i := 1) (x := .int .i64 z3) hne).other (i := 2) (x := .slice xx D3.length xc) hne).other (i := 3) (x := .slice yy O3.length yc) hne
       have D6 : Box ((((Z.setCell ⟨b6, 0, none⟩ (.int .i64 k3)).setCell ⟨b6, 1, none⟩ (.int .i64 z3)).setCell ⟨b6, 2, none⟩ (.slice xx D3.length xc)).setCell ⟨b6, 3, none⟩ (.slice yy O3.length yc)) b6 59 #[.int .i64 k3, .int .i64 z3, .slice xx D3.length xc, .slice yy O3.length yc] := (((C6.set 0 _).set 1 _).set 2 _).set 3 _
       have DO := own_set4 ndsN (t := 59) (by decide) CO C6 (.int .i64 k3) (.int .i64 z3) (.slice xx D3.length xc) (.slice yy O3.length yc)
       have hbD := below_set4 hbW hb6' (.int .i64 k3) (.int .i64 z3) (.slice xx D3.length xc) (.slice yy O3.length yc)
       refine AnyBut.step (i := 12) (by kernel_rfl) rfl (fun K hK => ?_)
       go_simp
       refine hK.out _ _ (HSH.out _ hbD) ?_
       clear hK
       refine AnyBut.done (by kernel_rfl) ?_
       refine hMt _ _ (Go.Met.intro (hJ _ _ ?_))
       (repeat (refine Exists.intro ?_ ?_; rotate_left 1))
       refine ⟨?rel, ?fr⟩
       case fr => rfl
       case rel => exact ⟨b5, b6, e3, rfl, rfl, rfl, a3, n3, c3, x3, l3, k3, z3, xx, yy, xc, yc, D3, O3, hbD, D5, D6, HN3.out.1, DO, HN3.out.2⟩
   · go_simp
     obtain ⟨V32, hV32⟩ := exa (V26.alloc (.cells #[.slice none 0 0, .int .i64 0] 29))
     have hb9 : Below V26.heap.size V26 V32 := by rw [hV32]; exact (Below.refl _ _).alloc (Nat.le_refl _) _
     have B5 : Box V32 V26.heap.size 29 #[.slice none 0 0, .int .i64 0] := by rw [hV32]; exact Box.new _ _ _
     obtain ⟨b5, hb5⟩ := exa (V26.heap.size)
     have hb5' : wa.heap.size ≤ b5 := by rw [hb5]; exact hbV.size
     rw [← hb5] at B5 ⊢
     rw [← hV32]
     clear hV32 hb5
     replace B6 := B6.below hb9 B6.lt
     replace hbV : Below wa.heap.size wa V32 := below_any hbV hb9
     refine hK.out _ _ (HSH.out V32 hbV) ?_
     clear hK hb9
     refine AnyBut.step (i := 1) (by kernel_rfl) rfl (fun K hK => ?_)
     go_simp
     refine Calls.mono (HCOH.out V32 hbV) ?_
     rintro e9 V33 ⟨⟨a1, c1, rfl, ho1⟩, hb9⟩
     dsimp only
     have HO : ndsN.lies wa.heap.size V33 [.slice a1 n c1] l := ndsN.weaken (ndsN.olies ho1) hbV.size
     clear ho1
     replace B6 := B6.below hb9 B6.lt
     replace B5 := B5.below hb9 B5.lt
     replace hbV : Below wa.heap.size wa V33 := below_any hbV hb9
     refine hK.out _ _ (HSH.out V33 hbV) ?_
     clear hK hb9
     refine AnyBut.step (i := 3) (by kernel_rfl) rfl (fun K hK => ?_)
     go_simp
     refine Calls.mono (HCPH.out V33 a1 c1 hbV HO) ?_
     rintro e9 V34 ⟨⟨a3, n3, c3, x3, l3, k3, z3, xx, yy, xc, yc, D3, O3, e3, rfl, hn3, ho3, -, -, hT3⟩, hb9⟩
     dsimp only
     have HL : ndsN.owns wa.heap.size V34 [.slice a3 n3 c3] l3 := ndsN.oweaken ho3 hbV.size
     have HN3 : Hid (n3 = l3.length ∧ ApT l nx k p t off m d (l3, x3) (k3, z3, D3, O3) e3) := ⟨hn3, hT3⟩
     clear ho3 hn3 hT3
     replace B6 := B6.below hb9 B6.lt
     replace B5 := B5.below hb9 B5.lt
     replace HO := ndsN.below HO hb9
     replace hbV : Below wa.heap.size wa V34 := below_any hbV hb9
     refine hK.out _ _ (HSH.out V34 hbV) ?_
     clear hK hb9
     have hSS := HSH.out V34 hbV
     refine tx 4 10 hSS ?_; simp only [ua,ub,uc,ud]
     refine tx 5 15 hSS ?_; simp only [ua,ub,uc,ud]
     refine tx 6 16 hSS ?_; simp only [ua,ub,uc,ud]
     refine tx 7 17 hSS ?_; simp only [ua,ub,uc,ud]
     clear hSS
     obtain ⟨d0, d1, e0, e1⟩ := B5.two
     obtain ⟨f0, f1, f2, f3, g0, g1, g2, g3⟩ := box_four B6
     have hne := box_ne B5 B6 (by decide)
     refine AnyBut.step (i := 10) (by kernel_rfl) rfl (fun K hK => ?_)
     go_simp
     have C5 : Box ((V34.setCell ⟨b5, 0, none⟩ (.slice a3 n3 c3)).setCell ⟨b5, 1, none⟩ (.int .i64 x3)) b5 29 #[.slice a3 n3 c3, .int .i64 x3] := (B5.set 0 _).set 1 _
     have C6 := (B6.other (i := 0) (x := .slice a3 n3 c3) hne.symm).other (i := 1) (x := .int .i64 x3) hne.symm
     have CO : ndsN.owns wa.heap.size ((V34.setCell ⟨b5, 0, none⟩ (.slice a3 n3 c3)).setCell ⟨b5, 1, none⟩ (.int .i64 x3)) [.slice a3 n3 c3] l3 := ndsN.ogrown (ndsN.ogrown HL (grown_set _ _ _ _) (B5.clear (by decide))) (grown_set _ _ _ _) ((B5.set 0 _).clear (by decide))
     have hbW : Below wa.heap.size wa ((V34.setCell ⟨b5, 0, none⟩ (.slice a3 n3 c3)).setCell ⟨b5, 1, none⟩ (.int .i64 x3)) := below_set2 hbV hb5' _ _
     obtain ⟨Z, hZ⟩ := exa ((V34.setCell ⟨b5, 0, none⟩ (.slice a3 n3 c3)).setCell ⟨b5, 1, none⟩ (.int .i64 x3))
     rw [← hZ] at C5 C6 CO hbW ⊢
     refine hK.out _ _ (HSH.out Z hbW) ?_
     clear hK hZ d0 d1 e0 e1 f0 f1 f2 f3 g0 g1 g2 g3
     obtain ⟨f0, f1, f2, f3, g0, g1, g2, g3⟩ := box_four C6
     refine AnyBut.step (i := 11) (by kernel_rfl) rfl (fun K hK => ?_)
     go_simp
     refine hK.out _ _ (HSH.out _ (below_set4 hbW hb6' _ _ _ _)) ?_
     clear hK
     have D5 := (((C5.other (i := 0) (x := .int .i64 k3) hne).other (i := 1) (x := .int .i64 z3) hne).other (i := 2) (x := .slice xx D3.length xc) hne).other (i := 3) (x := .slice yy O3.length yc) hne
     have D6 : Box ((((Z.setCell ⟨b6, 0, none⟩ (.int .i64 k3)).setCell ⟨b6, 1, none⟩ (.int .i64 z3)).setCell ⟨b6, 2, none⟩ (.slice xx D3.length xc)).setCell ⟨b6, 3, none⟩ (.slice yy O3.length yc)) b6 59 #[.int .i64 k3, .int .i64 z3, .slice xx D3.length xc, .slice yy O3.length yc] := (((C6.set 0 _).set 1 _).set 2 _).set 3 _
     have DO := own_set4 ndsN (t := 59) (by decide) CO C6 (.int .i64 k3) (.int .i64 z3) (.slice xx D3.length xc) (.slice yy O3.length yc)
     have hbD := below_set4 hbW hb6' (.int .i64 k3) (.int .i64 z3) (.slice xx D3.length xc) (.slice yy O3.length yc)
     refine AnyBut.step (i := 12) (by kernel_rfl) rfl (fun K hK => ?_)
     go_simp
     refine hK.out _ _ (HSH.out _ hbD) ?_
     clear hK
     refine AnyBut.done (by kernel_rfl) ?_
     refine hMt _ _ (Go.Met.intro (hJ _ _ ?_))
     (repeat (refine Exists.intro ?_ ?_; rotate_left 1))
     refine ⟨?rel, ?fr⟩
     case fr => rfl
     case rel => exact ⟨b5, b6, e3, rfl, rfl, rfl, a3, n3, c3, x3, l3, k3, z3, xx, yy, xc, yc, D3, O3, hbD, D5, D6, HN3.out.1, DO, HN3.out.2⟩)
 case rest => (
 obtain ⟨b5, b6, e3, rfl, rfl, rfl, HR⟩ := hcut
 obtain ⟨wx, hwx⟩ := exa (wc)
 rw [← hwx] at HR ⊢
 clear hwx
 obtain ⟨a3, n3, c3, x3, l3, k3, z3, xx, yy, xc, yc, D3, O3, hbx, hB5, hB6, hn3, hL, hT⟩ := HR.out
 have HZ : Hid (Below w.heap.size w wx ∧ Below wa.heap.size wa wx ∧ n3 = l3.length ∧ ndsN.owns wa.heap.size wx [.slice a3 n3 c3] l3) := ⟨below_any HX.out.1 hbx, hbx, hn3, hL⟩
 have hS := HSH.out wx hbx
 obtain ⟨s0, s1, s2, -, -, -, -, -⟩ := hS
 obtain ⟨d0, d1, -, -⟩ := hB5.two
 have f0 := hB6.cell 0 rfl
 have hl := run_len Tryz.underlying27 a3 n3 c3
 have HT := told hT
 clear HR hbx hn3 hL hT hB5 hB6 HSH HCOH HCPH
 simp only at HT
 rcases HT with ⟨he, hl3, rfl⟩ | ⟨rfl, hk, rfl⟩ | ⟨rfl, hk, heq⟩
 · obtain rfl : n3 = 0 := by rw [HZ.out.2.2.1, hl3]; rfl
   clear hl3
   go_wp2_with (go_at_call 21; refine (num_any _ _).mono ?_; rintro e9 wn ⟨rfl, rfl⟩)
   go_ret
   exact ⟨by simp, HZ.out.1⟩
 · go_wp2_with (go_at_call 21; refine (num_any _ _).mono ?_; rintro e9 wn ⟨rfl, rfl⟩)
   go_ret
   exact ⟨by simp, HZ.out.1⟩
 · obtain ⟨rfl, rfl⟩ := Prod.mk.inj heq
   have HC := alike_f (nx := x3) HZ.out.2.2.1 H0.out.2.1 (ndsN.olies HZ.out.2.2.2) (ndsR.below H0.out.1 HZ.out.1)
   clear heq
   by_cases hk9 : k < 9
   · have hk3 := hk hk9
     clear hk
     go_wp2_with (go_at_call 21; refine (num_any _ _).mono ?_; rintro e9 wn ⟨rfl, rfl⟩)
     refine HC.mono ?_
     rintro e9 w10 ⟨rfl, hb10⟩
     have HQ : Hid (Below w.heap.size w w10) := below_any HZ.out.1 hb10
     clear hb10 HC
     go_wp2
     go_ret
     exact ⟨by simp, HQ.out⟩
   · clear hk
     go_wp2_with (go_at_call 21; refine (num_any _ _).mono ?_; rintro e9 wn ⟨rfl, rfl⟩)
     refine HC.mono ?_
     rintro e9 w10 ⟨rfl, hb10⟩
     have HQ : Hid (Below w.heap.size w w10) := below_any HZ.out.1 hb10
     clear hb10 HC
     go_wp2
     go_ret
     exact ⟨by simp, HQ.out⟩)
end Go.Proofs.YtopcefhncildnaaGreatDoor.opsLook
