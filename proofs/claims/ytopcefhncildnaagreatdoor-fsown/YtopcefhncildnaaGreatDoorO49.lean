/-
  FsOwn, proved: for every state of the document, every path and all octets (as great as the form reads them): the call returns true, and changes nothing that was in memory; the one listed variable (the handle of the type of errors) starts as the program's text lays it, which the card ties.
-/
import Derived.Test.YtopcefhncildnaaGreatDoorO48
import Derived.Deep.DeepHandedRow
import Derived.ChangeMaps5
set_option maxRecDepth 100000
set_option maxHeartbeats 32000000
namespace Go.Proofs.YtopcefhncildnaaGreatDoor.fsOwn
open Go.ChangeShapes Go.WideShapes Go.ChangeAt Go.RowKit Go.ChangeMaps
open P (serr sval ArgT OwnT)
set_option linter.unusedVariables false
theorem or_keep {w V wr : World} {base N T n B1 : Nat} {v1 v : Value} {q : Int} {l : List Nd} (h : SPF w V base N T v1 n q wr) (hb : Below w.heap.size w V) (hN : N ≤ B1) (hO : OR w.heap.size B1 V v l) : ndsR.lies 0 wr [v] l := by
 refine hO.lies fun k _ hk h3 => ?_
 rcases h3 with h3 | h3
 · rw [h.bel.block k h3, hb.block k h3]
 · exact h.same k (by omega) hk
theorem walk (us : List Value) (s : St) (p : ByteArray) (da : Option Addr) (dn dc : Nat) (d : List Int) (w : World) (hA : stR.lies 0 w us s) (hF : FitsS s.1) (hp : p.size ≤ maxLen) (hD : bytesS.lies 0 w [.slice da dn dc] d) (hDF : bytesS.fits d) (hg : Glob w) :
   Calls Tryz.prog 3 #[.agg us.toArray, .string p, .slice da dn dc] w fun e w' => e = .returned (.bool true) ∧ Below w.heap.size w w' := by
 obtain ⟨a, c, rfl, hs, hI, hm⟩ := st_viewR hA
 obtain ⟨l, nx⟩ := s
 have hDA : Arg 0 w (.slice da dn dc) d := hD
 obtain ⟨da', dc', hde, -, hdm, -⟩ := hDA.shape
 obtain ⟨rfl, rfl, rfl⟩ := Value.slice.inj hde
 simp only at hs hI hm hF ⊢
 obtain ⟨n, hn⟩ := exa (l.length)
 obtain ⟨dl, hdl⟩ := exa (d.length)
 rw [← hdl] at hDA ⊢
 have ho : I64 0 := ⟨by omega, by omega⟩
 have HRD : Hid (∀ V, Below w.heap.size w V → (Calls Tryz.prog 13 #[.agg #[.slice a n c, .int .i64 nx], .string p, .int .i64 0, .slice da dl dc] V (FlatRW w.heap.size dl (Told (l, nx) [p] (rwE (l, nx) (sval p) (F.wrE (fi (tgt (l, nx) (sval p))) 0 d)) (filN (l, nx) (tgt (l, nx) (sval p)) (F.wrF (fi (tgt (l, nx) (sval p))) 0 d))) V)) ∧
     (Calls Tryz.prog 15 #[.agg #[.slice a n c, .int .i64 nx], .string p] V (FlatR w.heap.size (Told (l, nx) [p] (mkE (l, nx) (sval p)) (mkN (l, nx) (hold (l, nx) (sval p)) (lst (sval p)) false)) V))) := fun V hV => by
   rw [hn]
   exact ⟨rWrite_any 0 w a c (l, nx) p 0 ho da dl dc d 0 V hV hs hF (hDA.below hV), rCreate_any 0 w a c (l, nx) p V hV hs hF⟩
 rw [← hn] at hs hm ⊢
 unfold maxLen at hm
 have HG : Hid (∀ V, Below w.heap.size w V → Glob V) := fun V hV => hg.below hV hg.lt
 have H0 : Hid (ndsR.lies 0 w [.slice a n c] l ∧ n = l.length ∧ FitsS l ∧ p.size ≤ maxLen ∧ Arg 0 w (.slice da dl dc) d ∧ dl = d.length ∧ I64 0 ∧ bytesS.fits d) := ⟨hs, hn, hF, hp, hDA, hdl, ho, hDF⟩
 obtain ⟨V0, hV0⟩ := exa (w.alloc (.cells #[.slice a n c, .int .i64 nx] 24))
 have HB0 : Hid (Below w.heap.size w V0 ∧ Box V0 w.heap.size 24 #[.slice a n c, .int .i64 nx]) := ⟨by rw [hV0]; exact (Below.refl _ w).alloc (Nat.le_refl _) _, by rw [hV0]; exact Box.new _ _ _⟩
 have HNM : Hid (n ≤ 9223372036854775807) := hm
 clear hA hs hn hF hp hI hg ho hD hDA hde hdl hdm hDF hm
 have HCa := alive_any V0 (HG.out _ HB0.out.1)
 go_enter Tryz.func3, Tryz.ntmps3
 go_wp2_with fail
 rw [← hV0]
 clear hV0
 refine HCa.mono ?_
 rintro e wa ⟨rfl, hba⟩
 have HLa : Hid (Below V0.heap.size V0 wa) := hba
 clear hba HCa
 have HC1 := of_f (nx := nx) H0.out.2.1 (ndsR.below H0.out.1 (below_any HB0.out.1 HLa.out)) H0.out.2.2.1
 obtain ⟨b0c0, b0c1, -, -⟩ := ((HB0.out.2).below HLa.out (HB0.out.2).lt).two
 go_wp2_with fail
 clear b0c0 b0c1
 refine HC1.mono ?_
 rintro e w1 ⟨⟨a1, c1, rfl, ho1⟩, hb1⟩
 have HL1 : Hid (Below wa.heap.size wa w1 ∧ ndsN.owns wa.heap.size w1 [.slice a1 n c1] l) := ⟨hb1, ho1⟩
 clear hb1 ho1 HC1
 have HC2 := F.copy_any 0 (.slice da dl dc) d w1 (H0.out.2.2.2.2.1.below (below_any (below_any HB0.out.1 HLa.out) HL1.out.1)) (by have h9 : d.length * Tryz.prog.bytesOf 5 ≤ 140737488351232 := H0.out.2.2.2.2.2.2.2; have b5 : Tryz.prog.bytesOf 5 = 1 := (by kernel_rfl); rw [b5] at h9; omega)
 go_wp2_with fail
 refine HC2.mono ?_
 rintro e w2 ⟨⟨v2, rfl, ho2⟩, hb2⟩
 obtain ⟨a2, c2, rfl⟩ := ho2.shape
 have hdl2 := H0.out.2.2.2.2.2.1
 rw [← hdl2] at ho2 ⊢
 clear hdl2
 obtain ⟨V2, hV2⟩ := exa (w2.alloc (.cells #[.slice a1 n c1, .int .i64 nx] 29))
 have hbV2 : Below w2.heap.size w2 V2 := by rw [hV2]; exact (Below.refl _ w2).alloc (Nat.le_refl _) _
 have HB2 : Hid (Below w1.heap.size w1 V2 ∧ Box V2 w2.heap.size 29 #[.slice a1 n c1, .int .i64 nx] ∧ ndsN.owns wa.heap.size V2 [.slice a1 n c1] l ∧ Own1 w1.heap.size V2 (.slice a2 dl c2) d) := ⟨below_any hb2 hbV2, by rw [hV2]; exact Box.new _ _ _, ndsN.obelow (ndsN.obelow HL1.out.2 hb2) hbV2, bytesS.obelow ho2 hbV2⟩
 clear hb2 hbV2 ho2 HC2
 obtain ⟨bs, hbs⟩ := exa (wa.heap.size)
 obtain ⟨N, hN⟩ := exa (V2.heap.size)
 have HN : Hid (w.heap.size ≤ bs ∧ N = V2.heap.size ∧ w2.heap.size < N) := ⟨by rw [hbs]; exact ((below_any HB0.out.1 HLa.out)).size, hN, by rw [hN]; exact HB2.out.2.1.lt⟩
 have RS : Hid (RawN bs N V2 (.slice a1 n c1) n ∧ Eight bs V2 (.slice a2 dl c2) dl ∧ ∀ g, (Value.slice a2 dl c2).ownBlock = some g → g < N) := by (
 have h1 := RawN.of HB2.out.2.2.1
 have h2 := HB2.out.2.2.2
 rw [← H0.out.2.1, ← hbs, ← hN] at h1
 refine ⟨h1, ⟨d, H0.out.2.2.2.2.2.1.symm, ?_⟩, fun g hg => by rw [hN]; exact (h2.row.lt g hg).2⟩
 have h3 := own_weaken h2.row (n1 := bs) (by rw [hbs]; exact HL1.out.1.size)
 rw [← H0.out.2.2.2.2.2.1] at h3
 exact h3)
 clear hbs hN
 have HC3 := write_f (nx := nx) H0.out.2.1 H0.out.2.2.2.1 H0.out.2.2.2.2.2.2.1 H0.out.2.2.2.2.2.1 (HB2.out.2.2.2.arg.below (Below.refl _ V2)) (ndsN.below (ndsN.olies HB2.out.2.2.1) (Below.refl _ V2)) (HG.out _ (below_any (below_any (below_any HB0.out.1 HLa.out) HL1.out.1) HB2.out.1))
 obtain ⟨b2c0, b2c1, -, -⟩ := HB2.out.2.1.two
 rw [hV2] at b2c0 b2c1
 go_wp2_with fail
 rw [← hV2]
 clear b2c0 b2c1 hV2
 refine HC3.mono ?_
 rintro e w3 ⟨⟨k3, m3, l3, x3, n3, a3, c3, rfl, hn3, hl3, ht3, hm3⟩, hb3⟩
 obtain ⟨V3, hV3⟩ := exa (w3.alloc (.cells #[.slice a3 n3 c3, .int .i64 x3] 29))
 have hbV3 : Below w3.heap.size w3 V3 := by rw [hV3]; exact (Below.refl _ w3).alloc (Nat.le_refl _) _
 have HB3 : Hid (Below V2.heap.size V2 V3 ∧ Box V3 w3.heap.size 29 #[.slice a3 n3 c3, .int .i64 x3] ∧ ndsN.lies V2.heap.size V3 [.slice a3 n3 c3] l3 ∧ n3 = l3.length ∧ Told (l, nx) [p] (rwE (l, nx) (sval p) (F.wrE (fi (tgt (l, nx) (sval p))) 0 d)) (filN (l, nx) (tgt (l, nx) (sval p)) (F.wrF (fi (tgt (l, nx) (sval p))) 0 d)) k3 (l3, x3) ∧ V2.heap.size ≤ w3.heap.size) := ⟨below_any hb3 hbV3, by rw [hV3]; exact Box.new _ _ _, ndsN.below hl3 hbV3, hn3, ht3, hb3.size⟩
 clear hb3 hbV3 hl3 hn3 ht3 hm3 HC3
 have HC4 := (HRD.out V3 (below_any (below_any (below_any (below_any HB0.out.1 HLa.out) HL1.out.1) HB2.out.1) HB3.out.1)).1
 obtain ⟨b0c0, b0c1, -, -⟩ := ((HB0.out.2).below (below_any (below_any (below_any HLa.out HL1.out.1) HB2.out.1) HB3.out.1) (HB0.out.2).lt).two
 rw [hV3] at b0c0 b0c1
 go_wp2_with fail
 rw [← hV3]
 clear b0c0 b0c1 hV3
 refine HC4.mono ?_
 rintro e w4 ⟨⟨k4, m4, l4, x4, n4, a4, c4, rfl, hn4, hl4, ht4, hm4⟩, hb4⟩
 obtain ⟨rfl, heq4⟩ := HB3.out.2.2.2.2.1.one ht4
 obtain ⟨e1, e2⟩ := Prod.mk.inj heq4
 subst e1 e2
 obtain ⟨V4, hV4⟩ := exa (w4.alloc (.cells #[.slice a4 n4 c4, .int .i64 x3] 24))
 have hbV4 : Below w4.heap.size w4 V4 := by rw [hV4]; exact (Below.refl _ w4).alloc (Nat.le_refl _) _
 have HB4 : Hid (Below V3.heap.size V3 V4 ∧ Box V4 w4.heap.size 24 #[.slice a4 n4 c4, .int .i64 x3] ∧ OR w.heap.size V3.heap.size V4 (.slice a4 n4 c4) l3 ∧ n4 = l3.length ∧ V3.heap.size ≤ w4.heap.size) := ⟨below_any hb4 hbV4, by rw [hV4]; exact Box.new _ _ _, hl4.below hbV4, hn4, hb4.size⟩
 clear hb4 hbV4 hl4 hn4 ht4 hm4 HC4 heq4
 have HC5 := create_f (nx := nx) H0.out.2.1 H0.out.2.2.2.1 (ndsN.below (ndsN.olies HB2.out.2.2.1) (below_any HB3.out.1 HB4.out.1)) (HG.out _ (below_any (below_any (below_any (below_any (below_any HB0.out.1 HLa.out) HL1.out.1) HB2.out.1) HB3.out.1) HB4.out.1))
 obtain ⟨b2c0, b2c1, -, -⟩ := ((HB2.out.2.1).below (below_any HB3.out.1 HB4.out.1) (HB2.out.2.1).lt).two
 rw [hV4] at b2c0 b2c1
 go_wp2_with fail
 rw [← hV4]
 clear b2c0 b2c1 hV4
 refine HC5.mono ?_
 rintro e w5 ⟨⟨k5, l5, x5, n5, a5, c5, rfl, hn5, hl5, ht5⟩, hb5⟩
 obtain ⟨V5, hV5⟩ := exa (w5.alloc (.cells #[.slice a5 n5 c5, .int .i64 x5] 29))
 have hbV5 : Below w5.heap.size w5 V5 := by rw [hV5]; exact (Below.refl _ w5).alloc (Nat.le_refl _) _
 have HB5 : Hid (Below V4.heap.size V4 V5 ∧ Box V5 w5.heap.size 29 #[.slice a5 n5 c5, .int .i64 x5] ∧ ndsN.lies V4.heap.size V5 [.slice a5 n5 c5] l5 ∧ n5 = l5.length ∧ Told (l, nx) [p] (mkE (l, nx) (sval p)) (mkN (l, nx) (hold (l, nx) (sval p)) (lst (sval p)) false) k5 (l5, x5) ∧ V4.heap.size ≤ w5.heap.size) := ⟨below_any hb5 hbV5, by rw [hV5]; exact Box.new _ _ _, ndsN.below hl5 hbV5, hn5, ht5, hb5.size⟩
 clear hb5 hbV5 hl5 hn5 ht5 HC5
 have HC6 := (HRD.out V5 (below_any (below_any (below_any (below_any (below_any (below_any HB0.out.1 HLa.out) HL1.out.1) HB2.out.1) HB3.out.1) HB4.out.1) HB5.out.1)).2
 obtain ⟨b0c0, b0c1, -, -⟩ := ((HB0.out.2).below (below_any (below_any (below_any (below_any (below_any HLa.out HL1.out.1) HB2.out.1) HB3.out.1) HB4.out.1) HB5.out.1) (HB0.out.2).lt).two
 rw [hV5] at b0c0 b0c1
 go_wp2_with fail
 rw [← hV5]
 clear b0c0 b0c1 hV5
 refine HC6.mono ?_
 rintro e w6 ⟨⟨k6, l6, x6, n6, a6, c6, rfl, hn6, hl6, ht6⟩, hb6⟩
 obtain ⟨rfl, heq6⟩ := HB5.out.2.2.2.2.1.one ht6
 obtain ⟨e1, e2⟩ := Prod.mk.inj heq6
 subst e1 e2
 obtain ⟨V6, hV6⟩ := exa (w6.alloc (.cells #[.slice a6 n6 c6, .int .i64 x5] 24))
 have hbV6 : Below w6.heap.size w6 V6 := by rw [hV6]; exact (Below.refl _ w6).alloc (Nat.le_refl _) _
 have HB6 : Hid (Below V5.heap.size V5 V6 ∧ Box V6 w6.heap.size 24 #[.slice a6 n6 c6, .int .i64 x5] ∧ OR w.heap.size V5.heap.size V6 (.slice a6 n6 c6) l5 ∧ n6 = l5.length ∧ V5.heap.size ≤ w6.heap.size) := ⟨below_any hb6 hbV6, by rw [hV6]; exact Box.new _ _ _, hl6.below hbV6, hn6, hb6.size⟩
 clear hb6 hbV6 hl6 hn6 ht6 HC6 heq6
 have BV : Hid (Below w.heap.size w V6 ∧ Below V2.heap.size V2 V6) := ⟨(below_any (below_any (below_any (below_any (below_any (below_any (below_any HB0.out.1 HLa.out) HL1.out.1) HB2.out.1) HB3.out.1) HB4.out.1) HB5.out.1) HB6.out.1), (below_any (below_any (below_any HB3.out.1 HB4.out.1) HB5.out.1) HB6.out.1)⟩
 have A3 : Hid (Box V6 w3.heap.size 29 #[.slice a3 n3 c3, .int .i64 x3] ∧ ndsN.lies N V6 [.slice a3 n3 c3] l3 ∧ N ≤ w3.heap.size ∧ n3 = l3.length) := ⟨((HB3.out.2.1).below (below_any (below_any HB4.out.1 HB5.out.1) HB6.out.1) (HB3.out.2.1).lt), ndsN.weaken (ndsN.below HB3.out.2.2.1 (below_any (below_any HB4.out.1 HB5.out.1) HB6.out.1)) (by rw [HN.out.2.1]; exact Nat.le_refl _), (by rw [HN.out.2.1]; exact HB3.out.2.2.2.2.2), HB3.out.2.2.2.1⟩
 have A4 : Hid (Box V6 w4.heap.size 24 #[.slice a4 n4 c4, .int .i64 x3] ∧ OR w.heap.size V3.heap.size V6 (.slice a4 n4 c4) l3 ∧ N ≤ V3.heap.size ∧ N ≤ w4.heap.size ∧ n4 = l3.length) := ⟨((HB4.out.2.1).below (below_any HB5.out.1 HB6.out.1) (HB4.out.2.1).lt), HB4.out.2.2.1.below (below_any HB5.out.1 HB6.out.1), (by rw [HN.out.2.1]; exact (HB3.out.1).size), (by rw [HN.out.2.1]; exact Nat.le_trans (HB3.out.1).size HB4.out.2.2.2.2), HB4.out.2.2.2.1⟩
 have A5 : Hid (Box V6 w5.heap.size 29 #[.slice a5 n5 c5, .int .i64 x5] ∧ ndsN.lies N V6 [.slice a5 n5 c5] l5 ∧ N ≤ w5.heap.size ∧ n5 = l5.length) := ⟨((HB5.out.2.1).below HB6.out.1 (HB5.out.2.1).lt), ndsN.weaken (ndsN.below HB5.out.2.2.1 HB6.out.1) (by rw [HN.out.2.1]; exact ((below_any HB3.out.1 HB4.out.1)).size), (by rw [HN.out.2.1]; exact Nat.le_trans ((below_any HB3.out.1 HB4.out.1)).size HB5.out.2.2.2.2.2), HB5.out.2.2.2.1⟩
 have A6 : Hid (Box V6 w6.heap.size 24 #[.slice a6 n6 c6, .int .i64 x5] ∧ OR w.heap.size V5.heap.size V6 (.slice a6 n6 c6) l5 ∧ N ≤ V5.heap.size ∧ N ≤ w6.heap.size ∧ n6 = l5.length) := ⟨HB6.out.2.1, HB6.out.2.2.1, (by rw [HN.out.2.1]; exact ((below_any (below_any HB3.out.1 HB4.out.1) HB5.out.1)).size), (by rw [HN.out.2.1]; exact Nat.le_trans ((below_any (below_any HB3.out.1 HB4.out.1) HB5.out.1)).size HB6.out.2.2.2.2), HB6.out.2.2.2.1⟩
 have SP0 : Hid (SPF w V6 bs N w2.heap.size (.slice a1 n c1) n nx V6) := ⟨fun _ _ _ => rfl, Nat.le_refl _, BV.out.1, ((HB2.out.2.1).below (below_any (below_any (below_any HB3.out.1 HB4.out.1) HB5.out.1) HB6.out.1) (HB2.out.2.1).lt), RS.out.1.same (.of_below BV.out.2)⟩
 have HE8 : Hid (Eight bs V6 (.slice a2 dl c2) dl) := by obtain ⟨z, h1, h2⟩ := RS.out.2.1; exact ⟨z, h1, own_same h2 (.of_below BV.out.2)⟩
 have HDL : Hid (∀ g, (Value.slice a2 dl c2).ownBlock = some g → g < N) := RS.out.2.2
 go_upto_region 8 with fail
 rw [← hV6]
 clear hV6
 have HC := spoil_eight bs (.slice a2 dl c2) dl V6 HE8.out
 go_wp2_with fail
 refine HC.mono ?_
 rintro e9 w9 ⟨rfl, hg9, hE9⟩
 have SP : Hid (SPF w V6 bs N w2.heap.size (.slice a1 n c1) n nx w9) := SP0.out.step HN.out.1 HE8.out HDL.out hg9 hE9
 clear HC hg9 hE9 HE8 HDL SP0 RS HB0 HB2 HB3 HB4 HB5 HB6 HL1 HLa HG HRD H0
 have hl1 := run_len Tryz.underlying27 a1 n c1
 have hn1 : n ≤ 9223372036854775807 := HNM.out
 go_wp2
 go_loopw [19] (fun i wr => ∃ k : Nat, k ≤ n ∧ i = .int .i64 k ∧ Hid (SPF w V6 bs N w2.heap.size (.slice a1 n c1) n nx wr)) (fun i _ => n - (intOf i).toNat)
 case atStart => exact ⟨0, Nat.zero_le _, rfl, SP.out⟩
 case round => (
 clear SP
 obtain ⟨k, hk, rfl, SP⟩ := hrel
 obtain ⟨x0, x1, -, -⟩ := SP.out.box.two
 by_cases hlt : k < n
 · obtain ⟨g, a9, m9, c9, b9, k9, d9, cs9, hix, hcs, hcs5, hE, hR, hm9, hk9, hB9⟩ := SP.out.nds.hold k hlt
   have hc9 := hB9.cell _ hcs
   have hki : (k : Int) < (n : Int) := by omega
   have hl9 := run_len Tryz.underlying42 a9 m9 c9
   have hl5 := run_len Tryz.underlying43 b9 k9 d9
   have HG : Hid (cs9[k * 6 + 3]? = some (.slice a9 m9 c9) ∧ cs9[k * 6 + 5]? = some (.slice b9 k9 d9)) := ⟨hcs, hcs5⟩
   unfold maxLen at hm9 hk9
   have S0 : Hid (SPF w V6 bs N w2.heap.size (.slice a1 n c1) n nx wr ∧ EntS bs N wr (.slice a9 m9 c9) m9 ∧ RawB bs N wr (.slice b9 k9 d9) k9 ∧ Box wr g 47 cs9) := ⟨SP.out, hE, hR, hB9⟩
   clear hcs hcs5 hE hR hB9 SP
   go_wp2
   clear x0 x1 hc9
   go_loopw [20] (fun i wr => ∃ j : Nat, j ≤ m9 ∧ i = .int .i64 j ∧ Hid (SPF w V6 bs N w2.heap.size (.slice a1 n c1) n nx wr ∧ EntS bs N wr (.slice a9 m9 c9) m9 ∧ RawB bs N wr (.slice b9 k9 d9) k9 ∧ Box wr g 47 cs9)) (fun i _ => m9 - (intOf i).toNat)
   case atStart => exact ⟨0, Nat.zero_le _, rfl, S0.out⟩
   case round => (
 clear S0
 obtain ⟨j, hj, rfl, SJ⟩ := hrel
 obtain ⟨x0, x1, -, -⟩ := SJ.out.1.box.two
 have hc9 := SJ.out.2.2.2.cell _ HG.out.1
 by_cases hjm : j < m9
 · obtain ⟨ge, qe, hixe, hce, hfe, hbg, hgN, hcl, hbx⟩ := SJ.out.2.1.at j hjm
   have hji : (j : Int) < (m9 : Int) := by omega
   have SJ2 : Hid (SPF w V6 bs N w2.heap.size (.slice a1 n c1) n nx (wr.setCell ⟨ge, j * 2 + 1, none⟩ (.int .i64 (-1))) ∧ EntS bs N (wr.setCell ⟨ge, j * 2 + 1, none⟩ (.int .i64 (-1))) (.slice a9 m9 c9) m9 ∧ RawB bs N (wr.setCell ⟨ge, j * 2 + 1, none⟩ (.int .i64 (-1))) (.slice b9 k9 d9) k9 ∧ Box (wr.setCell ⟨ge, j * 2 + 1, none⟩ (.int .i64 (-1))) g 47 cs9) := ⟨SJ.out.1.store HN.out.1 hbg hgN hcl hbx j _, SJ.out.2.1.set _ _ _, SJ.out.2.2.1.grown (grown_set _ _ _ _) (hcl _ (by decide)), SJ.out.2.2.2.grown (grown_set _ _ _ _) (hbx _ _ _ SJ.out.2.2.2 (by decide))⟩
   clear hcl hbx SJ
   go_wp2
   clear x0 x1 hc9 hixe hce hfe
   go_roundw
   case rel => exact ⟨j + 1, by omega, by go_num, SJ2.out⟩
   case measure => simp [intOf]; omega
 · obtain rfl : j = m9 := by omega
   have hc5 := SJ.out.2.2.2.cell _ HG.out.2
   go_wp2
   clear x0 x1 hc9 hc5
   go_loopw [21] (fun i wr => ∃ j : Nat, j ≤ k9 ∧ i = .int .i64 j ∧ Hid (SPF w V6 bs N w2.heap.size (.slice a1 n c1) n nx wr ∧ RawB bs N wr (.slice b9 k9 d9) k9 ∧ Box wr g 47 cs9)) (fun i _ => k9 - (intOf i).toNat)
   case atStart => exact ⟨0, Nat.zero_le _, rfl, SJ.out.1, SJ.out.2.2⟩
   case round => (
 clear SJ
 obtain ⟨i, hi, rfl, SJ⟩ := hrel
 obtain ⟨x0, x1, -, -⟩ := SJ.out.1.box.two
 have hc5 := SJ.out.2.2.cell _ HG.out.2
 by_cases hik : i < k9
 · obtain ⟨b8, o8, a8, m8, c8, hix8, hc8, hE8, hl8⟩ := SJ.out.2.1.at i hik
   have hji : (i : Int) < (k9 : Int) := by omega
   have HC := spoil_eight bs (.slice a8 m8 c8) m8 wr hE8
   have H8 : Hid (Eight bs wr (.slice a8 m8 c8) m8 ∧ ∀ g, (Value.slice a8 m8 c8).ownBlock = some g → g < N) := ⟨hE8, hl8⟩
   clear hE8 hl8
   go_wp2_with fail
   refine HC.mono ?_
   rintro e9 w9 ⟨rfl, hg9, hE9⟩
   have SJ2 : Hid (SPF w V6 bs N w2.heap.size (.slice a1 n c1) n nx w9 ∧ RawB bs N w9 (.slice b9 k9 d9) k9 ∧ Box w9 g 47 cs9) := ⟨SJ.out.1.step HN.out.1 H8.out.1 H8.out.2 hg9 hE9, SJ.out.2.1.spoilt H8.out.1 hg9 hE9, SJ.out.2.2.grown hg9 (H8.out.1.box SJ.out.2.2 (by decide))⟩
   clear HC hg9 hE9 x0 x1 hc5 hix8 hc8 SJ
   go_wp2
   go_roundw
   case rel => exact ⟨i + 1, by omega, by go_num, SJ2.out⟩
   case measure => simp [intOf]; omega
 · obtain rfl : i = k9 := by omega
   have SP2 : Hid (SPF w V6 bs N w2.heap.size (.slice a1 n c1) n nx wr) := SJ.out.1
   clear SJ
   go_wp2
   go_roundw
   case rel => exact ⟨k + 1, by omega, by go_num, SP2.out⟩
   case measure => simp [intOf]; omega))
 · obtain rfl : k = n := by omega
   obtain ⟨p0, p1, -, -⟩ := (SP.out.keep A3.out.1 A3.out.2.2.1).two
   obtain ⟨r0, r1, -, -⟩ := (SP.out.keep A4.out.1 A4.out.2.2.2.1).two
   have HC := alike_f (nx := x3) A3.out.2.2.2 A4.out.2.2.2.2 (ndsN.keep A3.out.2.1 SP.out.same) (or_keep SP.out BV.out.1 A4.out.2.2.1 A4.out.2.1)
   go_wp2_with (go_at_call 17; refine (num10_any _ _).mono ?_; rintro e9 wn ⟨rfl, rfl⟩)
   clear p0 p1 r0 r1 x0 x1
   refine HC.mono ?_
   rintro e9 w10 ⟨rfl, hb10⟩
   have B5 := SP.out.keep A5.out.1 A5.out.2.2.1
   have B6 := SP.out.keep A6.out.1 A6.out.2.2.2.1
   obtain ⟨p0, p1, -, -⟩ := (B5.below hb10 B5.lt).two
   obtain ⟨r0, r1, -, -⟩ := (B6.below hb10 B6.lt).two
   have HC2 := alike_f (nx := x5) A5.out.2.2.2 A6.out.2.2.2.2 (ndsN.below (ndsN.keep A5.out.2.1 SP.out.same) hb10) (ndsR.below (or_keep SP.out BV.out.1 A6.out.2.2.1 A6.out.2.1) hb10)
   have HBW : Hid (Below w.heap.size w w10) := below_any SP.out.bel hb10
   clear HC hb10 B5 B6
   go_wp2_with (go_at_call 17; refine (num10_any _ _).mono ?_; rintro e9 wn ⟨rfl, rfl⟩)
   clear p0 p1 r0 r1
   refine HC2.mono ?_
   rintro e9 w11 ⟨rfl, hb11⟩
   have HQ : Hid (Below w.heap.size w w11) := below_any HBW.out hb11
   clear HC2 hb11
   go_wp2
   go_ret
   exact ⟨by simp, HQ.out⟩)
end Go.Proofs.YtopcefhncildnaaGreatDoor.fsOwn
