/-
  The document's Rmdir: what is removed of every state.
  The document's Create, Mkdir, Unlink and Rmdir: what each tells of every state and path.
-/
import Derived.Test.YtkcnephbaffmbaaGreatDoorN47
set_option maxRecDepth 100000
set_option maxHeartbeats 16000000
namespace Go.Proofs.YtkcnephbaffmbaaGreatDoor
open Go.RowKit
open D (En ArgE OwnE Chk there fnd)
open P (ArgT OwnT serr sval)
theorem rremoved_t (n0 : Nat) (w0 : World) (a : Option Addr) (c : Nat) (s : St) (p : ByteArray) (w : World) (hb0 : Below w0.heap.size w0 w) (hA : ndsR.lies n0 w0 [.slice a s.1.length c] s.1) (hM : FitsS s.1) :
   Calls Tryz.prog 57 #[.agg #[.slice a s.1.length c, .int .i64 s.2], .string p, .bool true] w (TellsR w0.heap.size (Told s [p] (rmE s (sval p)) (dropN s (hold s (sval p)) (lst (sval p)) (tgt s (sval p)))) w) := by
 obtain ⟨T, hT⟩ : ∃ T : Int → St → Prop, T = Told s [p] (rmE s (sval p)) (dropN s (hold s (sval p)) (lst (sval p)) (tgt s (sval p))) := ⟨_, rfl⟩
 have HT : Hid (T = Told s [p] (rmE s (sval p)) (dropN s (hold s (sval p)) (lst (sval p)) (tgt s (sval p)))) := hT
 rw [← hT]
 clear hT
 obtain ⟨post, hpost⟩ : ∃ post : Ending → World → Prop, post = TellsR w0.heap.size T w := ⟨_, rfl⟩
 have HNo : Hid (∀ k w', T k ([], 0) → Below w.heap.size w w' → post (.returned (.tuple #[.agg #[.slice none 0 0, .int .i64 0], .int .i64 k])) w') := fun k w' h1 h2 => by rw [hpost]; exact ⟨⟨_, k, ([], 0), rfl, h1, OR.nil _ _ _⟩, h2⟩
 have HYes : Hid (∀ v l' nx' w', T 0 (l', nx') → OR w0.heap.size w.heap.size w' v l' → Below w.heap.size w w' → post (.returned (.tuple #[.agg #[v, .int .i64 nx'], .int .i64 0])) w') := fun v l' nx' w' h1 h2 h3 => by rw [hpost]; exact ⟨⟨v, 0, (l', nx'), rfl, h1, h2⟩, h3⟩
 rw [← hpost]
 clear hpost
 obtain ⟨W, hW⟩ := exa ((w.alloc (.cells #[.slice a s.1.length c, .int .i64 s.2] 24)).alloc (.cells #[.slice none 0 0, .int .i64 0] 24))
 have hb : Below w.heap.size w W := by rw [hW]; exact ((Below.refl _ w).alloc (Nat.le_refl _) _).alloc (by simp) _
 have hAw : ndsR.lies n0 w [.slice a s.1.length c] s.1 := ndsR.below hA hb0
 have hB1 : Box W w.heap.size 24 #[.slice a s.1.length c, .int .i64 s.2] := by rw [hW]; exact (Box.new _ _ _).alloc _
 have hB2 : Box W (w.heap.size + 1) 24 #[.slice none 0 0, .int .i64 0] := by (
 rw [hW]
 have := Box.new (w.alloc (.cells #[.slice a s.1.length c, .int .i64 s.2] 24)) 24 #[.slice none 0 0, .int .i64 0]
 rwa [World.size_alloc] at this)
 have HW : Hid (Below w.heap.size w W ∧ ndsR.lies n0 W [.slice a s.1.length c] s.1 ∧ W.heap.size = w.heap.size + 2 ∧ Below w0.heap.size w0 W ∧ w0.heap.size ≤ w.heap.size) := ⟨hb, ndsR.below hAw hb, by rw [hW]; simp, hb0.trans (hb.mono hb0.size), hb0.size⟩
 have HSB : Hid (∀ V, Below W.heap.size W V → V.cell? ⟨w.heap.size, 0, none⟩ = some (.slice a s.1.length c) ∧ V.cell? ⟨w.heap.size, 1, none⟩ = some (.int .i64 s.2) ∧ V.cell? ⟨w.heap.size + 1, 0, none⟩ = some (.slice none 0 0) ∧ V.cell? ⟨w.heap.size + 1, 1, none⟩ = some (.int .i64 0) ∧ V.frozen? ⟨w.heap.size + 1, 0, none⟩ = false ∧ V.frozen? ⟨w.heap.size + 1, 1, none⟩ = false) := fun V hV => by (
 obtain ⟨g0, g1, -, -⟩ := (hB1.below hV hB1.lt).two
 obtain ⟨d0, d1, d2, d3⟩ := (hB2.below hV hB2.lt).two
 exact ⟨g0, g1, d0, d1, d2, d3⟩)
 have HBW : Hid (∀ V, Below W.heap.size W V → Below w.heap.size w V) := fun V hV => below_any hb hV
 have HA0 : Hid (ndsR.lies n0 w0 [.slice a s.1.length c] s.1 ∧ FitsS s.1) := ⟨hA, hM⟩
 have HLI : Hid (∀ V, Below W.heap.size W V → ndsR.lies n0 V [.slice a s.1.length c] s.1) := fun V hV => ndsR.below HW.out.2.1 hV
 have HPL : Hid (∀ V (i : Int), Below W.heap.size W V → Calls Tryz.prog 75 #[.agg #[.slice a s.1.length c, .int .i64 s.2], .int .i64 i] V fun e w' => e = .returned (.int .i64 (plc s.1 i)) ∧ Below V.heap.size V w') := fun V i hV => rplace_any n0 a c s.1 s.2 i V (HLI.out V hV)
 have HWA : Hid (Ok s → ∀ V av cv m (xs : List ByteArray), Below W.heap.size W V → m = xs.length → OwnT W.heap.size V (.slice av m cv) xs → Calls Tryz.prog 49 #[.agg #[.slice a s.1.length c, .int .i64 s.2], .slice av m cv] V fun e w' => e = .returned (.tuple #[.int .i64 (wlk s.1 1 xs).1, .int .i64 (wlk s.1 1 xs).2]) ∧ Below V.heap.size V w') := fun hO V av cv m xs hV hm hX => by
   subst hm
   exact rwalk_any n0 W.heap.size a c s hO.wk av cv xs V (HLI.out V hV) hX.arg
 have HHO : Hid (Ok s → ∀ V av cv m (xs : List ByteArray), Below W.heap.size W V → m = xs.length → OwnT W.heap.size V (.slice av m cv) xs → xs ≠ [] → Calls Tryz.prog 73 #[.agg #[.slice a s.1.length c, .int .i64 s.2], .slice av m cv] V fun e w' => (∃ i x, e = .returned (.tuple #[.int .i64 i, .string x, .int .i64 (stdE s.1 xs)]) ∧ (stdE s.1 xs = 0 → i = plc s.1 (hold s xs).1 ∧ x = lst xs)) ∧ Below V.heap.size V w') := fun hO V av cv m xs hV hm hX hne => by
   subst hm
   exact rhome_any n0 W.heap.size a c s hO.wk av cv xs hne V (HLI.out V hV) hX.arg
 have HOW : Hid (Ok s → ∀ V, Below W.heap.size W V → Calls Tryz.prog 42 #[.agg #[.slice a s.1.length c, .int .i64 s.2]] V fun e w' => (∃ v', e = .returned (.agg #[v', .int .i64 s.2]) ∧ OR w0.heap.size V.heap.size w' v' s.1) ∧ Below V.heap.size V w') := fun hO V hV => rown_any n0 w0 a c s hO.wk V (HW.out.2.2.2.1.trans (hV.mono HW.out.2.2.2.1.size)) HA0.out.1
 have HC1 := rcheck10_any n0 a c s W (HLI.out W (Below.refl _ _)) hM
 obtain ⟨g0, g1, d0, d1, e0, e1⟩ := HSB.out W (Below.refl _ _)
 obtain ⟨n, hn⟩ := exa (s.1.length)
 obtain ⟨nx, hnx⟩ := exa (s.2)
 have HN : Hid (n = s.1.length ∧ nx = s.2) := ⟨hn, hnx⟩
 rw [← hn] at HW HSB HA0 HLI HPL HWA HHO HOW HC1 g0 hW ⊢
 rw [← hnx] at HSB HPL HWA HHO HOW HC1 g1 hW ⊢
 rw [hW] at g0 g1 d0 d1 e0 e1
 clear hb hA hAw hM hB1 hB2 hb0 hn hnx
 go_enter Tryz.func57, Tryz.ntmps57
 go_wp2_with fail
 rw [← hW]
 clear hW g0 g1 d0 d1 e0 e1
 refine HC1.mono ?_
 rintro e w1 ⟨⟨r, rfl, hr⟩, hb1⟩
 have HB1 : Hid (Below W.heap.size W w1) := hb1
 clear hb1 HC1
 obtain ⟨-, -, d0, d1, e0, e1⟩ := HSB.out w1 HB1.out
 by_cases hr0 : r = 0
 case neg => (
 have HT1 : Hid (T 9 ([], 0)) := by (
 rw [HT.out]
 rcases hr with ⟨_, h⟩ | ⟨h, _⟩
 · exact absurd h hr0
 · exact .inl ⟨h, rfl, rfl⟩)
 clear hr
 go_wp2
 refine bodyPost_ret (v := .tuple #[.agg #[.slice none 0 0, .int .i64 0], .int .i64 9]) (by simp [results, Tryz.results57, go_sem, *]) rfl (HNo.out _ _ HT1.out (below_set2 (HBW.out _ HB1.out) (by omega) _ _)))
 have HO : Hid (Ok s) := by (
 rcases hr with ⟨h, _⟩ | ⟨_, h⟩
 · exact h
 · omega)
 clear hr
 subst hr0
 have HC2 := P.rsplit_any p w1
 go_wp2_with fail
 refine HC2.mono ?_
 rintro e w2 ⟨v, rfl, hO2, hb2⟩
 obtain ⟨av, cv, rfl⟩ := hO2.shape
 obtain ⟨xs, hxs⟩ := exa (sval p)
 obtain ⟨m, hm⟩ := exa (xs.length)
 rw [← hxs] at HT hO2 ⊢
 rw [← hm] at hO2 ⊢
 have HB2 : Hid (Below W.heap.size W w2 ∧ OwnT W.heap.size w2 (.slice av m cv) xs ∧ m = xs.length) := ⟨below_any HB1.out hb2, hO2.weaken HB1.out.size, hm⟩
 obtain ⟨k2, hk2⟩ := exa (serr p)
 rw [← hk2]
 have HK2 : Hid (k2 = psE [p]) := show k2 = psE [p] by rw [hk2, psE_one]
 have hl1 := run_len Tryz.underlying59 av m cv
 clear hO2 hb2 HC2 hk2 hxs hm d0 d1 e0 e1
 obtain ⟨g0, g1, d0, d1, e0, e1⟩ := HSB.out w2 HB2.out.1
 by_cases hk0 : k2 = 0
 case neg => (
 have HT1 : Hid (T k2 ([], 0)) := by
   rw [HT.out]
   exact .inr (.inl ⟨HO.out, by rw [← HK2.out]; exact hk0, HK2.out, rfl⟩)
 go_wp2
 refine bodyPost_ret (v := .tuple #[.agg #[.slice none 0 0, .int .i64 0], .int .i64 k2]) (by simp [results, Tryz.results57, go_sem, *]) rfl (HNo.out _ _ HT1.out (below_set2 (HBW.out _ HB2.out.1) (by omega) _ _)))
 subst hk0
 have HPS : Hid (psE [p] = 0) := HK2.out.symm
 clear HK2
 by_cases hm0 : m = 0
 case pos => (
 subst hm0
 have HT1 : Hid (T 108 ([], 0)) := by (
 rw [HT.out]
 obtain rfl : xs = [] := List.eq_nil_of_length_eq_zero HB2.out.2.2.symm
 exact no_told HO.out HPS.out (rmE_nil s) (by decide))
 go_wp2
 refine bodyPost_ret (v := .tuple #[.agg #[.slice none 0 0, .int .i64 0], .int .i64 108]) (by simp [results, Tryz.results57, go_sem, *]) rfl (HNo.out _ _ HT1.out (below_set2 (HBW.out _ HB2.out.1) (by omega) _ _)))
 have HNE : Hid (xs ≠ []) := fun h => hm0 (by rw [HB2.out.2.2, h]; rfl)
 have hm0b : ((m : Int) == 0) = false := by simp; omega
 have HC3 := HWA.out HO.out w2 av cv m xs HB2.out.1 HB2.out.2.2 HB2.out.2.1
 obtain ⟨i3, k3, hik⟩ : ∃ i k, (i, k) = wlk s.1 1 xs := ⟨_, _, rfl⟩
 have HIK : Hid ((i3, k3) = wlk s.1 1 xs) := hik
 rw [← hik] at HC3
 clear hik
 go_wp2_with fail
 refine HC3.mono ?_
 rintro e w3 ⟨rfl, hb3⟩
 have HB3 : Hid (Below W.heap.size W w3) := below_any HB2.out.1 hb3
 have HOT : Hid (OwnT W.heap.size w3 (.slice av m cv) xs) := HB2.out.2.1.below hb3
 clear hb3 HC3 g0 g1 d0 d1 e0 e1
 obtain ⟨g0, g1, d0, d1, e0, e1⟩ := HSB.out w3 HB3.out
 by_cases hk0 : k3 = 0
 case neg => (
 have HT1 : Hid (T k3 ([], 0)) := by (
 have h2 : (wlk s.1 1 xs).2 = k3 := by rw [← HIK.out]
 rw [HT.out]
 exact no_told HO.out HPS.out ((rmE_walk HNE.out (by rw [h2]; exact hk0)).trans h2) hk0)
 go_wp2
 refine bodyPost_ret (v := .tuple #[.agg #[.slice none 0 0, .int .i64 0], .int .i64 k3]) (by simp [results, Tryz.results57, go_sem, *]) rfl (HNo.out _ _ HT1.out (below_set2 (HBW.out _ HB3.out) (by omega) _ _)))
 subst hk0
 have HWZ : Hid ((wlk s.1 1 xs).2 = 0) := show (wlk s.1 1 xs).2 = 0 by rw [← HIK.out]
 obtain ⟨hqm, hqi, -⟩ := HO.out.wk.lead HWZ.out
 obtain ⟨q, hq⟩ := exa (tgt s xs)
 rw [← hq] at hqm hqi
 obtain ⟨at', hat, hpc⟩ := plc_mem HO.out.wk.up hqm
 have HQ : Hid (q = tgt s xs ∧ s.1[at']? = some q ∧ q ∈ s.1) := ⟨hq, hat, hqm⟩
 have hqi' : i3 = q.1 := by
   have h2 : (wlk s.1 1 xs).1 = i3 := by rw [← HIK.out]
   rw [← h2]; exact hqi
 obtain ⟨b1, o1, ea, ec, fa, fc, hix, hall⟩ := ndr_at HW.out.2.1 at' q hat
 have HP' : Hid (∀ V, Below w3.heap.size w3 V → Calls Tryz.prog 75 #[.agg #[.slice a n c, .int .i64 nx], .int .i64 i3] V fun e w' => e = .returned (.int .i64 at') ∧ Below V.heap.size V w') := fun V hV => by (
 have hh := HPL.out V i3 (below_any HB3.out hV)
 rw [hqi', hpc, ← hqi'] at hh
 exact hh)
 obtain ⟨el, hel⟩ := exa ((en q).length)
 obtain ⟨fl, hfl⟩ := exa ((fi q).2.length)
 obtain ⟨pi, hpi⟩ := exa (q.1)
 obtain ⟨pd, hpd⟩ := exa (isD q)
 obtain ⟨pl, hpl'⟩ := exa (lk q)
 obtain ⟨pz, hpz⟩ := exa ((fi q).1)
 rw [← hel, ← hfl, ← hpi, ← hpd, ← hpl', ← hpz] at hall
 have HS : Hid (∀ V, Below w3.heap.size w3 V → V.cell? ⟨w.heap.size, 0, none⟩ = some (.slice a n c) ∧ V.cell? ⟨w.heap.size, 1, none⟩ = some (.int .i64 nx) ∧ V.cell? ⟨b1, o1, none⟩ = some (.int .i64 pi) ∧ V.cell? ⟨b1, o1 + 1, none⟩ = some (.bool pd) ∧ V.cell? ⟨b1, o1 + 2, none⟩ = some (.int .i64 pl) ∧ V.cell? ⟨b1, o1 + 3, none⟩ = some (.slice ea el ec) ∧ V.cell? ⟨b1, o1 + 4, none⟩ = some (.int .i64 pz) ∧ V.cell? ⟨b1, o1 + 5, none⟩ = some (.slice fa fl fc)) := fun V hV => by
   obtain ⟨g0, g1, -⟩ := HSB.out V (below_any HB3.out hV)
   exact ⟨g0, g1, (hall V (below_any HB3.out hV)).1⟩
 have HD : Hid (pd = isD q ∧ el = (en q).length) := ⟨hpd, hel⟩
 have hatn : (at' : Int) < (n : Int) := by (
 have h1 := (List.getElem?_eq_some_iff.1 hat).1
 have h2 := HN.out.1
 omega)
 clear hqm hqi hqi' hq hat hpc hall hel hfl hpi hpd hpl' hpz g0 g1 d0 d1 e0 e1
 go_upto_region 13 with fail
 go_cut [12] (fun v wx => ∃ dd, v = .pointer (some ⟨dd, 0, none⟩) ∧ Hid (Below w3.heap.size w3 wx ∧ Box wx dd 78 #[.int .i64 pi, .bool pd, .int .i64 pl, .slice ea el ec, .int .i64 pz, .slice fa fl fc]))
 case first => (
 refine AnyBut.begin (fun W => W.cell? ⟨w.heap.size, 0, none⟩ = some (.slice a n c) ∧ W.cell? ⟨w.heap.size, 1, none⟩ = some (.int .i64 nx) ∧ W.cell? ⟨b1, o1, none⟩ = some (.int .i64 pi) ∧ W.cell? ⟨b1, o1 + 1, none⟩ = some (.bool pd) ∧ W.cell? ⟨b1, o1 + 2, none⟩ = some (.int .i64 pl) ∧ W.cell? ⟨b1, o1 + 3, none⟩ = some (.slice ea el ec) ∧ W.cell? ⟨b1, o1 + 4, none⟩ = some (.int .i64 pz) ∧ W.cell? ⟨b1, o1 + 5, none⟩ = some (.slice fa fl fc)) 8 (by kernel_rfl) ?_
 have hSS := HS.out w3.drew (Below.refl _ w3).drew
 refine ty 0 53 hSS ?_; simp only [ua,ub,uc,ud]
 refine ty 1 54 hSS ?_; simp only [ua,ub,uc,ud]
 refine ty 2 55 hSS ?_; simp only [ua,ub,uc,ud]
 refine ty 3 56 hSS ?_; simp only [ua,ub,uc,ud]
 refine AnyBut.two (i := 4) (j := 7) (by kernel_rfl) rfl rfl (fun K hK => ?_) (fun K hK => ?_)
 · go_simp
   refine Calls.mono (HP'.out w3.drew (Below.refl _ w3).drew) ?_
   rintro e wp ⟨rfl, hbp⟩
   dsimp only
   have hbp1 : Below w3.heap.size w3 wp := below_any (Below.refl _ w3).drew hbp
   refine hK.out _ _ (HS.out wp hbp1) ?_
   clear hK hSS
   have hSS := HS.out wp hbp1
   refine ty 5 58 hSS ?_; simp only [ua,ub,uc,ud]
   refine ty 6 59 hSS ?_; simp only [ua,ub,uc,ud]
   refine AnyBut.step (i := 7) (by kernel_rfl) rfl (fun K hK => ?_)
   go_simp
   refine hK.out _ _ (HS.out _ (hbp1.alloc hbp1.size _)) ?_
   clear hK hSS
   refine AnyBut.last (by kernel_rfl) (by kernel_rfl) rfl (fun K hK => ?_)
   go_simp
   refine hK.out _ _ ?_
   clear hK
   rename_i J K1 hJ hM K2 K3
   refine hM _ _ (Go.Met.intro (hJ _ _ ?_))
   refine ⟨?m3a0, ?m3a1, ?m3a2, ?m3a3, ?m3a4, ?m3a5, ?m3a6, ?m3a7, ?m3a8, ?m3a9, ?m3a10, ?m3a11, ?m3a12, ?m3a13, ?m3a14, ?m3a15, ?m3a16, ?m3a17, ?m3a18, ?m3a19, ?m3a20, ?m3a21, ?m3a22, ?m3a23, ?m3a24, ?m3a25, ?m3a26, ?m3a27, ?m3a28, ?m3a29, ?m3a30, ?m3a31, ?m3a32, ?m3a33, ?m3a34, ?m3a35, ?m3a36, ?m3a37, ?m3a38, ?m3a39, ?m3a40, ?m3a41, ?m3a42, ?m3a43, ?m3a44, ?m3a45, ?m3a46, ?m3a47, ?m3a48, ?m3a49, ?m3a50, ?m3a51, ?m3a52, ?m3a53, ?m3a54, ?m3a55, ?m3a56, ?m3a57, ?m3a58, ?m3a59, ?m3a60, ?m3a61, ?m3a62, ?m3a63, ?m3a64, ?m3a65, ?m3a66, ?m3a67, ?m3a68, ?m3a69, ?m3a70, ?m3a71, ?m3a72, ?rel3, ?fr3⟩
   case fr3 => rfl
   case rel3 => exact ⟨_, rfl, hbp1.alloc hbp1.size _, Box.new _ _ _⟩
 · go_simp
   have hbz : Below w3.heap.size w3 (w3.alloc (.cells #[.int .i64 0, .bool false, .int .i64 0, .slice none 0 0, .int .i64 0, .slice none 0 0] 78)).drew := ((Below.refl _ w3).alloc (Nat.le_refl _) _).drew
   have hBz : Box (w3.alloc (.cells #[.int .i64 0, .bool false, .int .i64 0, .slice none 0 0, .int .i64 0, .slice none 0 0] 78)).drew w3.heap.size 78 #[.int .i64 0, .bool false, .int .i64 0, .slice none 0 0, .int .i64 0, .slice none 0 0] := Box.drew (Box.new _ _ _)
   refine hK.out _ _ (HS.out _ hbz) ?_
   clear hK hSS
   refine AnyBut.step (i := 4) (by kernel_rfl) rfl (fun K hK => ?_)
   go_simp
   refine Calls.mono (HP'.out _ hbz) ?_
   rintro e wp ⟨rfl, hbp⟩
   dsimp only
   have hbp1 : Below w3.heap.size w3 wp := below_any hbz hbp
   have hBp : Box wp w3.heap.size 78 #[.int .i64 0, .bool false, .int .i64 0, .slice none 0 0, .int .i64 0, .slice none 0 0] := hBz.below hbp hBz.lt
   refine hK.out _ _ (HS.out wp hbp1) ?_
   clear hK
   have hSS := HS.out wp hbp1
   refine ty 5 58 hSS ?_; simp only [ua,ub,uc,ud]
   refine ty 6 59 hSS ?_; simp only [ua,ub,uc,ud]
   obtain ⟨z0, z1, z2, z3, z4, z5⟩ := hBp.six
   have y0 := hBp.frozen 0
   have y1 := hBp.frozen 1
   have y2 := hBp.frozen 2
   have y3 := hBp.frozen 3
   have y4 := hBp.frozen 4
   have y5 := hBp.frozen 5
   refine AnyBut.last (by kernel_rfl) (by kernel_rfl) rfl (fun K hK => ?_)
   go_simp
   refine hK.out _ _ ?_
   clear hK
   rename_i J K1 hJ hM K2 K3
   refine hM _ _ (Go.Met.intro (hJ _ _ ?_))
   refine ⟨?m4a0, ?m4a1, ?m4a2, ?m4a3, ?m4a4, ?m4a5, ?m4a6, ?m4a7, ?m4a8, ?m4a9, ?m4a10, ?m4a11, ?m4a12, ?m4a13, ?m4a14, ?m4a15, ?m4a16, ?m4a17, ?m4a18, ?m4a19, ?m4a20, ?m4a21, ?m4a22, ?m4a23, ?m4a24, ?m4a25, ?m4a26, ?m4a27, ?m4a28, ?m4a29, ?m4a30, ?m4a31, ?m4a32, ?m4a33, ?m4a34, ?m4a35, ?m4a36, ?m4a37, ?m4a38, ?m4a39, ?m4a40, ?m4a41, ?m4a42, ?m4a43, ?m4a44, ?m4a45, ?m4a46, ?m4a47, ?m4a48, ?m4a49, ?m4a50, ?m4a51, ?m4a52, ?m4a53, ?m4a54, ?m4a55, ?m4a56, ?m4a57, ?m4a58, ?m4a59, ?m4a60, ?m4a61, ?m4a62, ?m4a63, ?m4a64, ?m4a65, ?m4a66, ?m4a67, ?m4a68, ?m4a69, ?m4a70, ?m4a71, ?m4a72, ?rel4, ?fr4⟩
   case fr4 => rfl
   case rel4 => exact ⟨_, rfl, six_set hbp1 (Nat.le_refl _) hBp _ _ _ _ _ _⟩)
 case rest => (
 obtain ⟨dd, rfl, HBV⟩ := hcut
 obtain ⟨V, hV⟩ := exa (wc)
 rw [← hV] at HBV ⊢
 clear hV
 have HBV1 : Hid (Below W.heap.size W V) := below_any HB3.out HBV.out.1
 obtain ⟨v0, v1, v2, v3, v4, v5⟩ := HBV.out.2.six
 have hl2 := run_len Tryz.underlying73 ea el ec
 obtain ⟨g0, g1, d0, d1, e0, e1⟩ := HSB.out V HBV1.out
 cases hpd : pd
 case false => (
 subst hpd
 have HT1 : Hid (T 103 ([], 0)) := by (
 have h1 := HD.out.1
 rw [HQ.out.1] at h1
 rw [HT.out]
 exact no_told HO.out HPS.out (rmE_not HNE.out HWZ.out h1.symm) (by decide))
 go_wp2
 refine bodyPost_ret (v := .tuple #[.agg #[.slice none 0 0, .int .i64 0], .int .i64 103]) (by simp [results, Tryz.results57, go_sem, *]) rfl (HNo.out _ _ HT1.out (below_set2 (HBW.out _ HBV1.out) (by omega) _ _)))
 subst hpd
 by_cases hel0 : el = 0
 case neg => (
 have HT1 : Hid (T 105 ([], 0)) := by (
 have h1 := HD.out
 rw [HQ.out.1] at h1
 rw [HT.out]
 exact no_told HO.out HPS.out (rmE_more HNE.out HWZ.out h1.1.symm (by rw [← h1.2]; exact hel0)) (by decide))
 have help : 0 < (el : Int) := by omega
 go_wp2
 refine bodyPost_ret (v := .tuple #[.agg #[.slice none 0 0, .int .i64 0], .int .i64 105]) (by simp [results, Tryz.results57, go_sem, *]) rfl (HNo.out _ _ HT1.out (below_set2 (HBW.out _ HBV1.out) (by omega) _ _)))
 subst hel0
 have HK0 : Hid (rmE s xs = 0) := by (
 have h1 := HD.out
 rw [HQ.out.1] at h1
 exact rmE_zero HNE.out HWZ.out h1.1.symm h1.2.symm)
 obtain ⟨hsT, hsE⟩ := std_of_walk HO.out HNE.out HWZ.out
 obtain ⟨hhm, -, -, hhe, -⟩ := HO.out.wk.stands HNE.out HWZ.out
 obtain ⟨at2, hat2, hpc2⟩ := plc_mem HO.out.wk.up hhm
 have HC4 := HHO.out HO.out V av cv m xs HBV1.out HB2.out.2.2 (HOT.out.below HBV.out.1) HNE.out
 rw [hsE] at HC4
 have HH : Hid (s.1[at2]? = some (hold s xs) ∧ plc s.1 (hold s xs).1 = (at2 : Int) ∧ (lst xs, (tgt s xs).1) ∈ en (hold s xs)) := ⟨hat2, hpc2, hhe⟩
 clear hsT hsE hhm hhe hat2 hpc2
 go_wp2_with fail
 refine HC4.mono ?_
 rintro e w4 ⟨⟨i4, x4, rfl, h4⟩, hb4⟩
 have HB4 : Hid (Below W.heap.size W w4) := below_any HBV1.out hb4
 obtain ⟨hi4, rfl⟩ := h4 trivial
 rw [HH.out.2.1] at hi4
 subst hi4
 obtain ⟨yy, hyy⟩ := exa (lst xs)
 have HYY : Hid (yy = lst xs) := hyy
 rw [← hyy]
 clear hb4 h4 HC4 hyy g0 g1 d0 d1 e0 e1 v0 v1 v2 v3 v4 v5
 obtain ⟨g0, g1, -, -, -, -⟩ := HSB.out w4 HB4.out
 have HC5 := HOW.out HO.out w4 HB4.out
 go_wp2_with fail
 refine HC5.mono ?_
 rintro e w5 ⟨⟨vv, rfl, hor5⟩, hb5⟩
 have HB5 : Hid (Below W.heap.size W w5 ∧ w4.heap.size ≤ w5.heap.size) := ⟨below_any HB4.out hb5, hb5.size⟩
 have HC6 := rgone_any (fun k => w0.heap.size ≤ k ∧ k < w4.heap.size) w4.heap.size vv s.1 s.2 at2 (hold s xs) (tgt s xs) yy w5 HO.out HH.out.1 (HO.out.wk.lead HWZ.out).1 (by rw [HYY.out]; exact HH.out.2.2) (RX.of_or hor5) hb5.size (fun k hk => by have := hb5.size; omega)
 rw [← HN.out.2] at HC6
 clear hor5 hb5 HC5 g0 g1
 go_wp2_with fail
 refine HC6.mono ?_
 rintro e w6 ⟨⟨v6, rfl, hr6⟩, hb6⟩
 have HB6 : Hid (Below W.heap.size W w6) := HB5.out.1.trans (hb6.mono HB4.out.size)
 obtain ⟨a6, c6, rfl⟩ := hr6.shape
 obtain ⟨l6, hl6⟩ := exa ((dropN (s.1, nx) (hold s xs) yy (tgt s xs)).1)
 rw [← hl6] at hr6 ⊢
 obtain ⟨m6, hm6⟩ := exa (l6.length)
 rw [← hm6] at hr6 ⊢
 have HR6 : Hid (RX (fun k => w0.heap.size ≤ k ∧ k < w4.heap.size) w4.heap.size w6 (.slice a6 m6 c6) l6) := hr6
 have HTY : Hid (T 0 (l6, nx)) := by (
 have h9 : (l6, nx) = dropN s (hold s xs) (lst xs) (tgt s xs) := by
   rw [hl6, HYY.out, HN.out.2]; rfl
 rw [HT.out, h9]
 exact yes_told HO.out HPS.out HK0.out)
 obtain ⟨-, -, d0, d1, e0, e1⟩ := HSB.out w6 HB6.out
 clear hr6 hb6 HC6 hl6 hm6
 go_wp2
 refine bodyPost_ret (v := .tuple #[.agg #[.slice a6 m6 c6, .int .i64 nx], .int .i64 0]) (by simp [results, Tryz.results57, go_sem, *]) rfl (HYes.out _ _ _ _ HTY.out ?_ (below_set2 (HBW.out _ HB6.out) (by omega) _ _))
 have h1 := HB4.out.size
 have h2 := HW.out
 have hn2 : (Value.slice a6 m6 c6).ownBlock ≠ some (w.heap.size + 1) := fun e => by have := (HR6.out.lt _ e).1; omega
 exact ((HR6.out.set ⟨by omega, by omega⟩ hn2 _ _).set ⟨by omega, by omega⟩ hn2 _ _).or (fun k k1 k2 => ⟨k1, by omega⟩) (by omega))
end Go.Proofs.YtkcnephbaffmbaaGreatDoor
namespace Go.Proofs.YtkcnephbaffmbaaGreatDoor
open Go.RowKit
open P (serr sval)
def FlatR (B0 : Nat) (T : Int → St → Prop) (w : World) (e : Ending) (w' : World) : Prop := (∃ (k : Int) (l : List Nd) (x : Int) (n : Nat) (a : Option Addr) (c : Nat), e = .returned (.tuple #[.agg #[.slice a n c, .int .i64 x], .int .i64 k]) ∧ n = l.length ∧ OR B0 w.heap.size w' (.slice a n c) l ∧ T k (l, x)) ∧ Below w.heap.size w w'
theorem TellsR.flat {B0 : Nat} {T : Int → St → Prop} {w w' : World} {e : Ending} (h : TellsR B0 T w e w') : FlatR B0 T w e w' := by
 obtain ⟨⟨v, k, ⟨l, x⟩, rfl, hT, hO⟩, hb⟩ := h
 obtain ⟨a, c, rfl⟩ := hO.shape
 exact ⟨⟨k, l, x, _, a, c, rfl, rfl, hO, hT⟩, hb⟩
theorem rCreate_any (n0 : Nat) (w0 : World) (a : Option Addr) (c : Nat) (s : St) (p : ByteArray) (w : World) (hb0 : Below w0.heap.size w0 w) (hA : ndsR.lies n0 w0 [.slice a s.1.length c] s.1) (hM : FitsS s.1) :
   Calls Tryz.prog 13 #[.agg #[.slice a s.1.length c, .int .i64 s.2], .string p] w (FlatR w0.heap.size (Told s [p] (mkE s (sval p)) (mkN s (hold s (sval p)) (lst (sval p)) false)) w) := by
 obtain ⟨T, hT⟩ : ∃ T : Int → St → Prop, T = Told s [p] (mkE s (sval p)) (mkN s (hold s (sval p)) (lst (sval p)) false) := ⟨_, rfl⟩
 obtain ⟨post, hpost⟩ : ∃ post : Ending → World → Prop, post = FlatR w0.heap.size T w := ⟨_, rfl⟩
 have HPo : Hid (∀ k l x n a c w', n = l.length → OR w0.heap.size w.heap.size w' (.slice a n c) l → T k (l, x) → Below w.heap.size w w' → post (.returned (.tuple #[.agg #[.slice a n c, .int .i64 x], .int .i64 k])) w') := fun k l x n a c w' h1 h2 h3 h4 => by rw [hpost]; exact ⟨⟨k, l, x, n, a, c, rfl, h1, h2, h3⟩, h4⟩
 obtain ⟨W, hW⟩ := exa ((w.alloc (.cells #[.slice a s.1.length c, .int .i64 s.2] 24)).alloc (.cells #[.slice none 0 0, .int .i64 0] 24))
 have hb : Below w.heap.size w W := by rw [hW]; exact ((Below.refl _ w).alloc (Nat.le_refl _) _).alloc (by simp) _
 have hB1 : Box W w.heap.size 24 #[.slice a s.1.length c, .int .i64 s.2] := by rw [hW]; exact (Box.new _ _ _).alloc _
 have hB2 : Box W (w.heap.size + 1) 24 #[.slice none 0 0, .int .i64 0] := by (
 rw [hW]
 have := Box.new (w.alloc (.cells #[.slice a s.1.length c, .int .i64 s.2] 24)) 24 #[.slice none 0 0, .int .i64 0]
 rwa [World.size_alloc] at this)
 have HW : Hid (Below w.heap.size w W ∧ Box W (w.heap.size + 1) 24 #[.slice none 0 0, .int .i64 0] ∧ W.heap.size = w.heap.size + 2 ∧ w0.heap.size ≤ w.heap.size) := ⟨hb, hB2, by rw [hW]; simp, hb0.size⟩
 have HC := rmade_any n0 w0 a c s p false W (hb0.trans (hb.mono hb0.size)) hA hM
 rw [← hT] at HC ⊢
 rw [← hpost]
 obtain ⟨g0, g1, -, -⟩ := hB1.two
 obtain ⟨n, hn⟩ := exa (s.1.length)
 obtain ⟨nx, hnx⟩ := exa (s.2)
 rw [← hn] at HC g0 hW ⊢
 rw [← hnx] at HC g1 hW ⊢
 rw [hW] at g0 g1
 clear hT hpost hb hB1 hB2 hA hM hn hnx hb0
 go_enter Tryz.func13, Tryz.ntmps13
 go_wp2_with fail
 rw [← hW]
 clear hW g0 g1
 refine HC.mono ?_
 intro e w1 h1
 obtain ⟨⟨k1, l1, x1, n1, a1, c1, rfl, hn1, hO1, hT1⟩, hb1⟩ := h1.flat
 have H1 : Hid (n1 = l1.length ∧ OR w0.heap.size W.heap.size w1 (.slice a1 n1 c1) l1 ∧ T k1 (l1, x1) ∧ Below W.heap.size W w1) := ⟨hn1, hO1, hT1, hb1⟩
 obtain ⟨d0, d1, e0, e1⟩ := (HW.out.2.1.below hb1 HW.out.2.1.lt).two
 clear h1 hn1 hO1 hT1 hb1 HC
 go_wp2
 refine bodyPost_ret (v := .tuple #[.agg #[.slice a1 n1 c1, .int .i64 x1], .int .i64 k1]) (by simp [results, Tryz.results13, go_sem, *]) rfl (HPo.out _ _ _ _ _ _ _ H1.out.1 ?_ H1.out.2.2.1 (below_set2 (below_any HW.out.1 H1.out.2.2.2) (by omega) _ _))
 have h2 := HW.out
 exact ((H1.out.2.1.set ⟨by omega, by omega⟩).set ⟨by omega, by omega⟩).weaken (by omega)
theorem rMkdir_any (n0 : Nat) (w0 : World) (a : Option Addr) (c : Nat) (s : St) (p : ByteArray) (w : World) (hb0 : Below w0.heap.size w0 w) (hA : ndsR.lies n0 w0 [.slice a s.1.length c] s.1) (hM : FitsS s.1) :
   Calls Tryz.prog 15 #[.agg #[.slice a s.1.length c, .int .i64 s.2], .string p] w (FlatR w0.heap.size (Told s [p] (mkE s (sval p)) (mkN s (hold s (sval p)) (lst (sval p)) true)) w) := by
 obtain ⟨T, hT⟩ : ∃ T : Int → St → Prop, T = Told s [p] (mkE s (sval p)) (mkN s (hold s (sval p)) (lst (sval p)) true) := ⟨_, rfl⟩
 obtain ⟨post, hpost⟩ : ∃ post : Ending → World → Prop, post = FlatR w0.heap.size T w := ⟨_, rfl⟩
 have HPo : Hid (∀ k l x n a c w', n = l.length → OR w0.heap.size w.heap.size w' (.slice a n c) l → T k (l, x) → Below w.heap.size w w' → post (.returned (.tuple #[.agg #[.slice a n c, .int .i64 x], .int .i64 k])) w') := fun k l x n a c w' h1 h2 h3 h4 => by rw [hpost]; exact ⟨⟨k, l, x, n, a, c, rfl, h1, h2, h3⟩, h4⟩
 obtain ⟨W, hW⟩ := exa ((w.alloc (.cells #[.slice a s.1.length c, .int .i64 s.2] 24)).alloc (.cells #[.slice none 0 0, .int .i64 0] 24))
 have hb : Below w.heap.size w W := by rw [hW]; exact ((Below.refl _ w).alloc (Nat.le_refl _) _).alloc (by simp) _
 have hB1 : Box W w.heap.size 24 #[.slice a s.1.length c, .int .i64 s.2] := by rw [hW]; exact (Box.new _ _ _).alloc _
 have hB2 : Box W (w.heap.size + 1) 24 #[.slice none 0 0, .int .i64 0] := by (
 rw [hW]
 have := Box.new (w.alloc (.cells #[.slice a s.1.length c, .int .i64 s.2] 24)) 24 #[.slice none 0 0, .int .i64 0]
 rwa [World.size_alloc] at this)
 have HW : Hid (Below w.heap.size w W ∧ Box W (w.heap.size + 1) 24 #[.slice none 0 0, .int .i64 0] ∧ W.heap.size = w.heap.size + 2 ∧ w0.heap.size ≤ w.heap.size) := ⟨hb, hB2, by rw [hW]; simp, hb0.size⟩
 have HC := rmade_any n0 w0 a c s p true W (hb0.trans (hb.mono hb0.size)) hA hM
 rw [← hT] at HC ⊢
 rw [← hpost]
 obtain ⟨g0, g1, -, -⟩ := hB1.two
 obtain ⟨n, hn⟩ := exa (s.1.length)
 obtain ⟨nx, hnx⟩ := exa (s.2)
 rw [← hn] at HC g0 hW ⊢
 rw [← hnx] at HC g1 hW ⊢
 rw [hW] at g0 g1
 clear hT hpost hb hB1 hB2 hA hM hn hnx hb0
 go_enter Tryz.func15, Tryz.ntmps15
 go_wp2_with fail
 rw [← hW]
 clear hW g0 g1
 refine HC.mono ?_
 intro e w1 h1
 obtain ⟨⟨k1, l1, x1, n1, a1, c1, rfl, hn1, hO1, hT1⟩, hb1⟩ := h1.flat
 have H1 : Hid (n1 = l1.length ∧ OR w0.heap.size W.heap.size w1 (.slice a1 n1 c1) l1 ∧ T k1 (l1, x1) ∧ Below W.heap.size W w1) := ⟨hn1, hO1, hT1, hb1⟩
 obtain ⟨d0, d1, e0, e1⟩ := (HW.out.2.1.below hb1 HW.out.2.1.lt).two
 clear h1 hn1 hO1 hT1 hb1 HC
 go_wp2
 refine bodyPost_ret (v := .tuple #[.agg #[.slice a1 n1 c1, .int .i64 x1], .int .i64 k1]) (by simp [results, Tryz.results15, go_sem, *]) rfl (HPo.out _ _ _ _ _ _ _ H1.out.1 ?_ H1.out.2.2.1 (below_set2 (below_any HW.out.1 H1.out.2.2.2) (by omega) _ _))
 have h2 := HW.out
 exact ((H1.out.2.1.set ⟨by omega, by omega⟩).set ⟨by omega, by omega⟩).weaken (by omega)
theorem rUnlink_any (n0 : Nat) (w0 : World) (a : Option Addr) (c : Nat) (s : St) (p : ByteArray) (w : World) (hb0 : Below w0.heap.size w0 w) (hA : ndsR.lies n0 w0 [.slice a s.1.length c] s.1) (hM : FitsS s.1) :
   Calls Tryz.prog 17 #[.agg #[.slice a s.1.length c, .int .i64 s.2], .string p] w (FlatR w0.heap.size (Told s [p] (filE s.1 (sval p)) (dropN s (hold s (sval p)) (lst (sval p)) (tgt s (sval p)))) w) := by
 obtain ⟨T, hT⟩ : ∃ T : Int → St → Prop, T = Told s [p] (filE s.1 (sval p)) (dropN s (hold s (sval p)) (lst (sval p)) (tgt s (sval p))) := ⟨_, rfl⟩
 obtain ⟨post, hpost⟩ : ∃ post : Ending → World → Prop, post = FlatR w0.heap.size T w := ⟨_, rfl⟩
 have HPo : Hid (∀ k l x n a c w', n = l.length → OR w0.heap.size w.heap.size w' (.slice a n c) l → T k (l, x) → Below w.heap.size w w' → post (.returned (.tuple #[.agg #[.slice a n c, .int .i64 x], .int .i64 k])) w') := fun k l x n a c w' h1 h2 h3 h4 => by rw [hpost]; exact ⟨⟨k, l, x, n, a, c, rfl, h1, h2, h3⟩, h4⟩
 obtain ⟨W, hW⟩ := exa ((w.alloc (.cells #[.slice a s.1.length c, .int .i64 s.2] 24)).alloc (.cells #[.slice none 0 0, .int .i64 0] 24))
 have hb : Below w.heap.size w W := by rw [hW]; exact ((Below.refl _ w).alloc (Nat.le_refl _) _).alloc (by simp) _
 have hB1 : Box W w.heap.size 24 #[.slice a s.1.length c, .int .i64 s.2] := by rw [hW]; exact (Box.new _ _ _).alloc _
 have hB2 : Box W (w.heap.size + 1) 24 #[.slice none 0 0, .int .i64 0] := by (
 rw [hW]
 have := Box.new (w.alloc (.cells #[.slice a s.1.length c, .int .i64 s.2] 24)) 24 #[.slice none 0 0, .int .i64 0]
 rwa [World.size_alloc] at this)
 have HW : Hid (Below w.heap.size w W ∧ Box W (w.heap.size + 1) 24 #[.slice none 0 0, .int .i64 0] ∧ W.heap.size = w.heap.size + 2 ∧ w0.heap.size ≤ w.heap.size) := ⟨hb, hB2, by rw [hW]; simp, hb0.size⟩
 have HC := rremoved_f n0 w0 a c s p W (hb0.trans (hb.mono hb0.size)) hA hM
 rw [← hT] at HC ⊢
 rw [← hpost]
 obtain ⟨g0, g1, -, -⟩ := hB1.two
 obtain ⟨n, hn⟩ := exa (s.1.length)
 obtain ⟨nx, hnx⟩ := exa (s.2)
 rw [← hn] at HC g0 hW ⊢
 rw [← hnx] at HC g1 hW ⊢
 rw [hW] at g0 g1
 clear hT hpost hb hB1 hB2 hA hM hn hnx hb0
 go_enter Tryz.func17, Tryz.ntmps17
 go_wp2_with fail
 rw [← hW]
 clear hW g0 g1
 refine HC.mono ?_
 intro e w1 h1
 obtain ⟨⟨k1, l1, x1, n1, a1, c1, rfl, hn1, hO1, hT1⟩, hb1⟩ := h1.flat
 have H1 : Hid (n1 = l1.length ∧ OR w0.heap.size W.heap.size w1 (.slice a1 n1 c1) l1 ∧ T k1 (l1, x1) ∧ Below W.heap.size W w1) := ⟨hn1, hO1, hT1, hb1⟩
 obtain ⟨d0, d1, e0, e1⟩ := (HW.out.2.1.below hb1 HW.out.2.1.lt).two
 clear h1 hn1 hO1 hT1 hb1 HC
 go_wp2
 refine bodyPost_ret (v := .tuple #[.agg #[.slice a1 n1 c1, .int .i64 x1], .int .i64 k1]) (by simp [results, Tryz.results17, go_sem, *]) rfl (HPo.out _ _ _ _ _ _ _ H1.out.1 ?_ H1.out.2.2.1 (below_set2 (below_any HW.out.1 H1.out.2.2.2) (by omega) _ _))
 have h2 := HW.out
 exact ((H1.out.2.1.set ⟨by omega, by omega⟩).set ⟨by omega, by omega⟩).weaken (by omega)
theorem rRmdir_any (n0 : Nat) (w0 : World) (a : Option Addr) (c : Nat) (s : St) (p : ByteArray) (w : World) (hb0 : Below w0.heap.size w0 w) (hA : ndsR.lies n0 w0 [.slice a s.1.length c] s.1) (hM : FitsS s.1) :
   Calls Tryz.prog 19 #[.agg #[.slice a s.1.length c, .int .i64 s.2], .string p] w (FlatR w0.heap.size (Told s [p] (rmE s (sval p)) (dropN s (hold s (sval p)) (lst (sval p)) (tgt s (sval p)))) w) := by
 obtain ⟨T, hT⟩ : ∃ T : Int → St → Prop, T = Told s [p] (rmE s (sval p)) (dropN s (hold s (sval p)) (lst (sval p)) (tgt s (sval p))) := ⟨_, rfl⟩
 obtain ⟨post, hpost⟩ : ∃ post : Ending → World → Prop, post = FlatR w0.heap.size T w := ⟨_, rfl⟩
 have HPo : Hid (∀ k l x n a c w', n = l.length → OR w0.heap.size w.heap.size w' (.slice a n c) l → T k (l, x) → Below w.heap.size w w' → post (.returned (.tuple #[.agg #[.slice a n c, .int .i64 x], .int .i64 k])) w') := fun k l x n a c w' h1 h2 h3 h4 => by rw [hpost]; exact ⟨⟨k, l, x, n, a, c, rfl, h1, h2, h3⟩, h4⟩
 obtain ⟨W, hW⟩ := exa ((w.alloc (.cells #[.slice a s.1.length c, .int .i64 s.2] 24)).alloc (.cells #[.slice none 0 0, .int .i64 0] 24))
 have hb : Below w.heap.size w W := by rw [hW]; exact ((Below.refl _ w).alloc (Nat.le_refl _) _).alloc (by simp) _
 have hB1 : Box W w.heap.size 24 #[.slice a s.1.length c, .int .i64 s.2] := by rw [hW]; exact (Box.new _ _ _).alloc _
 have hB2 : Box W (w.heap.size + 1) 24 #[.slice none 0 0, .int .i64 0] := by (
 rw [hW]
 have := Box.new (w.alloc (.cells #[.slice a s.1.length c, .int .i64 s.2] 24)) 24 #[.slice none 0 0, .int .i64 0]
 rwa [World.size_alloc] at this)
 have HW : Hid (Below w.heap.size w W ∧ Box W (w.heap.size + 1) 24 #[.slice none 0 0, .int .i64 0] ∧ W.heap.size = w.heap.size + 2 ∧ w0.heap.size ≤ w.heap.size) := ⟨hb, hB2, by rw [hW]; simp, hb0.size⟩
 have HC := rremoved_t n0 w0 a c s p W (hb0.trans (hb.mono hb0.size)) hA hM
 rw [← hT] at HC ⊢
 rw [← hpost]
 obtain ⟨g0, g1, -, -⟩ := hB1.two
 obtain ⟨n, hn⟩ := exa (s.1.length)
 obtain ⟨nx, hnx⟩ := exa (s.2)
 rw [← hn] at HC g0 hW ⊢
 rw [← hnx] at HC g1 hW ⊢
 rw [hW] at g0 g1
 clear hT hpost hb hB1 hB2 hA hM hn hnx hb0
 go_enter Tryz.func19, Tryz.ntmps19
 go_wp2_with fail
 rw [← hW]
 clear hW g0 g1
 refine HC.mono ?_
 intro e w1 h1
 obtain ⟨⟨k1, l1, x1, n1, a1, c1, rfl, hn1, hO1, hT1⟩, hb1⟩ := h1.flat
 have H1 : Hid (n1 = l1.length ∧ OR w0.heap.size W.heap.size w1 (.slice a1 n1 c1) l1 ∧ T k1 (l1, x1) ∧ Below W.heap.size W w1) := ⟨hn1, hO1, hT1, hb1⟩
 obtain ⟨d0, d1, e0, e1⟩ := (HW.out.2.1.below hb1 HW.out.2.1.lt).two
 clear h1 hn1 hO1 hT1 hb1 HC
 go_wp2
 refine bodyPost_ret (v := .tuple #[.agg #[.slice a1 n1 c1, .int .i64 x1], .int .i64 k1]) (by simp [results, Tryz.results19, go_sem, *]) rfl (HPo.out _ _ _ _ _ _ _ H1.out.1 ?_ H1.out.2.2.1 (below_set2 (below_any HW.out.1 H1.out.2.2.2) (by omega) _ _))
 have h2 := HW.out
 exact ((H1.out.2.1.set ⟨by omega, by omega⟩).set ⟨by omega, by omega⟩).weaken (by omega)
end Go.Proofs.YtkcnephbaffmbaaGreatDoor
