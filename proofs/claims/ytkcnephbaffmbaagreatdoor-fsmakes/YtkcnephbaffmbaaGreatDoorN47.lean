/-
  The document's Create and Mkdir: what is made of every state.
  The document's gone: an entry of a directory is, its node with its last link.
  The document's Unlink and Rmdir: what is removed of every state.
-/
import Derived.Test.YtkcnephbaffmbaaGreatDoorN45
import Derived.Test.YtkcnephbaffmbaaGreatDoorN46
set_option maxRecDepth 100000
set_option maxHeartbeats 16000000
namespace Go.Proofs.YtkcnephbaffmbaaGreatDoor
open Go.RowKit
open D (En ArgE OwnE Chk there fnd aerr aval ins nameOk)
open P (ArgT OwnT serr sval)
def Stopped (P : Prop) : Prop := P
theorem Stopped.intro {P : Prop} (h : Stopped P) : P := h
theorem bksR_nil (w : World) : F.bksR.lies 0 w [.slice none 0 0] [] := bks_nil (F.bksR.olies (Shape.list_nil F.bkR 74 Tryz.underlying74 F.cells74 0 w)) w
theorem mkE_nil (s : St) : mkE s [] = 102 := by simp [mkE, vacE]
theorem mkE_std {s : St} {xs : List ByteArray} (h : xs ≠ []) (h1 : stdE s.1 xs ≠ 0) : mkE s xs = stdE s.1 xs := by simp [mkE, vacE, h, h1]
theorem mkE_there {s : St} {xs : List ByteArray} (h : xs ≠ []) (h1 : stdE s.1 xs = 0) (h2 : stdT s.1 xs ≠ 0) : mkE s xs = 102 := by simp [mkE, vacE, h, h1, h2]
theorem mkE_full {s : St} {xs : List ByteArray} (h : xs ≠ []) (h1 : stdE s.1 xs = 0) (h2 : stdT s.1 xs = 0) (h3 : s.1.length = 128 ∨ s.2 = 2147483647) : mkE s xs = 109 := by simp [mkE, vacE, h, h1, h2, h3]
theorem mkE_add {s : St} {xs : List ByteArray} (h : xs ≠ []) (h1 : stdE s.1 xs = 0) (h2 : stdT s.1 xs = 0) (h3 : ¬ (s.1.length = 128 ∨ s.2 = 2147483647)) : mkE s xs = aerr (en (hold s xs)) (lst xs, s.2) := by simp [mkE, vacE, h, h1, h2, h3]
theorem std_there {s : St} (h : Ok s) {xs : List ByteArray} (h1 : stdE s.1 xs = 0) : (there (en (hold s xs)) (lst xs) = true → stdT s.1 xs = fnd (en (hold s xs)) (lst xs) ∧ stdT s.1 xs ≠ 0) ∧ (there (en (hold s xs)) (lst xs) = false → stdT s.1 xs = 0) := by
 obtain ⟨_, hm, _, hd, hT⟩ := std_zero h.wk h1
 constructor
 · intro ht
   have e1 : stdT s.1 xs = fnd (en (hold s xs)) (lst xs) := by rw [hT]; unfold entC; rw [if_neg (by rw [hd]; decide), if_neg (by rw [ht]; decide)]
   refine ⟨e1, ?_⟩
   obtain ⟨d, hx⟩ := D.there_mem.1 ht
   rw [e1, D.fnd_mem (h.wk.chk hm) hx]
   obtain ⟨m, hm', e2⟩ := h.wk.names _ hm _ hx
   have := (h.wk.low m hm').1
   simp only at e2
   omega
 · intro ht
   rw [hT]; unfold entC; rw [if_neg (by rw [hd]; decide), if_pos ht]
theorem no_told {s : St} {ps : List ByteArray} {K : Int} {s' : St} {k : Int} (h : Ok s) (hp : psE ps = 0) (h1 : K = k) (hk : k ≠ 0) : Told s ps K s' k ([], 0) := .inr (.inr (.inl ⟨h, hp, by rw [h1]; exact hk, h1.symm, rfl⟩))
theorem yes_told {s : St} {ps : List ByteArray} {K : Int} {s' : St} (h : Ok s) (hp : psE ps = 0) (h1 : K = 0) : Told s ps K s' 0 s' := .inr (.inr (.inr ⟨h, hp, h1, rfl, rfl⟩))
theorem rmade_any (n0 : Nat) (w0 : World) (a : Option Addr) (c : Nat) (s : St) (p : ByteArray) (b : Bool) (w : World) (hb0 : Below w0.heap.size w0 w) (hA : ndsR.lies n0 w0 [.slice a s.1.length c] s.1) (hM : FitsS s.1) :
   Calls Tryz.prog 53 #[.agg #[.slice a s.1.length c, .int .i64 s.2], .string p, .bool b] w (TellsR w0.heap.size (Told s [p] (mkE s (sval p)) (mkN s (hold s (sval p)) (lst (sval p)) b)) w) := by
 obtain ⟨T, hT⟩ : ∃ T : Int → St → Prop, T = Told s [p] (mkE s (sval p)) (mkN s (hold s (sval p)) (lst (sval p)) b) := ⟨_, rfl⟩
 have HT : Hid (T = Told s [p] (mkE s (sval p)) (mkN s (hold s (sval p)) (lst (sval p)) b)) := hT
 rw [← hT]
 clear hT
 obtain ⟨post, hpost⟩ : ∃ post : Ending → World → Prop, post = TellsR w0.heap.size T w := ⟨_, rfl⟩
 have HNo : Hid (∀ k w', T k ([], 0) → Below w.heap.size w w' → post (.returned (.tuple #[.agg #[.slice none 0 0, .int .i64 0], .int .i64 k])) w') := fun k w' h1 h2 => by rw [hpost]; exact ⟨⟨_, k, ([], 0), rfl, h1, OR.nil _ _ _⟩, h2⟩
 have HYes : Hid (∀ v l' nx' w', T 0 (l', nx') → OR w0.heap.size w.heap.size w' v l' → Below w.heap.size w w' → post (.returned (.tuple #[.agg #[v, .int .i64 nx'], .int .i64 0])) w') := fun v l' nx' w' h1 h2 h3 => by rw [hpost]; exact ⟨⟨v, 0, (l', nx'), rfl, h1, h2⟩, h3⟩
 rw [← hpost]
 clear hpost
 obtain ⟨W, hW⟩ := exa ((w.alloc (.cells #[.slice a s.1.length c, .int .i64 s.2] 24)).alloc (.cells #[.slice none 0 0, .int .i64 0] 24))
 have hb : Below w.heap.size w W := by rw [hW]; exact ((Below.refl _ w).alloc (Nat.le_refl _) _).alloc (by simp) _
 have hAw : ndsR.lies n0 w [.slice a s.1.length c] s.1 := ndsR.below hA hb0
 have hB1 : Box W w.heap.size 24 #[.slice a s.1.length c, .int .i64 s.2] := by rw [hW]; exact (Box.new _ _ _).alloc _
 have hB2 : Box W (w.heap.size + 1) 24 #[.slice none 0 0, .int .i64 0] := by (
 rw [hW]
 have := Box.new (w.alloc (.cells #[.slice a s.1.length c, .int .i64 s.2] 24)) 24 #[.slice none 0 0, .int .i64 0]
 rwa [World.size_alloc] at this)
 have HW : Hid (Below w.heap.size w W ∧ ndsR.lies n0 W [.slice a s.1.length c] s.1 ∧ W.heap.size = w.heap.size + 2 ∧ Below w0.heap.size w0 W ∧ w0.heap.size ≤ w.heap.size) := ⟨hb, ndsR.below hAw hb, by rw [hW]; simp, hb0.trans (hb.mono hb0.size), hb0.size⟩
 have HSB : Hid (∀ V, Below W.heap.size W V → V.cell? ⟨w.heap.size, 0, none⟩ = some (.slice a s.1.length c) ∧ V.cell? ⟨w.heap.size, 1, none⟩ = some (.int .i64 s.2) ∧ V.cell? ⟨w.heap.size + 1, 0, none⟩ = some (.slice none 0 0) ∧ V.cell? ⟨w.heap.size + 1, 1, none⟩ = some (.int .i64 0) ∧ V.frozen? ⟨w.heap.size + 1, 0, none⟩ = false ∧ V.frozen? ⟨w.heap.size + 1, 1, none⟩ = false) := fun V hV => by (
 obtain ⟨g0, g1, -, -⟩ := (hB1.below hV hB1.lt).two
 obtain ⟨d0, d1, d2, d3⟩ := (hB2.below hV hB2.lt).two
 exact ⟨g0, g1, d0, d1, d2, d3⟩)
 have HBW : Hid (∀ V, Below W.heap.size W V → Below w.heap.size w V) := fun V hV => below_any hb hV
 have HA0 : Hid (ndsR.lies n0 w0 [.slice a s.1.length c] s.1 ∧ FitsS s.1) := ⟨hA, hM⟩
 have HLI : Hid (∀ V, Below W.heap.size W V → ndsR.lies n0 V [.slice a s.1.length c] s.1) := fun V hV => ndsR.below HW.out.2.1 hV
 have HPL : Hid (∀ V (i : Int), Below W.heap.size W V → Calls Tryz.prog 75 #[.agg #[.slice a s.1.length c, .int .i64 s.2], .int .i64 i] V fun e w' => e = .returned (.int .i64 (plc s.1 i)) ∧ Below V.heap.size V w') := fun V i hV => rplace_any n0 a c s.1 s.2 i V (HLI.out V hV)
 have HWA : Hid (Ok s → ∀ V av cv m (xs : List ByteArray), Below W.heap.size W V → m = xs.length → OwnT W.heap.size V (.slice av m cv) xs → Calls Tryz.prog 49 #[.agg #[.slice a s.1.length c, .int .i64 s.2], .slice av m cv] V fun e w' => e = .returned (.tuple #[.int .i64 (wlk s.1 1 xs).1, .int .i64 (wlk s.1 1 xs).2]) ∧ Below V.heap.size V w') := fun hO V av cv m xs hV hm hX => by
   subst hm
   exact rwalk_any n0 W.heap.size a c s hO.wk av cv xs V (HLI.out V hV) hX.arg
 have HHO : Hid (Ok s → ∀ V av cv m (xs : List ByteArray), Below W.heap.size W V → m = xs.length → OwnT W.heap.size V (.slice av m cv) xs → xs ≠ [] → Calls Tryz.prog 73 #[.agg #[.slice a s.1.length c, .int .i64 s.2], .slice av m cv] V fun e w' => (∃ i x, e = .returned (.tuple #[.int .i64 i, .string x, .int .i64 (stdE s.1 xs)]) ∧ (stdE s.1 xs = 0 → i = plc s.1 (hold s xs).1 ∧ x = lst xs)) ∧ Below V.heap.size V w') := fun hO V av cv m xs hV hm hX hne => by
   subst hm
   exact rhome_any n0 W.heap.size a c s hO.wk av cv xs hne V (HLI.out V hV) hX.arg
 have HOW : Hid (Ok s → ∀ V, Below W.heap.size W V → Calls Tryz.prog 42 #[.agg #[.slice a s.1.length c, .int .i64 s.2]] V fun e w' => (∃ v', e = .returned (.agg #[v', .int .i64 s.2]) ∧ OR w0.heap.size V.heap.size w' v' s.1) ∧ Below V.heap.size V w') := fun hO V hV => rown_any n0 w0 a c s hO.wk V (HW.out.2.2.2.1.trans (hV.mono HW.out.2.2.2.1.size)) HA0.out.1
 have HC1 := rcheck10_any n0 a c s W (HLI.out W (Below.refl _ _)) hM
 obtain ⟨g0, g1, d0, d1, e0, e1⟩ := HSB.out W (Below.refl _ _)
 obtain ⟨n, hn⟩ := exa (s.1.length)
 obtain ⟨nx, hnx⟩ := exa (s.2)
 have HN : Hid (n = s.1.length ∧ nx = s.2) := ⟨hn, hnx⟩
 rw [← hn] at HW HSB HA0 HLI HPL HWA HHO HOW HC1 g0 hW ⊢
 rw [← hnx] at HSB HPL HWA HHO HOW HC1 g1 hW ⊢
 rw [hW] at g0 g1 d0 d1 e0 e1
 clear hb hA hAw hM hB1 hB2 hb0 hn hnx
 go_enter Tryz.func53, Tryz.ntmps53
 go_wp2_with fail
 rw [← hW]
 clear hW g0 g1 d0 d1 e0 e1
 refine HC1.mono ?_
 rintro e w1 ⟨⟨r, rfl, hr⟩, hb1⟩
 have HB1 : Hid (Below W.heap.size W w1) := hb1
 clear hb1 HC1
 obtain ⟨-, -, d0, d1, e0, e1⟩ := HSB.out w1 HB1.out
 by_cases hr0 : r = 0
 case neg => (
 have HT1 : Hid (T 9 ([], 0)) := by (
 rw [HT.out]
 rcases hr with ⟨_, h⟩ | ⟨h, _⟩
 · exact absurd h hr0
 · exact .inl ⟨h, rfl, rfl⟩)
 clear hr
 go_wp2
 refine bodyPost_ret (v := .tuple #[.agg #[.slice none 0 0, .int .i64 0], .int .i64 9]) (by simp [results, Tryz.results53, go_sem, *]) rfl (HNo.out _ _ HT1.out (below_set2 (HBW.out _ HB1.out) (by omega) _ _)))
 have HO : Hid (Ok s) := by (
 rcases hr with ⟨h, _⟩ | ⟨_, h⟩
 · exact h
 · omega)
 clear hr
 subst hr0
 have HC2 := P.rsplit_any p w1
 go_wp2_with fail
 refine HC2.mono ?_
 rintro e w2 ⟨v, rfl, hO2, hb2⟩
 obtain ⟨av, cv, rfl⟩ := hO2.shape
 obtain ⟨xs, hxs⟩ := exa (sval p)
 obtain ⟨m, hm⟩ := exa (xs.length)
 rw [← hxs] at HT hO2 ⊢
 rw [← hm] at hO2 ⊢
 have HB2 : Hid (Below W.heap.size W w2 ∧ OwnT W.heap.size w2 (.slice av m cv) xs ∧ m = xs.length) := ⟨below_any HB1.out hb2, hO2.weaken HB1.out.size, hm⟩
 obtain ⟨k2, hk2⟩ := exa (serr p)
 rw [← hk2]
 have HK2 : Hid (k2 = psE [p]) := show k2 = psE [p] by rw [hk2, psE_one]
 have hl1 := run_len Tryz.underlying59 av m cv
 clear hO2 hb2 HC2 hk2 hxs hm d0 d1 e0 e1
 obtain ⟨g0, g1, d0, d1, e0, e1⟩ := HSB.out w2 HB2.out.1
 by_cases hk0 : k2 = 0
 case neg => (
 have HT1 : Hid (T k2 ([], 0)) := by
   rw [HT.out]
   exact .inr (.inl ⟨HO.out, by rw [← HK2.out]; exact hk0, HK2.out, rfl⟩)
 go_wp2
 refine bodyPost_ret (v := .tuple #[.agg #[.slice none 0 0, .int .i64 0], .int .i64 k2]) (by simp [results, Tryz.results53, go_sem, *]) rfl (HNo.out _ _ HT1.out (below_set2 (HBW.out _ HB2.out.1) (by omega) _ _)))
 subst hk0
 have HPS : Hid (psE [p] = 0) := HK2.out.symm
 clear HK2
 by_cases hm0 : m = 0
 case pos => (
 subst hm0
 have HT1 : Hid (T 102 ([], 0)) := by (
 rw [HT.out]
 obtain rfl : xs = [] := List.eq_nil_of_length_eq_zero HB2.out.2.2.symm
 exact no_told HO.out HPS.out (mkE_nil s) (by decide))
 go_wp2
 refine bodyPost_ret (v := .tuple #[.agg #[.slice none 0 0, .int .i64 0], .int .i64 102]) (by simp [results, Tryz.results53, go_sem, *]) rfl (HNo.out _ _ HT1.out (below_set2 (HBW.out _ HB2.out.1) (by omega) _ _)))
 have HNE : Hid (xs ≠ []) := fun h => hm0 (by rw [HB2.out.2.2, h]; rfl)
 have hm0b : ((m : Int) == 0) = false := by simp; omega
 have HC3 := HHO.out HO.out w2 av cv m xs HB2.out.1 HB2.out.2.2 HB2.out.2.1 HNE.out
 obtain ⟨k3, hk3⟩ := exa (stdE s.1 xs)
 rw [← hk3] at HC3
 have HK3 : Hid (k3 = stdE s.1 xs) := hk3
 clear hk3
 go_wp2_with fail
 refine HC3.mono ?_
 rintro e w3 ⟨⟨i3, x3, rfl, h3⟩, hb3⟩
 have HB3 : Hid (Below W.heap.size W w3) := below_any HB2.out.1 hb3
 have H3 : Hid (k3 = 0 → i3 = plc s.1 (hold s xs).1 ∧ x3 = lst xs) := h3
 clear hb3 h3 HC3 g0 g1 d0 d1 e0 e1
 obtain ⟨g0, g1, d0, d1, e0, e1⟩ := HSB.out w3 HB3.out
 by_cases hk0 : k3 = 0
 case neg => (
 have HT1 : Hid (T k3 ([], 0)) := by
   rw [HT.out, HK3.out]
   exact no_told HO.out HPS.out (mkE_std HNE.out (by rw [← HK3.out]; exact hk0)) (by rw [← HK3.out]; exact hk0)
 go_wp2
 refine bodyPost_ret (v := .tuple #[.agg #[.slice none 0 0, .int .i64 0], .int .i64 k3]) (by simp [results, Tryz.results53, go_sem, *]) rfl (HNo.out _ _ HT1.out (below_set2 (HBW.out _ HB3.out) (by omega) _ _)))
 subst hk0
 have HS0 : Hid (stdE s.1 xs = 0) := HK3.out.symm
 obtain ⟨hi3, rfl⟩ := H3.out rfl
 obtain ⟨-, hhm, -, -, -⟩ := std_zero HO.out.wk HS0.out
 obtain ⟨at', hat, hpc⟩ := plc_mem HO.out.wk.up hhm
 rw [hpc] at hi3
 subst hi3
 obtain ⟨q, hq⟩ := exa (hold s xs)
 obtain ⟨y, hy⟩ := exa (lst xs)
 have HQ : Hid (q = hold s xs ∧ y = lst xs ∧ s.1[at']? = some q ∧ q ∈ s.1) := ⟨hq, hy, by rw [hq]; exact hat, by rw [hq]; exact hhm⟩
 rw [← hy]
 obtain ⟨b1, o1, ea, ec, fa, fc, hix, hall⟩ := ndr_at HW.out.2.1 at' q HQ.out.2.2.1
 obtain ⟨el, hel⟩ := exa ((en q).length)
 rw [← hel] at hall
 have HE1 : Hid (∀ V, Below W.heap.size W V → V.cell? ⟨b1, o1 + 3, none⟩ = some (.slice ea el ec) ∧ ArgE n0 V (.slice ea el ec) (en q)) := fun V hV => ⟨(hall V hV).1.2.2.2.1, (hall V hV).2.1⟩
 have hatn : (at' : Int) < (n : Int) := by (
 have h1 := (List.getElem?_eq_some_iff.1 hat).1
 have h2 := HN.out.1
 omega)
 have HC4 := rfind_b y (HE1.out w3 HB3.out).2 (HO.out.wk.chk HQ.out.2.2.2)
 have c3 := (HE1.out w3 HB3.out).1
 obtain ⟨fq, hfq⟩ := exa (fnd (en q) y)
 obtain ⟨th, hth⟩ := exa (there (en q) y)
 rw [← hfq, ← hth] at HC4
 have HTH : Hid (th = there (en q) y ∧ el = (en q).length) := ⟨hth, hel⟩
 clear hhm hat hpc hall hq hy hfq hth hel H3 HK3
 go_wp2_with fail
 refine HC4.mono ?_
 rintro e w4 ⟨rfl, hb4⟩
 have HB4 : Hid (Below W.heap.size W w4) := below_any HB3.out hb4
 clear hb4 HC4 g0 g1 d0 d1 e0 e1 c3
 obtain ⟨g0, g1, d0, d1, e0, e1⟩ := HSB.out w4 HB4.out
 cases th
 case true => (
 have HT1 : Hid (T 102 ([], 0)) := by (
 rw [HT.out]
 have h1 := HTH.out.1
 rw [HQ.out.1, HQ.out.2.1] at h1
 exact no_told HO.out HPS.out (mkE_there HNE.out HS0.out ((std_there HO.out HS0.out).1 h1.symm).2) (by decide))
 go_wp2
 refine bodyPost_ret (v := .tuple #[.agg #[.slice none 0 0, .int .i64 0], .int .i64 102]) (by simp [results, Tryz.results53, go_sem, *]) rfl (HNo.out _ _ HT1.out (below_set2 (HBW.out _ HB4.out) (by omega) _ _)))
 have HST : Hid (stdT s.1 xs = 0) := by (
 have h1 := HTH.out.1
 rw [HQ.out.1, HQ.out.2.1] at h1
 exact (std_there HO.out HS0.out).2 h1.symm)
 have hl2 := run_len Tryz.underlying22 a n c
 have hbo : n ≤ 128 ∧ nx ≤ 2147483647 := by (
 have h1 := HO.out.wk.len
 have h2 := HO.out.wk.nx
 have h3 := HN.out
 omega)
 obtain ⟨hn128, hnxm⟩ := hbo
 by_cases hf1 : n = 128
 case pos => (
 have HT1 : Hid (T 109 ([], 0)) := by
   rw [HT.out]
   exact no_told HO.out HPS.out (mkE_full HNE.out HS0.out HST.out (.inl (by rw [← HN.out.1]; exact hf1))) (by decide)
 subst hf1
 go_wp2
 refine bodyPost_ret (v := .tuple #[.agg #[.slice none 0 0, .int .i64 0], .int .i64 109]) (by simp [results, Tryz.results53, go_sem, *]) rfl (HNo.out _ _ HT1.out (below_set2 (HBW.out _ HB4.out) (by omega) _ _)))
 by_cases hf2 : nx = 2147483647
 case pos => (
 have HT1 : Hid (T 109 ([], 0)) := by
   rw [HT.out]
   exact no_told HO.out HPS.out (mkE_full HNE.out HS0.out HST.out (.inr (by rw [← HN.out.2]; exact hf2))) (by decide)
 subst hf2
 have hf1i : ¬ 128 ≤ (n : Int) := by omega
 go_wp2
 refine bodyPost_ret (v := .tuple #[.agg #[.slice none 0 0, .int .i64 0], .int .i64 109]) (by simp [results, Tryz.results53, go_sem, *]) rfl (HNo.out _ _ HT1.out (below_set2 (HBW.out _ HB4.out) (by omega) _ _)))
 have HMK : Hid (mkE s xs = aerr (en q) (y, nx)) := by (
 have h1 := mkE_add HNE.out HS0.out HST.out (s := s) (by have := HN.out; omega)
 rw [← HQ.out.1, ← HQ.out.2.1, ← HN.out.2] at h1
 exact h1)
 have hf1i : ¬ 128 ≤ (n : Int) := by omega
 have hf2i : ¬ 2147483647 ≤ nx := by omega
 have HC5 := HOW.out HO.out w4 HB4.out
 go_wp2_with fail
 refine HC5.mono ?_
 rintro e w5 ⟨⟨v5, rfl, hor5⟩, hb5⟩
 have HB5 : Hid (Below W.heap.size W w5) := below_any HB4.out hb5
 obtain ⟨X, hX⟩ : ∃ X : Nat → Prop, X = fun k => (w0.heap.size ≤ k ∧ k < w4.heap.size) ∨ k = w5.heap.size := ⟨_, rfl⟩
 have HX : Hid (∀ k, X k ↔ (w0.heap.size ≤ k ∧ k < w4.heap.size) ∨ k = w5.heap.size) := fun k => by rw [hX]
 obtain ⟨W5, hW5⟩ := exa (w5.alloc (.cells #[v5, .int .i64 nx] 24))
 have hbW5 : Below w5.heap.size w5 W5 := by rw [hW5]; exact (Below.refl _ w5).alloc (Nat.le_refl _) _
 have HR5 : Hid (RX X w4.heap.size W5 v5 s.1 ∧ Box W5 w5.heap.size 24 #[v5, .int .i64 nx] ∧ Below W.heap.size W W5 ∧ w4.heap.size ≤ w5.heap.size ∧ W5.heap.size = w5.heap.size + 1) := by (
 refine ⟨(RX.of_or hor5).more hbW5 fun k hk => ?_, by rw [hW5]; exact Box.new _ _ _, below_any HB5.out hbW5, hb5.size, by rw [hW5]; simp⟩
 rcases (HX.out k).1 hk with h | h
 · exact .inl h
 · exact .inr (by omega))
 obtain ⟨g5, c5, ea5, ec5, fa5, fc5, rfl, hbg5, hgs5, hix5, hpx5, hall5⟩ := HR5.out.1.at at' q HQ.out.2.2.1
 rw [← HN.out.1] at hix5 HR5 hpx5 hall5 hW5 ⊢
 rw [← HTH.out.2] at hpx5 hall5
 have HG5 : Hid (w4.heap.size ≤ g5 ∧ g5 < W5.heap.size ∧ g5 ≠ w5.heap.size ∧ g5 < w5.heap.size) := by (
 have h1 := HR5.out.1.lt g5 rfl
 have h2 := hor5.owns g5 (by rw [← HN.out.1]; rfl)
 exact ⟨h1.1, h1.2, by omega, by omega⟩)
 have HALL5 : Hid (∀ V, Below W5.heap.size W5 V → V.cell? ⟨g5, at' * 6 + 3, none⟩ = some (.slice ea5 el ec5) ∧ V.frozen? ⟨g5, at' * 6 + 3, none⟩ = false ∧ V.cell? ⟨w5.heap.size, 0, none⟩ = some (.slice (some ⟨g5, 0, none⟩) n c5) ∧ V.cell? ⟨w5.heap.size, 1, none⟩ = some (.int .i64 nx) ∧ V.cell? ⟨w.heap.size, 1, none⟩ = some (.int .i64 nx)) := fun V hV => by
   have hbx := HR5.out.2.1.below hV HR5.out.2.1.lt
   exact ⟨(hall5 V hV).1.2.2.2.1, (hall5 V hV).2.1 _, hbx.two.1, hbx.two.2.1, (HSB.out V (below_any HR5.out.2.2.1 hV)).2.1⟩
 have HPX5 : Hid (PX (WX X (.slice (some ⟨g5, 0, none⟩) n c5)) W5 q (.slice ea5 el ec5) (.slice fa5 (fi q).2.length fc5)) := hpx5
 have HST5 : Hid (∀ V u p' e' f', Below W5.heap.size W5 V → (nv q (.slice ea5 el ec5) (.slice fa5 (fi q).2.length fc5)).set 3 u = nv p' e' f' → PX (WX X (.slice (some ⟨g5, 0, none⟩) n c5)) V p' e' f' → RX X w4.heap.size (V.setCell ⟨g5, at' * 6 + 3, none⟩ u) (.slice (some ⟨g5, 0, none⟩) n c5) (s.1.set at' p')) := fun V u p' e' f' hV h1 h2 => (hall5 V hV).2.2 3 u p' e' f' (by omega) h1 h2
 have HAD : Hid (∀ V, Below W5.heap.size W5 V → Calls Tryz.prog 80 #[.slice ea5 el ec5, .agg #[.string y, .int .i64 nx]] V fun r w' => (∃ v', r = .returned (.tuple #[v', .int .i64 (aerr (en q) (y, nx))]) ∧ OwnE 123 V.heap.size w' v' (aval (en q) (y, nx))) ∧ Below V.heap.size V w') := fun V hV => by (
 have hly : y.size ≤ maxLen := by
   rw [HQ.out.2.1]
   exact HB2.out.2.1.arg.2 _ (lst_mem HNE.out)
 exact D.radd_any 0 (.slice ea5 el ec5) (en q) (y, nx) V (hpx5.lr.1.below hV) ⟨hly, by have := HO.out.wk.nx; have := HN.out.2; exact ⟨by simp only; omega, by simp only; omega⟩⟩)
 obtain ⟨k6, hk6⟩ := exa (aerr (en q) (y, nx))
 have HK6 : Hid (k6 = aerr (en q) (y, nx)) := hk6
 rw [← hk6] at HAD
 obtain ⟨t0, t1, t2, t3, t4⟩ := HALL5.out W5 (Below.refl _ _)
 rw [hW5] at t0 t2 t3 t4
 clear hor5 hb5 hX hbW5 hpx5 hall5 hbg5 hgs5 HC5 g0 g1 d0 d1 e0 e1 hk6 t1
 go_wp2
 rw [← hW5]
 clear hW5 t0 t2 t3 t4
 have HS0' := HALL5.out W5.drew (Below.refl _ W5).drew
 have HCR := HAD.out W5.drew (Below.refl _ W5).drew
 go_region_held3 (fun U => U.cell? ⟨g5, at' * 6 + 3, none⟩ = some (.slice ea5 el ec5) ∧ U.frozen? ⟨g5, at' * 6 + 3, none⟩ = false ∧ U.cell? ⟨w5.heap.size, 0, none⟩ = some (.slice (some ⟨g5, 0, none⟩) n c5) ∧ U.cell? ⟨w5.heap.size, 1, none⟩ = some (.int .i64 nx) ∧ U.cell? ⟨w.heap.size, 1, none⟩ = some (.int .i64 nx))
   (first | with_reducible exact HS1' | with_reducible exact HS0')
   ((first | (go_at_call 80; refine HCR.mono ?_; rintro e w6 ⟨⟨v6, rfl, hO6⟩, hb6⟩; have HS1' := HALL5.out w6 (below_any (Below.refl _ W5).drew hb6))))
 have HB6 : Hid (Below W5.heap.size W5 w6 ∧ OwnE 123 W5.heap.size w6 v6 (aval (en q) (y, nx))) := ⟨below_any (Below.refl _ W5).drew hb6, hO6⟩
 clear HS0' HS1' hb6 hO6 HCR
 obtain ⟨-, -, d0, d1, e0, e1⟩ := HSB.out w6 (below_any HR5.out.2.2.1 HB6.out.1)
 by_cases hk0 : k6 = 0
 case neg => (
 have HT1 : Hid (T k6 ([], 0)) := by
   rw [HT.out, HK6.out]
   exact no_told HO.out HPS.out HMK.out (by rw [← HK6.out]; exact hk0)
 go_wp2
 refine bodyPost_ret (v := .tuple #[.agg #[.slice none 0 0, .int .i64 0], .int .i64 k6]) (by simp [results, Tryz.results53, go_sem, *]) rfl (HNo.out _ _ HT1.out (below_set2 (HBW.out _ (below_any HR5.out.2.2.1 HB6.out.1)) (by omega) _ _)))
 subst hk0
 obtain ⟨t0, t1, t2, t3, t4⟩ := HALL5.out w6 HB6.out.1
 have hav : aval (en q) (y, nx) = ins (en q) (y, nx) := if_pos HK6.out.symm
 have HO6 : Hid (OwnE 123 W5.heap.size w6 v6 (ins (en q) (y, nx))) := by rw [← hav]; exact HB6.out.2
 obtain ⟨ea6, ec6, rfl⟩ := HO6.out.shape
 obtain ⟨W6, hW6⟩ := exa (w6.setCell ⟨g5, at' * 6 + 3, none⟩ (.slice ea6 (ins (en q) (y, nx)).length ec6))
 have hbx6 : Box W6 w5.heap.size 24 #[.slice (some ⟨g5, 0, none⟩) n c5, .int .i64 nx] := by rw [hW6]; exact (HR5.out.2.1.below HB6.out.1 HR5.out.2.1.lt).other (Ne.symm HG5.out.2.2.1)
 have HR6 : Hid (RX X w4.heap.size W6 (.slice (some ⟨g5, 0, none⟩) n c5) (ch s.1 q.1 (wE (ins (en q) (y, nx)))) ∧ Box W6 w5.heap.size 24 #[.slice (some ⟨g5, 0, none⟩) n c5, .int .i64 nx] ∧ Below W.heap.size W W6 ∧ w5.heap.size + 1 ≤ W6.heap.size) := by (
 refine ⟨?_, hbx6, ?_, by rw [hW6]; have := HB6.out.1.size; have := HR5.out.2.2.2.2; simp [World.setCell]; omega⟩
 · rw [hW6, ← set_ch HO.out.wk.up HQ.out.2.2.1]
   refine HST5.out w6 _ (wE (ins (en q) (y, nx)) q) _ (.slice fa5 (fi q).2.length fc5) HB6.out.1 rfl ⟨HPX5.out.1, fun w' ha => ⟨?_, ?_⟩⟩
   · refine ens_px HO6.out.arg (fun k hk => ?_) ha
     have h0 := HR5.out.2.2.2
     have h4 := HG5.out
     rcases hk with hk | hk
     · rcases (HX.out k).1 hk with h | h <;> omega
     · have : g5 = k := by simpa [Value.ownBlock] using hk
       omega
   · exact (HPX5.out.2 w' fun k k1 k2 => by rw [ha k k1 (by have := HB6.out.1.size; omega)]; exact HB6.out.1.block k k2).2
 · rw [hW6]
   exact (below_any HR5.out.2.2.1 HB6.out.1).setCell (p := ⟨g5, at' * 6 + 3, none⟩) (by have := HG5.out.1; have := HB4.out.size; simp only; omega) _)
 obtain ⟨s0, s1, r0, r1, f0, f1⟩ := HSB.out W6 HR6.out.2.2.1
 obtain ⟨u0, u1, -, -⟩ := hbx6.two
 rw [hW6] at s0 s1 r0 r1 f0 f1 u0 u1
 clear hbx6 hav
 obtain ⟨vss, hrow, heach⟩ := HR6.out.1
 rw [ch_length, ← HN.out.1] at hrow
 have HEA : Hid (Each (fun us p => ∃ e b, us = nv p e b ∧ PX (WX X (.slice (some ⟨g5, 0, none⟩) n c5)) W6 p e b) vss (ch s.1 q.1 (wE (ins (en q) (y, nx))))) := heach
 have HROW : Hid (W6.ownsRow w4.heap.size 78 6 (.slice (some ⟨g5, 0, none⟩) n c5) n vss.flatten) := hrow
 clear hrow heach
 go_wp2_with (at_builtin; refine Stopped.intro ?_)
 unfold Stopped
 have hsz6 : w6.heap.size = W6.heap.size := by rw [hW6]; simp [World.setCell]
 rw [← hW6, hsz6]
 clear hsz6 s0 s1 r0 r1 f0 f1 u0 u1 t0 t1 t2 t3 t4 d0 d1 e0 e1 hW6
 refine push_row (by rfl) _ _ 22 78 (by rfl) Tryz.underlying22 Tryz.info78 rfl (by omega) w4.heap.size _ vss.flatten n [.int .i64 nx, .bool b, .int .i64 1, .slice none 0 0, .int .i64 0, .slice none 0 0] rfl (by simp [Value.oneCell']) W6 (by rfl) HROW.out (by rfl) (by omega) (by omega) (by have := HR6.out.2.2.2; have := HR5.out.2.2.2; omega) ?_
 intro g7 c7 w7 hO7 hg7 hgr7 hlt7
 have hbx7 := (Box.alloc HR6.out.2.1 (.cells #[.int .i64 nx, .bool b, .int .i64 1, .slice none 0 0, .int .i64 0, .slice none 0 0] 78)).grown hg7 (by have := HG5.out.2.2.1; simp [Value.ownBlock]; omega)
 obtain ⟨p0, p1, q0, q1⟩ := hbx7.two
 have hb7 : Below W.heap.size W w7 := below_row HR6.out.2.2.1 HROW.out hg7 HB4.out.size (by have := HR6.out.2.2.2; have := HR5.out.2.2.2; have := HB4.out.size; omega)
 obtain ⟨-, -, d0, d1, e0, e1⟩ := HSB.out w7 hb7
 have HG7 : Hid (g7 ≠ w5.heap.size ∧ g7 ≠ w.heap.size + 1 ∧ W.heap.size ≤ w4.heap.size ∧ w4.heap.size ≤ w5.heap.size) := by (
 have h1 := HG5.out
 have h2 := HR6.out.2.2.2
 have h3 := HR5.out.2.2.2
 have h4 := HB4.out.size
 have h5 := HW.out.2.2.1
 rcases hgr7 with h | h
 · have : g5 = g7 := by simpa [Value.ownBlock] using h
   exact ⟨by omega, by omega, by omega, by omega⟩
 · exact ⟨by omega, by omega, by omega, by omega⟩)
 have hne1 : ¬ w5.heap.size = w.heap.size + 1 := by have := HG7.out; have := HW.out.2.2.1; omega
 have hne2 : ¬ w.heap.size + 1 = w5.heap.size := fun h => hne1 h.symm
 have HR7 : Hid (RX X w4.heap.size w7 (.slice (some ⟨g7, 0, none⟩) (n + 1) c7) (mkN s q y b).1) := by (
 have hbA : Below W6.heap.size W6 (W6.alloc (.cells #[.int .i64 nx, .bool b, .int .i64 1, .slice none 0 0, .int .i64 0, .slice none 0 0] 78)) := (Below.refl _ _).alloc (Nat.le_refl _) _
 have key : ∀ w'', AgX (WX X (.slice (some ⟨g5, 0, none⟩) n c5)) (W6.alloc (.cells #[.int .i64 nx, .bool b, .int .i64 1, .slice none 0 0, .int .i64 0, .slice none 0 0] 78)) w'' → AgX (WX X (.slice (some ⟨g5, 0, none⟩) n c5)) W6 w'' := fun w'' ha k k1 k2 => by
   rw [ha k k1 (by have := hbA.size; omega)]
   exact hbA.block k k2
 have h9 : (mkN s q y b).1 = ch s.1 q.1 (wE (ins (en q) (y, nx))) ++ [(nx, b, 1, [], (0, []))] := by unfold mkN; rw [← HN.out.2]
 rw [h9]
 refine RX.push (v := .slice (some ⟨g5, 0, none⟩) n c5) (e := .slice none 0 0) (b := .slice none 0 0) (vss := vss) (HEA.out.mono fun us q ⟨e, b, h3, h4⟩ => ⟨e, b, h3, h4.to key⟩) ⟨⟨by have := HO.out.wk.nx; have := HN.out.2; exact ⟨by simp only; omega, by simp only; omega⟩, (show I64 1 from ⟨by omega, by omega⟩), (show I64 0 from ⟨by omega, by omega⟩)⟩, fun w' _ => ⟨(D.OwnE.nil 123 0 w').arg, bksR_nil w'⟩⟩ hg7 (fun g' hg' => ?_) (by rw [ch_length, ← HN.out.1]; exact hO7)
 have e1 : g7 = g' := by simpa [Value.ownBlock] using hg'
 subst e1
 rcases hgr7 with h | h
 · exact .inl h
 · exact .inr (by rw [h]; simp))
 have HB7 : Hid (Below W.heap.size W w7) := hb7
 have hwn : IntKind.i64.wrap (nx + 1) = nx + 1 := wrap_i64 (by have := HO.out.wk.nx; have := HN.out.2; omega) (by omega)
 have HTY : Hid (T 0 ((mkN s q y b).1, nx + 1)) := by (
 have h9 : ((mkN s q y b).1, nx + 1) = mkN s q y b := by unfold mkN; rw [← HN.out.2]
 rw [HT.out, h9, HQ.out.1, HQ.out.2.1]
 exact yes_told HO.out HPS.out (by rw [HMK.out, ← HK6.out]))
 clear hO7 hg7 hgr7 hlt7 hbx7 hb7
 go_wp2
 refine bodyPost_ret (v := .tuple #[.agg #[.slice (some ⟨g7, 0, none⟩) (n + 1) c7, .int .i64 (nx + 1)], .int .i64 0]) (by simp [results, Tryz.results53, go_sem, *]) rfl (HYes.out _ _ _ _ HTY.out ?_ ?_)
 · have h1 := HG7.out
   have h2 := HW.out
   have hT : X w5.heap.size := (HX.out _).2 (.inr rfl)
   have hR : X (w.heap.size + 1) := (HX.out _).2 (.inl ⟨by omega, by omega⟩)
   have hn1 : (Value.slice (some ⟨g7, 0, none⟩) (n + 1) c7).ownBlock ≠ some w5.heap.size := by simp [Value.ownBlock]; omega
   have hn2 : (Value.slice (some ⟨g7, 0, none⟩) (n + 1) c7).ownBlock ≠ some (w.heap.size + 1) := by simp [Value.ownBlock]; omega
   exact ((((HR7.out.set hT hn1 _ _).set hT hn1 _ _).set hR hn2 _ _).set hR hn2 _ _).or (fun k k1 k2 => (HX.out k).2 (.inl ⟨k1, by omega⟩)) (by omega)
 · have h1 := HG7.out
   have h2 := HW.out
   exact below_set2 (below_set2 (HBW.out _ HB7.out) (by omega) _ _) (by omega) _ _
end Go.Proofs.YtkcnephbaffmbaaGreatDoor
namespace Go.Proofs.YtkcnephbaffmbaaGreatDoor
open Go.RowKit
open D (En ArgE OwnE Chk there fnd rerr rval del)
theorem drop_parts {l : List Nd} (hU : Ups l) {q z : Nd} (hz : z ∈ l) (y : ByteArray) : ∃ (kz : Nat) (z1 : Nd), (ch l q.1 (wE (del (en q) y)))[kz]? = some z1 ∧ z1.1 = z.1 ∧ lk z1 = lk z ∧ plc (ch l q.1 (wE (del (en q) y))) z.1 = (kz : Int) ∧ (ch l q.1 (wE (del (en q) y))).set kz (wL (lk z - 1) z1) = ch (ch l q.1 (wE (del (en q) y))) z.1 (wL (lk z - 1)) ∧ ((ch l q.1 (wE (del (en q) y))).set kz (wL (lk z - 1) z1)).eraseIdx kz = rm (ch l q.1 (wE (del (en q) y))) z.1 := by
 have hU1 : Ups (ch l q.1 (wE (del (en q) y))) := ups_ch (fun _ => rfl) hU
 have hm : (if z.1 = q.1 then wE (del (en q) y) z else z) ∈ ch l q.1 (wE (del (en q) y)) := by (
 rw [mem_ch]
 by_cases h : z.1 = q.1
 · rw [if_pos h]; exact .inr ⟨z, hz, h, rfl⟩
 · rw [if_neg h]; exact .inl ⟨hz, h⟩)
 have h1 : (if z.1 = q.1 then wE (del (en q) y) z else z).1 = z.1 := by split <;> rfl
 have h2 : lk (if z.1 = q.1 then wE (del (en q) y) z else z) = lk z := by split <;> rfl
 obtain ⟨kz, hk⟩ := List.getElem?_of_mem hm
 refine ⟨kz, _, hk, h1, h2, ?_, ?_, ?_⟩
 · have := plc_ups hU1 hk
   rwa [h1] at this
 · have := set_ch hU1 hk (wL (lk z - 1))
   rwa [h1] at this
 · rw [List.eraseIdx_set_eq]
   have := erase_rm hU1 hk
   rwa [h1] at this
theorem ok_lk_pos {s : St} (h : Ok s) {q z : Nd} (hq : q ∈ s.1) (hz : z ∈ s.1) {y : ByteArray} (hy : (y, z.1) ∈ en q) : 1 ≤ lk z ∧ lk z ≤ 16 := by
 have h1 : z.1 ≠ 1 := h.named hq hy
 cases hd : isD z
 · exact h.1.some z hz h1 hd
 · rw [h.1.one z hz h1 hd]; decide
theorem out_step {l : List Nd} {k j : Nat} {p : Nd} (hp : l[k]? = some p) : (l.take (k + 1)).eraseIdx j = if k = j then (l.take k).eraseIdx j else (l.take k).eraseIdx j ++ [p] := by
 have hk := (List.getElem?_eq_some_iff.1 hp).1
 rw [take_snoc hp]
 have hl : (l.take k).length = k := by rw [List.length_take]; omega
 rcases Nat.lt_trichotomy k j with h | h | h
 · rw [if_neg (by omega), List.eraseIdx_of_length_le (by simp [hl]; omega), List.eraseIdx_of_length_le (by omega)]
 · subst h
   rw [if_pos rfl, List.eraseIdx_append_of_length_le (by omega), hl, Nat.sub_self, List.eraseIdx_of_length_le (l := l.take k) (by omega)]
   simp
 · rw [if_neg (by omega), List.eraseIdx_append_of_lt_length (by omega)]
theorem rgone_own (X : Nat → Prop) (base : Nat) (v : Value) (l : List Nd) (nx : Int) (at' : Nat) (q z : Nd) (y : ByteArray) (w : World) (hO : Ok (l, nx)) (hq : l[at']? = some q) (hz : z ∈ l) (hy : (y, z.1) ∈ en q) (hR : RX X base w v l) (hbs : base ≤ w.heap.size) (hXs : ∀ k, X k → k < w.heap.size) :
   Calls Tryz.prog 111 #[.agg #[v, .int .i64 nx], .int .i64 at', .string y] w fun e w' => (∃ v', e = .returned (.agg #[v', .int .i64 nx]) ∧ RX X base w' v' (dropN (l, nx) q y z).1 ∧ ∀ j, v'.ownBlock = some j → v.ownBlock = some j ∨ w.heap.size ≤ j) ∧ Below base w w' ∧ AgX (fun k => v.ownBlock = some k) w w' := by
 have hqm := List.mem_of_getElem? hq
 obtain ⟨post, hpost⟩ : ∃ post : Ending → World → Prop, post = fun e w' => (∃ v', e = .returned (.agg #[v', .int .i64 nx]) ∧ RX X base w' v' (dropN (l, nx) q y z).1 ∧ ∀ j, v'.ownBlock = some j → v.ownBlock = some j ∨ w.heap.size ≤ j) ∧ Below base w w' ∧ AgX (fun k => v.ownBlock = some k) w w' := ⟨_, rfl⟩
 have HPo : Hid (∀ v' w', RX X base w' v' (dropN (l, nx) q y z).1 → Below base w w' → (∀ j, v'.ownBlock = some j → v.ownBlock = some j ∨ w.heap.size ≤ j) → AgX (fun k => v.ownBlock = some k) w w' → post (.returned (.agg #[v', .int .i64 nx])) w') := fun v' w' h1 h2 h3 h4 => by rw [hpost]; exact ⟨⟨v', rfl, h1, h3⟩, h2, h4⟩
 rw [← hpost]
 clear hpost
 have hC := hO.wk.chk hqm
 have hth : there (en q) y = true := D.there_mem.2 ⟨_, hy⟩
 have hfn : fnd (en q) y = z.1 := D.fnd_mem hC hy
 have hre : rerr (en q) y = 0 := by unfold D.rerr; rw [if_pos hC, if_pos hth]
 have hrv : rval (en q) y = del (en q) y := if_pos hre
 have hlk := ok_lk_pos hO hqm hz hy
 obtain ⟨kz, z1, hz1, hz1n, hz1l, hplz, hset, hera⟩ := drop_parts hO.wk.up (q := q) hz y
 have HDR : Hid ((dropN (l, nx) q y z).1 = if lk z = 1 then rm (ch l q.1 (wE (del (en q) y))) z.1 else ch (ch l q.1 (wE (del (en q) y))) z.1 (wL (lk z - 1))) := rfl
 obtain ⟨va, vc, rfl⟩ := hR.shape
 obtain ⟨n, hn⟩ := exa (l.length)
 have hn128 : n ≤ 128 := by rw [hn]; exact hO.wk.len
 have HN : Hid (n = l.length) := hn
 rw [← hn] at hR ⊢
 obtain ⟨W, hW⟩ := exa ((w.alloc (.cells #[.slice va n vc, .int .i64 nx] 24)).alloc (.cells #[.slice none 0 0, .int .i64 0] 24))
 have hb : Below w.heap.size w W := by rw [hW]; exact ((Below.refl _ w).alloc (Nat.le_refl _) _).alloc (by simp) _
 have hWs : W.heap.size = w.heap.size + 2 := by rw [hW]; simp
 have hB1 : Box W w.heap.size 24 #[.slice va n vc, .int .i64 nx] := by rw [hW]; exact (Box.new _ _ _).alloc _
 have hB2 : Box W (w.heap.size + 1) 24 #[.slice none 0 0, .int .i64 0] := by (
 rw [hW]
 have := Box.new (w.alloc (.cells #[.slice va n vc, .int .i64 nx] 24)) 24 #[.slice none 0 0, .int .i64 0]
 rwa [World.size_alloc] at this)
 obtain ⟨X1, hX1⟩ : ∃ X1 : Nat → Prop, X1 = fun k => X k ∨ w.heap.size ≤ k ∧ k < w.heap.size + 2 := ⟨_, rfl⟩
 have HX : Hid (∀ k, X1 k ↔ X k ∨ w.heap.size ≤ k ∧ k < w.heap.size + 2) := fun k => by rw [hX1]
 have hR1 : RX X1 base W (.slice va n vc) l := hR.more hb fun k hk => ((HX.out k).1 hk).imp id fun h => h.1
 obtain ⟨g, vc', ea, ec, fa, fc, hv, hbg, hgs, hix, hpx, hall⟩ := hR1.at at' q hq
 obtain ⟨rfl, -, rfl⟩ : va = some ⟨g, 0, none⟩ ∧ n = l.length ∧ vc = vc' := by simpa using hv
 have hgw : g < w.heap.size := (hR.lt g rfl).2
 have HBA : Hid (Below w.heap.size w W ∧ W.heap.size = w.heap.size + 2 ∧ base ≤ w.heap.size ∧ base ≤ g ∧ g < w.heap.size) := ⟨hb, hWs, hbs, hbg, hgw⟩
 obtain ⟨el, hel⟩ := exa ((en q).length)
 rw [← hel] at hall hpx
 have HB1 : Hid (Box W w.heap.size 24 #[.slice (some ⟨g, 0, none⟩) n vc, .int .i64 nx] ∧ Box W (w.heap.size + 1) 24 #[.slice none 0 0, .int .i64 0]) := ⟨hB1, hB2⟩
 have HSB : Hid (∀ V, Below W.heap.size W V → V.cell? ⟨w.heap.size, 0, none⟩ = some (.slice (some ⟨g, 0, none⟩) n vc) ∧ V.cell? ⟨w.heap.size, 1, none⟩ = some (.int .i64 nx) ∧ V.cell? ⟨g, at' * 6 + 3, none⟩ = some (.slice ea el ec) ∧ V.frozen? ⟨g, at' * 6 + 3, none⟩ = false ∧ ArgE 0 V (.slice ea el ec) (en q)) := fun V hV => by
   obtain ⟨g0, g1, -, -⟩ := (hB1.below hV hB1.lt).two
   exact ⟨g0, g1, (hall V hV).1.2.2.2.1, (hall V hV).2.1 _, hpx.lr.1.below hV⟩
 have HST : Hid (∀ V u, Below W.heap.size W V → ArgE W.heap.size V u (del (en q) y) → RX X1 base (V.setCell ⟨g, at' * 6 + 3, none⟩ u) (.slice (some ⟨g, 0, none⟩) n vc) (ch l q.1 (wE (del (en q) y)))) := fun V u hV hu => by (
 rw [← set_ch hO.wk.up hq]
 refine (hall V hV).2.2 3 u (wE (del (en q) y) q) u (.slice fa (fi q).2.length fc) (by omega) rfl ⟨hpx.1, fun w' ha => ⟨?_, ?_⟩⟩
 · refine ens_px hu (fun k hk => ?_) ha
   have h9 := HBA.out
   have hVs := hV.size
   rcases hk with hk | hk
   · rcases (HX.out k).1 hk with h | h
     · have := hXs k h; omega
     · omega
   · have : g = k := by simpa [Value.ownBlock] using hk
     omega
 · exact (hpx.2 w' fun k k1 k2 => by rw [ha k k1 (by have := hV.size; omega)]; exact hV.block k k2).2)
 have HZ : Hid (1 ≤ lk z ∧ lk z ≤ 16 ∧ (ch l q.1 (wE (del (en q) y)))[kz]? = some z1 ∧ z1.1 = z.1 ∧ lk z1 = lk z ∧ plc (ch l q.1 (wE (del (en q) y))) z.1 = (kz : Int) ∧ (ch l q.1 (wE (del (en q) y))).set kz (wL (lk z - 1) z1) = ch (ch l q.1 (wE (del (en q) y))) z.1 (wL (lk z - 1)) ∧ ((ch l q.1 (wE (del (en q) y))).set kz (wL (lk z - 1) z1)).eraseIdx kz = rm (ch l q.1 (wE (del (en q) y))) z.1) := ⟨hlk.1, hlk.2, hz1, hz1n, hz1l, hplz, hset, hera⟩
 have HU : Hid (Ups (ch l q.1 (wE (del (en q) y))) ∧ Chk (en q) ∧ (∀ k, X k → k < w.heap.size) ∧ I64 nx) := ⟨ups_ch (fun _ => rfl) hO.wk.up, hC, hXs, by have := hO.wk.nx; simp only at this; exact ⟨by omega, by omega⟩⟩
 obtain ⟨l1, hl1⟩ := exa (ch l q.1 (wE (del (en q) y)))
 have HL1 : Hid (l1.length = n) := by rw [hl1, ch_length]; exact hn.symm
 rw [← hl1] at HDR HST HZ HU
 obtain ⟨zi, hzi⟩ := exa (z.1)
 rw [← hzi] at HDR HZ hfn
 obtain ⟨zl, hzl⟩ := exa (lk z)
 rw [← hzl] at HDR HZ
 have hzl1 : 1 ≤ zl := HZ.out.1
 have hzl16 : zl ≤ 16 := HZ.out.2.1
 have HC1 := rfind_b y (HSB.out W (Below.refl _ _)).2.2.2.2 hC
 rw [hfn, hth] at HC1
 have HC2 : Hid (∀ V, Below W.heap.size W V → Calls Tryz.prog 125 #[.slice ea el ec, .string y] V fun r w' => (∃ v', r = .returned (.tuple #[v', .int .i64 0]) ∧ OwnE 123 V.heap.size w' v' (del (en q) y)) ∧ Below V.heap.size V w') := fun V hV => by
   have := D.rremove_any 0 (.slice ea el ec) (en q) y V (HSB.out V hV).2.2.2.2
   rwa [hre, hrv] at this
 have hatn : (at' : Int) < (n : Int) := by have := (List.getElem?_eq_some_iff.1 hq).1; omega
 obtain ⟨g0, g1, c3, -, -⟩ := HSB.out W (Below.refl _ _)
 rw [hW] at g0 g1 c3
 clear hO hq hz hy hR hqm hC hth hfn hre hrv hlk hz1 hz1n hz1l hplz hset hera hn hb hWs hB1 hB2 hX1 hR1 hv hbg hgs hpx hall hgw hel hl1 hzi hzl hbs hXs
 go_enter Tryz.func111, Tryz.ntmps111
 go_wp2_with fail
 rw [← hW]
 clear hW g0 g1 c3
 refine HC1.mono ?_
 rintro e w1 ⟨rfl, hb1⟩
 have HB2 : Hid (Below W.heap.size W w1) := hb1
 clear hb1 HC1
 obtain ⟨g0, g1, c3, -, -⟩ := HSB.out w1 HB2.out
 have HC2' := HC2.out w1 HB2.out
 go_wp2_with fail
 refine HC2'.mono ?_
 rintro e w2 ⟨⟨v2, rfl, hO2⟩, hb2⟩
 have HB3 : Hid (Below W.heap.size W w2 ∧ ArgE W.heap.size w2 v2 (del (en q) y)) := ⟨below_any HB2.out hb2, hO2.arg.weaken HB2.out.size⟩
 clear hO2 hb2 HC2' g0 g1 c3
 obtain ⟨va2, vc2, rfl, -⟩ := HB3.out.2.shape
 obtain ⟨m2, hm2⟩ := exa ((del (en q) y).length)
 have HM2 : Hid (m2 = (del (en q) y).length) := hm2
 rw [← hm2] at HB3 ⊢
 clear hm2
 obtain ⟨g0, g1, c3, f3, -⟩ := HSB.out w2 HB3.out.1
 obtain ⟨W3, hW3⟩ := exa (w2.setCell ⟨g, at' * 6 + 3, none⟩ (.slice va2 m2 vc2))
 have hbx3 : Box W3 w.heap.size 24 #[.slice (some ⟨g, 0, none⟩) n vc, .int .i64 nx] := by rw [hW3]; exact (HB1.out.1.below HB3.out.1 HB1.out.1.lt).other (by have := HBA.out; omega)
 have hbr3 : Box W3 (w.heap.size + 1) 24 #[.slice none 0 0, .int .i64 0] := by rw [hW3]; exact (HB1.out.2.below HB3.out.1 HB1.out.2.lt).other (by have := HBA.out; omega)
 have hs3 : W.heap.size ≤ W3.heap.size := by rw [hW3]; have := HB3.out.1.size; simpa [World.setCell] using this
 have HR3 : Hid (RX X1 base W3 (.slice (some ⟨g, 0, none⟩) n vc) l1 ∧ Box W3 w.heap.size 24 #[.slice (some ⟨g, 0, none⟩) n vc, .int .i64 nx] ∧ Box W3 (w.heap.size + 1) 24 #[.slice none 0 0, .int .i64 0] ∧ Below base w W3 ∧ W.heap.size ≤ W3.heap.size) := by (
 refine ⟨by rw [hW3]; exact HST.out w2 _ HB3.out.1 HB3.out.2, hbx3, hbr3, ?_, hs3⟩
 rw [hW3]
 exact ((below_any HBA.out.1 HB3.out.1).mono HBA.out.2.2.1).setCell (p := ⟨g, at' * 6 + 3, none⟩) HBA.out.2.2.2.1 _)
 have HO3 : Hid (∀ k, k ≠ g → k < w.heap.size → W3.heap[k]? = w.heap[k]?) := fun k k1 k2 => by
   rw [hW3, Below.heap_setCell _ _ _ _ (fun e => k1 (by simpa using e)), HB3.out.1.block k (by have := HBA.out; omega)]
   exact HBA.out.1.block k k2
 have HC3 := rplace_any 0 (some ⟨g, 0, none⟩) vc l1 nx zi W3 (by have := HR3.out.1.lies; rw [HL1.out]; exact this)
 rw [HL1.out, HZ.out.2.2.2.2.2.1] at HC3
 obtain ⟨u0, u1, -, -⟩ := hbx3.two
 rw [hW3] at u0 u1
 clear hbx3 hbr3 hs3
 go_wp2_with fail
 rw [← hW3]
 clear hW3 g0 g1 c3 f3 u0 u1
 refine HC3.mono ?_
 rintro e w4 ⟨rfl, hb4⟩
 have hz9 := HZ.out.2.2.1
 obtain ⟨g', vc', ea4, ec4, fa4, fc4, hv4, -, -, hix4, hpx4, hall4⟩ := (HR3.out.1.below hb4).at kz z1 hz9
 obtain ⟨hgg, -, -⟩ : (⟨g, 0, none⟩ : Addr) = ⟨g', 0, none⟩ ∧ n = l1.length ∧ vc = vc' := by simpa using hv4
 obtain rfl : g = g' := by simpa using hgg
 obtain ⟨hall4a, hfr4, hst4⟩ := hall4 w4 (Below.refl _ _)
 have c4 := hall4a.2.2.1
 rw [HZ.out.2.2.2.2.1] at c4
 have f4 := hfr4 (kz * 6 + 2)
 have hkn : (kz : Int) < (n : Int) := by have := (List.getElem?_eq_some_iff.1 hz9).1; have := HL1.out; omega
 have hwz : IntKind.i64.wrap (zl - 1) = zl - 1 := wrap_i64 (by omega) (by omega)
 obtain ⟨W5, hW5⟩ := exa (w4.setCell ⟨g, kz * 6 + 2, none⟩ (.int .i64 (zl - 1)))
 have hbx4 := HR3.out.2.1.below hb4 HR3.out.2.1.lt
 have hbr4 := HR3.out.2.2.1.below hb4 HR3.out.2.2.1.lt
 have hbx5 : Box W5 w.heap.size 24 #[.slice (some ⟨g, 0, none⟩) n vc, .int .i64 nx] := by rw [hW5]; exact hbx4.other (by have := HBA.out; omega)
 have hbr5 : Box W5 (w.heap.size + 1) 24 #[.slice none 0 0, .int .i64 0] := by rw [hW5]; exact hbr4.other (by have := HBA.out; omega)
 have hs5 : W.heap.size ≤ W5.heap.size := by rw [hW5]; have := hb4.size; have := HR3.out.2.2.2.2; simp [World.setCell]; omega
 obtain ⟨l2, hl2⟩ := exa (l1.set kz (wL (zl - 1) z1))
 have HR5 : Hid (RX X1 base W5 (.slice (some ⟨g, 0, none⟩) n vc) l2 ∧ Box W5 w.heap.size 24 #[.slice (some ⟨g, 0, none⟩) n vc, .int .i64 nx] ∧ Box W5 (w.heap.size + 1) 24 #[.slice none 0 0, .int .i64 0] ∧ Below base w W5 ∧ W.heap.size ≤ W5.heap.size) := by (
 refine ⟨?_, hbx5, hbr5, ?_, hs5⟩
 · rw [hW5, hl2]
   exact hst4 2 _ (wL (zl - 1) z1) _ _ (by omega) rfl ⟨⟨hpx4.1.1, (show I64 (zl - 1) from ⟨by omega, by omega⟩), hpx4.1.2.2⟩, hpx4.2⟩
 · rw [hW5]
   exact ((HR3.out.2.2.2.1.trans (hb4.mono (by have := HR3.out.2.2.2.2; have := HBA.out; omega)))).setCell (p := ⟨g, kz * 6 + 2, none⟩) HBA.out.2.2.2.1 _)
 have HO5 : Hid (∀ k, k ≠ g → k < w.heap.size → W5.heap[k]? = w.heap[k]?) := fun k k1 k2 => by
   rw [hW5, Below.heap_setCell _ _ _ _ (fun e => k1 (by simpa using e)), hb4.block k (by have := HR3.out.2.2.2.2; have := HBA.out; omega)]
   exact HO3.out k k1 k2
 have HL2 : Hid (l2.length = n ∧ l2 = ch l1 zi (wL (zl - 1)) ∧ l2.eraseIdx kz = rm l1 zi) := ⟨by rw [hl2, List.length_set, HL1.out], by rw [hl2]; exact HZ.out.2.2.2.2.2.2.1, by rw [hl2]; exact HZ.out.2.2.2.2.2.2.2⟩
 obtain ⟨g0, g1, -, -⟩ := hbx4.two
 have c5 : W5.cell? ⟨g, kz * 6 + 2, none⟩ = some (.int .i64 (zl - 1)) := by (
 obtain ⟨g'', vc'', _, _, _, _, hv5, -, -, -, -, hall5⟩ := HR5.out.1.at kz (wL (zl - 1) z1) (by rw [hl2, List.getElem?_set_self (by have := (List.getElem?_eq_some_iff.1 hz9).1; omega)])
 obtain ⟨hgg5, -, -⟩ : (⟨g, 0, none⟩ : Addr) = ⟨g'', 0, none⟩ ∧ n = l2.length ∧ vc = vc'' := by simpa using hv5
 obtain rfl : g = g'' := by simpa using hgg5
 exact (hall5 W5 (Below.refl _ _)).1.2.2.1)
 obtain ⟨b0, b1, -, -⟩ := hbx5.two
 obtain ⟨r0, r1, r2, r3⟩ := hbr5.two
 rw [hW5] at b0 b1 r0 r1 r2 r3 c5
 clear hb4 hz9 hv4 hpx4 hall4 hall4a hfr4 hst4 hbx4 hbr4 hbx5 hbr5 hs5 hl2 HC3
 by_cases hz1 : zl = 1
 case neg => (
 have hgt : 0 < zl - 1 := by omega
 go_wp2
 rw [← hW5] at b0 b1 r0 r1 r2 r3 ⊢
 clear hW5 c4 f4 c5 g0 g1
 refine bodyPost_ret (v := .agg #[.slice (some ⟨g, 0, none⟩) n vc, .int .i64 nx]) (by simp [results, Tryz.results111, go_sem, *]) rfl (HPo.out _ _ ?_ ?_ ?_ ?_)
 · have h9 := HBA.out
   have hR6 : X1 (w.heap.size + 1) := (HX.out _).2 (.inr ⟨by omega, by omega⟩)
   have hn6 : (Value.slice (some ⟨g, 0, none⟩) n vc).ownBlock ≠ some (w.heap.size + 1) := by simp [Value.ownBlock]; omega
   rw [HDR.out, if_neg hz1, ← HL2.out.2.1]
   exact (((HR5.out.1.set hR6 hn6 _ _).set hR6 hn6 _ _).more (Below.refl _ _) fun k hk => .inl ((HX.out k).2 (.inl hk)))
 · exact below_set2 HR5.out.2.2.2.1 (by have := HBA.out; omega) _ _
 · exact fun j hj => .inl hj
 · intro k k1 k2
   rw [Below.heap_setCell _ _ _ _ (fun e => by simp only at e; omega), Below.heap_setCell _ _ _ _ (fun e => by simp only at e; omega)]
   exact HO5.out k (fun e => k1 (by rw [e]; rfl)) k2)
 subst hz1
 obtain ⟨X2, hX2⟩ : ∃ X2 : Nat → Prop, X2 = fun k => X1 k ∨ k = W5.heap.size := ⟨_, rfl⟩
 have HX2 : Hid (∀ k, X2 k ↔ X1 k ∨ k = W5.heap.size) := fun k => by rw [hX2]
 obtain ⟨W6, hW6⟩ := exa (W5.alloc (.cells #[.slice none 0 0, .int .i64 nx] 24))
 have HW6 : Hid (Below W5.heap.size W5 W6 ∧ Box W6 W5.heap.size 24 #[.slice none 0 0, .int .i64 nx] ∧ W6.heap.size = W5.heap.size + 1) := ⟨by rw [hW6]; exact (Below.refl _ _).alloc (Nat.le_refl _) _, by rw [hW6]; exact Box.new _ _ _, by rw [hW6]; simp⟩
 simp only [show (1 : Int) - 1 = 0 from rfl] at hW5 c5 hwz b0 b1 r0 r1 r2 r3
 have HSZ5 : Hid (w4.heap.size = W5.heap.size) := show w4.heap.size = W5.heap.size by rw [hW5]; simp [World.setCell]
 have hlr := run_len Tryz.underlying22 (some ⟨g, 0, none⟩) n vc
 clear hX2
 go_wp2
 rw [← hW5, HSZ5.out, ← hW6]
 clear hW5 hW6 HSZ5 c4 f4 c5 g0 g1 b0 b1 r0 r1 r2 r3 hwz hix4
 go_loopw [14] (fun i wr => ∃ (k m6 : Nat) (a6 : Option Addr) (c6 : Nat), k ≤ n ∧ i = .int .i64 k ∧ Hid (Below W5.heap.size W5 wr ∧ Box wr W5.heap.size 24 #[.slice a6 m6 c6, .int .i64 nx] ∧ RX X2 (W5.heap.size + 1) wr (.slice a6 m6 c6) ((l2.take k).eraseIdx kz) ∧ W5.heap.size + 1 ≤ wr.heap.size ∧ m6 = ((l2.take k).eraseIdx kz).length)) (fun i _ => n - (intOf i).toNat)
 case atStart => exact ⟨0, 0, none, 0, Nat.zero_le _, rfl, HW6.out.1, HW6.out.2.1, RX.nil _ _ _, by have := HW6.out.2.2; omega, rfl⟩
 case round => (
 obtain ⟨k, m6, a6, c6, hk, rfl, HJ⟩ := hrel
 obtain ⟨s0, s1, -, -⟩ := (HR5.out.2.1.below HJ.out.1 HR5.out.2.1.lt).two
 obtain ⟨t0, t1, -, -⟩ := HJ.out.2.1.two
 by_cases hlt : k < n
 case neg => (
 obtain rfl : k = n := by omega
 obtain ⟨r0, r1, r2, r3⟩ := (HR5.out.2.2.1.below HJ.out.1 HR5.out.2.2.1.lt).two
 go_wp2
 refine bodyPost_ret (v := .agg #[.slice a6 m6 c6, .int .i64 nx]) (by simp [results, Tryz.results111, go_sem, *]) rfl (HPo.out _ _ ?_ ?_ ?_ ?_)
 · have h9 := HBA.out
   have h8 := HR5.out.2.2.2.2
   have hR6 : X2 (w.heap.size + 1) := (HX2.out _).2 (.inl ((HX.out _).2 (.inr ⟨by omega, by omega⟩)))
   have hn6 : (Value.slice a6 m6 c6).ownBlock ≠ some (w.heap.size + 1) := fun e => by have := (HJ.out.2.2.1.lt _ e).1; omega
   have hT : l2.take k = l2 := by rw [← HL2.out.1]; exact List.take_length
   have hJ3 := HJ.out.2.2.1
   rw [hT, HL2.out.2.2] at hJ3
   rw [HDR.out, if_pos trivial]
   exact (((hJ3.set hR6 hn6 _ _).set hR6 hn6 _ _).more (Below.refl _ _) fun k hk => .inl ((HX2.out k).2 (.inl ((HX.out k).2 (.inl hk))))).weaken (by omega)
 · exact below_set2 (HR5.out.2.2.2.1.trans (HJ.out.1.mono (by have := HBA.out; have := HR5.out.2.2.2.2; omega))) (by have := HBA.out; omega) _ _
 · exact fun j hj => .inr (by have := (HJ.out.2.2.1.lt j hj).1; have := HBA.out; have := HR5.out.2.2.2.2; omega)
 · intro j k1 k2
   rw [Below.heap_setCell _ _ _ _ (fun e => by simp only at e; omega), Below.heap_setCell _ _ _ _ (fun e => by simp only at e; omega), HJ.out.1.block j (by have := HBA.out; have := HR5.out.2.2.2.2; omega)]
   exact HO5.out j (fun e => k1 (by rw [e]; rfl)) k2)
 obtain ⟨p, hp⟩ := get_lt (l := l2) (k := k) (by rw [HL2.out.1]; exact hlt)
 have hst := out_step (j := kz) hp
 have hkn' : (k : Int) < (n : Int) := by omega
 by_cases hkz : k = kz
 case pos => (
 rw [if_pos hkz] at hst
 have HJ' : Hid (Below W5.heap.size W5 wr ∧ Box wr W5.heap.size 24 #[.slice a6 m6 c6, .int .i64 nx] ∧ RX X2 (W5.heap.size + 1) wr (.slice a6 m6 c6) ((l2.take (k + 1)).eraseIdx kz) ∧ W5.heap.size + 1 ≤ wr.heap.size ∧ m6 = ((l2.take (k + 1)).eraseIdx kz).length) := by rw [hst]; exact HJ.out
 clear hst hp
 subst hkz
 go_wp2
 go_roundw
 case rel => exact ⟨k + 1, m6, a6, c6, by omega, by go_num, HJ'.out⟩
 case measure => simp [intOf]; omega)
 rw [if_neg hkz] at hst
 have hkzb : ((k : Int) == (kz : Int)) = false := by simp; omega
 have hkzi : ¬ (k : Int) = (kz : Int) := by omega
 obtain ⟨g', vc', ea, ec, fa, fc, hv6, -, -, hix6, hpx6, hall6⟩ := HR5.out.1.at k p hp
 obtain ⟨hgg, -, -⟩ : (⟨g, 0, none⟩ : Addr) = ⟨g', 0, none⟩ ∧ n = l2.length ∧ vc = vc' := by simpa using hv6
 obtain rfl : g = g' := by simpa using hgg
 obtain ⟨el2, hel⟩ := exa ((en p).length)
 obtain ⟨fl, hfl⟩ := exa ((fi p).2.length)
 obtain ⟨pi, hpi⟩ := exa (p.1)
 obtain ⟨pd, hpd⟩ := exa (isD p)
 obtain ⟨pl, hpl'⟩ := exa (lk p)
 obtain ⟨pz, hpz⟩ := exa ((fi p).1)
 rw [← hel, ← hfl, ← hpi, ← hpd, ← hpl', ← hpz] at hall6
 rw [← hel, ← hfl] at hpx6
 have HNV : Hid (nv p (.slice ea el2 ec) (.slice fa fl fc) = [.int .i64 pi, .bool pd, .int .i64 pl, .slice ea el2 ec, .int .i64 pz, .slice fa fl fc] ∧ PX (WX X1 (.slice (some ⟨g, 0, none⟩) n vc)) W5 p (.slice ea el2 ec) (.slice fa fl fc)) := ⟨by rw [hpi, hpd, hpl', hpz]; rfl, hpx6⟩
 have HS : Hid (∀ V, Below wr.heap.size wr V → V.cell? ⟨w.heap.size, 0, none⟩ = some (.slice (some ⟨g, 0, none⟩) n vc) ∧ V.cell? ⟨W5.heap.size, 0, none⟩ = some (.slice a6 m6 c6) ∧ V.cell? ⟨g, k * 6, none⟩ = some (.int .i64 pi) ∧ V.cell? ⟨g, k * 6 + 1, none⟩ = some (.bool pd) ∧ V.cell? ⟨g, k * 6 + 2, none⟩ = some (.int .i64 pl) ∧ V.cell? ⟨g, k * 6 + 3, none⟩ = some (.slice ea el2 ec) ∧ V.cell? ⟨g, k * 6 + 4, none⟩ = some (.int .i64 pz) ∧ V.cell? ⟨g, k * 6 + 5, none⟩ = some (.slice fa fl fc)) := fun V hV => by (
 obtain ⟨s0, -, -, -⟩ := (HR5.out.2.1.below (HJ.out.1.trans (hV.mono (by have := HJ.out.2.2.2.1; omega))) HR5.out.2.1.lt).two
 obtain ⟨t0, -, -, -⟩ := (HJ.out.2.1.below hV HJ.out.2.1.lt).two
 exact ⟨s0, t0, (hall6 V (HJ.out.1.trans (hV.mono (by have := HJ.out.2.2.2.1; omega)))).1⟩)
 have HST6 : Hid ((l2.take (k + 1)).eraseIdx kz = (l2.take k).eraseIdx kz ++ [p]) := hst
 obtain ⟨vss, hown, heach⟩ := HJ.out.2.2.1
 rw [← HJ.out.2.2.2.2] at hown
 have HEA : Hid (Each (fun us p => ∃ e b, us = nv p e b ∧ PX (WX X2 (.slice a6 m6 c6)) wr p e b) vss ((l2.take k).eraseIdx kz)) := heach
 have HOWN : Hid (wr.ownsRow (W5.heap.size + 1) 78 6 (.slice a6 m6 c6) m6 vss.flatten) := hown
 have hm6 : m6 ≤ 128 := by (
 have h1 := HJ.out.2.2.2.2
 have h2 : ((l2.take k).eraseIdx kz).length ≤ (l2.take k).length := by rw [List.length_eraseIdx]; split <;> omega
 have h3 : (l2.take k).length ≤ k := by rw [List.length_take]; omega
 omega)
 clear hst hp hv6 hpx6 hall6 hel hfl hpi hpd hpl' hpz hown heach
 go_wp2
 refine AnyBut.begin (fun V => V.cell? ⟨w.heap.size, 0, none⟩ = some (.slice (some ⟨g, 0, none⟩) n vc) ∧ V.cell? ⟨W5.heap.size, 0, none⟩ = some (.slice a6 m6 c6) ∧ V.cell? ⟨g, k * 6, none⟩ = some (.int .i64 pi) ∧ V.cell? ⟨g, k * 6 + 1, none⟩ = some (.bool pd) ∧ V.cell? ⟨g, k * 6 + 2, none⟩ = some (.int .i64 pl) ∧ V.cell? ⟨g, k * 6 + 3, none⟩ = some (.slice ea el2 ec) ∧ V.cell? ⟨g, k * 6 + 4, none⟩ = some (.int .i64 pz) ∧ V.cell? ⟨g, k * 6 + 5, none⟩ = some (.slice fa fl fc)) 10 (by kernel_rfl) ?_
 obtain ⟨V0, hV0⟩ := exa (wr.drew)
 have hbV0 : Below wr.heap.size wr V0 := by rw [hV0]; exact (Below.refl _ wr).drew
 rw [← hV0]
 clear hV0 s0 s1 t0 t1
 have hSS := HS.out V0 hbV0
 refine ty 0 77 hSS ?_; simp only [ua,ub,uc,ud]
 refine ty 1 78 hSS ?_; simp only [ua,ub,uc,ud]
 refine ty 2 79 hSS ?_; simp only [ua,ub,uc,ud]
 refine ty 3 80 hSS ?_; simp only [ua,ub,uc,ud]
 refine ty 4 81 hSS ?_; simp only [ua,ub,uc,ud]
 refine ty 5 82 hSS ?_; simp only [ua,ub,uc,ud]
 refine ty 6 83 hSS ?_; simp only [ua,ub,uc,ud]
 refine AnyBut.step (i := 7) (by kernel_rfl) rfl (fun K hK => ?_)
 go_simp
 have hbA : Below wr.heap.size wr (V0.alloc (.cells #[.int .i64 pi, .bool pd, .int .i64 pl, .slice ea el2 ec, .int .i64 pz, .slice fa fl fc] 78)) := hbV0.alloc hbV0.size _
 refine hK.out _ _ (HS.out _ hbA) ?_
 clear hK hSS
 have hSS := HS.out _ hbA
 refine AnyBut.step (i := 8) (by kernel_rfl) rfl (fun K hK => ?_)
 obtain ⟨i3, hi3, hz30, hz31, hz32⟩ := info_parts Tryz.info78
 refine step_append_lies _ (by rfl) _ _ _ (by rfl) (W5.heap.size + 1) 78 i3 _ 6 80 Tryz.underlying22 hi3 hz30 hz31 hz32 rfl (by omega) _ m6 _ (by rfl) ((own_below HOWN.out hbV0).alloc _) ⟨V0.heap.size, 0, none⟩ 1 1 [.int .i64 pi, .bool pd, .int .i64 pl, .slice ea el2 ec, .int .i64 pz, .slice fa fl fc] (by rfl) (by rfl)
   (World.news_of_block (cs := #[.int .i64 pi, .bool pd, .int .i64 pl, .slice ea el2 ec, .int .i64 pz, .slice fa fl fc]) (t := 78) (fr := (0, 0)) (heap_alloc_new V0 _)) (by simp [Value.oneCell']) (by omega) (by unfold maxLen; omega) (by omega) (by have := hbV0.size; have := HJ.out.2.2.2.1; simp; omega) (V0.heap.size + 1) (by simp) ?_
 intro gg cap3 w7 hO7 hg7 hat hltg
 have hne : ∀ B, B < W5.heap.size + 1 → some B ≠ (Value.slice a6 m6 c6).ownBlock := fun B hB => row_ne HOWN.out hB
 have hb57 : Below W5.heap.size W5 w7 := (HJ.out.1.trans (hbA.mono (by have := HJ.out.2.2.2.1; omega))).grown hg7 (by have := hbA.size; have := HJ.out.2.2.2.1; omega) (fun j hj => by have := (HOWN.out.lt j hj).1; omega)
 have hbx7 : Box w7 W5.heap.size 24 #[.slice a6 m6 c6, .int .i64 nx] := (HJ.out.2.1.below hbA HJ.out.2.1.lt).grown hg7 (hne _ (by omega))
 have hSX : w7.cell? ⟨w.heap.size, 0, none⟩ = some (.slice (some ⟨g, 0, none⟩) n vc) ∧ w7.cell? ⟨W5.heap.size, 0, none⟩ = some (.slice a6 m6 c6) ∧ w7.cell? ⟨g, k * 6, none⟩ = some (.int .i64 pi) ∧ w7.cell? ⟨g, k * 6 + 1, none⟩ = some (.bool pd) ∧ w7.cell? ⟨g, k * 6 + 2, none⟩ = some (.int .i64 pl) ∧ w7.cell? ⟨g, k * 6 + 3, none⟩ = some (.slice ea el2 ec) ∧ w7.cell? ⟨g, k * 6 + 4, none⟩ = some (.int .i64 pz) ∧ w7.cell? ⟨g, k * 6 + 5, none⟩ = some (.slice fa fl fc) := by (
 have hgl : g < W5.heap.size := (HR5.out.1.lt g rfl).2
 have hk7 : ∀ j, w7.cell? ⟨g, j, none⟩ = (V0.alloc (.cells #[.int .i64 pi, .bool pd, .int .i64 pl, .slice ea el2 ec, .int .i64 pz, .slice fa fl fc] 78)).cell? ⟨g, j, none⟩ := fun j => World.cell?_of_block (hg7.block g (by have := hbA.size; have := HJ.out.2.2.2.1; omega) (hne g (by omega)))
 have hk8 : w7.cell? ⟨w.heap.size, 0, none⟩ = (V0.alloc (.cells #[.int .i64 pi, .bool pd, .int .i64 pl, .slice ea el2 ec, .int .i64 pz, .slice fa fl fc] 78)).cell? ⟨w.heap.size, 0, none⟩ := World.cell?_of_block (hg7.block w.heap.size (by have := hbA.size; have := HJ.out.2.2.2.1; have := HR5.out.2.1.lt; omega) (hne _ (by have := HR5.out.2.1.lt; omega)))
 refine ⟨by rw [hk8]; exact hSS.1, hbx7.two.1, ?_⟩
 rw [hk7, hk7, hk7, hk7, hk7, hk7]
 exact hSS.2.2)
 refine hK.out _ _ hSX ?_
 clear hK hSS
 refine AnyBut.step (i := 9) (by kernel_rfl) rfl (fun K hK => ?_)
 go_simp
 refine hK.out _ _ hSX ?_
 clear hK
 refine AnyBut.last (by kernel_rfl) (by kernel_rfl) rfl (fun K hK => ?_)
 obtain ⟨y0, y1, z0, z1'⟩ := hbx7.two
 go_simp
 refine hK.out _ _ ?_
 clear hK hSX
 have HR7 : Hid (RX X2 (W5.heap.size + 1) w7 (.slice (some ⟨gg, 0, none⟩) (m6 + 1) cap3) ((l2.take (k + 1)).eraseIdx kz)) := by (
 rw [HST6.out]
 have key : ∀ w'', AgX (WX X2 (.slice a6 m6 c6)) (V0.alloc (.cells #[.int .i64 pi, .bool pd, .int .i64 pl, .slice ea el2 ec, .int .i64 pz, .slice fa fl fc] 78)) w'' → AgX (WX X2 (.slice a6 m6 c6)) wr w'' := fun w'' ha j k1 k2 => by
   rw [ha j k1 (by have := hbA.size; omega)]
   exact hbA.block j k2
 refine RX.push (v := .slice a6 m6 c6) (e := .slice ea el2 ec) (b := .slice fa fl fc) (vss := vss) (HEA.out.mono fun us q ⟨e, b, h3, h4⟩ => ⟨e, b, h3, h4.to key⟩) (HNV.out.2.to fun w'' ha j k1 k2 => ?_) hg7 (fun g' hg' => ?_) (by rw [← HJ.out.2.2.2.2, HNV.out.1]; exact hO7)
 · rw [ha j ?_ (by have := hbA.size; have := HJ.out.2.2.2.1; omega)]
   · rw [hbA.block j (by have := HJ.out.2.2.2.1; omega)]
     exact HJ.out.1.block j k2
   · rintro (c | c)
     · rcases (HX2.out j).1 c with c | c
       · exact k1 (.inl c)
       · omega
     · have := (HOWN.out.lt j c).1
       omega
 · have e1 : gg = g' := by simpa [Value.ownBlock] using hg'
   subst e1
   rcases hat with h | h
   · exact .inl h
   · exact .inr (by rw [h]; simp))
 have HB7 : Hid (Below W5.heap.size W5 w7 ∧ Box w7 W5.heap.size 24 #[.slice a6 m6 c6, .int .i64 nx] ∧ gg ≠ W5.heap.size ∧ m6 + 1 = ((l2.take (k + 1)).eraseIdx kz).length ∧ W5.heap.size + 1 ≤ w7.heap.size) := by (
 refine ⟨hb57, hbx7, ?_, by rw [HST6.out, List.length_append, ← HJ.out.2.2.2.2]; rfl, hbx7.lt⟩
 have := (HR7.out.lt gg rfl).1
 omega)
 clear hO7 hg7 hat hltg hne hb57 hbx7 hbA
 go_wp2
 go_roundw
 case rel =>
   refine ⟨k + 1, m6 + 1, some ⟨gg, 0, none⟩, cap3, by omega, by go_num, HB7.out.1.setCell (p := ⟨W5.heap.size, 0, none⟩) (Nat.le_refl _) _, HB7.out.2.1.set 0 _, HR7.out.set ((HX2.out _).2 (.inr rfl)) (by have := HB7.out.2.2.1; simp [Value.ownBlock]; omega) _ _, by have := HB7.out.2.2.2.2; simpa [World.setCell] using this, HB7.out.2.2.2.1⟩
 case measure => simp [intOf]; omega)
theorem rgone_any (X : Nat → Prop) (base : Nat) (v : Value) (l : List Nd) (nx : Int) (at' : Nat) (q z : Nd) (y : ByteArray) (w : World) (hO : Ok (l, nx)) (hq : l[at']? = some q) (hz : z ∈ l) (hy : (y, z.1) ∈ en q) (hR : RX X base w v l) (hbs : base ≤ w.heap.size) (hXs : ∀ k, X k → k < w.heap.size) :
   Calls Tryz.prog 111 #[.agg #[v, .int .i64 nx], .int .i64 at', .string y] w fun e w' => (∃ v', e = .returned (.agg #[v', .int .i64 nx]) ∧ RX X base w' v' (dropN (l, nx) q y z).1) ∧ Below base w w' :=
 (rgone_own X base v l nx at' q z y w hO hq hz hy hR hbs hXs).mono fun _ _ ⟨⟨v', h1, h2, _⟩, h3, _⟩ => ⟨⟨v', h1, h2⟩, h3⟩
end Go.Proofs.YtkcnephbaffmbaaGreatDoor
namespace Go.Proofs.YtkcnephbaffmbaaGreatDoor
open Go.RowKit
open D (En ArgE OwnE Chk there fnd)
open P (ArgT OwnT serr sval)
theorem rmE_nil (s : St) : rmE s [] = 108 := by simp [rmE]
theorem filE_nil {s : St} (h : Ok s) : filE s.1 [] = 104 := by
 obtain ⟨t, ht, h1, hd⟩ := h.1.top
 have : gt s.1 1 = t := by rw [← h1]; exact gt_of h.1.up ht
 unfold filE
 rw [show wlk s.1 1 [] = (1, 0) from rfl]
 simp only
 rw [if_pos trivial, this, if_pos hd]
theorem filE_walk {s : St} {xs : List ByteArray} (h : (wlk s.1 1 xs).2 ≠ 0) : filE s.1 xs = (wlk s.1 1 xs).2 := by unfold filE; rw [if_neg h]
theorem dirE_walk {s : St} {xs : List ByteArray} (h : (wlk s.1 1 xs).2 ≠ 0) : dirE s.1 xs = (wlk s.1 1 xs).2 := by unfold dirE; rw [if_neg h]
theorem rmE_walk {s : St} {xs : List ByteArray} (hne : xs ≠ []) (h : (wlk s.1 1 xs).2 ≠ 0) : rmE s xs = (wlk s.1 1 xs).2 := by
 unfold rmE
 rw [if_neg hne, if_pos (by rw [dirE_walk h]; exact h), dirE_walk h]
theorem filE_dir {s : St} {xs : List ByteArray} (h : (wlk s.1 1 xs).2 = 0) (hd : isD (tgt s xs) = true) : filE s.1 xs = 104 := by unfold filE; rw [if_pos h, show gt s.1 (wlk s.1 1 xs).1 = tgt s xs from rfl, if_pos hd]
theorem filE_zero {s : St} {xs : List ByteArray} (h : (wlk s.1 1 xs).2 = 0) (hd : isD (tgt s xs) = false) : filE s.1 xs = 0 := by unfold filE; rw [if_pos h, show gt s.1 (wlk s.1 1 xs).1 = tgt s xs from rfl, if_neg (by rw [hd]; decide)]
theorem dirE_not {s : St} {xs : List ByteArray} (h : (wlk s.1 1 xs).2 = 0) (hd : isD (tgt s xs) = false) : dirE s.1 xs = 103 := by unfold dirE; rw [if_pos h, show gt s.1 (wlk s.1 1 xs).1 = tgt s xs from rfl, if_pos hd]
theorem dirE_zero {s : St} {xs : List ByteArray} (h : (wlk s.1 1 xs).2 = 0) (hd : isD (tgt s xs) = true) : dirE s.1 xs = 0 := by unfold dirE; rw [if_pos h, show gt s.1 (wlk s.1 1 xs).1 = tgt s xs from rfl, if_neg (by rw [hd]; decide)]
theorem rmE_not {s : St} {xs : List ByteArray} (hne : xs ≠ []) (h : (wlk s.1 1 xs).2 = 0) (hd : isD (tgt s xs) = false) : rmE s xs = 103 := by
 unfold rmE; rw [if_neg hne, if_pos (by rw [dirE_not h hd]; decide), dirE_not h hd]
theorem rmE_more {s : St} {xs : List ByteArray} (hne : xs ≠ []) (h : (wlk s.1 1 xs).2 = 0) (hd : isD (tgt s xs) = true) (he : (en (tgt s xs)).length ≠ 0) : rmE s xs = 105 := by
 unfold rmE; rw [if_neg hne, if_neg (by rw [dirE_zero h hd]; decide), if_neg he]
theorem rmE_zero {s : St} {xs : List ByteArray} (hne : xs ≠ []) (h : (wlk s.1 1 xs).2 = 0) (hd : isD (tgt s xs) = true) (he : (en (tgt s xs)).length = 0) : rmE s xs = 0 := by
 unfold rmE; rw [if_neg hne, if_neg (by rw [dirE_zero h hd]; decide), if_pos he]
theorem rremoved_f (n0 : Nat) (w0 : World) (a : Option Addr) (c : Nat) (s : St) (p : ByteArray) (w : World) (hb0 : Below w0.heap.size w0 w) (hA : ndsR.lies n0 w0 [.slice a s.1.length c] s.1) (hM : FitsS s.1) :
   Calls Tryz.prog 57 #[.agg #[.slice a s.1.length c, .int .i64 s.2], .string p, .bool false] w (TellsR w0.heap.size (Told s [p] (filE s.1 (sval p)) (dropN s (hold s (sval p)) (lst (sval p)) (tgt s (sval p)))) w) := by
 obtain ⟨T, hT⟩ : ∃ T : Int → St → Prop, T = Told s [p] (filE s.1 (sval p)) (dropN s (hold s (sval p)) (lst (sval p)) (tgt s (sval p))) := ⟨_, rfl⟩
 have HT : Hid (T = Told s [p] (filE s.1 (sval p)) (dropN s (hold s (sval p)) (lst (sval p)) (tgt s (sval p)))) := hT
 rw [← hT]
 clear hT
 obtain ⟨post, hpost⟩ : ∃ post : Ending → World → Prop, post = TellsR w0.heap.size T w := ⟨_, rfl⟩
 have HNo : Hid (∀ k w', T k ([], 0) → Below w.heap.size w w' → post (.returned (.tuple #[.agg #[.slice none 0 0, .int .i64 0], .int .i64 k])) w') := fun k w' h1 h2 => by rw [hpost]; exact ⟨⟨_, k, ([], 0), rfl, h1, OR.nil _ _ _⟩, h2⟩
 have HYes : Hid (∀ v l' nx' w', T 0 (l', nx') → OR w0.heap.size w.heap.size w' v l' → Below w.heap.size w w' → post (.returned (.tuple #[.agg #[v, .int .i64 nx'], .int .i64 0])) w') := fun v l' nx' w' h1 h2 h3 => by rw [hpost]; exact ⟨⟨v, 0, (l', nx'), rfl, h1, h2⟩, h3⟩
 rw [← hpost]
 clear hpost
 obtain ⟨W, hW⟩ := exa ((w.alloc (.cells #[.slice a s.1.length c, .int .i64 s.2] 24)).alloc (.cells #[.slice none 0 0, .int .i64 0] 24))
 have hb : Below w.heap.size w W := by rw [hW]; exact ((Below.refl _ w).alloc (Nat.le_refl _) _).alloc (by simp) _
 have hAw : ndsR.lies n0 w [.slice a s.1.length c] s.1 := ndsR.below hA hb0
 have hB1 : Box W w.heap.size 24 #[.slice a s.1.length c, .int .i64 s.2] := by rw [hW]; exact (Box.new _ _ _).alloc _
 have hB2 : Box W (w.heap.size + 1) 24 #[.slice none 0 0, .int .i64 0] := by (
 rw [hW]
 have := Box.new (w.alloc (.cells #[.slice a s.1.length c, .int .i64 s.2] 24)) 24 #[.slice none 0 0, .int .i64 0]
 rwa [World.size_alloc] at this)
 have HW : Hid (Below w.heap.size w W ∧ ndsR.lies n0 W [.slice a s.1.length c] s.1 ∧ W.heap.size = w.heap.size + 2 ∧ Below w0.heap.size w0 W ∧ w0.heap.size ≤ w.heap.size) := ⟨hb, ndsR.below hAw hb, by rw [hW]; simp, hb0.trans (hb.mono hb0.size), hb0.size⟩
 have HSB : Hid (∀ V, Below W.heap.size W V → V.cell? ⟨w.heap.size, 0, none⟩ = some (.slice a s.1.length c) ∧ V.cell? ⟨w.heap.size, 1, none⟩ = some (.int .i64 s.2) ∧ V.cell? ⟨w.heap.size + 1, 0, none⟩ = some (.slice none 0 0) ∧ V.cell? ⟨w.heap.size + 1, 1, none⟩ = some (.int .i64 0) ∧ V.frozen? ⟨w.heap.size + 1, 0, none⟩ = false ∧ V.frozen? ⟨w.heap.size + 1, 1, none⟩ = false) := fun V hV => by (
 obtain ⟨g0, g1, -, -⟩ := (hB1.below hV hB1.lt).two
 obtain ⟨d0, d1, d2, d3⟩ := (hB2.below hV hB2.lt).two
 exact ⟨g0, g1, d0, d1, d2, d3⟩)
 have HBW : Hid (∀ V, Below W.heap.size W V → Below w.heap.size w V) := fun V hV => below_any hb hV
 have HA0 : Hid (ndsR.lies n0 w0 [.slice a s.1.length c] s.1 ∧ FitsS s.1) := ⟨hA, hM⟩
 have HLI : Hid (∀ V, Below W.heap.size W V → ndsR.lies n0 V [.slice a s.1.length c] s.1) := fun V hV => ndsR.below HW.out.2.1 hV
 have HPL : Hid (∀ V (i : Int), Below W.heap.size W V → Calls Tryz.prog 75 #[.agg #[.slice a s.1.length c, .int .i64 s.2], .int .i64 i] V fun e w' => e = .returned (.int .i64 (plc s.1 i)) ∧ Below V.heap.size V w') := fun V i hV => rplace_any n0 a c s.1 s.2 i V (HLI.out V hV)
 have HWA : Hid (Ok s → ∀ V av cv m (xs : List ByteArray), Below W.heap.size W V → m = xs.length → OwnT W.heap.size V (.slice av m cv) xs → Calls Tryz.prog 49 #[.agg #[.slice a s.1.length c, .int .i64 s.2], .slice av m cv] V fun e w' => e = .returned (.tuple #[.int .i64 (wlk s.1 1 xs).1, .int .i64 (wlk s.1 1 xs).2]) ∧ Below V.heap.size V w') := fun hO V av cv m xs hV hm hX => by
   subst hm
   exact rwalk_any n0 W.heap.size a c s hO.wk av cv xs V (HLI.out V hV) hX.arg
 have HHO : Hid (Ok s → ∀ V av cv m (xs : List ByteArray), Below W.heap.size W V → m = xs.length → OwnT W.heap.size V (.slice av m cv) xs → xs ≠ [] → Calls Tryz.prog 73 #[.agg #[.slice a s.1.length c, .int .i64 s.2], .slice av m cv] V fun e w' => (∃ i x, e = .returned (.tuple #[.int .i64 i, .string x, .int .i64 (stdE s.1 xs)]) ∧ (stdE s.1 xs = 0 → i = plc s.1 (hold s xs).1 ∧ x = lst xs)) ∧ Below V.heap.size V w') := fun hO V av cv m xs hV hm hX hne => by
   subst hm
   exact rhome_any n0 W.heap.size a c s hO.wk av cv xs hne V (HLI.out V hV) hX.arg
 have HOW : Hid (Ok s → ∀ V, Below W.heap.size W V → Calls Tryz.prog 42 #[.agg #[.slice a s.1.length c, .int .i64 s.2]] V fun e w' => (∃ v', e = .returned (.agg #[v', .int .i64 s.2]) ∧ OR w0.heap.size V.heap.size w' v' s.1) ∧ Below V.heap.size V w') := fun hO V hV => rown_any n0 w0 a c s hO.wk V (HW.out.2.2.2.1.trans (hV.mono HW.out.2.2.2.1.size)) HA0.out.1
 have HC1 := rcheck10_any n0 a c s W (HLI.out W (Below.refl _ _)) hM
 obtain ⟨g0, g1, d0, d1, e0, e1⟩ := HSB.out W (Below.refl _ _)
 obtain ⟨n, hn⟩ := exa (s.1.length)
 obtain ⟨nx, hnx⟩ := exa (s.2)
 have HN : Hid (n = s.1.length ∧ nx = s.2) := ⟨hn, hnx⟩
 rw [← hn] at HW HSB HA0 HLI HPL HWA HHO HOW HC1 g0 hW ⊢
 rw [← hnx] at HSB HPL HWA HHO HOW HC1 g1 hW ⊢
 rw [hW] at g0 g1 d0 d1 e0 e1
 clear hb hA hAw hM hB1 hB2 hb0 hn hnx
 go_enter Tryz.func57, Tryz.ntmps57
 go_wp2_with fail
 rw [← hW]
 clear hW g0 g1 d0 d1 e0 e1
 refine HC1.mono ?_
 rintro e w1 ⟨⟨r, rfl, hr⟩, hb1⟩
 have HB1 : Hid (Below W.heap.size W w1) := hb1
 clear hb1 HC1
 obtain ⟨-, -, d0, d1, e0, e1⟩ := HSB.out w1 HB1.out
 by_cases hr0 : r = 0
 case neg => (
 have HT1 : Hid (T 9 ([], 0)) := by (
 rw [HT.out]
 rcases hr with ⟨_, h⟩ | ⟨h, _⟩
 · exact absurd h hr0
 · exact .inl ⟨h, rfl, rfl⟩)
 clear hr
 go_wp2
 refine bodyPost_ret (v := .tuple #[.agg #[.slice none 0 0, .int .i64 0], .int .i64 9]) (by simp [results, Tryz.results57, go_sem, *]) rfl (HNo.out _ _ HT1.out (below_set2 (HBW.out _ HB1.out) (by omega) _ _)))
 have HO : Hid (Ok s) := by (
 rcases hr with ⟨h, _⟩ | ⟨_, h⟩
 · exact h
 · omega)
 clear hr
 subst hr0
 have HC2 := P.rsplit_any p w1
 go_wp2_with fail
 refine HC2.mono ?_
 rintro e w2 ⟨v, rfl, hO2, hb2⟩
 obtain ⟨av, cv, rfl⟩ := hO2.shape
 obtain ⟨xs, hxs⟩ := exa (sval p)
 obtain ⟨m, hm⟩ := exa (xs.length)
 rw [← hxs] at HT hO2 ⊢
 rw [← hm] at hO2 ⊢
 have HB2 : Hid (Below W.heap.size W w2 ∧ OwnT W.heap.size w2 (.slice av m cv) xs ∧ m = xs.length) := ⟨below_any HB1.out hb2, hO2.weaken HB1.out.size, hm⟩
 obtain ⟨k2, hk2⟩ := exa (serr p)
 rw [← hk2]
 have HK2 : Hid (k2 = psE [p]) := show k2 = psE [p] by rw [hk2, psE_one]
 have hl1 := run_len Tryz.underlying59 av m cv
 clear hO2 hb2 HC2 hk2 hxs hm d0 d1 e0 e1
 obtain ⟨g0, g1, d0, d1, e0, e1⟩ := HSB.out w2 HB2.out.1
 by_cases hk0 : k2 = 0
 case neg => (
 have HT1 : Hid (T k2 ([], 0)) := by
   rw [HT.out]
   exact .inr (.inl ⟨HO.out, by rw [← HK2.out]; exact hk0, HK2.out, rfl⟩)
 go_wp2
 refine bodyPost_ret (v := .tuple #[.agg #[.slice none 0 0, .int .i64 0], .int .i64 k2]) (by simp [results, Tryz.results57, go_sem, *]) rfl (HNo.out _ _ HT1.out (below_set2 (HBW.out _ HB2.out.1) (by omega) _ _)))
 subst hk0
 have HPS : Hid (psE [p] = 0) := HK2.out.symm
 clear HK2
 by_cases hm0 : m = 0
 case pos => (
 subst hm0
 have HT1 : Hid (T 104 ([], 0)) := by (
 rw [HT.out]
 obtain rfl : xs = [] := List.eq_nil_of_length_eq_zero HB2.out.2.2.symm
 exact no_told HO.out HPS.out (filE_nil HO.out) (by decide))
 go_wp2
 refine bodyPost_ret (v := .tuple #[.agg #[.slice none 0 0, .int .i64 0], .int .i64 104]) (by simp [results, Tryz.results57, go_sem, *]) rfl (HNo.out _ _ HT1.out (below_set2 (HBW.out _ HB2.out.1) (by omega) _ _)))
 have HNE : Hid (xs ≠ []) := fun h => hm0 (by rw [HB2.out.2.2, h]; rfl)
 have hm0b : ((m : Int) == 0) = false := by simp; omega
 have HC3 := HWA.out HO.out w2 av cv m xs HB2.out.1 HB2.out.2.2 HB2.out.2.1
 obtain ⟨i3, k3, hik⟩ : ∃ i k, (i, k) = wlk s.1 1 xs := ⟨_, _, rfl⟩
 have HIK : Hid ((i3, k3) = wlk s.1 1 xs) := hik
 rw [← hik] at HC3
 clear hik
 go_wp2_with fail
 refine HC3.mono ?_
 rintro e w3 ⟨rfl, hb3⟩
 have HB3 : Hid (Below W.heap.size W w3) := below_any HB2.out.1 hb3
 have HOT : Hid (OwnT W.heap.size w3 (.slice av m cv) xs) := HB2.out.2.1.below hb3
 clear hb3 HC3 g0 g1 d0 d1 e0 e1
 obtain ⟨g0, g1, d0, d1, e0, e1⟩ := HSB.out w3 HB3.out
 by_cases hk0 : k3 = 0
 case neg => (
 have HT1 : Hid (T k3 ([], 0)) := by (
 have h2 : (wlk s.1 1 xs).2 = k3 := by rw [← HIK.out]
 rw [HT.out]
 exact no_told HO.out HPS.out ((filE_walk (by rw [h2]; exact hk0)).trans h2) hk0)
 go_wp2
 refine bodyPost_ret (v := .tuple #[.agg #[.slice none 0 0, .int .i64 0], .int .i64 k3]) (by simp [results, Tryz.results57, go_sem, *]) rfl (HNo.out _ _ HT1.out (below_set2 (HBW.out _ HB3.out) (by omega) _ _)))
 subst hk0
 have HWZ : Hid ((wlk s.1 1 xs).2 = 0) := show (wlk s.1 1 xs).2 = 0 by rw [← HIK.out]
 obtain ⟨hqm, hqi, -⟩ := HO.out.wk.lead HWZ.out
 obtain ⟨q, hq⟩ := exa (tgt s xs)
 rw [← hq] at hqm hqi
 obtain ⟨at', hat, hpc⟩ := plc_mem HO.out.wk.up hqm
 have HQ : Hid (q = tgt s xs ∧ s.1[at']? = some q ∧ q ∈ s.1) := ⟨hq, hat, hqm⟩
 have hqi' : i3 = q.1 := by
   have h2 : (wlk s.1 1 xs).1 = i3 := by rw [← HIK.out]
   rw [← h2]; exact hqi
 obtain ⟨b1, o1, ea, ec, fa, fc, hix, hall⟩ := ndr_at HW.out.2.1 at' q hat
 have HP' : Hid (∀ V, Below w3.heap.size w3 V → Calls Tryz.prog 75 #[.agg #[.slice a n c, .int .i64 nx], .int .i64 i3] V fun e w' => e = .returned (.int .i64 at') ∧ Below V.heap.size V w') := fun V hV => by (
 have hh := HPL.out V i3 (below_any HB3.out hV)
 rw [hqi', hpc, ← hqi'] at hh
 exact hh)
 obtain ⟨el, hel⟩ := exa ((en q).length)
 obtain ⟨fl, hfl⟩ := exa ((fi q).2.length)
 obtain ⟨pi, hpi⟩ := exa (q.1)
 obtain ⟨pd, hpd⟩ := exa (isD q)
 obtain ⟨pl, hpl'⟩ := exa (lk q)
 obtain ⟨pz, hpz⟩ := exa ((fi q).1)
 rw [← hel, ← hfl, ← hpi, ← hpd, ← hpl', ← hpz] at hall
 have HS : Hid (∀ V, Below w3.heap.size w3 V → V.cell? ⟨w.heap.size, 0, none⟩ = some (.slice a n c) ∧ V.cell? ⟨w.heap.size, 1, none⟩ = some (.int .i64 nx) ∧ V.cell? ⟨b1, o1, none⟩ = some (.int .i64 pi) ∧ V.cell? ⟨b1, o1 + 1, none⟩ = some (.bool pd) ∧ V.cell? ⟨b1, o1 + 2, none⟩ = some (.int .i64 pl) ∧ V.cell? ⟨b1, o1 + 3, none⟩ = some (.slice ea el ec) ∧ V.cell? ⟨b1, o1 + 4, none⟩ = some (.int .i64 pz) ∧ V.cell? ⟨b1, o1 + 5, none⟩ = some (.slice fa fl fc)) := fun V hV => by
   obtain ⟨g0, g1, -⟩ := HSB.out V (below_any HB3.out hV)
   exact ⟨g0, g1, (hall V (below_any HB3.out hV)).1⟩
 have HD : Hid (pd = isD q ∧ el = (en q).length) := ⟨hpd, hel⟩
 have hatn : (at' : Int) < (n : Int) := by (
 have h1 := (List.getElem?_eq_some_iff.1 hat).1
 have h2 := HN.out.1
 omega)
 clear hqm hqi hqi' hq hat hpc hall hel hfl hpi hpd hpl' hpz g0 g1 d0 d1 e0 e1
 go_upto_region 13 with fail
 go_cut [12] (fun v wx => ∃ dd, v = .pointer (some ⟨dd, 0, none⟩) ∧ Hid (Below w3.heap.size w3 wx ∧ Box wx dd 78 #[.int .i64 pi, .bool pd, .int .i64 pl, .slice ea el ec, .int .i64 pz, .slice fa fl fc]))
 case first => (
 refine AnyBut.begin (fun W => W.cell? ⟨w.heap.size, 0, none⟩ = some (.slice a n c) ∧ W.cell? ⟨w.heap.size, 1, none⟩ = some (.int .i64 nx) ∧ W.cell? ⟨b1, o1, none⟩ = some (.int .i64 pi) ∧ W.cell? ⟨b1, o1 + 1, none⟩ = some (.bool pd) ∧ W.cell? ⟨b1, o1 + 2, none⟩ = some (.int .i64 pl) ∧ W.cell? ⟨b1, o1 + 3, none⟩ = some (.slice ea el ec) ∧ W.cell? ⟨b1, o1 + 4, none⟩ = some (.int .i64 pz) ∧ W.cell? ⟨b1, o1 + 5, none⟩ = some (.slice fa fl fc)) 8 (by kernel_rfl) ?_
 have hSS := HS.out w3.drew (Below.refl _ w3).drew
 refine ty 0 53 hSS ?_; simp only [ua,ub,uc,ud]
 refine ty 1 54 hSS ?_; simp only [ua,ub,uc,ud]
 refine ty 2 55 hSS ?_; simp only [ua,ub,uc,ud]
 refine ty 3 56 hSS ?_; simp only [ua,ub,uc,ud]
 refine AnyBut.two (i := 4) (j := 7) (by kernel_rfl) rfl rfl (fun K hK => ?_) (fun K hK => ?_)
 · go_simp
   refine Calls.mono (HP'.out w3.drew (Below.refl _ w3).drew) ?_
   rintro e wp ⟨rfl, hbp⟩
   dsimp only
   have hbp1 : Below w3.heap.size w3 wp := below_any (Below.refl _ w3).drew hbp
   refine hK.out _ _ (HS.out wp hbp1) ?_
   clear hK hSS
   have hSS := HS.out wp hbp1
   refine ty 5 58 hSS ?_; simp only [ua,ub,uc,ud]
   refine ty 6 59 hSS ?_; simp only [ua,ub,uc,ud]
   refine AnyBut.step (i := 7) (by kernel_rfl) rfl (fun K hK => ?_)
   go_simp
   refine hK.out _ _ (HS.out _ (hbp1.alloc hbp1.size _)) ?_
   clear hK hSS
   refine AnyBut.last (by kernel_rfl) (by kernel_rfl) rfl (fun K hK => ?_)
   go_simp
   refine hK.out _ _ ?_
   clear hK
   rename_i J K1 hJ hM K2 K3
   refine hM _ _ (Go.Met.intro (hJ _ _ ?_))
   refine ⟨?m1a0, ?m1a1, ?m1a2, ?m1a3, ?m1a4, ?m1a5, ?m1a6, ?m1a7, ?m1a8, ?m1a9, ?m1a10, ?m1a11, ?m1a12, ?m1a13, ?m1a14, ?m1a15, ?m1a16, ?m1a17, ?m1a18, ?m1a19, ?m1a20, ?m1a21, ?m1a22, ?m1a23, ?m1a24, ?m1a25, ?m1a26, ?m1a27, ?m1a28, ?m1a29, ?m1a30, ?m1a31, ?m1a32, ?m1a33, ?m1a34, ?m1a35, ?m1a36, ?m1a37, ?m1a38, ?m1a39, ?m1a40, ?m1a41, ?m1a42, ?m1a43, ?m1a44, ?m1a45, ?m1a46, ?m1a47, ?m1a48, ?m1a49, ?m1a50, ?m1a51, ?m1a52, ?m1a53, ?m1a54, ?m1a55, ?m1a56, ?m1a57, ?m1a58, ?m1a59, ?m1a60, ?m1a61, ?m1a62, ?m1a63, ?m1a64, ?m1a65, ?m1a66, ?m1a67, ?m1a68, ?m1a69, ?m1a70, ?m1a71, ?m1a72, ?rel1, ?fr1⟩
   case fr1 => rfl
   case rel1 => exact ⟨_, rfl, hbp1.alloc hbp1.size _, Box.new _ _ _⟩
 · go_simp
   have hbz : Below w3.heap.size w3 (w3.alloc (.cells #[.int .i64 0, .bool false, .int .i64 0, .slice none 0 0, .int .i64 0, .slice none 0 0] 78)).drew := ((Below.refl _ w3).alloc (Nat.le_refl _) _).drew
   have hBz : Box (w3.alloc (.cells #[.int .i64 0, .bool false, .int .i64 0, .slice none 0 0, .int .i64 0, .slice none 0 0] 78)).drew w3.heap.size 78 #[.int .i64 0, .bool false, .int .i64 0, .slice none 0 0, .int .i64 0, .slice none 0 0] := Box.drew (Box.new _ _ _)
   refine hK.out _ _ (HS.out _ hbz) ?_
   clear hK hSS
   refine AnyBut.step (i := 4) (by kernel_rfl) rfl (fun K hK => ?_)
   go_simp
   refine Calls.mono (HP'.out _ hbz) ?_
   rintro e wp ⟨rfl, hbp⟩
   dsimp only
   have hbp1 : Below w3.heap.size w3 wp := below_any hbz hbp
   have hBp : Box wp w3.heap.size 78 #[.int .i64 0, .bool false, .int .i64 0, .slice none 0 0, .int .i64 0, .slice none 0 0] := hBz.below hbp hBz.lt
   refine hK.out _ _ (HS.out wp hbp1) ?_
   clear hK
   have hSS := HS.out wp hbp1
   refine ty 5 58 hSS ?_; simp only [ua,ub,uc,ud]
   refine ty 6 59 hSS ?_; simp only [ua,ub,uc,ud]
   obtain ⟨z0, z1, z2, z3, z4, z5⟩ := hBp.six
   have y0 := hBp.frozen 0
   have y1 := hBp.frozen 1
   have y2 := hBp.frozen 2
   have y3 := hBp.frozen 3
   have y4 := hBp.frozen 4
   have y5 := hBp.frozen 5
   refine AnyBut.last (by kernel_rfl) (by kernel_rfl) rfl (fun K hK => ?_)
   go_simp
   refine hK.out _ _ ?_
   clear hK
   rename_i J K1 hJ hM K2 K3
   refine hM _ _ (Go.Met.intro (hJ _ _ ?_))
   refine ⟨?m2a0, ?m2a1, ?m2a2, ?m2a3, ?m2a4, ?m2a5, ?m2a6, ?m2a7, ?m2a8, ?m2a9, ?m2a10, ?m2a11, ?m2a12, ?m2a13, ?m2a14, ?m2a15, ?m2a16, ?m2a17, ?m2a18, ?m2a19, ?m2a20, ?m2a21, ?m2a22, ?m2a23, ?m2a24, ?m2a25, ?m2a26, ?m2a27, ?m2a28, ?m2a29, ?m2a30, ?m2a31, ?m2a32, ?m2a33, ?m2a34, ?m2a35, ?m2a36, ?m2a37, ?m2a38, ?m2a39, ?m2a40, ?m2a41, ?m2a42, ?m2a43, ?m2a44, ?m2a45, ?m2a46, ?m2a47, ?m2a48, ?m2a49, ?m2a50, ?m2a51, ?m2a52, ?m2a53, ?m2a54, ?m2a55, ?m2a56, ?m2a57, ?m2a58, ?m2a59, ?m2a60, ?m2a61, ?m2a62, ?m2a63, ?m2a64, ?m2a65, ?m2a66, ?m2a67, ?m2a68, ?m2a69, ?m2a70, ?m2a71, ?m2a72, ?rel2, ?fr2⟩
   case fr2 => rfl
   case rel2 => exact ⟨_, rfl, six_set hbp1 (Nat.le_refl _) hBp _ _ _ _ _ _⟩)
 case rest => (
 obtain ⟨dd, rfl, HBV⟩ := hcut
 obtain ⟨V, hV⟩ := exa (wc)
 rw [← hV] at HBV ⊢
 clear hV
 have HBV1 : Hid (Below W.heap.size W V) := below_any HB3.out HBV.out.1
 obtain ⟨v0, v1, v2, v3, v4, v5⟩ := HBV.out.2.six
 have hl2 := run_len Tryz.underlying73 ea el ec
 obtain ⟨g0, g1, d0, d1, e0, e1⟩ := HSB.out V HBV1.out
 cases hpd : pd
 case true => (
 subst hpd
 have HT1 : Hid (T 104 ([], 0)) := by (
 have h1 := HD.out.1
 rw [HQ.out.1] at h1
 rw [HT.out]
 exact no_told HO.out HPS.out (filE_dir HWZ.out h1.symm) (by decide))
 go_wp2
 refine bodyPost_ret (v := .tuple #[.agg #[.slice none 0 0, .int .i64 0], .int .i64 104]) (by simp [results, Tryz.results57, go_sem, *]) rfl (HNo.out _ _ HT1.out (below_set2 (HBW.out _ HBV1.out) (by omega) _ _)))
 subst hpd
 obtain rfl : el = 0 := by
   have h1 := HD.out
   rw [h1.2, (HO.out.wk.files q HQ.out.2.2 h1.1.symm).1]; rfl
 have HK0 : Hid (filE s.1 xs = 0) := by (
 have h1 := HD.out
 rw [HQ.out.1] at h1
 exact filE_zero HWZ.out h1.1.symm)
 obtain ⟨hsT, hsE⟩ := std_of_walk HO.out HNE.out HWZ.out
 obtain ⟨hhm, -, -, hhe, -⟩ := HO.out.wk.stands HNE.out HWZ.out
 obtain ⟨at2, hat2, hpc2⟩ := plc_mem HO.out.wk.up hhm
 have HC4 := HHO.out HO.out V av cv m xs HBV1.out HB2.out.2.2 (HOT.out.below HBV.out.1) HNE.out
 rw [hsE] at HC4
 have HH : Hid (s.1[at2]? = some (hold s xs) ∧ plc s.1 (hold s xs).1 = (at2 : Int) ∧ (lst xs, (tgt s xs).1) ∈ en (hold s xs)) := ⟨hat2, hpc2, hhe⟩
 clear hsT hsE hhm hhe hat2 hpc2
 go_wp2_with fail
 refine HC4.mono ?_
 rintro e w4 ⟨⟨i4, x4, rfl, h4⟩, hb4⟩
 have HB4 : Hid (Below W.heap.size W w4) := below_any HBV1.out hb4
 obtain ⟨hi4, rfl⟩ := h4 trivial
 rw [HH.out.2.1] at hi4
 subst hi4
 obtain ⟨yy, hyy⟩ := exa (lst xs)
 have HYY : Hid (yy = lst xs) := hyy
 rw [← hyy]
 clear hb4 h4 HC4 hyy g0 g1 d0 d1 e0 e1 v0 v1 v2 v3 v4 v5
 obtain ⟨g0, g1, -, -, -, -⟩ := HSB.out w4 HB4.out
 have HC5 := HOW.out HO.out w4 HB4.out
 go_wp2_with fail
 refine HC5.mono ?_
 rintro e w5 ⟨⟨vv, rfl, hor5⟩, hb5⟩
 have HB5 : Hid (Below W.heap.size W w5 ∧ w4.heap.size ≤ w5.heap.size) := ⟨below_any HB4.out hb5, hb5.size⟩
 have HC6 := rgone_any (fun k => w0.heap.size ≤ k ∧ k < w4.heap.size) w4.heap.size vv s.1 s.2 at2 (hold s xs) (tgt s xs) yy w5 HO.out HH.out.1 (HO.out.wk.lead HWZ.out).1 (by rw [HYY.out]; exact HH.out.2.2) (RX.of_or hor5) hb5.size (fun k hk => by have := hb5.size; omega)
 rw [← HN.out.2] at HC6
 clear hor5 hb5 HC5 g0 g1
 go_wp2_with fail
 refine HC6.mono ?_
 rintro e w6 ⟨⟨v6, rfl, hr6⟩, hb6⟩
 have HB6 : Hid (Below W.heap.size W w6) := HB5.out.1.trans (hb6.mono HB4.out.size)
 obtain ⟨a6, c6, rfl⟩ := hr6.shape
 obtain ⟨l6, hl6⟩ := exa ((dropN (s.1, nx) (hold s xs) yy (tgt s xs)).1)
 rw [← hl6] at hr6 ⊢
 obtain ⟨m6, hm6⟩ := exa (l6.length)
 rw [← hm6] at hr6 ⊢
 have HR6 : Hid (RX (fun k => w0.heap.size ≤ k ∧ k < w4.heap.size) w4.heap.size w6 (.slice a6 m6 c6) l6) := hr6
 have HTY : Hid (T 0 (l6, nx)) := by (
 have h9 : (l6, nx) = dropN s (hold s xs) (lst xs) (tgt s xs) := by
   rw [hl6, HYY.out, HN.out.2]; rfl
 rw [HT.out, h9]
 exact yes_told HO.out HPS.out HK0.out)
 obtain ⟨-, -, d0, d1, e0, e1⟩ := HSB.out w6 HB6.out
 clear hr6 hb6 HC6 hl6 hm6
 go_wp2
 refine bodyPost_ret (v := .tuple #[.agg #[.slice a6 m6 c6, .int .i64 nx], .int .i64 0]) (by simp [results, Tryz.results57, go_sem, *]) rfl (HYes.out _ _ _ _ HTY.out ?_ (below_set2 (HBW.out _ HB6.out) (by omega) _ _))
 have h1 := HB4.out.size
 have h2 := HW.out
 have hn2 : (Value.slice a6 m6 c6).ownBlock ≠ some (w.heap.size + 1) := fun e => by have := (HR6.out.lt _ e).1; omega
 exact ((HR6.out.set ⟨by omega, by omega⟩ hn2 _ _).set ⟨by omega, by omega⟩ hn2 _ _).or (fun k k1 k2 => ⟨k1, by omega⟩) (by omega))
end Go.Proofs.YtkcnephbaffmbaaGreatDoor
