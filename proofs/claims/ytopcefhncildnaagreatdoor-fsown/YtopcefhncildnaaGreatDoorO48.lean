/-
  The document's Create and Mkdir: what is made of every state.
  The document's Unlink and Rmdir: what is removed of every state.
  The document's file, Read, Stat and List: what is read and told of every state and path.
  The document's Create, Mkdir, Unlink and Rmdir: what each tells of every state and path.
  The document's Write and Truncate: what is written and cut of every state and path.
-/
import Derived.Test.YtopcefhncildnaaGreatDoorO46
import Derived.Test.YtopcefhncildnaaGreatDoorO47
set_option maxRecDepth 100000
set_option maxHeartbeats 16000000
namespace Go.Proofs.YtopcefhncildnaaGreatDoor
open Go.RowKit
open D (En ArgE OwnE Chk there fnd aerr aval ins nameOk)
open P (ArgT OwnT serr sval)
def Stopped (P : Prop) : Prop := P
theorem Stopped.intro {P : Prop} (h : Stopped P) : P := h
theorem bksR_nil (w : World) : F.bksR.lies 0 w [.slice none 0 0] [] := bks_nil (F.bksR.olies (Shape.list_nil F.bkR 97 Tryz.underlying97 F.cells97 0 w)) w
theorem mkE_nil (s : St) : mkE s [] = 102 := by simp [mkE, vacE]
theorem mkE_std {s : St} {xs : List ByteArray} (h : xs ≠ []) (h1 : stdE s.1 xs ≠ 0) : mkE s xs = stdE s.1 xs := by simp [mkE, vacE, h, h1]
theorem mkE_there {s : St} {xs : List ByteArray} (h : xs ≠ []) (h1 : stdE s.1 xs = 0) (h2 : stdT s.1 xs ≠ 0) : mkE s xs = 102 := by simp [mkE, vacE, h, h1, h2]
theorem mkE_full {s : St} {xs : List ByteArray} (h : xs ≠ []) (h1 : stdE s.1 xs = 0) (h2 : stdT s.1 xs = 0) (h3 : s.1.length = 128 ∨ s.2 = 2147483647) : mkE s xs = 109 := by simp [mkE, vacE, h, h1, h2, h3]
theorem mkE_add {s : St} {xs : List ByteArray} (h : xs ≠ []) (h1 : stdE s.1 xs = 0) (h2 : stdT s.1 xs = 0) (h3 : ¬ (s.1.length = 128 ∨ s.2 = 2147483647)) : mkE s xs = aerr (en (hold s xs)) (lst xs, s.2) := by simp [mkE, vacE, h, h1, h2, h3]
theorem std_there {s : St} (h : Ok s) {xs : List ByteArray} (h1 : stdE s.1 xs = 0) : (there (en (hold s xs)) (lst xs) = true → stdT s.1 xs = fnd (en (hold s xs)) (lst xs) ∧ stdT s.1 xs ≠ 0) ∧ (there (en (hold s xs)) (lst xs) = false → stdT s.1 xs = 0) := by
 obtain ⟨_, hm, _, hd, hT⟩ := std_zero h.wk h1
 constructor
 · intro ht
   have e1 : stdT s.1 xs = fnd (en (hold s xs)) (lst xs) := by rw [hT]; unfold entC; rw [if_neg (by rw [hd]; decide), if_neg (by rw [ht]; decide)]
   refine ⟨e1, ?_⟩
   obtain ⟨d, hx⟩ := D.there_mem.1 ht
   rw [e1, D.fnd_mem (h.wk.chk hm) hx]
   obtain ⟨m, hm', e2⟩ := h.wk.names _ hm _ hx
   have := (h.wk.low m hm').1
   simp only at e2
   omega
 · intro ht
   rw [hT]; unfold entC; rw [if_neg (by rw [hd]; decide), if_pos ht]
theorem no_told {s : St} {ps : List ByteArray} {K : Int} {s' : St} {k : Int} (h : Ok s) (hp : psE ps = 0) (h1 : K = k) (hk : k ≠ 0) : Told s ps K s' k ([], 0) := .inr (.inr (.inl ⟨h, hp, by rw [h1]; exact hk, h1.symm, rfl⟩))
theorem yes_told {s : St} {ps : List ByteArray} {K : Int} {s' : St} (h : Ok s) (hp : psE ps = 0) (h1 : K = 0) : Told s ps K s' 0 s' := .inr (.inr (.inr ⟨h, hp, h1, rfl, rfl⟩))
theorem rmade_any (n0 : Nat) (w0 : World) (a : Option Addr) (c : Nat) (s : St) (p : ByteArray) (b : Bool) (w : World) (hb0 : Below w0.heap.size w0 w) (hA : ndsR.lies n0 w0 [.slice a s.1.length c] s.1) (hM : FitsS s.1) :
   Calls Tryz.prog 58 #[.agg #[.slice a s.1.length c, .int .i64 s.2], .string p, .bool b] w (TellsR w0.heap.size (Told s [p] (mkE s (sval p)) (mkN s (hold s (sval p)) (lst (sval p)) b)) w) := by
 obtain ⟨T, hT⟩ : ∃ T : Int → St → Prop, T = Told s [p] (mkE s (sval p)) (mkN s (hold s (sval p)) (lst (sval p)) b) := ⟨_, rfl⟩
 have HT : Hid (T = Told s [p] (mkE s (sval p)) (mkN s (hold s (sval p)) (lst (sval p)) b)) := hT
 rw [← hT]
 clear hT
 obtain ⟨post, hpost⟩ : ∃ post : Ending → World → Prop, post = TellsR w0.heap.size T w := ⟨_, rfl⟩
 have HNo : Hid (∀ k w', T k ([], 0) → Below w.heap.size w w' → post (.returned (.tuple #[.agg #[.slice none 0 0, .int .i64 0], .int .i64 k])) w') := fun k w' h1 h2 => by rw [hpost]; exact ⟨⟨_, k, ([], 0), rfl, h1, OR.nil _ _ _⟩, h2⟩
 have HYes : Hid (∀ v l' nx' w', T 0 (l', nx') → OR w0.heap.size w.heap.size w' v l' → Below w.heap.size w w' → post (.returned (.tuple #[.agg #[v, .int .i64 nx'], .int .i64 0])) w') := fun v l' nx' w' h1 h2 h3 => by rw [hpost]; exact ⟨⟨v, 0, (l', nx'), rfl, h1, h2⟩, h3⟩
 rw [← hpost]
 clear hpost
 obtain ⟨W, hW⟩ := exa ((w.alloc (.cells #[.slice a s.1.length c, .int .i64 s.2] 24)).alloc (.cells #[.slice none 0 0, .int .i64 0] 24))
 have hb : Below w.heap.size w W := by rw [hW]; exact ((Below.refl _ w).alloc (Nat.le_refl _) _).alloc (by simp) _
 have hAw : ndsR.lies n0 w [.slice a s.1.length c] s.1 := ndsR.below hA hb0
 have hB1 : Box W w.heap.size 24 #[.slice a s.1.length c, .int .i64 s.2] := by rw [hW]; exact (Box.new _ _ _).alloc _
 have hB2 : Box W (w.heap.size + 1) 24 #[.slice none 0 0, .int .i64 0] := by (
 rw [hW]
 have := Box.new (w.alloc (.cells #[.slice a s.1.length c, .int .i64 s.2] 24)) 24 #[.slice none 0 0, .int .i64 0]
 rwa [World.size_alloc] at this)
 have HW : Hid (Below w.heap.size w W ∧ ndsR.lies n0 W [.slice a s.1.length c] s.1 ∧ W.heap.size = w.heap.size + 2 ∧ Below w0.heap.size w0 W ∧ w0.heap.size ≤ w.heap.size) := ⟨hb, ndsR.below hAw hb, by rw [hW]; simp, hb0.trans (hb.mono hb0.size), hb0.size⟩
 have HSB : Hid (∀ V, Below W.heap.size W V → V.cell? ⟨w.heap.size, 0, none⟩ = some (.slice a s.1.length c) ∧ V.cell? ⟨w.heap.size, 1, none⟩ = some (.int .i64 s.2) ∧ V.cell? ⟨w.heap.size + 1, 0, none⟩ = some (.slice none 0 0) ∧ V.cell? ⟨w.heap.size + 1, 1, none⟩ = some (.int .i64 0) ∧ V.frozen? ⟨w.heap.size + 1, 0, none⟩ = false ∧ V.frozen? ⟨w.heap.size + 1, 1, none⟩ = false) := fun V hV => by (
 obtain ⟨g0, g1, -, -⟩ := (hB1.below hV hB1.lt).two
 obtain ⟨d0, d1, d2, d3⟩ := (hB2.below hV hB2.lt).two
 exact ⟨g0, g1, d0, d1, d2, d3⟩)
 have HBW : Hid (∀ V, Below W.heap.size W V → Below w.heap.size w V) := fun V hV => below_any hb hV
 have HA0 : Hid (ndsR.lies n0 w0 [.slice a s.1.length c] s.1 ∧ FitsS s.1) := ⟨hA, hM⟩
 have HLI : Hid (∀ V, Below W.heap.size W V → ndsR.lies n0 V [.slice a s.1.length c] s.1) := fun V hV => ndsR.below HW.out.2.1 hV
 have HPL : Hid (∀ V (i : Int), Below W.heap.size W V → Calls Tryz.prog 105 #[.agg #[.slice a s.1.length c, .int .i64 s.2], .int .i64 i] V fun e w' => e = .returned (.int .i64 (plc s.1 i)) ∧ Below V.heap.size V w') := fun V i hV => rplace_any n0 a c s.1 s.2 i V (HLI.out V hV)
 have HWA : Hid (Ok s → ∀ V av cv m (xs : List ByteArray), Below W.heap.size W V → m = xs.length → OwnT W.heap.size V (.slice av m cv) xs → Calls Tryz.prog 172 #[.agg #[.slice a s.1.length c, .int .i64 s.2], .slice av m cv] V fun e w' => e = .returned (.tuple #[.int .i64 (wlk s.1 1 xs).1, .int .i64 (wlk s.1 1 xs).2]) ∧ Below V.heap.size V w') := fun hO V av cv m xs hV hm hX => by
   subst hm
   exact rwalk_any n0 W.heap.size a c s hO.wk av cv xs V (HLI.out V hV) hX.arg
 have HHO : Hid (Ok s → ∀ V av cv m (xs : List ByteArray), Below W.heap.size W V → m = xs.length → OwnT W.heap.size V (.slice av m cv) xs → xs ≠ [] → Calls Tryz.prog 113 #[.agg #[.slice a s.1.length c, .int .i64 s.2], .slice av m cv] V fun e w' => (∃ i x, e = .returned (.tuple #[.int .i64 i, .string x, .int .i64 (stdE s.1 xs)]) ∧ (stdE s.1 xs = 0 → i = plc s.1 (hold s xs).1 ∧ x = lst xs)) ∧ Below V.heap.size V w') := fun hO V av cv m xs hV hm hX hne => by
   subst hm
   exact rhome_any n0 W.heap.size a c s hO.wk av cv xs hne V (HLI.out V hV) hX.arg
 have HOW : Hid (Ok s → ∀ V, Below W.heap.size W V → Calls Tryz.prog 55 #[.agg #[.slice a s.1.length c, .int .i64 s.2]] V fun e w' => (∃ v', e = .returned (.agg #[v', .int .i64 s.2]) ∧ OR w0.heap.size V.heap.size w' v' s.1) ∧ Below V.heap.size V w') := fun hO V hV => rown_any n0 w0 a c s hO.wk V (HW.out.2.2.2.1.trans (hV.mono HW.out.2.2.2.1.size)) HA0.out.1
 have HC1 := rcheck10_any n0 a c s W (HLI.out W (Below.refl _ _)) hM
 obtain ⟨g0, g1, d0, d1, e0, e1⟩ := HSB.out W (Below.refl _ _)
 obtain ⟨n, hn⟩ := exa (s.1.length)
 obtain ⟨nx, hnx⟩ := exa (s.2)
 have HN : Hid (n = s.1.length ∧ nx = s.2) := ⟨hn, hnx⟩
 rw [← hn] at HW HSB HA0 HLI HPL HWA HHO HOW HC1 g0 hW ⊢
 rw [← hnx] at HSB HPL HWA HHO HOW HC1 g1 hW ⊢
 rw [hW] at g0 g1 d0 d1 e0 e1
 clear hb hA hAw hM hB1 hB2 hb0 hn hnx
 go_enter Tryz.func58, Tryz.ntmps58
 go_wp2_with fail
 rw [← hW]
 clear hW g0 g1 d0 d1 e0 e1
 refine HC1.mono ?_
 rintro e w1 ⟨⟨r, rfl, hr⟩, hb1⟩
 have HB1 : Hid (Below W.heap.size W w1) := hb1
 clear hb1 HC1
 obtain ⟨-, -, d0, d1, e0, e1⟩ := HSB.out w1 HB1.out
 by_cases hr0 : r = 0
 case neg => (
 have HT1 : Hid (T 9 ([], 0)) := by (
 rw [HT.out]
 rcases hr with ⟨_, h⟩ | ⟨h, _⟩
 · exact absurd h hr0
 · exact .inl ⟨h, rfl, rfl⟩)
 clear hr
 go_wp2
 refine bodyPost_ret (v := .tuple #[.agg #[.slice none 0 0, .int .i64 0], .int .i64 9]) (by simp [results, Tryz.results58, go_sem, *]) rfl (HNo.out _ _ HT1.out (below_set2 (HBW.out _ HB1.out) (by omega) _ _)))
 have HO : Hid (Ok s) := by (
 rcases hr with ⟨h, _⟩ | ⟨_, h⟩
 · exact h
 · omega)
 clear hr
 subst hr0
 have HC2 := P.rsplit_any p w1
 go_wp2_with fail
 refine HC2.mono ?_
 rintro e w2 ⟨v, rfl, hO2, hb2⟩
 obtain ⟨av, cv, rfl⟩ := hO2.shape
 obtain ⟨xs, hxs⟩ := exa (sval p)
 obtain ⟨m, hm⟩ := exa (xs.length)
 rw [← hxs] at HT hO2 ⊢
 rw [← hm] at hO2 ⊢
 have HB2 : Hid (Below W.heap.size W w2 ∧ OwnT W.heap.size w2 (.slice av m cv) xs ∧ m = xs.length) := ⟨below_any HB1.out hb2, hO2.weaken HB1.out.size, hm⟩
 obtain ⟨k2, hk2⟩ := exa (serr p)
 rw [← hk2]
 have HK2 : Hid (k2 = psE [p]) := show k2 = psE [p] by rw [hk2, psE_one]
 have hl1 := run_len Tryz.underlying57 av m cv
 clear hO2 hb2 HC2 hk2 hxs hm d0 d1 e0 e1
 obtain ⟨g0, g1, d0, d1, e0, e1⟩ := HSB.out w2 HB2.out.1
 by_cases hk0 : k2 = 0
 case neg => (
 have HT1 : Hid (T k2 ([], 0)) := by
   rw [HT.out]
   exact .inr (.inl ⟨HO.out, by rw [← HK2.out]; exact hk0, HK2.out, rfl⟩)
 go_wp2
 refine bodyPost_ret (v := .tuple #[.agg #[.slice none 0 0, .int .i64 0], .int .i64 k2]) (by simp [results, Tryz.results58, go_sem, *]) rfl (HNo.out _ _ HT1.out (below_set2 (HBW.out _ HB2.out.1) (by omega) _ _)))
 subst hk0
 have HPS : Hid (psE [p] = 0) := HK2.out.symm
 clear HK2
 by_cases hm0 : m = 0
 case pos => (
 subst hm0
 have HT1 : Hid (T 102 ([], 0)) := by (
 rw [HT.out]
 obtain rfl : xs = [] := List.eq_nil_of_length_eq_zero HB2.out.2.2.symm
 exact no_told HO.out HPS.out (mkE_nil s) (by decide))
 go_wp2
 refine bodyPost_ret (v := .tuple #[.agg #[.slice none 0 0, .int .i64 0], .int .i64 102]) (by simp [results, Tryz.results58, go_sem, *]) rfl (HNo.out _ _ HT1.out (below_set2 (HBW.out _ HB2.out.1) (by omega) _ _)))
 have HNE : Hid (xs ≠ []) := fun h => hm0 (by rw [HB2.out.2.2, h]; rfl)
 have hm0b : ((m : Int) == 0) = false := by simp; omega
 have HC3 := HHO.out HO.out w2 av cv m xs HB2.out.1 HB2.out.2.2 HB2.out.2.1 HNE.out
 obtain ⟨k3, hk3⟩ := exa (stdE s.1 xs)
 rw [← hk3] at HC3
 have HK3 : Hid (k3 = stdE s.1 xs) := hk3
 clear hk3
 go_wp2_with fail
 refine HC3.mono ?_
 rintro e w3 ⟨⟨i3, x3, rfl, h3⟩, hb3⟩
 have HB3 : Hid (Below W.heap.size W w3) := below_any HB2.out.1 hb3
 have H3 : Hid (k3 = 0 → i3 = plc s.1 (hold s xs).1 ∧ x3 = lst xs) := h3
 clear hb3 h3 HC3 g0 g1 d0 d1 e0 e1
 obtain ⟨g0, g1, d0, d1, e0, e1⟩ := HSB.out w3 HB3.out
 by_cases hk0 : k3 = 0
 case neg => (
 have HT1 : Hid (T k3 ([], 0)) := by
   rw [HT.out, HK3.out]
   exact no_told HO.out HPS.out (mkE_std HNE.out (by rw [← HK3.out]; exact hk0)) (by rw [← HK3.out]; exact hk0)
 go_wp2
 refine bodyPost_ret (v := .tuple #[.agg #[.slice none 0 0, .int .i64 0], .int .i64 k3]) (by simp [results, Tryz.results58, go_sem, *]) rfl (HNo.out _ _ HT1.out (below_set2 (HBW.out _ HB3.out) (by omega) _ _)))
 subst hk0
 have HS0 : Hid (stdE s.1 xs = 0) := HK3.out.symm
 obtain ⟨hi3, rfl⟩ := H3.out rfl
 obtain ⟨-, hhm, -, -, -⟩ := std_zero HO.out.wk HS0.out
 obtain ⟨at', hat, hpc⟩ := plc_mem HO.out.wk.up hhm
 rw [hpc] at hi3
 subst hi3
 obtain ⟨q, hq⟩ := exa (hold s xs)
 obtain ⟨y, hy⟩ := exa (lst xs)
 have HQ : Hid (q = hold s xs ∧ y = lst xs ∧ s.1[at']? = some q ∧ q ∈ s.1) := ⟨hq, hy, by rw [hq]; exact hat, by rw [hq]; exact hhm⟩
 rw [← hy]
 obtain ⟨b1, o1, ea, ec, fa, fc, hix, hall⟩ := ndr_at HW.out.2.1 at' q HQ.out.2.2.1
 obtain ⟨el, hel⟩ := exa ((en q).length)
 rw [← hel] at hall
 have HE1 : Hid (∀ V, Below W.heap.size W V → V.cell? ⟨b1, o1 + 3, none⟩ = some (.slice ea el ec) ∧ ArgE n0 V (.slice ea el ec) (en q)) := fun V hV => ⟨(hall V hV).1.2.2.2.1, (hall V hV).2.1⟩
 have hatn : (at' : Int) < (n : Int) := by (
 have h1 := (List.getElem?_eq_some_iff.1 hat).1
 have h2 := HN.out.1
 omega)
 have HC4 := rfind_b y (HE1.out w3 HB3.out).2 (HO.out.wk.chk HQ.out.2.2.2)
 have c3 := (HE1.out w3 HB3.out).1
 obtain ⟨fq, hfq⟩ := exa (fnd (en q) y)
 obtain ⟨th, hth⟩ := exa (there (en q) y)
 rw [← hfq, ← hth] at HC4
 have HTH : Hid (th = there (en q) y ∧ el = (en q).length) := ⟨hth, hel⟩
 clear hhm hat hpc hall hq hy hfq hth hel H3 HK3
 go_wp2_with fail
 refine HC4.mono ?_
 rintro e w4 ⟨rfl, hb4⟩
 have HB4 : Hid (Below W.heap.size W w4) := below_any HB3.out hb4
 clear hb4 HC4 g0 g1 d0 d1 e0 e1 c3
 obtain ⟨g0, g1, d0, d1, e0, e1⟩ := HSB.out w4 HB4.out
 cases th
 case true => (
 have HT1 : Hid (T 102 ([], 0)) := by (
 rw [HT.out]
 have h1 := HTH.out.1
 rw [HQ.out.1, HQ.out.2.1] at h1
 exact no_told HO.out HPS.out (mkE_there HNE.out HS0.out ((std_there HO.out HS0.out).1 h1.symm).2) (by decide))
 go_wp2
 refine bodyPost_ret (v := .tuple #[.agg #[.slice none 0 0, .int .i64 0], .int .i64 102]) (by simp [results, Tryz.results58, go_sem, *]) rfl (HNo.out _ _ HT1.out (below_set2 (HBW.out _ HB4.out) (by omega) _ _)))
 have HST : Hid (stdT s.1 xs = 0) := by (
 have h1 := HTH.out.1
 rw [HQ.out.1, HQ.out.2.1] at h1
 exact (std_there HO.out HS0.out).2 h1.symm)
 have hl2 := run_len Tryz.underlying22 a n c
 have hbo : n ≤ 128 ∧ nx ≤ 2147483647 := by (
 have h1 := HO.out.wk.len
 have h2 := HO.out.wk.nx
 have h3 := HN.out
 omega)
 obtain ⟨hn128, hnxm⟩ := hbo
 by_cases hf1 : n = 128
 case pos => (
 have HT1 : Hid (T 109 ([], 0)) := by
   rw [HT.out]
   exact no_told HO.out HPS.out (mkE_full HNE.out HS0.out HST.out (.inl (by rw [← HN.out.1]; exact hf1))) (by decide)
 subst hf1
 go_wp2
 refine bodyPost_ret (v := .tuple #[.agg #[.slice none 0 0, .int .i64 0], .int .i64 109]) (by simp [results, Tryz.results58, go_sem, *]) rfl (HNo.out _ _ HT1.out (below_set2 (HBW.out _ HB4.out) (by omega) _ _)))
 by_cases hf2 : nx = 2147483647
 case pos => (
 have HT1 : Hid (T 109 ([], 0)) := by
   rw [HT.out]
   exact no_told HO.out HPS.out (mkE_full HNE.out HS0.out HST.out (.inr (by rw [← HN.out.2]; exact hf2))) (by decide)
 subst hf2
 have hf1i : ¬ 128 ≤ (n : Int) := by omega
 go_wp2
 refine bodyPost_ret (v := .tuple #[.agg #[.slice none 0 0, .int .i64 0], .int .i64 109]) (by simp [results, Tryz.results58, go_sem, *]) rfl (HNo.out _ _ HT1.out (below_set2 (HBW.out _ HB4.out) (by omega) _ _)))
 have HMK : Hid (mkE s xs = aerr (en q) (y, nx)) := by (
 have h1 := mkE_add HNE.out HS0.out HST.out (s := s) (by have := HN.out; omega)
 rw [← HQ.out.1, ← HQ.out.2.1, ← HN.out.2] at h1
 exact h1)
 have hf1i : ¬ 128 ≤ (n : Int) := by omega
 have hf2i : ¬ 2147483647 ≤ nx := by omega
 have HC5 := HOW.out HO.out w4 HB4.out
 go_wp2_with fail
 refine HC5.mono ?_
 rintro e w5 ⟨⟨v5, rfl, hor5⟩, hb5⟩
 have HB5 : Hid (Below W.heap.size W w5) := below_any HB4.out hb5
 obtain ⟨X, hX⟩ : ∃ X : Nat → Prop, X = fun k => (w0.heap.size ≤ k ∧ k < w4.heap.size) ∨ k = w5.heap.size := ⟨_, rfl⟩
 have HX : Hid (∀ k, X k ↔ (w0.heap.size ≤ k ∧ k < w4.heap.size) ∨ k = w5.heap.size) := fun k => by rw [hX]
 obtain ⟨W5, hW5⟩ := exa (w5.alloc (.cells #[v5, .int .i64 nx] 24))
 have hbW5 : Below w5.heap.size w5 W5 := by rw [hW5]; exact (Below.refl _ w5).alloc (Nat.le_refl _) _
 have HR5 : Hid (RX X w4.heap.size W5 v5 s.1 ∧ Box W5 w5.heap.size 24 #[v5, .int .i64 nx] ∧ Below W.heap.size W W5 ∧ w4.heap.size ≤ w5.heap.size ∧ W5.heap.size = w5.heap.size + 1) := by (
 refine ⟨(RX.of_or hor5).more hbW5 fun k hk => ?_, by rw [hW5]; exact Box.new _ _ _, below_any HB5.out hbW5, hb5.size, by rw [hW5]; simp⟩
 rcases (HX.out k).1 hk with h | h
 · exact .inl h
 · exact .inr (by omega))
 obtain ⟨g5, c5, ea5, ec5, fa5, fc5, rfl, hbg5, hgs5, hix5, hpx5, hall5⟩ := HR5.out.1.at at' q HQ.out.2.2.1
 rw [← HN.out.1] at hix5 HR5 hpx5 hall5 hW5 ⊢
 rw [← HTH.out.2] at hpx5 hall5
 have HG5 : Hid (w4.heap.size ≤ g5 ∧ g5 < W5.heap.size ∧ g5 ≠ w5.heap.size ∧ g5 < w5.heap.size) := by (
 have h1 := HR5.out.1.lt g5 rfl
 have h2 := hor5.owns g5 (by rw [← HN.out.1]; rfl)
 exact ⟨h1.1, h1.2, by omega, by omega⟩)
 have HALL5 : Hid (∀ V, Below W5.heap.size W5 V → V.cell? ⟨g5, at' * 6 + 3, none⟩ = some (.slice ea5 el ec5) ∧ V.frozen? ⟨g5, at' * 6 + 3, none⟩ = false ∧ V.cell? ⟨w5.heap.size, 0, none⟩ = some (.slice (some ⟨g5, 0, none⟩) n c5) ∧ V.cell? ⟨w5.heap.size, 1, none⟩ = some (.int .i64 nx) ∧ V.cell? ⟨w.heap.size, 1, none⟩ = some (.int .i64 nx)) := fun V hV => by
   have hbx := HR5.out.2.1.below hV HR5.out.2.1.lt
   exact ⟨(hall5 V hV).1.2.2.2.1, (hall5 V hV).2.1 _, hbx.two.1, hbx.two.2.1, (HSB.out V (below_any HR5.out.2.2.1 hV)).2.1⟩
 have HPX5 : Hid (PX (WX X (.slice (some ⟨g5, 0, none⟩) n c5)) W5 q (.slice ea5 el ec5) (.slice fa5 (fi q).2.length fc5)) := hpx5
 have HST5 : Hid (∀ V u p' e' f', Below W5.heap.size W5 V → (nv q (.slice ea5 el ec5) (.slice fa5 (fi q).2.length fc5)).set 3 u = nv p' e' f' → PX (WX X (.slice (some ⟨g5, 0, none⟩) n c5)) V p' e' f' → RX X w4.heap.size (V.setCell ⟨g5, at' * 6 + 3, none⟩ u) (.slice (some ⟨g5, 0, none⟩) n c5) (s.1.set at' p')) := fun V u p' e' f' hV h1 h2 => (hall5 V hV).2.2 3 u p' e' f' (by omega) h1 h2
 have HAD : Hid (∀ V, Below W5.heap.size W5 V → Calls Tryz.prog 115 #[.slice ea5 el ec5, .agg #[.string y, .int .i64 nx]] V fun r w' => (∃ v', r = .returned (.tuple #[v', .int .i64 (aerr (en q) (y, nx))]) ∧ OwnE 162 V.heap.size w' v' (aval (en q) (y, nx))) ∧ Below V.heap.size V w') := fun V hV => by (
 have hly : y.size ≤ maxLen := by
   rw [HQ.out.2.1]
   exact HB2.out.2.1.arg.2 _ (lst_mem HNE.out)
 exact D.radd_any 0 (.slice ea5 el ec5) (en q) (y, nx) V (hpx5.lr.1.below hV) ⟨hly, by have := HO.out.wk.nx; have := HN.out.2; exact ⟨by simp only; omega, by simp only; omega⟩⟩)
 obtain ⟨k6, hk6⟩ := exa (aerr (en q) (y, nx))
 have HK6 : Hid (k6 = aerr (en q) (y, nx)) := hk6
 rw [← hk6] at HAD
 obtain ⟨t0, t1, t2, t3, t4⟩ := HALL5.out W5 (Below.refl _ _)
 rw [hW5] at t0 t2 t3 t4
 clear hor5 hb5 hX hbW5 hpx5 hall5 hbg5 hgs5 HC5 g0 g1 d0 d1 e0 e1 hk6 t1
 go_wp2
 rw [← hW5]
 clear hW5 t0 t2 t3 t4
 have HS0' := HALL5.out W5.drew (Below.refl _ W5).drew
 have HCR := HAD.out W5.drew (Below.refl _ W5).drew
 go_region_held3 (fun U => U.cell? ⟨g5, at' * 6 + 3, none⟩ = some (.slice ea5 el ec5) ∧ U.frozen? ⟨g5, at' * 6 + 3, none⟩ = false ∧ U.cell? ⟨w5.heap.size, 0, none⟩ = some (.slice (some ⟨g5, 0, none⟩) n c5) ∧ U.cell? ⟨w5.heap.size, 1, none⟩ = some (.int .i64 nx) ∧ U.cell? ⟨w.heap.size, 1, none⟩ = some (.int .i64 nx))
   (first | with_reducible exact HS1' | with_reducible exact HS0')
   ((first | (go_at_call 115; refine HCR.mono ?_; rintro e w6 ⟨⟨v6, rfl, hO6⟩, hb6⟩; have HS1' := HALL5.out w6 (below_any (Below.refl _ W5).drew hb6))))
 have HB6 : Hid (Below W5.heap.size W5 w6 ∧ OwnE 162 W5.heap.size w6 v6 (aval (en q) (y, nx))) := ⟨below_any (Below.refl _ W5).drew hb6, hO6⟩
 clear HS0' HS1' hb6 hO6 HCR
 obtain ⟨-, -, d0, d1, e0, e1⟩ := HSB.out w6 (below_any HR5.out.2.2.1 HB6.out.1)
 by_cases hk0 : k6 = 0
 case neg => (
 have HT1 : Hid (T k6 ([], 0)) := by
   rw [HT.out, HK6.out]
   exact no_told HO.out HPS.out HMK.out (by rw [← HK6.out]; exact hk0)
 go_wp2
 refine bodyPost_ret (v := .tuple #[.agg #[.slice none 0 0, .int .i64 0], .int .i64 k6]) (by simp [results, Tryz.results58, go_sem, *]) rfl (HNo.out _ _ HT1.out (below_set2 (HBW.out _ (below_any HR5.out.2.2.1 HB6.out.1)) (by omega) _ _)))
 subst hk0
 obtain ⟨t0, t1, t2, t3, t4⟩ := HALL5.out w6 HB6.out.1
 have hav : aval (en q) (y, nx) = ins (en q) (y, nx) := if_pos HK6.out.symm
 have HO6 : Hid (OwnE 162 W5.heap.size w6 v6 (ins (en q) (y, nx))) := by rw [← hav]; exact HB6.out.2
 obtain ⟨ea6, ec6, rfl⟩ := HO6.out.shape
 obtain ⟨W6, hW6⟩ := exa (w6.setCell ⟨g5, at' * 6 + 3, none⟩ (.slice ea6 (ins (en q) (y, nx)).length ec6))
 have hbx6 : Box W6 w5.heap.size 24 #[.slice (some ⟨g5, 0, none⟩) n c5, .int .i64 nx] := by rw [hW6]; exact (HR5.out.2.1.below HB6.out.1 HR5.out.2.1.lt).other (Ne.symm HG5.out.2.2.1)
 have HR6 : Hid (RX X w4.heap.size W6 (.slice (some ⟨g5, 0, none⟩) n c5) (ch s.1 q.1 (wE (ins (en q) (y, nx)))) ∧ Box W6 w5.heap.size 24 #[.slice (some ⟨g5, 0, none⟩) n c5, .int .i64 nx] ∧ Below W.heap.size W W6 ∧ w5.heap.size + 1 ≤ W6.heap.size) := by (
 refine ⟨?_, hbx6, ?_, by rw [hW6]; have := HB6.out.1.size; have := HR5.out.2.2.2.2; simp [World.setCell]; omega⟩
 · rw [hW6, ← set_ch HO.out.wk.up HQ.out.2.2.1]
   refine HST5.out w6 _ (wE (ins (en q) (y, nx)) q) _ (.slice fa5 (fi q).2.length fc5) HB6.out.1 rfl ⟨HPX5.out.1, fun w' ha => ⟨?_, ?_⟩⟩
   · refine ens_px HO6.out.arg (fun k hk => ?_) ha
     have h0 := HR5.out.2.2.2
     have h4 := HG5.out
     rcases hk with hk | hk
     · rcases (HX.out k).1 hk with h | h <;> omega
     · have : g5 = k := by simpa [Value.ownBlock] using hk
       omega
   · exact (HPX5.out.2 w' fun k k1 k2 => by rw [ha k k1 (by have := HB6.out.1.size; omega)]; exact HB6.out.1.block k k2).2
 · rw [hW6]
   exact (below_any HR5.out.2.2.1 HB6.out.1).setCell (p := ⟨g5, at' * 6 + 3, none⟩) (by have := HG5.out.1; have := HB4.out.size; simp only; omega) _)
 obtain ⟨s0, s1, r0, r1, f0, f1⟩ := HSB.out W6 HR6.out.2.2.1
 obtain ⟨u0, u1, -, -⟩ := hbx6.two
 rw [hW6] at s0 s1 r0 r1 f0 f1 u0 u1
 clear hbx6 hav
 obtain ⟨vss, hrow, heach⟩ := HR6.out.1
 rw [ch_length, ← HN.out.1] at hrow
 have HEA : Hid (Each (fun us p => ∃ e b, us = nv p e b ∧ PX (WX X (.slice (some ⟨g5, 0, none⟩) n c5)) W6 p e b) vss (ch s.1 q.1 (wE (ins (en q) (y, nx))))) := heach
 have HROW : Hid (W6.ownsRow w4.heap.size 101 6 (.slice (some ⟨g5, 0, none⟩) n c5) n vss.flatten) := hrow
 clear hrow heach
 go_wp2_with (at_builtin; refine Stopped.intro ?_)
 unfold Stopped
 have hsz6 : w6.heap.size = W6.heap.size := by rw [hW6]; simp [World.setCell]
 rw [← hW6, hsz6]
 clear hsz6 s0 s1 r0 r1 f0 f1 u0 u1 t0 t1 t2 t3 t4 d0 d1 e0 e1 hW6
 refine push_row (by rfl) _ _ 22 101 (by rfl) Tryz.underlying22 Tryz.info101 rfl (by omega) w4.heap.size _ vss.flatten n [.int .i64 nx, .bool b, .int .i64 1, .slice none 0 0, .int .i64 0, .slice none 0 0] rfl (by simp [Value.oneCell']) W6 (by rfl) HROW.out (by rfl) (by omega) (by omega) (by have := HR6.out.2.2.2; have := HR5.out.2.2.2; omega) ?_
 intro g7 c7 w7 hO7 hg7 hgr7 hlt7
 have hbx7 := (Box.alloc HR6.out.2.1 (.cells #[.int .i64 nx, .bool b, .int .i64 1, .slice none 0 0, .int .i64 0, .slice none 0 0] 101)).grown hg7 (by have := HG5.out.2.2.1; simp [Value.ownBlock]; omega)
 obtain ⟨p0, p1, q0, q1⟩ := hbx7.two
 have hb7 : Below W.heap.size W w7 := below_row HR6.out.2.2.1 HROW.out hg7 HB4.out.size (by have := HR6.out.2.2.2; have := HR5.out.2.2.2; have := HB4.out.size; omega)
 obtain ⟨-, -, d0, d1, e0, e1⟩ := HSB.out w7 hb7
 have HG7 : Hid (g7 ≠ w5.heap.size ∧ g7 ≠ w.heap.size + 1 ∧ W.heap.size ≤ w4.heap.size ∧ w4.heap.size ≤ w5.heap.size) := by (
 have h1 := HG5.out
 have h2 := HR6.out.2.2.2
 have h3 := HR5.out.2.2.2
 have h4 := HB4.out.size
 have h5 := HW.out.2.2.1
 rcases hgr7 with h | h
 · have : g5 = g7 := by simpa [Value.ownBlock] using h
   exact ⟨by omega, by omega, by omega, by omega⟩
 · exact ⟨by omega, by omega, by omega, by omega⟩)
 have hne1 : ¬ w5.heap.size = w.heap.size + 1 := by have := HG7.out; have := HW.out.2.2.1; omega
 have hne2 : ¬ w.heap.size + 1 = w5.heap.size := fun h => hne1 h.symm
 have HR7 : Hid (RX X w4.heap.size w7 (.slice (some ⟨g7, 0, none⟩) (n + 1) c7) (mkN s q y b).1) := by (
 have hbA : Below W6.heap.size W6 (W6.alloc (.cells #[.int .i64 nx, .bool b, .int .i64 1, .slice none 0 0, .int .i64 0, .slice none 0 0] 101)) := (Below.refl _ _).alloc (Nat.le_refl _) _
 have key : ∀ w'', AgX (WX X (.slice (some ⟨g5, 0, none⟩) n c5)) (W6.alloc (.cells #[.int .i64 nx, .bool b, .int .i64 1, .slice none 0 0, .int .i64 0, .slice none 0 0] 101)) w'' → AgX (WX X (.slice (some ⟨g5, 0, none⟩) n c5)) W6 w'' := fun w'' ha k k1 k2 => by
   rw [ha k k1 (by have := hbA.size; omega)]
   exact hbA.block k k2
 have h9 : (mkN s q y b).1 = ch s.1 q.1 (wE (ins (en q) (y, nx))) ++ [(nx, b, 1, [], (0, []))] := by unfold mkN; rw [← HN.out.2]
 rw [h9]
 refine RX.push (v := .slice (some ⟨g5, 0, none⟩) n c5) (e := .slice none 0 0) (b := .slice none 0 0) (vss := vss) (HEA.out.mono fun us q ⟨e, b, h3, h4⟩ => ⟨e, b, h3, h4.to key⟩) ⟨⟨by have := HO.out.wk.nx; have := HN.out.2; exact ⟨by simp only; omega, by simp only; omega⟩, (show I64 1 from ⟨by omega, by omega⟩), (show I64 0 from ⟨by omega, by omega⟩)⟩, fun w' _ => ⟨(D.OwnE.nil 162 0 w').arg, bksR_nil w'⟩⟩ hg7 (fun g' hg' => ?_) (by rw [ch_length, ← HN.out.1]; exact hO7)
 have e1 : g7 = g' := by simpa [Value.ownBlock] using hg'
 subst e1
 rcases hgr7 with h | h
 · exact .inl h
 · exact .inr (by rw [h]; simp))
 have HB7 : Hid (Below W.heap.size W w7) := hb7
 have hwn : IntKind.i64.wrap (nx + 1) = nx + 1 := wrap_i64 (by have := HO.out.wk.nx; have := HN.out.2; omega) (by omega)
 have HTY : Hid (T 0 ((mkN s q y b).1, nx + 1)) := by (
 have h9 : ((mkN s q y b).1, nx + 1) = mkN s q y b := by unfold mkN; rw [← HN.out.2]
 rw [HT.out, h9, HQ.out.1, HQ.out.2.1]
 exact yes_told HO.out HPS.out (by rw [HMK.out, ← HK6.out]))
 clear hO7 hg7 hgr7 hlt7 hbx7 hb7
 go_wp2
 refine bodyPost_ret (v := .tuple #[.agg #[.slice (some ⟨g7, 0, none⟩) (n + 1) c7, .int .i64 (nx + 1)], .int .i64 0]) (by simp [results, Tryz.results58, go_sem, *]) rfl (HYes.out _ _ _ _ HTY.out ?_ ?_)
 · have h1 := HG7.out
   have h2 := HW.out
   have hT : X w5.heap.size := (HX.out _).2 (.inr rfl)
   have hR : X (w.heap.size + 1) := (HX.out _).2 (.inl ⟨by omega, by omega⟩)
   have hn1 : (Value.slice (some ⟨g7, 0, none⟩) (n + 1) c7).ownBlock ≠ some w5.heap.size := by simp [Value.ownBlock]; omega
   have hn2 : (Value.slice (some ⟨g7, 0, none⟩) (n + 1) c7).ownBlock ≠ some (w.heap.size + 1) := by simp [Value.ownBlock]; omega
   exact ((((HR7.out.set hT hn1 _ _).set hT hn1 _ _).set hR hn2 _ _).set hR hn2 _ _).or (fun k k1 k2 => (HX.out k).2 (.inl ⟨k1, by omega⟩)) (by omega)
 · have h1 := HG7.out
   have h2 := HW.out
   exact below_set2 (below_set2 (HBW.out _ HB7.out) (by omega) _ _) (by omega) _ _
end Go.Proofs.YtopcefhncildnaaGreatDoor
namespace Go.Proofs.YtopcefhncildnaaGreatDoor
open Go.RowKit
open D (En ArgE OwnE Chk there fnd)
open P (ArgT OwnT serr sval)
theorem filE_walk {s : St} {xs : List ByteArray} (h : (wlk s.1 1 xs).2 ≠ 0) : filE s.1 xs = (wlk s.1 1 xs).2 := by unfold filE; rw [if_neg h]
theorem filE_dir {s : St} {xs : List ByteArray} (h : (wlk s.1 1 xs).2 = 0) (hd : isD (tgt s xs) = true) : filE s.1 xs = 104 := by unfold filE; rw [if_pos h, show gt s.1 (wlk s.1 1 xs).1 = tgt s xs from rfl, if_pos hd]
theorem filE_zero {s : St} {xs : List ByteArray} (h : (wlk s.1 1 xs).2 = 0) (hd : isD (tgt s xs) = false) : filE s.1 xs = 0 := by unfold filE; rw [if_pos h, show gt s.1 (wlk s.1 1 xs).1 = tgt s xs from rfl, if_neg (by rw [hd]; decide)]
end Go.Proofs.YtopcefhncildnaaGreatDoor
namespace Go.Proofs.YtopcefhncildnaaGreatDoor
open Go.RowKit
open D (En ArgE Chk)
open F (flR rdE rdO)
open P (ArgT OwnT serr sval)
def Filed (s : St) (p : ByteArray) (i k : Int) : Prop := (¬ Ok s ∧ k = 9) ∨ (Ok s ∧ serr p ≠ 0 ∧ k = serr p) ∨ (Ok s ∧ serr p = 0 ∧ k = filE s.1 (sval p) ∧ (k = 0 → ∃ at' : Nat, i = (at' : Int) ∧ s.1[at']? = some (tgt s (sval p))))
theorem rfile_any (n0 : Nat) (a : Option Addr) (c : Nat) (s : St) (p : ByteArray) (w : World) (hA : ndsR.lies n0 w [.slice a s.1.length c] s.1) (hM : FitsS s.1) :
   Calls Tryz.prog 53 #[.agg #[.slice a s.1.length c, .int .i64 s.2], .string p] w fun e w' => (∃ i k, e = .returned (.tuple #[.int .i64 i, .int .i64 k]) ∧ Filed s p i k) ∧ Below w.heap.size w w' := by
 obtain ⟨post, hpost⟩ : ∃ post : Ending → World → Prop, post = fun e w' => (∃ i k, e = .returned (.tuple #[.int .i64 i, .int .i64 k]) ∧ Filed s p i k) ∧ Below w.heap.size w w' := ⟨_, rfl⟩
 have HPo : Hid (∀ i k w', Filed s p i k → Below w.heap.size w w' → post (.returned (.tuple #[.int .i64 i, .int .i64 k])) w') := fun i k w' h1 h2 => by rw [hpost]; exact ⟨⟨i, k, rfl, h1⟩, h2⟩
 rw [← hpost]
 clear hpost
 obtain ⟨W, hW⟩ := exa (w.alloc (.cells #[.slice a s.1.length c, .int .i64 s.2] 24))
 have hb : Below w.heap.size w W := by rw [hW]; exact (Below.refl _ w).alloc (Nat.le_refl _) _
 have HW : Hid (Below w.heap.size w W ∧ Box W w.heap.size 24 #[.slice a s.1.length c, .int .i64 s.2] ∧ ndsR.lies n0 W [.slice a s.1.length c] s.1) := ⟨hb, by rw [hW]; exact Box.new _ _ _, ndsR.below hA hb⟩
 have HC1 := rfind10_any n0 a c s p W HW.out.2.2 hM
 have HPL : Hid (∀ V (i : Int), Below W.heap.size W V → Calls Tryz.prog 105 #[.agg #[.slice a s.1.length c, .int .i64 s.2], .int .i64 i] V fun e w' => e = .returned (.int .i64 (plc s.1 i)) ∧ Below V.heap.size V w') := fun V i hV => rplace_any n0 a c s.1 s.2 i V (ndsR.below HW.out.2.2 hV)
 obtain ⟨g0, g1, -, -⟩ := HW.out.2.1.two
 obtain ⟨n, hn⟩ := exa (s.1.length)
 obtain ⟨nx, hnx⟩ := exa (s.2)
 have HN : Hid (n = s.1.length) := hn
 rw [← hn] at HW HC1 HPL hW g0 ⊢
 rw [← hnx] at HW HC1 HPL hW g1 ⊢
 rw [hW] at g0 g1
 clear hA hb hM hn hnx
 go_enter Tryz.func53, Tryz.ntmps53
 go_wp2_with fail
 rw [← hW]
 clear hW g0 g1
 refine HC1.mono ?_
 rintro e w1 ⟨⟨i1, k1, rfl, hf⟩, hb1⟩
 have HB1 : Hid (Below W.heap.size W w1) := hb1
 clear hb1 HC1
 by_cases hk0 : k1 = 0
 case neg => (
 have HF : Hid (Filed s p 0 k1) := by (
 rcases hf with ⟨h1, _, h3⟩ | ⟨h1, h2, _, h3⟩ | ⟨h1, h2, _, h3⟩
 · exact .inl ⟨h1, h3⟩
 · exact .inr (.inl ⟨h1, h2, h3⟩)
 · exact .inr (.inr ⟨h1, h2, by rw [h3]; exact (filE_walk (by rw [← h3]; exact hk0)).symm, fun h => absurd h hk0⟩))
 clear hf
 go_wp2
 exact HPo.out _ _ _ HF.out (below_any HW.out.1 HB1.out))
 subst hk0
 obtain ⟨hO, hp0, hi1, hw0⟩ : Ok s ∧ serr p = 0 ∧ i1 = (wlk s.1 1 (sval p)).1 ∧ (wlk s.1 1 (sval p)).2 = 0 := by (
 rcases hf with ⟨_, _, h3⟩ | ⟨_, h2, _, h3⟩ | ⟨h1, h2, h3, h4⟩
 · omega
 · exact absurd h3.symm h2
 · exact ⟨h1, h2, h3, h4.symm⟩)
 have HO : Hid (Ok s ∧ serr p = 0 ∧ (wlk s.1 1 (sval p)).2 = 0) := ⟨hO, hp0, hw0⟩
 obtain ⟨hqm, hqi, -⟩ := hO.wk.lead hw0
 obtain ⟨q, hq⟩ := exa (tgt s (sval p))
 rw [← hq] at hqm hqi
 obtain ⟨at', hat, hpc⟩ := plc_mem hO.wk.up hqm
 have HQ : Hid (q = tgt s (sval p) ∧ s.1[at']? = some q) := ⟨hq, hat⟩
 have HC2 := HPL.out w1 i1 HB1.out
 rw [hi1, hqi, hpc, ← hqi, ← hi1] at HC2
 obtain ⟨b, o, ea, ec, fa, fc, hix, hall⟩ := ndr_at HW.out.2.2 at' q hat
 obtain ⟨pd, hpd⟩ := exa (isD q)
 have HD : Hid (pd = isD q) := hpd
 have HPD : Hid (∀ V, Below W.heap.size W V → V.cell? ⟨b, o + 1, none⟩ = some (.bool pd)) := fun V hV => by rw [hpd]; exact (hall V hV).1.2.1
 have hatn : (at' : Int) < (n : Int) := by (
 have h1 := (List.getElem?_eq_some_iff.1 hat).1
 have h2 := HN.out
 omega)
 obtain ⟨g0, g1, -, -⟩ := (HW.out.2.1.below HB1.out HW.out.2.1.lt).two
 clear hf hO hp0 hi1 hw0 hqm hqi hq hat hpc hall hpd
 go_wp2_with fail
 refine HC2.mono ?_
 rintro e w2 ⟨rfl, hb2⟩
 have HB2 : Hid (Below W.heap.size W w2) := below_any HB1.out hb2
 clear hb2 HC2 g0 g1
 obtain ⟨g0, g1, -, -⟩ := (HW.out.2.1.below HB2.out HW.out.2.1.lt).two
 have gd := HPD.out w2 HB2.out
 cases pd
 · have HF : Hid (Filed s p at' 0) := by
     have h1 := HD.out
     rw [HQ.out.1] at h1
     exact .inr (.inr ⟨HO.out.1, HO.out.2.1, (filE_zero HO.out.2.2 h1.symm).symm, fun _ => ⟨at', rfl, by rw [← HQ.out.1]; exact HQ.out.2⟩⟩)
   go_wp2
   exact HPo.out _ _ _ HF.out (below_any HW.out.1 HB2.out)
 · have HF : Hid (Filed s p 0 104) := by
     have h1 := HD.out
     rw [HQ.out.1] at h1
     exact .inr (.inr ⟨HO.out.1, HO.out.2.1, (filE_dir HO.out.2.2 h1.symm).symm, fun h => absurd h (by decide)⟩)
   go_wp2
   exact HPo.out _ _ _ HF.out (below_any HW.out.1 HB2.out)
end Go.Proofs.YtopcefhncildnaaGreatDoor
namespace Go.Proofs.YtopcefhncildnaaGreatDoor
open Go.RowKit
open P (serr sval)
def FlatR (B0 : Nat) (T : Int → St → Prop) (w : World) (e : Ending) (w' : World) : Prop := (∃ (k : Int) (l : List Nd) (x : Int) (n : Nat) (a : Option Addr) (c : Nat), e = .returned (.tuple #[.agg #[.slice a n c, .int .i64 x], .int .i64 k]) ∧ n = l.length ∧ OR B0 w.heap.size w' (.slice a n c) l ∧ T k (l, x)) ∧ Below w.heap.size w w'
theorem TellsR.flat {B0 : Nat} {T : Int → St → Prop} {w w' : World} {e : Ending} (h : TellsR B0 T w e w') : FlatR B0 T w e w' := by
 obtain ⟨⟨v, k, ⟨l, x⟩, rfl, hT, hO⟩, hb⟩ := h
 obtain ⟨a, c, rfl⟩ := hO.shape
 exact ⟨⟨k, l, x, _, a, c, rfl, rfl, hO, hT⟩, hb⟩
theorem rCreate_any (n0 : Nat) (w0 : World) (a : Option Addr) (c : Nat) (s : St) (p : ByteArray) (w : World) (hb0 : Below w0.heap.size w0 w) (hA : ndsR.lies n0 w0 [.slice a s.1.length c] s.1) (hM : FitsS s.1) :
   Calls Tryz.prog 15 #[.agg #[.slice a s.1.length c, .int .i64 s.2], .string p] w (FlatR w0.heap.size (Told s [p] (mkE s (sval p)) (mkN s (hold s (sval p)) (lst (sval p)) false)) w) := by
 obtain ⟨T, hT⟩ : ∃ T : Int → St → Prop, T = Told s [p] (mkE s (sval p)) (mkN s (hold s (sval p)) (lst (sval p)) false) := ⟨_, rfl⟩
 obtain ⟨post, hpost⟩ : ∃ post : Ending → World → Prop, post = FlatR w0.heap.size T w := ⟨_, rfl⟩
 have HPo : Hid (∀ k l x n a c w', n = l.length → OR w0.heap.size w.heap.size w' (.slice a n c) l → T k (l, x) → Below w.heap.size w w' → post (.returned (.tuple #[.agg #[.slice a n c, .int .i64 x], .int .i64 k])) w') := fun k l x n a c w' h1 h2 h3 h4 => by rw [hpost]; exact ⟨⟨k, l, x, n, a, c, rfl, h1, h2, h3⟩, h4⟩
 obtain ⟨W, hW⟩ := exa ((w.alloc (.cells #[.slice a s.1.length c, .int .i64 s.2] 24)).alloc (.cells #[.slice none 0 0, .int .i64 0] 24))
 have hb : Below w.heap.size w W := by rw [hW]; exact ((Below.refl _ w).alloc (Nat.le_refl _) _).alloc (by simp) _
 have hB1 : Box W w.heap.size 24 #[.slice a s.1.length c, .int .i64 s.2] := by rw [hW]; exact (Box.new _ _ _).alloc _
 have hB2 : Box W (w.heap.size + 1) 24 #[.slice none 0 0, .int .i64 0] := by (
 rw [hW]
 have := Box.new (w.alloc (.cells #[.slice a s.1.length c, .int .i64 s.2] 24)) 24 #[.slice none 0 0, .int .i64 0]
 rwa [World.size_alloc] at this)
 have HW : Hid (Below w.heap.size w W ∧ Box W (w.heap.size + 1) 24 #[.slice none 0 0, .int .i64 0] ∧ W.heap.size = w.heap.size + 2 ∧ w0.heap.size ≤ w.heap.size) := ⟨hb, hB2, by rw [hW]; simp, hb0.size⟩
 have HC := rmade_any n0 w0 a c s p false W (hb0.trans (hb.mono hb0.size)) hA hM
 rw [← hT] at HC ⊢
 rw [← hpost]
 obtain ⟨g0, g1, -, -⟩ := hB1.two
 obtain ⟨n, hn⟩ := exa (s.1.length)
 obtain ⟨nx, hnx⟩ := exa (s.2)
 rw [← hn] at HC g0 hW ⊢
 rw [← hnx] at HC g1 hW ⊢
 rw [hW] at g0 g1
 clear hT hpost hb hB1 hB2 hA hM hn hnx hb0
 go_enter Tryz.func15, Tryz.ntmps15
 go_wp2_with fail
 rw [← hW]
 clear hW g0 g1
 refine HC.mono ?_
 intro e w1 h1
 obtain ⟨⟨k1, l1, x1, n1, a1, c1, rfl, hn1, hO1, hT1⟩, hb1⟩ := h1.flat
 have H1 : Hid (n1 = l1.length ∧ OR w0.heap.size W.heap.size w1 (.slice a1 n1 c1) l1 ∧ T k1 (l1, x1) ∧ Below W.heap.size W w1) := ⟨hn1, hO1, hT1, hb1⟩
 obtain ⟨d0, d1, e0, e1⟩ := (HW.out.2.1.below hb1 HW.out.2.1.lt).two
 clear h1 hn1 hO1 hT1 hb1 HC
 go_wp2
 refine bodyPost_ret (v := .tuple #[.agg #[.slice a1 n1 c1, .int .i64 x1], .int .i64 k1]) (by simp [results, Tryz.results15, go_sem, *]) rfl (HPo.out _ _ _ _ _ _ _ H1.out.1 ?_ H1.out.2.2.1 (below_set2 (below_any HW.out.1 H1.out.2.2.2) (by omega) _ _))
 have h2 := HW.out
 exact ((H1.out.2.1.set ⟨by omega, by omega⟩).set ⟨by omega, by omega⟩).weaken (by omega)
end Go.Proofs.YtopcefhncildnaaGreatDoor
namespace Go.Proofs.YtopcefhncildnaaGreatDoor
open Go.RowKit
open D (En ArgE Chk)
open P (ArgT OwnT serr sval)
def FlatRW (B0 dl : Nat) (T : Int → St → Prop) (w : World) (e : Ending) (w' : World) : Prop := (∃ (k m : Int) (l : List Nd) (x : Int) (n : Nat) (a : Option Addr) (c : Nat), e = .returned (.tuple #[.agg #[.slice a n c, .int .i64 x], .int .i64 m, .int .i64 k]) ∧ n = l.length ∧ OR B0 w.heap.size w' (.slice a n c) l ∧ T k (l, x) ∧ ((k = 0 ∧ m = dl) ∨ (k ≠ 0 ∧ m = 0))) ∧ Below w.heap.size w w'
theorem rWrite_any (n0 : Nat) (w0 : World) (a : Option Addr) (c : Nat) (s : St) (p : ByteArray) (off : Int) (ho : I64 off) (da : Option Addr) (dl dc : Nat) (d : List Int) (n1 : Nat) (w : World) (hb0 : Below w0.heap.size w0 w) (hA : ndsR.lies n0 w0 [.slice a s.1.length c] s.1) (hM : FitsS s.1) (hd : Arg n1 w (.slice da dl dc) d) :
   Calls Tryz.prog 13 #[.agg #[.slice a s.1.length c, .int .i64 s.2], .string p, .int .i64 off, .slice da dl dc] w (FlatRW w0.heap.size dl (Told s [p] (rwE s (sval p) (F.wrE (fi (tgt s (sval p))) off d)) (filN s (tgt s (sval p)) (F.wrF (fi (tgt s (sval p))) off d))) w) := by
 obtain ⟨T, hT⟩ : ∃ T : Int → St → Prop, T = Told s [p] (rwE s (sval p) (F.wrE (fi (tgt s (sval p))) off d)) (filN s (tgt s (sval p)) (F.wrF (fi (tgt s (sval p))) off d)) := ⟨_, rfl⟩
 have HT : Hid (T = Told s [p] (rwE s (sval p) (F.wrE (fi (tgt s (sval p))) off d)) (filN s (tgt s (sval p)) (F.wrF (fi (tgt s (sval p))) off d))) := hT
 rw [← hT]
 clear hT
 obtain ⟨post, hpost⟩ : ∃ post : Ending → World → Prop, post = FlatRW w0.heap.size dl T w := ⟨_, rfl⟩
 have HNo : Hid (∀ k w', T k ([], 0) → k ≠ 0 → Below w.heap.size w w' → post (.returned (.tuple #[.agg #[.slice none 0 0, .int .i64 0], .int .i64 0, .int .i64 k])) w') := fun k w' h1 hk h2 => by rw [hpost]; exact ⟨⟨k, 0, [], 0, 0, none, 0, rfl, rfl, OR.nil _ _ _, h1, .inr ⟨hk, rfl⟩⟩, h2⟩
 have HYes : Hid (∀ a' c' l' nx' n' w', n' = l'.length → T 0 (l', nx') → OR w0.heap.size w.heap.size w' (.slice a' n' c') l' → Below w.heap.size w w' → post (.returned (.tuple #[.agg #[.slice a' n' c', .int .i64 nx'], .int .i64 dl, .int .i64 0])) w') := fun a' c' l' nx' n' w' h0 h1 h2 h3 => by rw [hpost]; exact ⟨⟨0, (dl : Int), l', nx', n', a', c', rfl, h0, h2, h1, .inl ⟨rfl, rfl⟩⟩, h3⟩
 rw [← hpost]
 clear hpost
 obtain ⟨W, hW⟩ := exa ((w.alloc (.cells #[.slice a s.1.length c, .int .i64 s.2] 24)).alloc (.cells #[.slice none 0 0, .int .i64 0] 24))
 have hb : Below w.heap.size w W := by rw [hW]; exact ((Below.refl _ w).alloc (Nat.le_refl _) _).alloc (by simp) _
 have hAw : ndsR.lies n0 w [.slice a s.1.length c] s.1 := ndsR.below hA hb0
 have hB1 : Box W w.heap.size 24 #[.slice a s.1.length c, .int .i64 s.2] := by rw [hW]; exact (Box.new _ _ _).alloc _
 have hB2 : Box W (w.heap.size + 1) 24 #[.slice none 0 0, .int .i64 0] := by (
 rw [hW]
 have := Box.new (w.alloc (.cells #[.slice a s.1.length c, .int .i64 s.2] 24)) 24 #[.slice none 0 0, .int .i64 0]
 rwa [World.size_alloc] at this)
 have HW : Hid (Below w.heap.size w W ∧ ndsR.lies n0 W [.slice a s.1.length c] s.1 ∧ W.heap.size = w.heap.size + 2 ∧ Below w0.heap.size w0 W ∧ w0.heap.size ≤ w.heap.size) := ⟨hb, ndsR.below hAw hb, by rw [hW]; simp, hb0.trans (hb.mono hb0.size), hb0.size⟩
 have HSB : Hid (∀ V, Below W.heap.size W V → V.cell? ⟨w.heap.size, 0, none⟩ = some (.slice a s.1.length c) ∧ V.cell? ⟨w.heap.size, 1, none⟩ = some (.int .i64 s.2) ∧ V.cell? ⟨w.heap.size + 1, 0, none⟩ = some (.slice none 0 0) ∧ V.cell? ⟨w.heap.size + 1, 1, none⟩ = some (.int .i64 0) ∧ V.frozen? ⟨w.heap.size + 1, 0, none⟩ = false ∧ V.frozen? ⟨w.heap.size + 1, 1, none⟩ = false) := fun V hV => by (
 obtain ⟨g0, g1, -, -⟩ := (hB1.below hV hB1.lt).two
 obtain ⟨d0, d1, d2, d3⟩ := (hB2.below hV hB2.lt).two
 exact ⟨g0, g1, d0, d1, d2, d3⟩)
 have HBW : Hid (∀ V, Below W.heap.size W V → Below w.heap.size w V) := fun V hV => below_any hb hV
 have HOW : Hid (Ok s → ∀ V, Below W.heap.size W V → Calls Tryz.prog 55 #[.agg #[.slice a s.1.length c, .int .i64 s.2]] V fun e w' => (∃ v', e = .returned (.agg #[v', .int .i64 s.2]) ∧ OR w0.heap.size V.heap.size w' v' s.1) ∧ Below V.heap.size V w') := fun hO V hV => rown_any n0 w0 a c s hO.wk V (HW.out.2.2.2.1.trans (hV.mono HW.out.2.2.2.1.size)) hA
 have HC1 := rfile_any n0 a c s p W HW.out.2.1 hM
 have HDA : Hid (∀ V, Below W.heap.size W V → Arg n1 V (.slice da dl dc) d) := fun V hV => hd.below (below_any hb hV)
 obtain ⟨g0, g1, d0, d1, e0, e1⟩ := HSB.out W (Below.refl _ _)
 obtain ⟨n, hn⟩ := exa (s.1.length)
 obtain ⟨nx, hnx⟩ := exa (s.2)
 have HN : Hid (n = s.1.length ∧ nx = s.2 ∧ I64 off) := ⟨hn, hnx, ho⟩
 rw [← hn] at HW HSB HOW HC1 g0 hW ⊢
 rw [← hnx] at HSB HOW HC1 g1 hW ⊢
 rw [hW] at g0 g1 d0 d1 e0 e1
 have hl9 := run_len Tryz.underlying25 da dl dc
 clear hb hA hAw hM hB1 hB2 hb0 hn hnx ho hd
 go_enter Tryz.func13, Tryz.ntmps13
 go_wp2_with fail
 rw [← hW]
 clear hW g0 g1 d0 d1 e0 e1
 refine HC1.mono ?_
 rintro e w1 ⟨⟨i1, k1, rfl, hf⟩, hb1⟩
 have HB1 : Hid (Below W.heap.size W w1) := hb1
 clear hb1 HC1
 obtain ⟨g0, g1, d0, d1, e0, e1⟩ := HSB.out w1 HB1.out
 by_cases hk0 : k1 = 0
 case neg => (
 have HT1 : Hid (T k1 ([], 0)) := by (
 rw [HT.out]
 rcases hf with ⟨h1, h3⟩ | ⟨h1, h2, h3⟩ | ⟨h1, h2, h3, _⟩
 · exact .inl ⟨h1, h3, rfl⟩
 · exact .inr (.inl ⟨h1, by rw [psE_one]; exact h2, by rw [psE_one]; exact h3, rfl⟩)
 · exact no_told h1 (by rw [psE_one]; exact h2) (by unfold rwE; rw [if_pos (by rw [← h3]; exact hk0)]; exact h3.symm) hk0)
 clear hf
 go_wp2
 refine bodyPost_ret (v := .tuple #[.agg #[.slice none 0 0, .int .i64 0], .int .i64 0, .int .i64 k1]) (by simp [results, Tryz.results13, go_sem, *]) rfl (HNo.out _ _ HT1.out hk0 (below_set2 (HBW.out _ HB1.out) (by omega) _ _)))
 subst hk0
 obtain ⟨hO, hp0, hfz, hex⟩ : Ok s ∧ serr p = 0 ∧ filE s.1 (sval p) = 0 ∧ ∃ at' : Nat, i1 = (at' : Int) ∧ s.1[at']? = some (tgt s (sval p)) := by (
 rcases hf with ⟨_, h3⟩ | ⟨_, h2, h3⟩ | ⟨h1, h2, h3, h4⟩
 · omega
 · exact absurd h3.symm h2
 · exact ⟨h1, h2, h3.symm, h4 rfl⟩)
 obtain ⟨at', rfl, hat⟩ := hex
 obtain ⟨q, hq⟩ := exa (tgt s (sval p))
 rw [← hq] at hat HT
 obtain ⟨E, hE⟩ := exa (F.wrE (fi q) off d)
 obtain ⟨G, hG⟩ := exa (F.wrF (fi q) off d)
 rw [← hE, ← hG] at HT
 have HQ : Hid (q = tgt s (sval p) ∧ s.1[at']? = some q ∧ Ok s ∧ psE [p] = 0 ∧ rwE s (sval p) E = E) := ⟨hq, hat, hO, by rw [psE_one]; exact hp0, by unfold rwE; rw [if_neg (fun h => h hfz)]⟩
 obtain ⟨b, o, ea, ec, fa, fc, hix, hall⟩ := ndr_at HW.out.2.1 at' q hat
 obtain ⟨pz, hpz⟩ := exa ((fi q).1)
 obtain ⟨fl, hfl⟩ := exa ((fi q).2.length)
 rw [← hpz, ← hfl] at hall
 have HFC : Hid (∀ V, Below W.heap.size W V → V.cell? ⟨b, o + 4, none⟩ = some (.int .i64 pz) ∧ V.cell? ⟨b, o + 4 + 1, none⟩ = some (.slice fa fl fc) ∧ F.flR.lies n0 V [.int .i64 pz, .slice fa fl fc] (fi q)) := fun V hV => ⟨(hall V hV).1.2.2.2.2.1, (hall V hV).1.2.2.2.2.2, by have := (hall V hV).2.file; rw [← hpz] at this; exact this⟩
 have hatn : (at' : Int) < (n : Int) := by (
 have h1 := (List.getElem?_eq_some_iff.1 hat).1
 have h2 := HN.out.1
 omega)
 have HC2 := F.rwrite_any n0 n1 [.int .i64 pz, .slice fa fl fc] (fi q) off (.slice da dl dc) d w1 (HFC.out w1 HB1.out).2.2 HN.out.2.2 (HDA.out w1 HB1.out)
 rw [← hE, ← hG] at HC2
 obtain ⟨c4, c5, -⟩ := HFC.out w1 HB1.out
 have c5' : w1.cell? ⟨b, o + 5, none⟩ = some (.slice fa fl fc) := c5
 clear hf hO hp0 hfz hq hat hall hpz hfl hE hG
 go_wp2_with fail
 refine HC2.mono ?_
 rintro e w2 ⟨⟨us2, rfl, hf2⟩, hb2⟩
 obtain ⟨fa2, fc2, rfl, hbk2, hi2, -⟩ := F.fl_viewR hf2
 obtain ⟨gz, hgz⟩ := exa (G.1)
 obtain ⟨gl, hgl⟩ := exa (G.2.length)
 rw [← hgl] at hbk2 ⊢
 rw [← hgz] at hi2 ⊢
 obtain ⟨W2, hW2⟩ := exa (w2.alloc (.cells #[.int .i64 gz, .slice fa2 gl fc2] 99))
 have hbW2 : Below w2.heap.size w2 W2 := by rw [hW2]; exact (Below.refl _ _).alloc (Nat.le_refl _) _
 have HB2 : Hid (Below W.heap.size W W2 ∧ Box W2 w2.heap.size 99 #[.int .i64 gz, .slice fa2 gl fc2] ∧ F.bksR.lies w1.heap.size W2 [.slice fa2 gl fc2] G.2 ∧ I64 gz ∧ gz = G.1 ∧ w1.heap.size ≤ w2.heap.size ∧ W2.heap.size = w2.heap.size + 1 ∧ W.heap.size ≤ w1.heap.size) := ⟨below_any HB1.out (below_any hb2 hbW2), by rw [hW2]; exact Box.new _ _ _, F.bksR.below hbk2 hbW2, hi2, hgz, hb2.size, by rw [hW2]; simp, HB1.out.size⟩
 clear c4 c5 c5' hf2 hb2 hbk2 hi2 hgz hgl HC2 hbW2 g0 g1 d0 d1 e0 e1
 obtain ⟨g0, g1, d0, d1, e0, e1⟩ := HSB.out W2 HB2.out.1
 by_cases hE0 : E = 0
 case neg => (
 have HT1 : Hid (T E ([], 0)) := by
   rw [HT.out]
   exact no_told HQ.out.2.2.1 HQ.out.2.2.2.1 HQ.out.2.2.2.2 hE0
 rw [hW2] at d0 d1 e0 e1
 go_wp2
 rw [← hW2] at d0 d1 e0 e1 ⊢
 clear hW2
 refine bodyPost_ret (v := .tuple #[.agg #[.slice none 0 0, .int .i64 0], .int .i64 0, .int .i64 E]) (by simp [results, Tryz.results13, go_sem, *]) rfl (HNo.out _ _ HT1.out hE0 (below_set2 (HBW.out _ HB2.out.1) (by omega) _ _)))
 subst hE0
 have HC3 := HOW.out HQ.out.2.2.1 W2 HB2.out.1
 rw [hW2] at g0 g1
 go_wp2_with fail
 rw [← hW2]
 clear hW2 g0 g1 d0 d1 e0 e1
 refine HC3.mono ?_
 rintro e w3 ⟨⟨v3, rfl, hor3⟩, hb3⟩
 have HB3 : Hid (Below W.heap.size W w3 ∧ Below W2.heap.size W2 w3) := ⟨below_any HB2.out.1 hb3, hb3⟩
 obtain ⟨X, hX⟩ : ∃ X : Nat → Prop, X = fun k => (w0.heap.size ≤ k ∧ k < w1.heap.size) ∨ k = w3.heap.size := ⟨_, rfl⟩
 have HX : Hid (∀ k, X k ↔ (w0.heap.size ≤ k ∧ k < w1.heap.size) ∨ k = w3.heap.size) := fun k => by rw [hX]
 obtain ⟨W5, hW5⟩ := exa (w3.alloc (.cells #[v3, .int .i64 nx] 24))
 have hbW5 : Below w3.heap.size w3 W5 := by rw [hW5]; exact (Below.refl _ w3).alloc (Nat.le_refl _) _
 have HR5 : Hid (RX X W2.heap.size W5 v3 s.1 ∧ Box W5 w3.heap.size 24 #[v3, .int .i64 nx] ∧ Below W.heap.size W W5 ∧ W2.heap.size ≤ w3.heap.size ∧ W5.heap.size = w3.heap.size + 1 ∧ Below W2.heap.size W2 W5) := by (
 refine ⟨(RX.of_or hor3).more hbW5 fun k hk => ?_, by rw [hW5]; exact Box.new _ _ _, below_any HB3.out.1 hbW5, hb3.size, by rw [hW5]; simp, below_any hb3 hbW5⟩
 have h1 := HB2.out.2.2.2.2.2
 rcases (HX.out k).1 hk with h | h
 · exact .inl ⟨h.1, by omega⟩
 · exact .inr (by omega))
 obtain ⟨g5, c5, ea5, ec5, fa5, fc5, rfl, hbg5, hgs5, hix5, hpx5, hall5⟩ := HR5.out.1.at at' q HQ.out.2.1
 rw [← HN.out.1] at hix5 HR5 hpx5 hall5 hW5 ⊢
 have HG5 : Hid (W2.heap.size ≤ g5 ∧ g5 < w3.heap.size) := by (
 have h1 := HR5.out.1.lt g5 rfl
 have h2 := hor3.owns g5 (by rw [← HN.out.1]; rfl)
 exact ⟨h1.1, by omega⟩)
 obtain ⟨hc5, hf5, hst5⟩ := hall5 W5 (Below.refl _ _)
 have hpX : ∀ w', AgX (WX X (.slice (some ⟨g5, 0, none⟩) n c5)) W5 w' → F.bksR.lies 0 w' [.slice fa2 gl fc2] G.2 := fun w' ha => by (
 refine bks_px (w := W2) (X := WX X (.slice (some ⟨g5, 0, none⟩) n c5)) HB2.out.2.2.1 (fun k hk => ?_) (fun k k1 k2 => by rw [ha k k1 (by have := HR5.out.2.2.2.2.2.size; omega)]; exact HR5.out.2.2.2.2.2.block k k2)
 have h2 := HR5.out.2.2.2
 have h4 := HG5.out
 rcases hk with hk | hk
 · rcases (HX.out k).1 hk with h | h <;> omega
 · have : g5 = k := by simpa [Value.ownBlock] using hk
   omega)
 obtain ⟨p1, hp1⟩ : ∃ p1 : Nd, p1 = (q.1, q.2.1, q.2.2.1, q.2.2.2.1, (gz, q.2.2.2.2.2)) := ⟨_, rfl⟩
 obtain ⟨p2, hp2⟩ : ∃ p2 : Nd, p2 = wF G q := ⟨_, rfl⟩
 have hI : I64 gz := HB2.out.2.2.2.1
 have hgG : gz = G.1 := HB2.out.2.2.2.2.1
 obtain ⟨W6, hW6⟩ := exa (W5.setCell ⟨g5, at' * 6 + 4, none⟩ (.int .i64 gz))
 have hR6 : RX X W2.heap.size W6 (.slice (some ⟨g5, 0, none⟩) n c5) (s.1.set at' p1) := by
   rw [hW6, hp1]
   exact hst5 4 _ (q.1, q.2.1, q.2.2.1, q.2.2.2.1, (gz, q.2.2.2.2.2)) _ _ (by omega) rfl ⟨⟨hpx5.1.1, hpx5.1.2.1, hI⟩, hpx5.2⟩
 have hlt6 : at' < s.1.length := (List.getElem?_eq_some_iff.1 HQ.out.2.1).1
 obtain ⟨g6, c6, ea6, ec6, fa6, fc6, hv6, -, -, -, hpx6, hall6⟩ := hR6.at at' p1 (by rw [List.getElem?_set_self hlt6])
 obtain ⟨hgg, -, -⟩ : (⟨g5, 0, none⟩ : Addr) = ⟨g6, 0, none⟩ ∧ n = (s.1.set at' p1).length ∧ c5 = c6 := by simpa using hv6
 obtain rfl : g5 = g6 := by simpa using hgg
 obtain ⟨hc6, hf6, hst6⟩ := hall6 W6 (Below.refl _ _)
 obtain ⟨W7, hW7⟩ := exa (W6.setCell ⟨g5, at' * 6 + 5, none⟩ (.slice fa2 gl fc2))
 have hR7 : RX X W2.heap.size W7 (.slice (some ⟨g5, 0, none⟩) n c5) (ch s.1 q.1 (wF G)) := by (
 rw [hW7, ← set_ch HQ.out.2.2.1.wk.up HQ.out.2.1, ← hp2]
 have h9 := hst6 5 (.slice fa2 gl fc2) p2 (.slice ea6 (en p1).length ec6) (.slice fa2 gl fc2) (by omega) (by rw [hp1, hp2]; unfold wF nv; simp only [List.set_cons_succ, List.set_cons_zero]; rw [hgG]) ⟨by rw [hp2]; exact ⟨hpx5.1.1, hpx5.1.2.1, by show I64 G.1; rw [← hgG]; exact hI⟩, fun w' ha => ⟨?_, ?_⟩⟩
 · rwa [List.set_set] at h9
 · have := (hpx6.2 w' ha).1
   rw [hp1] at this
   rw [hp1, hp2]; exact this
 · have h8 := hpX w' fun k k1 k2 => by
     rw [ha k k1 (by rw [hW6]; simpa [World.setCell] using k2), hW6]
     exact Below.heap_setCell _ _ _ _ fun e => k1 (.inr (by simp only at e; rw [e]; rfl))
   rw [hp2]; exact h8)
 have hbx7 : Box W7 w3.heap.size 24 #[.slice (some ⟨g5, 0, none⟩) n c5, .int .i64 nx] := by rw [hW7, hW6]; exact (HR5.out.2.1.other (by have := HG5.out; omega)).other (by have := HG5.out; omega)
 have HR7 : Hid (RX X W2.heap.size W7 (.slice (some ⟨g5, 0, none⟩) n c5) (ch s.1 q.1 (wF G)) ∧ Below W.heap.size W W7) := by (
 refine ⟨hR7, ?_⟩
 have h1 := HG5.out
 have h2 := HB2.out.2.2.2.2.2
 rw [hW7, hW6]
 exact (HR5.out.2.2.1.setCell (p := ⟨g5, at' * 6 + 4, none⟩) (by simp only; omega) _).setCell (p := ⟨g5, at' * 6 + 5, none⟩) (by simp only; omega) _)
 have hc4 := hc5.2.2.2.2.1
 have hc5' := hc5.2.2.2.2.2
 have hf4 := hf5 (at' * 6 + 4)
 have hf5' := hf5 (at' * 6 + 5)
 have hfb := HB2.out.2.1.below HR5.out.2.2.2.2.2 HB2.out.2.1.lt
 obtain ⟨z0, z1, -, -⟩ := hfb.two
 obtain ⟨t0, t1, -, -⟩ := HR5.out.2.1.two
 obtain ⟨u0, u1, -, -⟩ := hbx7.two
 obtain ⟨-, -, d0, d1, e0, e1⟩ := HSB.out W7 HR7.out.2
 rw [hW7, hW6] at u0 u1 d0 d1 e0 e1
 rw [hW5] at hc4 hc5' hf4 hf5' z0 z1 t0 t1 u0 u1 d0 d1 e0 e1
 have HTY : Hid (T 0 (ch s.1 q.1 (wF G), nx)) := by
   rw [HT.out, HN.out.2.1]
   exact yes_told HQ.out.2.2.1 HQ.out.2.2.2.1 HQ.out.2.2.2.2
 have HLN : Hid (n = (ch s.1 q.1 (wF G)).length) := show n = (ch s.1 q.1 (wF G)).length by rw [ch_length]; exact HN.out.1
 clear hor3 hb3 hX hbW5 hbg5 hgs5 hpx5 hall5 hc5 hf5 hst5 hpX hp1 hp2 hI hgG hR6 hlt6 hv6 hgg hpx6 hall6 hc6 hf6 hst6 hR7 hbx7 hfb HC3
 go_wp2
 rw [← hW5, ← hW6, ← hW7] at *
 refine bodyPost_ret (v := .tuple #[.agg #[.slice (some ⟨g5, 0, none⟩) n c5, .int .i64 nx], .int .i64 dl, .int .i64 0]) (by clear hW5 hW6 hW7; simp [results, Tryz.results13, go_sem, *]) rfl (HYes.out _ _ _ _ _ _ HLN.out HTY.out ?_ (below_set2 (HBW.out _ HR7.out.2) (by omega) _ _))
 have h1 := HB2.out.2.2.2.2.2
 have h2 := HW.out
 have h3 := HG5.out
 have hR : X (w.heap.size + 1) := (HX.out _).2 (.inl ⟨by omega, by omega⟩)
 have hn2 : (Value.slice (some ⟨g5, 0, none⟩) n c5).ownBlock ≠ some (w.heap.size + 1) := by simp [Value.ownBlock]; omega
 exact ((HR7.out.1.set hR hn2 _ _).set hR hn2 _ _).or (fun k k1 k2 => (HX.out k).2 (.inl ⟨k1, by omega⟩)) (by omega)
end Go.Proofs.YtopcefhncildnaaGreatDoor
