/-
  The document's moved: an entry of a directory to another one, in the place of what is there.
  The document's Rename: what another name makes of every state.
  The document's Rename, with a letter for the length.
-/
import Derived.Test.YtkcnephbaffmbaaGreatDoorH48
set_option maxRecDepth 100000
set_option maxHeartbeats 16000000
namespace Go.Proofs.YtkcnephbaffmbaaGreatDoor
open Go.RowKit
open D (En EOk ArgE OwnE Chk there fnd rerr rval del ins aerr aval)
theorem RX.ents {X : Nat → Prop} {base : Nat} {w : World} {v : Value} {l : List Nd} (h : RX X base w v l) (hXs : ∀ k, X k → k < w.heap.size) (i : Nat) (p : Nd) (hp : l[i]? = some p) :
   ∃ g cap ea ec, v = .slice (some ⟨g, 0, none⟩) l.length cap ∧ base ≤ g ∧ g < w.heap.size ∧ (∀ W, (Instr.indexAt 22 v (.int .i64 i)).run Tryz.prog W = .ok (.pointer (some ⟨g, i * 6, none⟩)) W) ∧
     ∀ V, Below w.heap.size w V → V.cell? ⟨g, i * 6 + 3, none⟩ = some (.slice ea (en p).length ec) ∧ V.frozen? ⟨g, i * 6 + 3, none⟩ = false ∧ ArgE 0 V (.slice ea (en p).length ec) (en p) ∧
       ∀ u es, ArgE w.heap.size V u es → RX X base (V.setCell ⟨g, i * 6 + 3, none⟩ u) v (l.set i (wE es p)) := by
 obtain ⟨g, cap, ea, ec, fa, fc, hv, h1, h2, h3, hpx, hall⟩ := h.at i p hp
 refine ⟨g, cap, ea, ec, hv, h1, h2, h3, fun V hV => ⟨(hall V hV).1.2.2.2.1, (hall V hV).2.1 _, hpx.lr.1.below hV, fun u es hu => ?_⟩⟩
 refine (hall V hV).2.2 3 u (wE es p) u (.slice fa (fi p).2.length fc) (by omega) rfl ⟨hpx.1, fun w' ha => ⟨?_, ?_⟩⟩
 · refine ens_px hu (fun k hk => ?_) ha
   rcases hk with hk | hk
   · exact .inl (hXs k hk)
   · exact .inl (h.lt k hk).2
 · exact (hpx.2 w' fun k k1 k2 => by rw [ha k k1 (by have := hV.size; omega)]; exact hV.block k k2).2
theorem rmoved_core (X : Nat → Prop) (base : Nat) (v : Value) (L0 L1 L2 L3 : List Nd) (nx xi yi ti : Int) (x y : ByteArray) (q p r : Nd) (a k b : Nat) (w : World)
   (ha : L0[a]? = some q) (hpa : plc L0 yi = (a : Int)) (hca : Chk (en q)) (hk : L1[k]? = some p) (hpk : plc L1 xi = (k : Int)) (hck : Chk (en p)) (hmx : (x, ti) ∈ en p) (h2 : L1.set k (wE (del (en p) x) p) = L2)
   (hb : L2[b]? = some r) (hpb : plc L2 yi = (b : Int)) (hae : aerr (en r) (y, ti) = 0) (h3 : L2.set b (wE (ins (en r) (y, ti)) r) = L3) (hE : EOk (y, ti))
   (hway : (there (en q) y = false ∧ L1 = L0) ∨ (there (en q) y = true ∧ ∀ (X1 : Nat → Prop) w1 v1, RX X1 base w1 v1 L0 → base ≤ w1.heap.size → (∀ k, X1 k → k < w1.heap.size) →
     Calls Tryz.prog 111 #[.agg #[v1, .int .i64 nx], .int .i64 a, .string y] w1 fun e w' => (∃ v', e = .returned (.agg #[v', .int .i64 nx]) ∧ RX X1 base w' v' L1 ∧ ∀ j, v'.ownBlock = some j → v1.ownBlock = some j ∨ w1.heap.size ≤ j) ∧ Below base w1 w' ∧ AgX (fun k => v1.ownBlock = some k) w1 w'))
   (hR : RX X base w v L0) (hbs : base ≤ w.heap.size) (hXs : ∀ k, X k → k < w.heap.size) :
   Calls Tryz.prog 77 #[.agg #[v, .int .i64 nx], .int .i64 xi, .string x, .int .i64 yi, .string y] w fun e w' => (∃ v', e = .returned (.agg #[v', .int .i64 nx]) ∧ RX X base w' v' L3) ∧ Below base w w' := by
 obtain ⟨post, hpost⟩ : ∃ post : Ending → World → Prop, post = fun e w' => (∃ v', e = .returned (.agg #[v', .int .i64 nx]) ∧ RX X base w' v' L3) ∧ Below base w w' := ⟨_, rfl⟩
 have HPo : Hid (∀ v' w', RX X base w' v' L3 → Below base w w' → post (.returned (.agg #[v', .int .i64 nx])) w') := fun v' w' h1 h2 => by rw [hpost]; exact ⟨⟨v', rfl, h1⟩, h2⟩
 rw [← hpost]
 clear hpost
 have HPK : Hid (plc L0 yi = (a : Int) ∧ plc L1 xi = (k : Int) ∧ plc L2 yi = (b : Int)) := ⟨hpa, hpk, hpb⟩
 have HAT : Hid (L0[a]? = some q ∧ L1[k]? = some p ∧ L2[b]? = some r) := ⟨ha, hk, hb⟩
 have HCK : Hid (Chk (en q) ∧ Chk (en p) ∧ (x, ti) ∈ en p ∧ aerr (en r) (y, ti) = 0 ∧ EOk (y, ti)) := ⟨hca, hck, hmx, hae, hE⟩
 have HSE : Hid (L1.set k (wE (del (en p) x) p) = L2 ∧ L2.set b (wE (ins (en r) (y, ti)) r) = L3) := ⟨h2, h3⟩
 have HWY : Hid _ := hway
 obtain ⟨X1, hX1⟩ : ∃ X1 : Nat → Prop, X1 = fun k => X k ∨ w.heap.size ≤ k ∧ k < w.heap.size + 2 := ⟨_, rfl⟩
 have HX : Hid ((∀ k, X1 k ↔ X k ∨ w.heap.size ≤ k ∧ k < w.heap.size + 2) ∧ (∀ k, X k → k < w.heap.size) ∧ base ≤ w.heap.size) := ⟨fun k => by rw [hX1], hXs, hbs⟩
 have hXl : ∀ V : World, w.heap.size + 2 ≤ V.heap.size → ∀ k, X1 k → k < V.heap.size := fun V hV k hk => by (
 rcases (HX.out.1 k).1 hk with h | h
 · have := hXs k h; omega
 · omega)
 have HXL : Hid (∀ V : World, w.heap.size + 2 ≤ V.heap.size → ∀ k, X1 k → k < V.heap.size) := hXl
 obtain ⟨W, hW⟩ := exa ((w.alloc (.cells #[v, .int .i64 nx] 24)).alloc (.cells #[.slice none 0 0, .int .i64 0] 24))
 have hbW : Below w.heap.size w W := by rw [hW]; exact ((Below.refl _ w).alloc (Nat.le_refl _) _).alloc (by simp) _
 have hWs : W.heap.size = w.heap.size + 2 := by rw [hW]; simp
 have hB1 : Box W w.heap.size 24 #[v, .int .i64 nx] := by rw [hW]; exact (Box.new _ _ _).alloc _
 have hB2 : Box W (w.heap.size + 1) 24 #[.slice none 0 0, .int .i64 0] := by (
 rw [hW]
 have := Box.new (w.alloc (.cells #[v, .int .i64 nx] 24)) 24 #[.slice none 0 0, .int .i64 0]
 rwa [World.size_alloc] at this)
 have hR1 : RX X1 base W v L0 := hR.more hbW fun k hk => ((HX.out.1 k).1 hk).imp id fun h => h.1
 have hvl := hR.lt
 obtain ⟨g, vc, ea, ec, hv, hbg, hgs, hix, hall⟩ := hR1.ents (hXl W (by omega)) a q ha
 obtain ⟨n0, hn0⟩ := exa (L0.length)
 have han : (a : Int) < (n0 : Int) := by have := (List.getElem?_eq_some_iff.1 ha).1; omega
 rw [← hn0] at hv
 subst hv
 have HS : Hid (RX X1 base W (.slice (some ⟨g, 0, none⟩) n0 vc) L0 ∧ Below base w W ∧ W.heap.size = w.heap.size + 2 ∧ g < w.heap.size ∧ n0 = L0.length ∧ Box W w.heap.size 24 #[.slice (some ⟨g, 0, none⟩) n0 vc, .int .i64 nx] ∧ Box W (w.heap.size + 1) 24 #[.slice none 0 0, .int .i64 0]) := ⟨hR1, hbW.mono hbs, hWs, (hvl g rfl).2, hn0, hB1, hB2⟩
 obtain ⟨el, hel⟩ := exa ((en q).length)
 rw [← hel] at hall
 have HAL : Hid (∀ V, Below W.heap.size W V → V.cell? ⟨g, a * 6 + 3, none⟩ = some (.slice ea el ec) ∧ ArgE 0 V (.slice ea el ec) (en q)) := fun V hV => ⟨(hall V hV).1, (hall V hV).2.2.1⟩
 have HC1 := rplace_any 0 (some ⟨g, 0, none⟩) vc L0 nx yi W (by rw [← hn0]; exact hR1.lies)
 rw [← hn0, hpa] at HC1
 obtain ⟨g0, g1, -, -⟩ := hB1.two
 rw [hW] at g0 g1
 clear ha hpa hca hk hpk hck hmx h2 hb hpb hae h3 hE hway hR hbs hXs hX1 hXl hbW hWs hB1 hB2 hR1 hvl hbg hgs hall hn0 hel
 go_enter Tryz.func77, Tryz.ntmps77
 go_wp2_with fail
 rw [← hW]
 clear hW g0 g1
 refine HC1.mono ?_
 rintro e w1 ⟨rfl, hb1⟩
 have HB1 : Hid (Below W.heap.size W w1) := hb1
 clear hb1 HC1
 obtain ⟨g0, g1, -, -⟩ := (HS.out.2.2.2.2.2.1.below HB1.out HS.out.2.2.2.2.2.1.lt).two
 obtain ⟨c3, harg⟩ := HAL.out w1 HB1.out
 have HC2 := rfind_b y harg HCK.out.1
 clear harg
 obtain ⟨fy, hfy⟩ := exa (fnd (en q) y)
 obtain ⟨ty, hty⟩ := exa (there (en q) y)
 rw [← hfy, ← hty] at HC2
 have HTY : Hid (ty = there (en q) y) := hty
 clear hfy hty
 go_wp2_with fail
 refine HC2.mono ?_
 rintro e w2 ⟨rfl, hb2⟩
 have HB2 : Hid (Below W.heap.size W w2) := below_any HB1.out hb2
 clear hb2 HC2 g0 g1 c3 hix
 cases ty
 case false => (
 have hL : L1 = L0 := by (
 rcases HWY.out with h | h
 · exact h.2
 · have := HTY.out; rw [h.1] at this; cases this)
 subst hL
 obtain ⟨vt, ht⟩ := exa (Value.slice (some ⟨g, 0, none⟩) n0 vc)
 have HT : Hid (RX X1 base w2 vt L1 ∧ Below base w w2 ∧ w.heap.size + 2 ≤ w2.heap.size ∧ (∀ j, vt.ownBlock = some j → j ≠ w.heap.size ∧ j ≠ w.heap.size + 1) ∧ Box w2 w.heap.size 24 #[vt, .int .i64 nx] ∧ Box w2 (w.heap.size + 1) 24 #[.slice none 0 0, .int .i64 0]) := by (
 have h9 := HS.out
 rw [ht]
 refine ⟨h9.1.below HB2.out, h9.2.1.trans (HB2.out.mono (by have := HX.out.2.2; omega)), by have := HB2.out.size; omega, fun j hj => ?_, h9.2.2.2.2.2.1.below HB2.out h9.2.2.2.2.2.1.lt, h9.2.2.2.2.2.2.below HB2.out h9.2.2.2.2.2.2.lt⟩
 have : g = j := by simpa [Value.ownBlock] using hj
 omega)
 clear ht HAL HS HB1 HB2 HTY HWY
 obtain ⟨gn, ct, ea4, ec4, hv4, hbg4, hgs4, hix4, hall4⟩ := HT.out.1.ents (HXL.out _ HT.out.2.2.1) k p HAT.out.2.1
 obtain ⟨n1, hn1⟩ := exa (L1.length)
 rw [← hn1] at hv4
 subst hv4
 have hkn : (k : Int) < (n1 : Int) := by have := (List.getElem?_eq_some_iff.1 HAT.out.2.1).1; omega
 obtain ⟨el4, hel4⟩ := exa ((en p).length)
 rw [← hel4] at hall4
 have HN4 : Hid (n1 = L1.length ∧ base ≤ gn ∧ gn < w2.heap.size ∧ gn ≠ w.heap.size ∧ gn ≠ w.heap.size + 1) := ⟨hn1, hbg4, hgs4, HT.out.2.2.2.1 gn rfl⟩
 have HA4 : Hid (∀ V, Below w2.heap.size w2 V → V.cell? ⟨gn, k * 6 + 3, none⟩ = some (.slice ea4 el4 ec4) ∧ V.frozen? ⟨gn, k * 6 + 3, none⟩ = false ∧ ArgE 0 V (.slice ea4 el4 ec4) (en p) ∧ ∀ u es, ArgE w2.heap.size V u es → RX X1 base (V.setCell ⟨gn, k * 6 + 3, none⟩ u) (.slice (some ⟨gn, 0, none⟩) n1 ct) (L1.set k (wE es p))) := hall4
 have HC5 := rplace_any 0 (some ⟨gn, 0, none⟩) ct L1 nx xi w2 (by rw [← hn1]; exact HT.out.1.lies)
 rw [← hn1, HPK.out.2.1] at HC5
 obtain ⟨t0, t1, -, -⟩ := HT.out.2.2.2.2.1.two
 clear hbg4 hgs4 hall4 hel4 hn1
 go_wp2_with fail
 clear t0 t1
 refine HC5.mono ?_
 rintro e w5 ⟨rfl, hb5⟩
 have HB5 : Hid (Below w2.heap.size w2 w5) := hb5
 clear hb5 HC5
 obtain ⟨t0, t1, -, -⟩ := (HT.out.2.2.2.2.1.below HB5.out HT.out.2.2.2.2.1.lt).two
 obtain ⟨c4, -, harg, -⟩ := HA4.out w5 HB5.out
 have HC6 := rfind_b x harg HCK.out.2.1
 rw [D.fnd_mem HCK.out.2.1 HCK.out.2.2.1, show there (en p) x = true from D.there_mem.2 ⟨_, HCK.out.2.2.1⟩] at HC6
 clear harg
 go_wp2_with fail
 refine HC6.mono ?_
 rintro e w6 ⟨rfl, hb6⟩
 have HB6 : Hid (Below w2.heap.size w2 w6) := below_any HB5.out hb6
 clear hb6 HC6 t0 t1 c4
 obtain ⟨t0, t1, -, -⟩ := (HT.out.2.2.2.2.1.below HB6.out HT.out.2.2.2.2.1.lt).two
 obtain ⟨c4, -, harg, -⟩ := HA4.out w6 HB6.out
 have HC7 := D.rremove_any 0 (.slice ea4 el4 ec4) (en p) x w6 harg
 have hre : rerr (en p) x = 0 := by unfold D.rerr; rw [if_pos HCK.out.2.1, if_pos (D.there_mem.2 ⟨_, HCK.out.2.2.1⟩)]
 rw [hre, show rval (en p) x = del (en p) x from if_pos hre] at HC7
 clear harg hre
 go_wp2_with fail
 refine HC7.mono ?_
 rintro e w7 ⟨⟨v7, rfl, hO7⟩, hb7⟩
 have HB7 : Hid (Below w2.heap.size w2 w7 ∧ ArgE w2.heap.size w7 v7 (del (en p) x)) := ⟨below_any HB6.out hb7, hO7.arg.weaken HB6.out.size⟩
 clear hO7 hb7 HC7 t0 t1 c4
 obtain ⟨va7, vc7, rfl, -⟩ := HB7.out.2.shape
 obtain ⟨m7, hm7⟩ := exa ((del (en p) x).length)
 rw [← hm7] at HB7 ⊢
 clear hm7
 obtain ⟨t0, t1, -, -⟩ := (HT.out.2.2.2.2.1.below HB7.out.1 HT.out.2.2.2.2.1.lt).two
 obtain ⟨c4, f4, -, -⟩ := HA4.out w7 HB7.out.1
 obtain ⟨W8, hW8⟩ := exa (w7.setCell ⟨gn, k * 6 + 3, none⟩ (.slice va7 m7 vc7))
 have HT8 : Hid (RX X1 base W8 (.slice (some ⟨gn, 0, none⟩) n1 ct) L2 ∧ Below base w W8 ∧ w.heap.size + 2 ≤ W8.heap.size ∧ Box W8 w.heap.size 24 #[.slice (some ⟨gn, 0, none⟩) n1 ct, .int .i64 nx] ∧ Box W8 (w.heap.size + 1) 24 #[.slice none 0 0, .int .i64 0]) := by (
 have h9 := HN4.out
 have h8 := HT.out
 rw [hW8, ← HSE.out.1]
 refine ⟨(HA4.out w7 HB7.out.1).2.2.2 _ _ HB7.out.2, ?_, by have := HB7.out.1.size; simp [World.setCell]; omega, (h8.2.2.2.2.1.below HB7.out.1 h8.2.2.2.2.1.lt).other (by omega), (h8.2.2.2.2.2.below HB7.out.1 h8.2.2.2.2.2.lt).other (by omega)⟩
 exact (h8.2.1.trans (HB7.out.1.mono (by have := HX.out.2.2; omega))).setCell (p := ⟨gn, k * 6 + 3, none⟩) h9.2.1 _)
 have hn2 : L2.length = n1 := by rw [← HSE.out.1, List.length_set]; exact HN4.out.1.symm
 obtain ⟨gn', ct', ea9, ec9, hv9, -, hgs9, hix9, hall9⟩ := HT8.out.1.ents (HXL.out _ HT8.out.2.2.1) b r HAT.out.2.2
 obtain ⟨hgg, -, -⟩ : (⟨gn, 0, none⟩ : Addr) = ⟨gn', 0, none⟩ ∧ n1 = L2.length ∧ ct = ct' := by simpa using hv9
 obtain rfl : gn = gn' := by simpa using hgg
 have hbn : (b : Int) < (n1 : Int) := by have := (List.getElem?_eq_some_iff.1 HAT.out.2.2).1; omega
 obtain ⟨el9, hel9⟩ := exa ((en r).length)
 rw [← hel9] at hall9
 have HA9 : Hid (∀ V, Below W8.heap.size W8 V → V.cell? ⟨gn, b * 6 + 3, none⟩ = some (.slice ea9 el9 ec9) ∧ V.frozen? ⟨gn, b * 6 + 3, none⟩ = false ∧ ArgE 0 V (.slice ea9 el9 ec9) (en r) ∧ ∀ u es, ArgE W8.heap.size V u es → RX X1 base (V.setCell ⟨gn, b * 6 + 3, none⟩ u) (.slice (some ⟨gn, 0, none⟩) n1 ct) (L2.set b (wE es r))) := hall9
 have HC9 := rplace_any 0 (some ⟨gn, 0, none⟩) ct L2 nx yi W8 (by rw [hn2]; exact HT8.out.1.lies)
 rw [hn2, HPK.out.2.2] at HC9
 obtain ⟨s0, s1, -, -⟩ := HT8.out.2.2.2.1.two
 rw [hW8] at s0 s1
 clear hgs9 hall9 hel9 hn2 hv9 hgg
 go_wp2_with fail
 rw [← hW8]
 clear hW8 t0 t1 c4 f4 s0 s1 hix4
 refine HC9.mono ?_
 rintro e w9 ⟨rfl, hb9⟩
 have HB9 : Hid (Below W8.heap.size W8 w9) := hb9
 clear hb9 HC9
 obtain ⟨t0, t1, -, -⟩ := (HT8.out.2.2.2.1.below HB9.out HT8.out.2.2.2.1.lt).two
 obtain ⟨c4, -, harg, -⟩ := HA9.out w9 HB9.out
 have HC10 := D.radd_any 0 (.slice ea9 el9 ec9) (en r) (y, ti) w9 harg HCK.out.2.2.2.2
 rw [HCK.out.2.2.2.1, show aval (en r) (y, ti) = ins (en r) (y, ti) from if_pos HCK.out.2.2.2.1] at HC10
 clear harg
 go_wp2_with fail
 refine HC10.mono ?_
 rintro e w10 ⟨⟨v10, rfl, hO10⟩, hb10⟩
 have HB10 : Hid (Below W8.heap.size W8 w10 ∧ ArgE W8.heap.size w10 v10 (ins (en r) (y, ti))) := ⟨below_any HB9.out hb10, hO10.arg.weaken HB9.out.size⟩
 clear hO10 hb10 HC10 t0 t1 c4
 obtain ⟨va10, vc10, rfl, -⟩ := HB10.out.2.shape
 obtain ⟨m10, hm10⟩ := exa ((ins (en r) (y, ti)).length)
 rw [← hm10] at HB10 ⊢
 clear hm10
 obtain ⟨t0, t1, -, -⟩ := (HT8.out.2.2.2.1.below HB10.out.1 HT8.out.2.2.2.1.lt).two
 obtain ⟨c4, f4, -, -⟩ := HA9.out w10 HB10.out.1
 obtain ⟨W11, hW11⟩ := exa (w10.setCell ⟨gn, b * 6 + 3, none⟩ (.slice va10 m10 vc10))
 have HT11 : Hid (RX X1 base W11 (.slice (some ⟨gn, 0, none⟩) n1 ct) L3 ∧ Below base w W11 ∧ Box W11 w.heap.size 24 #[.slice (some ⟨gn, 0, none⟩) n1 ct, .int .i64 nx] ∧ Box W11 (w.heap.size + 1) 24 #[.slice none 0 0, .int .i64 0]) := by (
 have h9 := HN4.out
 have h8 := HT8.out
 rw [hW11, ← HSE.out.2]
 refine ⟨(HA9.out w10 HB10.out.1).2.2.2 _ _ HB10.out.2, ?_, (h8.2.2.2.1.below HB10.out.1 h8.2.2.2.1.lt).other (by omega), (h8.2.2.2.2.below HB10.out.1 h8.2.2.2.2.lt).other (by omega)⟩
 exact (h8.2.1.trans (HB10.out.1.mono (by have := HX.out.2.2; omega))).setCell (p := ⟨gn, b * 6 + 3, none⟩) h9.2.1 _)
 obtain ⟨b0, b1, -, -⟩ := HT11.out.2.2.1.two
 obtain ⟨r0, r1, r2, r3⟩ := HT11.out.2.2.2.two
 rw [hW11] at b0 b1 r0 r1 r2 r3
 go_wp2
 rw [← hW11] at b0 b1 r0 r1 r2 r3 ⊢
 clear hW11 t0 t1 c4 f4
 refine bodyPost_ret (v := .agg #[.slice (some ⟨gn, 0, none⟩) n1 ct, .int .i64 nx]) (by simp [results, Tryz.results77, go_sem, *]) rfl (HPo.out _ _ ?_ ?_)
 · have h9 := HN4.out
   have hR6 : X1 (w.heap.size + 1) := (HX.out.1 _).2 (.inr ⟨by omega, by omega⟩)
   have hn6 : (Value.slice (some ⟨gn, 0, none⟩) n1 ct).ownBlock ≠ some (w.heap.size + 1) := by simp [Value.ownBlock]; omega
   exact ((HT11.out.1.set hR6 hn6 _ _).set hR6 hn6 _ _).more (Below.refl _ _) fun k hk => .inl ((HX.out.1 k).2 (.inl hk))
 · exact below_set2 HT11.out.2.1 (by have := HX.out.2.2; omega) _ _)
 case true => (
 have hG : ∀ (X1 : Nat → Prop) w1 v1, RX X1 base w1 v1 L0 → base ≤ w1.heap.size → (∀ k, X1 k → k < w1.heap.size) → Calls Tryz.prog 111 #[.agg #[v1, .int .i64 nx], .int .i64 a, .string y] w1 fun e w' => (∃ v', e = .returned (.agg #[v', .int .i64 nx]) ∧ RX X1 base w' v' L1 ∧ ∀ j, v'.ownBlock = some j → v1.ownBlock = some j ∨ w1.heap.size ≤ j) ∧ Below base w1 w' ∧ AgX (fun k => v1.ownBlock = some k) w1 w' := by (
 rcases HWY.out with h | h
 · have := HTY.out; rw [h.1] at this; cases this
 · exact h.2)
 have HC4 := hG X1 w2 (.slice (some ⟨g, 0, none⟩) n0 vc) (HS.out.1.below HB2.out) (by have := HB2.out.size; have := HS.out.2.2.1; have := HX.out.2.2; omega) (HXL.out w2 (by have := HB2.out.size; have := HS.out.2.2.1; omega))
 obtain ⟨g0, g1, f0, f1⟩ := (HS.out.2.2.2.2.2.1.below HB2.out HS.out.2.2.2.2.2.1.lt).two
 clear hG HWY HTY
 go_wp2_with fail
 refine HC4.mono ?_
 rintro e w3 ⟨⟨vt, rfl, hR3, hown⟩, hb3, hag⟩
 clear g0 g1 f0 f1 HC4
 have hsz : w2.heap.size ≤ w3.heap.size := hb3.size
 have hbx : Box w3 w.heap.size 24 #[.slice (some ⟨g, 0, none⟩) n0 vc, .int .i64 nx] := (HS.out.2.2.2.2.2.1.below HB2.out HS.out.2.2.2.2.2.1.lt).kept (hag _ (by have := HS.out.2.2.2.1; simp [Value.ownBlock]; omega) (by have := HB2.out.size; have := HS.out.2.2.1; omega))
 have hbr : Box w3 (w.heap.size + 1) 24 #[.slice none 0 0, .int .i64 0] := (HS.out.2.2.2.2.2.2.below HB2.out HS.out.2.2.2.2.2.2.lt).kept (hag _ (by have := HS.out.2.2.2.1; simp [Value.ownBlock]; omega) (by have := HB2.out.size; have := HS.out.2.2.1; omega))
 obtain ⟨U, hU⟩ := exa ((w3.setCell ⟨w.heap.size, 0, none⟩ vt).setCell ⟨w.heap.size, 1, none⟩ (.int .i64 nx))
 have HT : Hid (RX X1 base U vt L1 ∧ Below base w U ∧ w.heap.size + 2 ≤ U.heap.size ∧ (∀ j, vt.ownBlock = some j → j ≠ w.heap.size ∧ j ≠ w.heap.size + 1) ∧ Box U w.heap.size 24 #[vt, .int .i64 nx] ∧ Box U (w.heap.size + 1) 24 #[.slice none 0 0, .int .i64 0]) := by (
 have h9 := HS.out
 have h8 := HB2.out.size
 have hno : ∀ j, vt.ownBlock = some j → j ≠ w.heap.size ∧ j ≠ w.heap.size + 1 := fun j hj => by (
 rcases hown j hj with h | h
 · have : g = j := by simpa [Value.ownBlock] using h
   omega
 · omega)
 have hx : X1 w.heap.size := (HX.out.1 _).2 (.inr ⟨by omega, by omega⟩)
 rw [hU]
 refine ⟨(hR3.set hx (fun e => (hno _ e).1 rfl) _ _).set hx (fun e => (hno _ e).1 rfl) _ _, below_set2 ((h9.2.1.trans (HB2.out.mono (by have := HX.out.2.2; omega))).trans hb3) HX.out.2.2 _ _, by simp [World.setCell]; omega, hno, (hbx.set 0 vt).set 1 (.int .i64 nx), (hbr.other (by omega)).other (by omega)⟩)
 obtain ⟨g0, g1, f0, f1⟩ := hbx.two
 clear hR3 hown hb3 hag hsz hbr HAL HB1 hbx
 obtain ⟨gn, ct, ea4, ec4, hv4, hbg4, hgs4, hix4, hall4⟩ := HT.out.1.ents (HXL.out _ HT.out.2.2.1) k p HAT.out.2.1
 obtain ⟨n1, hn1⟩ := exa (L1.length)
 rw [← hn1] at hv4
 subst hv4
 have hkn : (k : Int) < (n1 : Int) := by have := (List.getElem?_eq_some_iff.1 HAT.out.2.1).1; omega
 obtain ⟨el4, hel4⟩ := exa ((en p).length)
 rw [← hel4] at hall4
 have HN4 : Hid (n1 = L1.length ∧ base ≤ gn ∧ gn < U.heap.size ∧ gn ≠ w.heap.size ∧ gn ≠ w.heap.size + 1) := ⟨hn1, hbg4, hgs4, HT.out.2.2.2.1 gn rfl⟩
 have HA4 : Hid (∀ V, Below U.heap.size U V → V.cell? ⟨gn, k * 6 + 3, none⟩ = some (.slice ea4 el4 ec4) ∧ V.frozen? ⟨gn, k * 6 + 3, none⟩ = false ∧ ArgE 0 V (.slice ea4 el4 ec4) (en p) ∧ ∀ u es, ArgE U.heap.size V u es → RX X1 base (V.setCell ⟨gn, k * 6 + 3, none⟩ u) (.slice (some ⟨gn, 0, none⟩) n1 ct) (L1.set k (wE es p))) := hall4
 have HC5 := rplace_any 0 (some ⟨gn, 0, none⟩) ct L1 nx xi U (by rw [← hn1]; exact HT.out.1.lies)
 rw [← hn1, HPK.out.2.1] at HC5
 obtain ⟨t0, t1, -, -⟩ := HT.out.2.2.2.2.1.two
 rw [hU] at t0 t1
 clear hbg4 hgs4 hall4 hel4 hn1
 go_wp2_with fail
 rw [← hU]
 clear hU g0 g1 f0 f1
 clear t0 t1
 refine HC5.mono ?_
 rintro e w5 ⟨rfl, hb5⟩
 have HB5 : Hid (Below U.heap.size U w5) := hb5
 clear hb5 HC5
 obtain ⟨t0, t1, -, -⟩ := (HT.out.2.2.2.2.1.below HB5.out HT.out.2.2.2.2.1.lt).two
 obtain ⟨c4, -, harg, -⟩ := HA4.out w5 HB5.out
 have HC6 := rfind_b x harg HCK.out.2.1
 rw [D.fnd_mem HCK.out.2.1 HCK.out.2.2.1, show there (en p) x = true from D.there_mem.2 ⟨_, HCK.out.2.2.1⟩] at HC6
 clear harg
 go_wp2_with fail
 refine HC6.mono ?_
 rintro e w6 ⟨rfl, hb6⟩
 have HB6 : Hid (Below U.heap.size U w6) := below_any HB5.out hb6
 clear hb6 HC6 t0 t1 c4
 obtain ⟨t0, t1, -, -⟩ := (HT.out.2.2.2.2.1.below HB6.out HT.out.2.2.2.2.1.lt).two
 obtain ⟨c4, -, harg, -⟩ := HA4.out w6 HB6.out
 have HC7 := D.rremove_any 0 (.slice ea4 el4 ec4) (en p) x w6 harg
 have hre : rerr (en p) x = 0 := by unfold D.rerr; rw [if_pos HCK.out.2.1, if_pos (D.there_mem.2 ⟨_, HCK.out.2.2.1⟩)]
 rw [hre, show rval (en p) x = del (en p) x from if_pos hre] at HC7
 clear harg hre
 go_wp2_with fail
 refine HC7.mono ?_
 rintro e w7 ⟨⟨v7, rfl, hO7⟩, hb7⟩
 have HB7 : Hid (Below U.heap.size U w7 ∧ ArgE U.heap.size w7 v7 (del (en p) x)) := ⟨below_any HB6.out hb7, hO7.arg.weaken HB6.out.size⟩
 clear hO7 hb7 HC7 t0 t1 c4
 obtain ⟨va7, vc7, rfl, -⟩ := HB7.out.2.shape
 obtain ⟨m7, hm7⟩ := exa ((del (en p) x).length)
 rw [← hm7] at HB7 ⊢
 clear hm7
 obtain ⟨t0, t1, -, -⟩ := (HT.out.2.2.2.2.1.below HB7.out.1 HT.out.2.2.2.2.1.lt).two
 obtain ⟨c4, f4, -, -⟩ := HA4.out w7 HB7.out.1
 obtain ⟨W8, hW8⟩ := exa (w7.setCell ⟨gn, k * 6 + 3, none⟩ (.slice va7 m7 vc7))
 have HT8 : Hid (RX X1 base W8 (.slice (some ⟨gn, 0, none⟩) n1 ct) L2 ∧ Below base w W8 ∧ w.heap.size + 2 ≤ W8.heap.size ∧ Box W8 w.heap.size 24 #[.slice (some ⟨gn, 0, none⟩) n1 ct, .int .i64 nx] ∧ Box W8 (w.heap.size + 1) 24 #[.slice none 0 0, .int .i64 0]) := by (
 have h9 := HN4.out
 have h8 := HT.out
 rw [hW8, ← HSE.out.1]
 refine ⟨(HA4.out w7 HB7.out.1).2.2.2 _ _ HB7.out.2, ?_, by have := HB7.out.1.size; simp [World.setCell]; omega, (h8.2.2.2.2.1.below HB7.out.1 h8.2.2.2.2.1.lt).other (by omega), (h8.2.2.2.2.2.below HB7.out.1 h8.2.2.2.2.2.lt).other (by omega)⟩
 exact (h8.2.1.trans (HB7.out.1.mono (by have := HX.out.2.2; omega))).setCell (p := ⟨gn, k * 6 + 3, none⟩) h9.2.1 _)
 have hn2 : L2.length = n1 := by rw [← HSE.out.1, List.length_set]; exact HN4.out.1.symm
 obtain ⟨gn', ct', ea9, ec9, hv9, -, hgs9, hix9, hall9⟩ := HT8.out.1.ents (HXL.out _ HT8.out.2.2.1) b r HAT.out.2.2
 obtain ⟨hgg, -, -⟩ : (⟨gn, 0, none⟩ : Addr) = ⟨gn', 0, none⟩ ∧ n1 = L2.length ∧ ct = ct' := by simpa using hv9
 obtain rfl : gn = gn' := by simpa using hgg
 have hbn : (b : Int) < (n1 : Int) := by have := (List.getElem?_eq_some_iff.1 HAT.out.2.2).1; omega
 obtain ⟨el9, hel9⟩ := exa ((en r).length)
 rw [← hel9] at hall9
 have HA9 : Hid (∀ V, Below W8.heap.size W8 V → V.cell? ⟨gn, b * 6 + 3, none⟩ = some (.slice ea9 el9 ec9) ∧ V.frozen? ⟨gn, b * 6 + 3, none⟩ = false ∧ ArgE 0 V (.slice ea9 el9 ec9) (en r) ∧ ∀ u es, ArgE W8.heap.size V u es → RX X1 base (V.setCell ⟨gn, b * 6 + 3, none⟩ u) (.slice (some ⟨gn, 0, none⟩) n1 ct) (L2.set b (wE es r))) := hall9
 have HC9 := rplace_any 0 (some ⟨gn, 0, none⟩) ct L2 nx yi W8 (by rw [hn2]; exact HT8.out.1.lies)
 rw [hn2, HPK.out.2.2] at HC9
 obtain ⟨s0, s1, -, -⟩ := HT8.out.2.2.2.1.two
 rw [hW8] at s0 s1
 clear hgs9 hall9 hel9 hn2 hv9 hgg
 go_wp2_with fail
 rw [← hW8]
 clear hW8 t0 t1 c4 f4 s0 s1 hix4
 refine HC9.mono ?_
 rintro e w9 ⟨rfl, hb9⟩
 have HB9 : Hid (Below W8.heap.size W8 w9) := hb9
 clear hb9 HC9
 obtain ⟨t0, t1, -, -⟩ := (HT8.out.2.2.2.1.below HB9.out HT8.out.2.2.2.1.lt).two
 obtain ⟨c4, -, harg, -⟩ := HA9.out w9 HB9.out
 have HC10 := D.radd_any 0 (.slice ea9 el9 ec9) (en r) (y, ti) w9 harg HCK.out.2.2.2.2
 rw [HCK.out.2.2.2.1, show aval (en r) (y, ti) = ins (en r) (y, ti) from if_pos HCK.out.2.2.2.1] at HC10
 clear harg
 go_wp2_with fail
 refine HC10.mono ?_
 rintro e w10 ⟨⟨v10, rfl, hO10⟩, hb10⟩
 have HB10 : Hid (Below W8.heap.size W8 w10 ∧ ArgE W8.heap.size w10 v10 (ins (en r) (y, ti))) := ⟨below_any HB9.out hb10, hO10.arg.weaken HB9.out.size⟩
 clear hO10 hb10 HC10 t0 t1 c4
 obtain ⟨va10, vc10, rfl, -⟩ := HB10.out.2.shape
 obtain ⟨m10, hm10⟩ := exa ((ins (en r) (y, ti)).length)
 rw [← hm10] at HB10 ⊢
 clear hm10
 obtain ⟨t0, t1, -, -⟩ := (HT8.out.2.2.2.1.below HB10.out.1 HT8.out.2.2.2.1.lt).two
 obtain ⟨c4, f4, -, -⟩ := HA9.out w10 HB10.out.1
 obtain ⟨W11, hW11⟩ := exa (w10.setCell ⟨gn, b * 6 + 3, none⟩ (.slice va10 m10 vc10))
 have HT11 : Hid (RX X1 base W11 (.slice (some ⟨gn, 0, none⟩) n1 ct) L3 ∧ Below base w W11 ∧ Box W11 w.heap.size 24 #[.slice (some ⟨gn, 0, none⟩) n1 ct, .int .i64 nx] ∧ Box W11 (w.heap.size + 1) 24 #[.slice none 0 0, .int .i64 0]) := by (
 have h9 := HN4.out
 have h8 := HT8.out
 rw [hW11, ← HSE.out.2]
 refine ⟨(HA9.out w10 HB10.out.1).2.2.2 _ _ HB10.out.2, ?_, (h8.2.2.2.1.below HB10.out.1 h8.2.2.2.1.lt).other (by omega), (h8.2.2.2.2.below HB10.out.1 h8.2.2.2.2.lt).other (by omega)⟩
 exact (h8.2.1.trans (HB10.out.1.mono (by have := HX.out.2.2; omega))).setCell (p := ⟨gn, b * 6 + 3, none⟩) h9.2.1 _)
 obtain ⟨b0, b1, -, -⟩ := HT11.out.2.2.1.two
 obtain ⟨r0, r1, r2, r3⟩ := HT11.out.2.2.2.two
 rw [hW11] at b0 b1 r0 r1 r2 r3
 go_wp2
 rw [← hW11] at b0 b1 r0 r1 r2 r3 ⊢
 clear hW11 t0 t1 c4 f4
 refine bodyPost_ret (v := .agg #[.slice (some ⟨gn, 0, none⟩) n1 ct, .int .i64 nx]) (by simp [results, Tryz.results77, go_sem, *]) rfl (HPo.out _ _ ?_ ?_)
 · have h9 := HN4.out
   have hR6 : X1 (w.heap.size + 1) := (HX.out.1 _).2 (.inr ⟨by omega, by omega⟩)
   have hn6 : (Value.slice (some ⟨gn, 0, none⟩) n1 ct).ownBlock ≠ some (w.heap.size + 1) := by simp [Value.ownBlock]; omega
   exact ((HT11.out.1.set hR6 hn6 _ _).set hR6 hn6 _ _).more (Below.refl _ _) fun k hk => .inl ((HX.out.1 k).2 (.inl hk))
 · exact below_set2 HT11.out.2.1 (by have := HX.out.2.2; omega) _ _)
theorem rmoved_any (X : Nat → Prop) (base : Nat) (v : Value) {s : St} (h : Ok s) {xs ys : List ByteArray} (w : World) (hx0 : xs ≠ []) (hy0 : ys ≠ []) (hx : (wlk s.1 1 xs).2 = 0) (hs : stdE s.1 ys = 0) (hst : stdT s.1 ys ≠ (tgt s xs).1) (hcw : stdT s.1 ys ≠ 0 → cwE s xs ys = 0) (hae : aerr (en (gt (ren2 s xs ys) (stdI s.1 ys))) (lst ys, (tgt s xs).1) = 0) (hE : EOk (lst ys, (tgt s xs).1)) (hR : RX X base w v s.1) (hbs : base ≤ w.heap.size) (hXs : ∀ k, X k → k < w.heap.size) :
   Calls Tryz.prog 77 #[.agg #[v, .int .i64 s.2], .int .i64 (hold s xs).1, .string (lst xs), .int .i64 (hold s ys).1, .string (lst ys)] w fun e w' => (∃ v', e = .returned (.agg #[v', .int .i64 s.2]) ∧ RX X base w' v' (ren3 s xs ys)) ∧ Below base w w' := by
 obtain ⟨a, k, b, ha, hpa, hca, hk, hpk, hck, hmx, h2, hb, hpb, -, h3⟩ := move_parts h hx0 hy0 hx hs hst hcw
 refine rmoved_core X base v s.1 (ren1 s ys).1 (ren2 s xs ys) (ren3 s xs ys) s.2 _ _ (tgt s xs).1 _ _ _ _ _ a k b w ha hpa hca hk hpk hck hmx h2 hb hpb hae h3 hE ?_ hR hbs hXs
 rcases move_way h hy0 hs hcw with ⟨m1, m2⟩ | ⟨m1, m2, m3, m4⟩
 · exact .inl ⟨m1, by rw [m2]⟩
 · refine .inr ⟨m1, fun X1 w1 v1 hR1 hb1 hX1 => ?_⟩
   rw [m4]
   exact rgone_own X1 base v1 s.1 s.2 a (hold s ys) (tgt s ys) (lst ys) w1 h ha m2 m3 hR1 hb1 hX1
end Go.Proofs.YtkcnephbaffmbaaGreatDoor
namespace Go.Proofs.YtkcnephbaffmbaaGreatDoor
open Go.RowKit
open D (En EOk ArgE OwnE Chk there fnd aerr aval ins nameOk)
open P (ArgT OwnT serr sval werr wval)
theorem cwE_dir {s : St} (hO : Ok s) {xs ys : List ByteArray} (h2 : ys ≠ []) (h4 : stdE s.1 ys = 0) (h : stdT s.1 ys ≠ 0) (a : isD (tgt s ys) = true) (b : isD (tgt s xs) = false) : cwE s xs ys = 104 := by
 rw [(cwE_is hO h2 h4 h).2.2, if_pos ⟨a, b⟩]
theorem cwE_not {s : St} (hO : Ok s) {xs ys : List ByteArray} (h2 : ys ≠ []) (h4 : stdE s.1 ys = 0) (h : stdT s.1 ys ≠ 0) (a : isD (tgt s ys) = false) (b : isD (tgt s xs) = true) : cwE s xs ys = 103 := by
 rw [(cwE_is hO h2 h4 h).2.2, if_neg (by rw [a]; simp), if_pos ⟨a, b⟩]
theorem cwE_more {s : St} (hO : Ok s) {xs ys : List ByteArray} (h2 : ys ≠ []) (h4 : stdE s.1 ys = 0) (h : stdT s.1 ys ≠ 0) (a : isD (tgt s ys) = isD (tgt s xs)) (b : 0 < (en (tgt s ys)).length) : cwE s xs ys = 105 := by
 rw [(cwE_is hO h2 h4 h).2.2, if_neg (by rw [a]; cases isD (tgt s xs) <;> simp), if_neg (by rw [a]; cases isD (tgt s xs) <;> simp), if_pos b]
theorem cwE_none {s : St} (hO : Ok s) {xs ys : List ByteArray} (h2 : ys ≠ []) (h4 : stdE s.1 ys = 0) (h : stdT s.1 ys ≠ 0) (a : isD (tgt s ys) = isD (tgt s xs)) (b : (en (tgt s ys)).length = 0) : cwE s xs ys = 0 := by
 rw [(cwE_is hO h2 h4 h).2.2, if_neg (by rw [a]; cases isD (tgt s xs) <;> simp), if_neg (by rw [a]; cases isD (tgt s xs) <;> simp), if_neg (by omega)]
theorem rRename_tells (n0 : Nat) (w0 : World) (a : Option Addr) (c : Nat) (s : St) (p q : ByteArray) (w : World) (hb0 : Below w0.heap.size w0 w) (hA : ndsR.lies n0 w0 [.slice a s.1.length c] s.1) (hM : FitsS s.1) :
   Calls Tryz.prog 26 #[.agg #[.slice a s.1.length c, .int .i64 s.2], .string p, .string q] w (TellsR w0.heap.size (Told s [p, q] (renE s (sval p) (sval q)) (renS s (sval p) (sval q))) w) := by
 obtain ⟨T, hT⟩ : ∃ T : Int → St → Prop, T = Told s [p, q] (renE s (sval p) (sval q)) (renS s (sval p) (sval q)) := ⟨_, rfl⟩
 have HT : Hid (T = Told s [p, q] (renE s (sval p) (sval q)) (renS s (sval p) (sval q))) := hT
 rw [← hT]
 clear hT
 obtain ⟨post, hpost⟩ : ∃ post : Ending → World → Prop, post = TellsR w0.heap.size T w := ⟨_, rfl⟩
 have HNo : Hid (∀ k w', T k ([], 0) → Below w.heap.size w w' → post (.returned (.tuple #[.agg #[.slice none 0 0, .int .i64 0], .int .i64 k])) w') := fun k w' h1 h2 => by rw [hpost]; exact ⟨⟨_, k, ([], 0), rfl, h1, OR.nil _ _ _⟩, h2⟩
 have HYes : Hid (∀ v l' nx' w', T 0 (l', nx') → OR w0.heap.size w.heap.size w' v l' → Below w.heap.size w w' → post (.returned (.tuple #[.agg #[v, .int .i64 nx'], .int .i64 0])) w') := fun v l' nx' w' h1 h2 h3 => by rw [hpost]; exact ⟨⟨v, 0, (l', nx'), rfl, h1, h2⟩, h3⟩
 rw [← hpost]
 clear hpost
 obtain ⟨W, hW⟩ := exa ((w.alloc (.cells #[.slice a s.1.length c, .int .i64 s.2] 24)).alloc (.cells #[.slice none 0 0, .int .i64 0] 24))
 have hb : Below w.heap.size w W := by rw [hW]; exact ((Below.refl _ w).alloc (Nat.le_refl _) _).alloc (by simp) _
 have hAw : ndsR.lies n0 w [.slice a s.1.length c] s.1 := ndsR.below hA hb0
 have hB1 : Box W w.heap.size 24 #[.slice a s.1.length c, .int .i64 s.2] := by rw [hW]; exact (Box.new _ _ _).alloc _
 have hB2 : Box W (w.heap.size + 1) 24 #[.slice none 0 0, .int .i64 0] := by (
 rw [hW]
 have := Box.new (w.alloc (.cells #[.slice a s.1.length c, .int .i64 s.2] 24)) 24 #[.slice none 0 0, .int .i64 0]
 rwa [World.size_alloc] at this)
 have HW : Hid (Below w.heap.size w W ∧ ndsR.lies n0 W [.slice a s.1.length c] s.1 ∧ W.heap.size = w.heap.size + 2 ∧ Below w0.heap.size w0 W ∧ w0.heap.size ≤ w.heap.size) := ⟨hb, ndsR.below hAw hb, by rw [hW]; simp, hb0.trans (hb.mono hb0.size), hb0.size⟩
 have HSB : Hid (∀ V, Below W.heap.size W V → V.cell? ⟨w.heap.size, 0, none⟩ = some (.slice a s.1.length c) ∧ V.cell? ⟨w.heap.size, 1, none⟩ = some (.int .i64 s.2) ∧ V.cell? ⟨w.heap.size + 1, 0, none⟩ = some (.slice none 0 0) ∧ V.cell? ⟨w.heap.size + 1, 1, none⟩ = some (.int .i64 0) ∧ V.frozen? ⟨w.heap.size + 1, 0, none⟩ = false ∧ V.frozen? ⟨w.heap.size + 1, 1, none⟩ = false) := fun V hV => by (
 obtain ⟨g0, g1, -, -⟩ := (hB1.below hV hB1.lt).two
 obtain ⟨d0, d1, d2, d3⟩ := (hB2.below hV hB2.lt).two
 exact ⟨g0, g1, d0, d1, d2, d3⟩)
 have HBW : Hid (∀ V, Below W.heap.size W V → Below w.heap.size w V) := fun V hV => below_any hb hV
 have HA0 : Hid (ndsR.lies n0 w0 [.slice a s.1.length c] s.1 ∧ FitsS s.1) := ⟨hA, hM⟩
 have HLI : Hid (∀ V, Below W.heap.size W V → ndsR.lies n0 V [.slice a s.1.length c] s.1) := fun V hV => ndsR.below HW.out.2.1 hV
 have HPL : Hid (∀ V (i : Int), Below W.heap.size W V → Calls Tryz.prog 75 #[.agg #[.slice a s.1.length c, .int .i64 s.2], .int .i64 i] V fun e w' => e = .returned (.int .i64 (plc s.1 i)) ∧ Below V.heap.size V w') := fun V i hV => rplace_any n0 a c s.1 s.2 i V (HLI.out V hV)
 have HWA : Hid (Ok s → ∀ V av cv m (xs : List ByteArray), Below W.heap.size W V → m = xs.length → OwnT W.heap.size V (.slice av m cv) xs → Calls Tryz.prog 49 #[.agg #[.slice a s.1.length c, .int .i64 s.2], .slice av m cv] V fun e w' => e = .returned (.tuple #[.int .i64 (wlk s.1 1 xs).1, .int .i64 (wlk s.1 1 xs).2]) ∧ Below V.heap.size V w') := fun hO V av cv m xs hV hm hX => by
   subst hm
   exact rwalk_any n0 W.heap.size a c s hO.wk av cv xs V (HLI.out V hV) hX.arg
 have HHO : Hid (Ok s → ∀ V av cv m (xs : List ByteArray), Below W.heap.size W V → m = xs.length → OwnT W.heap.size V (.slice av m cv) xs → xs ≠ [] → Calls Tryz.prog 73 #[.agg #[.slice a s.1.length c, .int .i64 s.2], .slice av m cv] V fun e w' => (∃ i x, e = .returned (.tuple #[.int .i64 i, .string x, .int .i64 (stdE s.1 xs)]) ∧ (stdE s.1 xs = 0 → i = plc s.1 (hold s xs).1 ∧ x = lst xs)) ∧ Below V.heap.size V w') := fun hO V av cv m xs hV hm hX hne => by
   subst hm
   exact rhome_any n0 W.heap.size a c s hO.wk av cv xs hne V (HLI.out V hV) hX.arg
 have HOW : Hid (Ok s → ∀ V, Below W.heap.size W V → Calls Tryz.prog 42 #[.agg #[.slice a s.1.length c, .int .i64 s.2]] V fun e w' => (∃ v', e = .returned (.agg #[v', .int .i64 s.2]) ∧ OR w0.heap.size V.heap.size w' v' s.1) ∧ Below V.heap.size V w') := fun hO V hV => rown_any n0 w0 a c s hO.wk V (HW.out.2.2.2.1.trans (hV.mono HW.out.2.2.2.1.size)) HA0.out.1
 have HC1 := rcheck10_any n0 a c s W (HLI.out W (Below.refl _ _)) hM
 obtain ⟨g0, g1, d0, d1, e0, e1⟩ := HSB.out W (Below.refl _ _)
 obtain ⟨n, hn⟩ := exa (s.1.length)
 obtain ⟨nx, hnx⟩ := exa (s.2)
 have HN : Hid (n = s.1.length ∧ nx = s.2) := ⟨hn, hnx⟩
 rw [← hn] at HW HSB HA0 HLI HPL HWA HHO HOW HC1 g0 hW ⊢
 rw [← hnx] at HSB HPL HWA HHO HOW HC1 g1 hW ⊢
 rw [hW] at g0 g1 d0 d1 e0 e1
 clear hb hA hAw hM hB1 hB2 hb0 hn hnx
 go_enter Tryz.func26, Tryz.ntmps26
 go_wp2_with fail
 rw [← hW]
 clear hW g0 g1 d0 d1 e0 e1
 refine HC1.mono ?_
 rintro e w1 ⟨⟨r, rfl, hr⟩, hb1⟩
 have HB1 : Hid (Below W.heap.size W w1) := hb1
 clear hb1 HC1
 obtain ⟨-, -, d0, d1, e0, e1⟩ := HSB.out w1 HB1.out
 by_cases hr0 : r = 0
 case neg => (
 have HT1 : Hid (T 9 ([], 0)) := by (
 rw [HT.out]
 rcases hr with ⟨_, h⟩ | ⟨h, _⟩
 · exact absurd h hr0
 · exact .inl ⟨h, rfl, rfl⟩)
 clear hr
 go_wp2
 refine bodyPost_ret (v := .tuple #[.agg #[.slice none 0 0, .int .i64 0], .int .i64 9]) (by simp [results, Tryz.results26, go_sem, *]) rfl (HNo.out _ _ HT1.out (below_set2 (HBW.out _ HB1.out) (by omega) _ _)))
 have HO : Hid (Ok s) := by (
 rcases hr with ⟨h, _⟩ | ⟨_, h⟩
 · exact h
 · omega)
 clear hr
 subst hr0
 have HC2 := rtwo_any p q w1
 go_wp2_with fail
 refine HC2.mono ?_
 rintro e w2 ⟨⟨av, m, cv, aw, my, cw, k2, rfl, h2⟩, hb2⟩
 obtain ⟨xs, hxs⟩ := exa (sval p)
 obtain ⟨ys, hys⟩ := exa (sval q)
 rw [← hxs, ← hys] at HT h2
 have HXS : Hid (xs = sval p ∧ ys = sval q) := ⟨hxs, hys⟩
 have HB2 : Hid (Below W.heap.size W w2) := below_any HB1.out hb2
 have H2 : Hid ((psE [p, q] ≠ 0 ∧ k2 = psE [p, q]) ∨ (psE [p, q] = 0 ∧ k2 = 0 ∧ m = xs.length ∧ my = ys.length ∧ OwnT W.heap.size w2 (.slice av m cv) xs ∧ OwnT W.heap.size w2 (.slice aw my cw) ys)) := h2.imp id fun ⟨a1, a2, a3, a4, a5, a6⟩ => ⟨a1, a2, a3, a4, a5.weaken HB1.out.size, a6.weaken HB1.out.size⟩
 have hl1 := run_len Tryz.underlying59 av m cv
 have hl2 := run_len Tryz.underlying59 aw my cw
 clear hb2 HC2 h2 hxs hys d0 d1 e0 e1
 obtain ⟨g0, g1, d0, d1, e0, e1⟩ := HSB.out w2 HB2.out
 by_cases hk0 : k2 = 0
 case neg => (
 have HT1 : Hid (T k2 ([], 0)) := by (
 rw [HT.out]
 rcases H2.out with ⟨h1, h2⟩ | ⟨_, h2, _⟩
 · exact .inr (.inl ⟨HO.out, h1, h2, rfl⟩)
 · exact absurd h2 hk0)
 go_wp2
 refine bodyPost_ret (v := .tuple #[.agg #[.slice none 0 0, .int .i64 0], .int .i64 k2]) (by simp [results, Tryz.results26, go_sem, *]) rfl (HNo.out _ _ HT1.out (below_set2 (HBW.out _ HB2.out) (by omega) _ _)))
 subst hk0
 have HX2 : Hid (psE [p, q] = 0 ∧ m = xs.length ∧ my = ys.length ∧ OwnT W.heap.size w2 (.slice av m cv) xs ∧ OwnT W.heap.size w2 (.slice aw my cw) ys) := by (
 rcases H2.out with ⟨h1, h2⟩ | ⟨h1, _, h3⟩
 · exact absurd h2.symm h1
 · exact ⟨h1, h3⟩)
 clear H2
 by_cases hm0 : m = 0
 case pos => (
 subst hm0
 have HT1 : Hid (T 108 ([], 0)) := by
   rw [HT.out]
   exact no_told HO.out HX2.out.1 (renE_nil (.inl (List.eq_nil_of_length_eq_zero HX2.out.2.1.symm))) (by decide)
 go_wp2
 refine bodyPost_ret (v := .tuple #[.agg #[.slice none 0 0, .int .i64 0], .int .i64 108]) (by simp [results, Tryz.results26, go_sem, *]) rfl (HNo.out _ _ HT1.out (below_set2 (HBW.out _ HB2.out) (by omega) _ _)))
 have HNX : Hid (xs ≠ []) := fun h => hm0 (by rw [HX2.out.2.1, h]; rfl)
 have hm0b : ((m : Int) == 0) = false := by simp; omega
 by_cases hy0 : my = 0
 case pos => (
 subst hy0
 have HT1 : Hid (T 108 ([], 0)) := by
   rw [HT.out]
   exact no_told HO.out HX2.out.1 (renE_nil (.inr (List.eq_nil_of_length_eq_zero HX2.out.2.2.1.symm))) (by decide)
 go_wp2
 refine bodyPost_ret (v := .tuple #[.agg #[.slice none 0 0, .int .i64 0], .int .i64 108]) (by simp [results, Tryz.results26, go_sem, *]) rfl (HNo.out _ _ HT1.out (below_set2 (HBW.out _ HB2.out) (by omega) _ _)))
 have HNY : Hid (ys ≠ []) := fun h => hy0 (by rw [HX2.out.2.2.1, h]; rfl)
 have hy0b : ((my : Int) == 0) = false := by simp; omega
 have HOX : Hid (∀ V, Below w2.heap.size w2 V → Below W.heap.size W V ∧ OwnT W.heap.size V (.slice av m cv) xs ∧ OwnT W.heap.size V (.slice aw my cw) ys) := fun V hV => ⟨below_any HB2.out hV, HX2.out.2.2.2.1.below hV, HX2.out.2.2.2.2.below hV⟩
 have HC3 := HWA.out HO.out w2 av cv m xs HB2.out HX2.out.2.1 HX2.out.2.2.2.1
 obtain ⟨i3, k3, hik⟩ : ∃ i k, (i, k) = wlk s.1 1 xs := ⟨_, _, rfl⟩
 have HIK : Hid ((i3, k3) = wlk s.1 1 xs) := hik
 rw [← hik] at HC3
 clear hik
 go_wp2_with fail
 refine HC3.mono ?_
 rintro e w3 ⟨rfl, hb3⟩
 have HQ3 : Hid (Below w2.heap.size w2 w3) := hb3
 clear hb3 HC3 g0 g1 d0 d1 e0 e1
 obtain ⟨g0, g1, d0, d1, e0, e1⟩ := HSB.out w3 (HOX.out w3 HQ3.out).1
 by_cases hk0 : k3 = 0
 case neg => (
 have h2 : Hid ((wlk s.1 1 xs).2 = k3) := show (wlk s.1 1 xs).2 = k3 by rw [← HIK.out]
 have HT1 : Hid (T k3 ([], 0)) := by
   rw [HT.out]
   exact no_told HO.out HX2.out.1 ((renE_walk HNX.out HNY.out (by rw [h2.out]; exact hk0)).trans h2.out) (hk0)
 go_wp2
 refine bodyPost_ret (v := .tuple #[.agg #[.slice none 0 0, .int .i64 0], .int .i64 k3]) (by simp [results, Tryz.results26, go_sem, *]) rfl (HNo.out _ _ HT1.out (below_set2 (HBW.out _ (HOX.out w3 HQ3.out).1) (by omega) _ _)))
 subst hk0
 have HWZ : Hid ((wlk s.1 1 xs).2 = 0) := show (wlk s.1 1 xs).2 = 0 by rw [← HIK.out]
 have HC4 := HHO.out HO.out w3 aw cw my ys (HOX.out w3 HQ3.out).1 HX2.out.2.2.1 (HOX.out w3 HQ3.out).2.2 HNY.out
 obtain ⟨k5, hk5⟩ := exa (stdE s.1 ys)
 rw [← hk5] at HC4
 have HK5 : Hid (k5 = stdE s.1 ys) := hk5
 clear hk5
 go_wp2_with fail
 refine HC4.mono ?_
 rintro e w4 ⟨⟨i5, x5, rfl, h5⟩, hb4⟩
 have HQ4 : Hid (Below w2.heap.size w2 w4) := below_any HQ3.out hb4
 have H5 : Hid (k5 = 0 → i5 = plc s.1 (hold s ys).1 ∧ x5 = lst ys) := h5
 clear hb4 h5 HC4 g0 g1 d0 d1 e0 e1
 obtain ⟨g0, g1, d0, d1, e0, e1⟩ := HSB.out w4 (HOX.out w4 HQ4.out).1
 by_cases hk0 : k5 = 0
 case neg => (
 have HT1 : Hid (T k5 ([], 0)) := by
   rw [HT.out]
   exact no_told HO.out HX2.out.1 ((renE_std HNX.out HNY.out HWZ.out (by rw [← HK5.out]; exact hk0)).trans HK5.out.symm) (hk0)
 go_wp2
 refine bodyPost_ret (v := .tuple #[.agg #[.slice none 0 0, .int .i64 0], .int .i64 k5]) (by simp [results, Tryz.results26, go_sem, *]) rfl (HNo.out _ _ HT1.out (below_set2 (HBW.out _ (HOX.out w4 HQ4.out).1) (by omega) _ _)))
 subst hk0
 have HS0 : Hid (stdE s.1 ys = 0) := HK5.out.symm
 obtain ⟨hi5, rfl⟩ := H5.out rfl
 obtain ⟨-, hhm, -, -, -⟩ := std_zero HO.out.wk HS0.out
 obtain ⟨at', hat, hpc⟩ := plc_mem HO.out.wk.up hhm
 rw [hpc] at hi5
 subst hi5
 obtain ⟨h, hh⟩ := exa (hold s ys)
 obtain ⟨y, hy⟩ := exa (lst ys)
 have HQ : Hid (h = hold s ys ∧ y = lst ys ∧ s.1[at']? = some h ∧ h ∈ s.1) := ⟨hh, hy, by rw [hh]; exact hat, by rw [hh]; exact hhm⟩
 rw [← hy]
 have hatn : (at' : Int) < (n : Int) := by (
 have h1 := (List.getElem?_eq_some_iff.1 hat).1
 have h2 := HN.out.1
 omega)
 obtain ⟨b1, o1, ea, ec, fa, fc, hix, hall⟩ := ndr_at HW.out.2.1 at' h HQ.out.2.2.1
 obtain ⟨el, hel⟩ := exa ((en h).length)
 obtain ⟨yi, hyi⟩ := exa (h.1)
 rw [← hel, ← hyi] at hall
 have HE1 : Hid (∀ V, Below W.heap.size W V → V.cell? ⟨b1, o1 + 3, none⟩ = some (.slice ea el ec) ∧ ArgE n0 V (.slice ea el ec) (en h) ∧ V.cell? ⟨b1, o1, none⟩ = some (.int .i64 yi)) := fun V hV => ⟨(hall V hV).1.2.2.2.1, (hall V hV).2.1, (hall V hV).1.1⟩
 have HYI : Hid (yi = h.1 ∧ el = (en h).length) := ⟨hyi, hel⟩
 have hl3 := run_len Tryz.underlying73 ea el ec
 clear hhm hat hpc hall hh hy hel hyi H5 HK5
 have HC5 := P.rwithin_any p q w4
 obtain ⟨wv, hwv⟩ := exa (wval p q)
 obtain ⟨we, hwe⟩ := exa (werr p q)
 rw [← hwv, ← hwe] at HC5
 have HWV : Hid (wv = wval p q) := hwv
 clear hwv hwe
 go_wp2_with fail
 refine HC5.mono ?_
 rintro e w5 ⟨rfl, hb5⟩
 have HQ5 : Hid (Below w2.heap.size w2 w5 ∧ Below W.heap.size W w5) := ⟨below_any HQ4.out hb5, below_any (HOX.out w4 HQ4.out).1 hb5⟩
 clear hb5 HC5 g0 g1 d0 d1 e0 e1
 obtain ⟨hzm, hzi, -⟩ := HO.out.wk.lead HWZ.out
 obtain ⟨z, hz⟩ := exa (tgt s xs)
 rw [← hz] at hzm hzi
 obtain ⟨atz, hatz, hpcz⟩ := plc_mem HO.out.wk.up hzm
 have hzi' : i3 = z.1 := by
   have h2 : (wlk s.1 1 xs).1 = i3 := by rw [← HIK.out]
   rw [← h2]; exact hzi
 have HZ : Hid (z = tgt s xs ∧ s.1[atz]? = some z ∧ z ∈ s.1 ∧ i3 = z.1) := ⟨hz, hatz, hzm, hzi'⟩
 obtain ⟨xb, xo, xea, xec, xfa, xfc, hixz, hallz⟩ := ndr_at HW.out.2.1 atz z hatz
 have HPZ : Hid (∀ V, Below w5.heap.size w5 V → Calls Tryz.prog 75 #[.agg #[.slice a n c, .int .i64 nx], .int .i64 i3] V fun e w' => e = .returned (.int .i64 atz) ∧ Below V.heap.size V w') := fun V hV => by (
 have hh := HPL.out V i3 (below_any HQ5.out.2 hV)
 rw [hzi', hpcz, ← hzi'] at hh
 exact hh)
 obtain ⟨xel, hxel⟩ := exa ((en z).length)
 obtain ⟨xfl, hxfl⟩ := exa ((fi z).2.length)
 obtain ⟨xpi, hxpi⟩ := exa (z.1)
 obtain ⟨xpd, hxpd⟩ := exa (isD z)
 obtain ⟨xpl, hxpl⟩ := exa (lk z)
 obtain ⟨xpz, hxpz⟩ := exa ((fi z).1)
 rw [← hxel, ← hxfl, ← hxpi, ← hxpd, ← hxpl, ← hxpz] at hallz
 have HSX : Hid (∀ V, Below w5.heap.size w5 V → V.cell? ⟨w.heap.size, 0, none⟩ = some (.slice a n c) ∧ V.cell? ⟨w.heap.size, 1, none⟩ = some (.int .i64 nx) ∧ V.cell? ⟨xb, xo, none⟩ = some (.int .i64 xpi) ∧ V.cell? ⟨xb, xo + 1, none⟩ = some (.bool xpd) ∧ V.cell? ⟨xb, xo + 2, none⟩ = some (.int .i64 xpl) ∧ V.cell? ⟨xb, xo + 3, none⟩ = some (.slice xea xel xec) ∧ V.cell? ⟨xb, xo + 4, none⟩ = some (.int .i64 xpz) ∧ V.cell? ⟨xb, xo + 5, none⟩ = some (.slice xfa xfl xfc)) := fun V hV => by
   obtain ⟨g0, g1, -⟩ := HSB.out V (below_any HQ5.out.2 hV)
   exact ⟨g0, g1, (hallz V (below_any HQ5.out.2 hV)).1⟩
 have HDX : Hid (xpd = isD (tgt s xs)) := by rw [← hz]; exact hxpd
 have hatzn : (atz : Int) < (n : Int) := by (
 have h1 := (List.getElem?_eq_some_iff.1 hatz).1
 have h2 := HN.out.1
 omega)
 clear hzm hzi hzi' hz hatz hpcz hallz hxel hxfl hxpi hxpd hxpl hxpz
 go_upto_region 15 with fail
 go_cut [18] (fun v wx => ∃ dd, v = .pointer (some ⟨dd, 0, none⟩) ∧ Hid (Below w5.heap.size w5 wx ∧ Box wx dd 78 #[.int .i64 xpi, .bool xpd, .int .i64 xpl, .slice xea xel xec, .int .i64 xpz, .slice xfa xfl xfc]))
 case first => (
 refine AnyBut.begin (fun W => W.cell? ⟨w.heap.size, 0, none⟩ = some (.slice a n c) ∧ W.cell? ⟨w.heap.size, 1, none⟩ = some (.int .i64 nx) ∧ W.cell? ⟨xb, xo, none⟩ = some (.int .i64 xpi) ∧ W.cell? ⟨xb, xo + 1, none⟩ = some (.bool xpd) ∧ W.cell? ⟨xb, xo + 2, none⟩ = some (.int .i64 xpl) ∧ W.cell? ⟨xb, xo + 3, none⟩ = some (.slice xea xel xec) ∧ W.cell? ⟨xb, xo + 4, none⟩ = some (.int .i64 xpz) ∧ W.cell? ⟨xb, xo + 5, none⟩ = some (.slice xfa xfl xfc)) 8 (by kernel_rfl) ?_
 have hSS := HSX.out w5.drew (Below.refl _ w5).drew
 refine ty 0 79 hSS ?_; simp only [ua,ub,uc,ud]
 refine ty 1 80 hSS ?_; simp only [ua,ub,uc,ud]
 refine ty 2 81 hSS ?_; simp only [ua,ub,uc,ud]
 refine ty 3 82 hSS ?_; simp only [ua,ub,uc,ud]
 refine AnyBut.two (i := 4) (j := 7) (by kernel_rfl) rfl rfl (fun K hK => ?_) (fun K hK => ?_)
 · go_simp
   refine Calls.mono (HPZ.out w5.drew (Below.refl _ w5).drew) ?_
   rintro e wp ⟨rfl, hbp⟩
   dsimp only
   have hbp1 : Below w5.heap.size w5 wp := below_any (Below.refl _ w5).drew hbp
   refine hK.out _ _ (HSX.out wp hbp1) ?_
   clear hK hSS
   have hSS := HSX.out wp hbp1
   refine ty 5 84 hSS ?_; simp only [ua,ub,uc,ud]
   refine ty 6 85 hSS ?_; simp only [ua,ub,uc,ud]
   refine AnyBut.step (i := 7) (by kernel_rfl) rfl (fun K hK => ?_)
   go_simp
   refine hK.out _ _ (HSX.out _ (hbp1.alloc hbp1.size _)) ?_
   clear hK hSS
   refine AnyBut.last (by kernel_rfl) (by kernel_rfl) rfl (fun K hK => ?_)
   go_simp
   refine hK.out _ _ ?_
   clear hK
   rename_i J K1 hJ hM K2 K3
   refine hM _ _ (Go.Met.intro (hJ _ _ ?_))
   (repeat (refine Exists.intro ?_ ?_; rotate_left 1))
   refine ⟨?rel, ?fr⟩
   case fr => rfl
   case rel => exact ⟨_, rfl, hbp1.alloc hbp1.size _, Box.new _ _ _⟩
 · go_simp
   have hbz : Below w5.heap.size w5 (w5.alloc (.cells #[.int .i64 0, .bool false, .int .i64 0, .slice none 0 0, .int .i64 0, .slice none 0 0] 78)).drew := ((Below.refl _ w5).alloc (Nat.le_refl _) _).drew
   have hBz : Box (w5.alloc (.cells #[.int .i64 0, .bool false, .int .i64 0, .slice none 0 0, .int .i64 0, .slice none 0 0] 78)).drew w5.heap.size 78 #[.int .i64 0, .bool false, .int .i64 0, .slice none 0 0, .int .i64 0, .slice none 0 0] := Box.drew (Box.new _ _ _)
   refine hK.out _ _ (HSX.out _ hbz) ?_
   clear hK hSS
   refine AnyBut.step (i := 4) (by kernel_rfl) rfl (fun K hK => ?_)
   go_simp
   refine Calls.mono (HPZ.out _ hbz) ?_
   rintro e wp ⟨rfl, hbp⟩
   dsimp only
   have hbp1 : Below w5.heap.size w5 wp := below_any hbz hbp
   have hBp : Box wp w5.heap.size 78 #[.int .i64 0, .bool false, .int .i64 0, .slice none 0 0, .int .i64 0, .slice none 0 0] := hBz.below hbp hBz.lt
   refine hK.out _ _ (HSX.out wp hbp1) ?_
   clear hK
   have hSS := HSX.out wp hbp1
   refine ty 5 84 hSS ?_; simp only [ua,ub,uc,ud]
   refine ty 6 85 hSS ?_; simp only [ua,ub,uc,ud]
   obtain ⟨z0, z1, z2, z3, z4, z5⟩ := hBp.six
   have y0 := hBp.frozen 0
   have y1 := hBp.frozen 1
   have y2 := hBp.frozen 2
   have y3 := hBp.frozen 3
   have y4 := hBp.frozen 4
   have y5 := hBp.frozen 5
   refine AnyBut.last (by kernel_rfl) (by kernel_rfl) rfl (fun K hK => ?_)
   go_simp
   refine hK.out _ _ ?_
   clear hK
   rename_i J K1 hJ hM K2 K3
   refine hM _ _ (Go.Met.intro (hJ _ _ ?_))
   (repeat (refine Exists.intro ?_ ?_; rotate_left 1))
   refine ⟨?rel, ?fr⟩
   case fr => rfl
   case rel => exact ⟨_, rfl, six_set hbp1 (Nat.le_refl _) hBp _ _ _ _ _ _⟩)
 case rest => (
 obtain ⟨xdd, rfl, HBX⟩ := hcut
 obtain ⟨w6, hw6⟩ := exa (wc)
 rw [← hw6] at HBX ⊢
 clear hw6 hixz hatzn
 have HQ6 : Hid (Below w2.heap.size w2 w6 ∧ Below W.heap.size W w6) := ⟨below_any HQ5.out.1 HBX.out.1, below_any HQ5.out.2 HBX.out.1⟩
 obtain ⟨bb, hbb⟩ := exa ((xpd && (wv && decide (m < my))))
 have HBB : Hid (bb = (xpd && (wv && decide (m < my)))) := hbb
 clear hbb
 have hx1 : w6.cell? ⟨xdd, 1, none⟩ = some (.bool xpd) := HBX.out.2.six.2.1
 go_upto_region 16 with fail
 go_cut [97] (fun v wx => v = .bool bb ∧ w6 = wx)
 case first => (
 cases xpd
 case false => (
 go_wp2_with fail
 go_meet
 case rel => exact ⟨by rw [HBB.out]; rfl, rfl⟩)
 cases wv
 case false => (
 go_wp2_with fail
 go_meet
 case rel => exact ⟨by rw [HBB.out]; rfl, rfl⟩)
 by_cases hlt : m < my
 case pos => (
 have hlt' : (m : Int) < (my : Int) := by omega
 have hb : Hid (bb = true) := show bb = true by rw [HBB.out]; simp [hlt]
 clear hlt
 go_wp2_with fail
 go_meet
 case rel => exact ⟨by rw [hb.out], rfl⟩)
 case neg => (
 have hlt' : ¬ (m : Int) < (my : Int) := by omega
 have hb : Hid (bb = false) := show bb = false by rw [HBB.out]; simp [hlt]
 clear hlt
 go_wp2_with fail
 go_meet
 case rel => exact ⟨by rw [hb.out], rfl⟩))
 case rest => (
 obtain ⟨rfl, rfl⟩ := hcut
 clear hx1
 have HIN : Hid (bb = true ↔ isD (tgt s xs) = true ∧ isB xs ys = true) := show (bb = true ↔ isD (tgt s xs) = true ∧ isB xs ys = true) by (
 have h1 := within_isB (P.werr_zero.2 (psE_two.1 HX2.out.1))
 rw [HBB.out, HWV.out, ← HDX.out, HX2.out.2.1, HX2.out.2.2.1, HXS.out.1, HXS.out.2, h1]
 simp)
 clear HBB
 obtain ⟨g0, g1, d0, d1, e0, e1⟩ := HSB.out w6 HQ6.out.2
 cases bb
 case true => (
 have HT1 : Hid (T 108 ([], 0)) := by
   rw [HT.out]
   exact no_told HO.out HX2.out.1 (renE_in HNX.out HNY.out HWZ.out HS0.out (HIN.out.1 rfl)) (by decide)
 go_wp2
 refine bodyPost_ret (v := .tuple #[.agg #[.slice none 0 0, .int .i64 0], .int .i64 108]) (by simp [results, Tryz.results26, go_sem, *]) rfl (HNo.out _ _ HT1.out (below_set2 (HBW.out _ HQ6.out.2) (by omega) _ _)))
 have HNI : Hid (¬ (isD (tgt s xs) = true ∧ isB xs ys = true)) := fun h => Bool.false_ne_true (HIN.out.2 h)
 clear HIN
 have HC7 := rfind_b y (HE1.out w6 HQ6.out.2).2.1 (HO.out.wk.chk HQ.out.2.2.2)
 have c3 := (HE1.out w6 HQ6.out.2).1
 obtain ⟨fq, hfq⟩ := exa (fnd (en h) y)
 obtain ⟨th, hth⟩ := exa (there (en h) y)
 rw [← hfq, ← hth] at HC7
 have HTH : Hid ((th = true → stdT s.1 ys = fq ∧ stdT s.1 ys ≠ 0) ∧ (th = false → stdT s.1 ys = 0)) := by (
 have h1 := std_there HO.out HS0.out
 rw [← HQ.out.1, ← HQ.out.2.1, ← hfq, ← hth] at h1
 exact h1)
 clear hfq hth
 go_wp2_with fail
 refine HC7.mono ?_
 rintro e w7 ⟨rfl, hb7⟩
 have HQ7 : Hid (Below w2.heap.size w2 w7 ∧ Below W.heap.size W w7 ∧ Below w6.heap.size w6 w7) := ⟨below_any HQ6.out.1 hb7, below_any HQ6.out.2 hb7, hb7⟩
 clear hb7 HC7 c3 g0 g1 d0 d1 e0 e1
 obtain ⟨sm, hsm⟩ := exa ((th && decide (fq = i3)))
 have HSM : Hid (sm = (th && decide (fq = i3))) := hsm
 clear hsm
 go_upto_region 19 with fail
 go_cut [116] (fun v wx => v = .bool sm ∧ w7 = wx)
 case first => (
 cases th
 case false => (
 go_wp2_with fail
 go_meet
 case rel => exact ⟨by rw [HSM.out]; rfl, rfl⟩)
 by_cases hlt : fq = i3
 case pos => (
 subst hlt
 have hb : Hid (sm = true) := show sm = true by rw [HSM.out]; simp
 go_wp2_with fail
 go_meet
 case rel => exact ⟨by rw [hb.out], rfl⟩)
 case neg => (
 have hb : Hid (sm = false) := show sm = false by rw [HSM.out]; simp [hlt]
 have hlb : (fq == i3) = false := by simp [hlt]
 go_wp2_with fail
 go_meet
 case rel => exact ⟨by rw [hb.out], rfl⟩))
 case rest => (
 obtain ⟨rfl, rfl⟩ := hcut
 have hzt : Hid (i3 = (tgt s xs).1 ∧ (tgt s xs).1 ≠ 0) := ⟨by rw [← HZ.out.1]; exact HZ.out.2.2.2, by
   have := HO.out.wk.low _ HZ.out.2.2.1
   rw [← HZ.out.1]; omega⟩
 have HSA : Hid (sm = true ↔ stdT s.1 ys = (tgt s xs).1) := show (sm = true ↔ stdT s.1 ys = (tgt s xs).1) by (
 rw [HSM.out, ← hzt.out.1]
 cases th
 · have h1 := HTH.out.2 rfl
   rw [h1]
   simp only [Bool.false_and, Bool.false_eq_true, false_iff]
   intro h; exact hzt.out.2 (by rw [← hzt.out.1, ← h])
 · have h1 := (HTH.out.1 rfl).1
   rw [h1]
   simp)
 clear HSM
 obtain ⟨g0, g1, d0, d1, e0, e1⟩ := HSB.out w7 HQ7.out.2.1
 cases sm
 case true => (
 have HSE : Hid (stdT s.1 ys = (tgt s xs).1) := HSA.out.1 rfl
 have HC8 := HOW.out HO.out w7 HQ7.out.2.1
 clear d0 d1 e0 e1
 go_wp2_with fail
 refine HC8.mono ?_
 rintro e w8 ⟨⟨v8, rfl, hor8⟩, hb8⟩
 have HB8 : Hid (Below W.heap.size W w8) := below_any HQ7.out.2.1 hb8
 have hr8 := RX.of_or hor8
 obtain ⟨a8, c8, rfl⟩ := hr8.shape
 rw [← HN.out.1] at hr8 ⊢
 have HR8 : Hid (RX (fun k => w0.heap.size ≤ k ∧ k < w7.heap.size) w7.heap.size w8 (.slice a8 n c8) s.1) := hr8
 have HTY : Hid (T 0 (s.1, nx)) := by (
 have h9 : (s.1, nx) = renS s xs ys := by
   unfold renS
   rw [if_pos HSE.out, HN.out.2]
 rw [HT.out, h9]
 exact yes_told HO.out HX2.out.1 (renE_same HNX.out HNY.out HWZ.out HS0.out HNI.out HSE.out))
 obtain ⟨-, -, d0, d1, e0, e1⟩ := HSB.out w8 HB8.out
 clear hr8 hor8 hb8 HC8
 go_wp2
 refine bodyPost_ret (v := .tuple #[.agg #[.slice a8 n c8, .int .i64 nx], .int .i64 0]) (by simp [results, Tryz.results26, go_sem, *]) rfl (HYes.out _ _ _ _ HTY.out ?_ (below_set2 (HBW.out _ HB8.out) (by omega) _ _))
 have h1 := HQ7.out.2.1.size
 have h2 := HW.out
 have hn2 : (Value.slice a8 n c8).ownBlock ≠ some (w.heap.size + 1) := fun e => by have := (HR8.out.lt _ e).1; omega
 exact ((HR8.out.set ⟨by omega, by omega⟩ hn2 _ _).set ⟨by omega, by omega⟩ hn2 _ _).or (fun k k1 k2 => ⟨k1, by omega⟩) (by omega))
 have HST : Hid (stdT s.1 ys ≠ (tgt s xs).1) := fun h => Bool.false_ne_true (HSA.out.2 h)
 clear HSA hzt
 obtain ⟨hsT, hsE⟩ := std_of_walk HO.out HNX.out HWZ.out
 obtain ⟨hhm, -, -, -, -⟩ := HO.out.wk.stands HNX.out HWZ.out
 obtain ⟨at2, hat2, hpc2⟩ := plc_mem HO.out.wk.up hhm
 have HC8 := HHO.out HO.out w7 av cv m xs HQ7.out.2.1 HX2.out.2.1 (HOX.out w7 HQ7.out.1).2.1 HNX.out
 rw [hsE] at HC8
 have HH : Hid (s.1[at2]? = some (hold s xs) ∧ plc s.1 (hold s xs).1 = (at2 : Int)) := ⟨hat2, hpc2⟩
 have hat2n : (at2 : Int) < (n : Int) := by (
 have h1 := (List.getElem?_eq_some_iff.1 hat2).1
 have h2 := HN.out.1
 omega)
 clear hsT hsE hhm hat2 hpc2 d0 d1 e0 e1
 go_wp2_with fail
 refine HC8.mono ?_
 rintro e w8 ⟨⟨i8, x8, rfl, h8⟩, hb8⟩
 have HQ8 : Hid (Below W.heap.size W w8 ∧ Below w6.heap.size w6 w8) := ⟨below_any HQ7.out.2.1 hb8, below_any HQ7.out.2.2 hb8⟩
 obtain ⟨hi8, rfl⟩ := h8 trivial
 rw [HH.out.2] at hi8
 subst hi8
 obtain ⟨yy, hyy⟩ := exa (lst xs)
 have HYY : Hid (yy = lst xs) := hyy
 rw [← hyy]
 clear hb8 h8 HC8 hyy g0 g1
 go_upto_if 126 with fail
 go_cut [25] (fun v wx => Hid (Below W.heap.size W wx ∧ (stdT s.1 ys ≠ 0 → cwE s xs ys = 0) ∧ ¬ (stdT s.1 ys = 0 ∧ (hold s xs).1 ≠ (hold s ys).1 ∧ 63 ≤ (en (hold s ys)).length)))
 case first => (
 as_aux_lemma => (
 cases th
 case false => (
 have HT0 : Hid (stdT s.1 ys = 0) := HTH.out.2 rfl
 obtain ⟨g0, g1, d0, d1, e0, e1⟩ := HSB.out w8 HQ8.out.1
 have c3 := (HE1.out w8 HQ8.out.1).1
 by_cases hoa : at2 = at'
 case pos => (
 subst hoa
 have HI : Hid ((hold s xs).1 = (hold s ys).1) := show (hold s xs).1 = (hold s ys).1 by (
 have h1 := HH.out.1
 rw [HQ.out.2.2.1] at h1
 rw [← Option.some.inj h1, HQ.out.1])
 go_wp2_with fail
 go_meet
 case rel => exact ⟨HQ8.out.1, fun h => absurd HT0.out h, fun h => h.2.1 HI.out⟩)
 have hoab : ((at2 : Int) == (at' : Int)) = false := by simp; omega
 by_cases h63 : 63 ≤ el
 case pos => (
 have h63' : (63 : Int) ≤ (el : Int) := by omega
 have HI : Hid ((hold s xs).1 ≠ (hold s ys).1) := fun hc => hoa (by
   have h1 := HH.out.2
   have h2 := plc_ups HO.out.wk.up HQ.out.2.2.1
   rw [hc, ← HQ.out.1, h2] at h1
   omega)
 have HE51 : Hid (renE s xs ys = 51) := show renE s xs ys = 51 by
   rw [renE_rest HO.out HNX.out HNY.out HWZ.out HS0.out HNI.out HST.out (fun h => absurd HT0.out h) ((sval_ok (psE_two.1 HX2.out.1).2).2 _ (by rw [← HXS.out.2]; exact lst_mem HNY.out)), if_pos ⟨HT0.out, HI.out, by rw [← HQ.out.1, ← HYI.out.2]; exact h63⟩]
 have HT1 : Hid (T 51 ([], 0)) := by
   rw [HT.out]
   exact no_told HO.out HX2.out.1 (HE51.out) (by decide)
 go_wp2
 refine bodyPost_ret (v := .tuple #[.agg #[.slice none 0 0, .int .i64 0], .int .i64 51]) (by simp [results, Tryz.results26, go_sem, *]) rfl (HNo.out _ _ HT1.out (below_set2 (HBW.out _ HQ8.out.1) (by omega) _ _)))
 have h63' : ¬ (63 : Int) ≤ (el : Int) := by omega
 go_wp2_with fail
 go_meet
 case rel => exact ⟨HQ8.out.1, fun h => absurd HT0.out h, fun h => h63 (by rw [HYI.out.2, HQ.out.1]; exact h.2.2)⟩)
 have HT1' : Hid (stdT s.1 ys = fq ∧ stdT s.1 ys ≠ 0) := HTH.out.1 rfl
 obtain ⟨hum, hui, -⟩ := cwE_is (xs := xs) HO.out HNY.out HS0.out HT1'.out.2
 obtain ⟨u, hu⟩ := exa (tgt s ys)
 rw [← hu] at hum hui
 obtain ⟨atu, hatu, hpcu⟩ := plc_mem HO.out.wk.up hum
 have hui' : fq = u.1 := by rw [hui]; exact HT1'.out.1.symm
 obtain ⟨qb, qo, qea, qec, qfa, qfc, hixu, hallu⟩ := ndr_at HW.out.2.1 atu u hatu
 have HPU : Hid (∀ V, Below w8.heap.size w8 V → Calls Tryz.prog 75 #[.agg #[.slice a n c, .int .i64 nx], .int .i64 fq] V fun e w' => e = .returned (.int .i64 atu) ∧ Below V.heap.size V w') := fun V hV => by (
 have hh := HPL.out V fq (below_any HQ8.out.1 hV)
 rw [hui', hpcu, ← hui'] at hh
 exact hh)
 obtain ⟨qel, hqel⟩ := exa ((en u).length)
 obtain ⟨qfl, hqfl⟩ := exa ((fi u).2.length)
 obtain ⟨qpi, hqpi⟩ := exa (u.1)
 obtain ⟨qpd, hqpd⟩ := exa (isD u)
 obtain ⟨qpl, hqpl⟩ := exa (lk u)
 obtain ⟨qpz, hqpz⟩ := exa ((fi u).1)
 rw [← hqel, ← hqfl, ← hqpi, ← hqpd, ← hqpl, ← hqpz] at hallu
 have HSU : Hid (∀ V, Below w8.heap.size w8 V → V.cell? ⟨w.heap.size, 0, none⟩ = some (.slice a n c) ∧ V.cell? ⟨w.heap.size, 1, none⟩ = some (.int .i64 nx) ∧ V.cell? ⟨qb, qo, none⟩ = some (.int .i64 qpi) ∧ V.cell? ⟨qb, qo + 1, none⟩ = some (.bool qpd) ∧ V.cell? ⟨qb, qo + 2, none⟩ = some (.int .i64 qpl) ∧ V.cell? ⟨qb, qo + 3, none⟩ = some (.slice qea qel qec) ∧ V.cell? ⟨qb, qo + 4, none⟩ = some (.int .i64 qpz) ∧ V.cell? ⟨qb, qo + 5, none⟩ = some (.slice qfa qfl qfc)) := fun V hV => by
   obtain ⟨g0, g1, -⟩ := HSB.out V (below_any HQ8.out.1 hV)
   exact ⟨g0, g1, (hallu V (below_any HQ8.out.1 hV)).1⟩
 have HDU : Hid (qpd = isD (tgt s ys) ∧ qel = (en (tgt s ys)).length) := by rw [← hu]; exact ⟨hqpd, hqel⟩
 have hatun : (atu : Int) < (n : Int) := by (
 have h1 := (List.getElem?_eq_some_iff.1 hatu).1
 have h2 := HN.out.1
 omega)
 have HCW : Hid (cwE s xs ys ≠ 0 → renE s xs ys = cwE s xs ys) := fun h => renE_cw HNX.out HNY.out HWZ.out HS0.out HNI.out HST.out HT1'.out.2 h
 clear hum hui hui' hu hatu hpcu hallu hqel hqfl hqpi hqpd hqpl hqpz
 go_upto_region 23 with fail
 go_cut [25] (fun v wx => ∃ dd, v = .pointer (some ⟨dd, 0, none⟩) ∧ Hid (Below w8.heap.size w8 wx ∧ Box wx dd 78 #[.int .i64 qpi, .bool qpd, .int .i64 qpl, .slice qea qel qec, .int .i64 qpz, .slice qfa qfl qfc]))
 case first => (
 refine AnyBut.begin (fun W => W.cell? ⟨w.heap.size, 0, none⟩ = some (.slice a n c) ∧ W.cell? ⟨w.heap.size, 1, none⟩ = some (.int .i64 nx) ∧ W.cell? ⟨qb, qo, none⟩ = some (.int .i64 qpi) ∧ W.cell? ⟨qb, qo + 1, none⟩ = some (.bool qpd) ∧ W.cell? ⟨qb, qo + 2, none⟩ = some (.int .i64 qpl) ∧ W.cell? ⟨qb, qo + 3, none⟩ = some (.slice qea qel qec) ∧ W.cell? ⟨qb, qo + 4, none⟩ = some (.int .i64 qpz) ∧ W.cell? ⟨qb, qo + 5, none⟩ = some (.slice qfa qfl qfc)) 8 (by kernel_rfl) ?_
 have hSS := HSU.out w8.drew (Below.refl _ w8).drew
 refine ty 0 127 hSS ?_; simp only [ua,ub,uc,ud]
 refine ty 1 128 hSS ?_; simp only [ua,ub,uc,ud]
 refine ty 2 129 hSS ?_; simp only [ua,ub,uc,ud]
 refine ty 3 130 hSS ?_; simp only [ua,ub,uc,ud]
 refine AnyBut.two (i := 4) (j := 7) (by kernel_rfl) rfl rfl (fun K hK => ?_) (fun K hK => ?_)
 · go_simp
   refine Calls.mono (HPU.out w8.drew (Below.refl _ w8).drew) ?_
   rintro e wp ⟨rfl, hbp⟩
   dsimp only
   have hbp1 : Below w8.heap.size w8 wp := below_any (Below.refl _ w8).drew hbp
   refine hK.out _ _ (HSU.out wp hbp1) ?_
   clear hK hSS
   have hSS := HSU.out wp hbp1
   refine ty 5 132 hSS ?_; simp only [ua,ub,uc,ud]
   refine ty 6 133 hSS ?_; simp only [ua,ub,uc,ud]
   refine AnyBut.step (i := 7) (by kernel_rfl) rfl (fun K hK => ?_)
   go_simp
   refine hK.out _ _ (HSU.out _ (hbp1.alloc hbp1.size _)) ?_
   clear hK hSS
   refine AnyBut.last (by kernel_rfl) (by kernel_rfl) rfl (fun K hK => ?_)
   go_simp
   refine hK.out _ _ ?_
   clear hK
   rename_i J K1 hJ hM K2 K3
   refine hM _ _ (Go.Met.intro (hJ _ _ ?_))
   (repeat (refine Exists.intro ?_ ?_; rotate_left 1))
   refine ⟨?rel, ?fr⟩
   case fr => rfl
   case rel => exact ⟨_, rfl, hbp1.alloc hbp1.size _, Box.new _ _ _⟩
 · go_simp
   have hbz : Below w8.heap.size w8 (w8.alloc (.cells #[.int .i64 0, .bool false, .int .i64 0, .slice none 0 0, .int .i64 0, .slice none 0 0] 78)).drew := ((Below.refl _ w8).alloc (Nat.le_refl _) _).drew
   have hBz : Box (w8.alloc (.cells #[.int .i64 0, .bool false, .int .i64 0, .slice none 0 0, .int .i64 0, .slice none 0 0] 78)).drew w8.heap.size 78 #[.int .i64 0, .bool false, .int .i64 0, .slice none 0 0, .int .i64 0, .slice none 0 0] := Box.drew (Box.new _ _ _)
   refine hK.out _ _ (HSU.out _ hbz) ?_
   clear hK hSS
   refine AnyBut.step (i := 4) (by kernel_rfl) rfl (fun K hK => ?_)
   go_simp
   refine Calls.mono (HPU.out _ hbz) ?_
   rintro e wp ⟨rfl, hbp⟩
   dsimp only
   have hbp1 : Below w8.heap.size w8 wp := below_any hbz hbp
   have hBp : Box wp w8.heap.size 78 #[.int .i64 0, .bool false, .int .i64 0, .slice none 0 0, .int .i64 0, .slice none 0 0] := hBz.below hbp hBz.lt
   refine hK.out _ _ (HSU.out wp hbp1) ?_
   clear hK
   have hSS := HSU.out wp hbp1
   refine ty 5 132 hSS ?_; simp only [ua,ub,uc,ud]
   refine ty 6 133 hSS ?_; simp only [ua,ub,uc,ud]
   obtain ⟨z0, z1, z2, z3, z4, z5⟩ := hBp.six
   have y0 := hBp.frozen 0
   have y1 := hBp.frozen 1
   have y2 := hBp.frozen 2
   have y3 := hBp.frozen 3
   have y4 := hBp.frozen 4
   have y5 := hBp.frozen 5
   refine AnyBut.last (by kernel_rfl) (by kernel_rfl) rfl (fun K hK => ?_)
   go_simp
   refine hK.out _ _ ?_
   clear hK
   rename_i J K1 hJ hM K2 K3
   refine hM _ _ (Go.Met.intro (hJ _ _ ?_))
   (repeat (refine Exists.intro ?_ ?_; rotate_left 1))
   refine ⟨?rel, ?fr⟩
   case fr => rfl
   case rel => exact ⟨_, rfl, six_set hbp1 (Nat.le_refl _) hBp _ _ _ _ _ _⟩)
 case rest => (
 obtain ⟨qdd, rfl, HBU⟩ := hcut
 obtain ⟨w9, hw9⟩ := exa (wc)
 rw [← hw9] at HBU ⊢
 clear hw9 hixu hatun
 have HQ9 : Hid (Below W.heap.size W w9) := below_any HQ8.out.1 HBU.out.1
 obtain ⟨-, -, d0, d1, e0, e1⟩ := HSB.out w9 HQ9.out
 have hu1 : w9.cell? ⟨qdd, 1, none⟩ = some (.bool qpd) := HBU.out.2.six.2.1
 have hu3 : w9.cell? ⟨qdd, 3, none⟩ = some (.slice qea qel qec) := HBU.out.2.six.2.2.2.1
 have hl5 := run_len Tryz.underlying73 qea qel qec
 have hx1 : w9.cell? ⟨xdd, 1, none⟩ = some (.bool xpd) := (HBX.out.2.below (below_any HQ8.out.2 HBU.out.1) HBX.out.2.lt).six.2.1
 cases qpd
 case true => (
 cases xpd
 case false => (
 have HE1' : Hid (cwE s xs ys = 104) := cwE_dir HO.out HNY.out HS0.out HT1'.out.2 HDU.out.1.symm HDX.out.symm
 have HT1 : Hid (T 104 ([], 0)) := by
   rw [HT.out]
   exact no_told HO.out HX2.out.1 ((HCW.out (by rw [HE1'.out]; decide)).trans HE1'.out) (by decide)
 go_wp2
 refine bodyPost_ret (v := .tuple #[.agg #[.slice none 0 0, .int .i64 0], .int .i64 104]) (by simp [results, Tryz.results26, go_sem, *]) rfl (HNo.out _ _ HT1.out (below_set2 (HBW.out _ HQ9.out) (by omega) _ _)))
 by_cases hue : qel = 0
 case neg => (
 have hue' : (0 : Int) < (qel : Int) := by omega
 have HE1' : Hid (cwE s xs ys = 105) := cwE_more HO.out HNY.out HS0.out HT1'.out.2 (HDU.out.1.symm.trans HDX.out) (by rw [← HDU.out.2]; omega)
 have HT1 : Hid (T 105 ([], 0)) := by
   rw [HT.out]
   exact no_told HO.out HX2.out.1 ((HCW.out (by rw [HE1'.out]; decide)).trans HE1'.out) (by decide)
 go_wp2
 refine bodyPost_ret (v := .tuple #[.agg #[.slice none 0 0, .int .i64 0], .int .i64 105]) (by simp [results, Tryz.results26, go_sem, *]) rfl (HNo.out _ _ HT1.out (below_set2 (HBW.out _ HQ9.out) (by omega) _ _)))
 subst hue
 go_wp2_with fail
 go_meet
 case rel => exact ⟨HQ9.out, fun _ => cwE_none HO.out HNY.out HS0.out HT1'.out.2 (HDU.out.1.symm.trans HDX.out) HDU.out.2.symm, fun h => HT1'.out.2 h.1⟩)
 cases xpd
 case true => (
 have HE1' : Hid (cwE s xs ys = 103) := cwE_not HO.out HNY.out HS0.out HT1'.out.2 HDU.out.1.symm HDX.out.symm
 have HT1 : Hid (T 103 ([], 0)) := by
   rw [HT.out]
   exact no_told HO.out HX2.out.1 ((HCW.out (by rw [HE1'.out]; decide)).trans HE1'.out) (by decide)
 go_wp2
 refine bodyPost_ret (v := .tuple #[.agg #[.slice none 0 0, .int .i64 0], .int .i64 103]) (by simp [results, Tryz.results26, go_sem, *]) rfl (HNo.out _ _ HT1.out (below_set2 (HBW.out _ HQ9.out) (by omega) _ _)))
 by_cases hue : qel = 0
 case neg => (
 have hue' : (0 : Int) < (qel : Int) := by omega
 have HE1' : Hid (cwE s xs ys = 105) := cwE_more HO.out HNY.out HS0.out HT1'.out.2 (HDU.out.1.symm.trans HDX.out) (by rw [← HDU.out.2]; omega)
 have HT1 : Hid (T 105 ([], 0)) := by
   rw [HT.out]
   exact no_told HO.out HX2.out.1 ((HCW.out (by rw [HE1'.out]; decide)).trans HE1'.out) (by decide)
 go_wp2
 refine bodyPost_ret (v := .tuple #[.agg #[.slice none 0 0, .int .i64 0], .int .i64 105]) (by simp [results, Tryz.results26, go_sem, *]) rfl (HNo.out _ _ HT1.out (below_set2 (HBW.out _ HQ9.out) (by omega) _ _)))
 subst hue
 go_wp2_with fail
 go_meet
 case rel => exact ⟨HQ9.out, fun _ => cwE_none HO.out HNY.out HS0.out HT1'.out.2 (HDU.out.1.symm.trans HDX.out) HDU.out.2.symm, fun h => HT1'.out.2 h.1⟩)))
 case rest => (
 as_aux_lemma => (
 obtain ⟨w9, hw9⟩ := exa (wc)
 rw [← hw9] at hcut ⊢
 have HCT := hcut
 clear hw9 hcut HTH
 have HQ9 : Hid (Below W.heap.size W w9) := HCT.out.1
 have HSQ : Hid (serr q = 0) := (psE_two.1 HX2.out.1).2
 have HNM : Hid (nameOk (lst ys) = true) := (sval_ok HSQ.out).2 _ (by rw [← HXS.out.2]; exact lst_mem HNY.out)
 have hmy8 : my ≤ 8 := by rw [HX2.out.2.2.1, HXS.out.2]; exact (sval_ok HSQ.out).1
 have HRE := renE_rest HO.out HNX.out HNY.out HWZ.out HS0.out HNI.out HST.out HCT.out.2.1 HNM.out
 rw [if_neg HCT.out.2.2] at HRE
 obtain ⟨dp, hdp⟩ := exa (dpt s.1 8 (tgt s xs).1)
 rw [← hdp, ← HX2.out.2.2.1] at HRE
 have hdp8 : dp ≤ 8 := by rw [hdp]; exact dpt_le 8 _
 have HC10 : Calls Tryz.prog 67 #[.agg #[.slice a n c, .int .i64 nx], .int .i64 i3, .int .i64 8] w9 fun e w' => e = .returned (.int .i64 dp) ∧ Below w9.heap.size w9 w' := by (
 have h1 : i3 = (tgt s xs).1 := by rw [← HZ.out.1]; exact HZ.out.2.2.2
 have h2 : dpt s.1 9 i3 = dp := by rw [hdp, h1]; exact dpt_same (ok_bd HO.out (by rw [← HZ.out.1]; exact HZ.out.2.2.1)) (by omega)
 have hh := rreach_any n0 a c s.1 nx (fun p hp => by have := (HO.out.wk.chk hp).1; omega) 9 (by omega) i3 w9 (by have := HLI.out w9 HQ9.out; rw [HN.out.1] at this; exact this)
 rw [h2, ← HN.out.1] at hh
 exact hh)
 have HRN : Hid (renE s xs ys = if 8 < my + dp then 5 else 0) := HRE
 clear HRE hdp
 obtain ⟨g0, g1, d0, d1, e0, e1⟩ := HSB.out w9 HQ9.out
 go_wp2_with fail
 refine HC10.mono ?_
 rintro e w10 ⟨rfl, hb10⟩
 have HQ10 : Hid (Below W.heap.size W w10) := below_any HQ9.out hb10
 clear HC10 hb10 g0 g1 d0 d1 e0 e1
 by_cases h8 : 8 < my + dp
 case pos => (
 have h8' : (8 : Int) < (my : Int) + (dp : Int) := by omega
 obtain ⟨g0, g1, d0, d1, e0, e1⟩ := HSB.out w10 HQ10.out
 have HE5 : Hid (renE s xs ys = 5) := show renE s xs ys = 5 by rw [HRN.out, if_pos h8]
 have HT1 : Hid (T 5 ([], 0)) := by
   rw [HT.out]
   exact no_told HO.out HX2.out.1 (HE5.out) (by decide)
 go_wp2
 refine bodyPost_ret (v := .tuple #[.agg #[.slice none 0 0, .int .i64 0], .int .i64 5]) (by simp [results, Tryz.results26, go_sem, *]) rfl (HNo.out _ _ HT1.out (below_set2 (HBW.out _ HQ10.out) (by omega) _ _)))
 have h8' : ¬ (8 : Int) < (my : Int) + (dp : Int) := by omega
 have HE0 : Hid (renE s xs ys = 0) := show renE s xs ys = 0 by rw [HRN.out, if_neg h8]
 obtain ⟨xb2, xo2, xea2, xec2, xfa2, xfc2, hix2, hall2⟩ := ndr_at HA0.out.1 at2 (hold s xs) HH.out.1
 obtain ⟨yb2, yo2, yea2, yec2, yfa2, yfc2, hiy2, hally2⟩ := ndr_at HA0.out.1 at' h HQ.out.2.2.1
 obtain ⟨xi, hxi⟩ := exa ((hold s xs).1)
 have HXI : Hid (xi = (hold s xs).1) := hxi
 rw [← hxi] at hall2
 rw [← HYI.out.1] at hally2
 have HSV : Hid (∀ V, Below (w.heap.size + 1) W V → V.cell? ⟨w.heap.size, 0, none⟩ = some (.slice a n c) ∧ V.cell? ⟨w.heap.size, 1, none⟩ = some (.int .i64 nx) ∧ V.cell? ⟨xb2, xo2, none⟩ = some (.int .i64 xi) ∧ V.cell? ⟨yb2, yo2, none⟩ = some (.int .i64 yi)) := fun V hV => by (
 obtain ⟨g0, g1, -⟩ := HSB.out W (Below.refl _ _)
 have h2 := HW.out.2.2.2.2
 have h3 : Below w0.heap.size w0 V := HW.out.2.2.2.1.trans (hV.mono (by omega))
 exact ⟨(hV.cell (p := ⟨w.heap.size, 0, none⟩) (by simp)).trans g0, (hV.cell (p := ⟨w.heap.size, 1, none⟩) (by simp)).trans g1, (hall2 V h3).1.1, (hally2 V h3).1.1⟩)
 have HWS : Hid (w.heap.size + 1 ≤ W.heap.size) := by have := HW.out.2.2.1; show w.heap.size + 1 ≤ W.heap.size; omega
 clear hix
 clear hxi hall2 hally2 h8 hdp8 hmy8
 go_wp2
 clear h8'
 refine AnyBut.begin (fun V => V.cell? ⟨w.heap.size, 0, none⟩ = some (.slice a n c) ∧ V.cell? ⟨w.heap.size, 1, none⟩ = some (.int .i64 nx) ∧ V.cell? ⟨xb2, xo2, none⟩ = some (.int .i64 xi) ∧ V.cell? ⟨yb2, yo2, none⟩ = some (.int .i64 yi)) 19 (by kernel_rfl) ?_
 obtain ⟨V0, hV0⟩ := exa (w10.drew)
 have HV0 : Hid (Below W.heap.size W V0) := by rw [hV0]; exact below_any HQ10.out (Below.refl _ w10).drew
 rw [← hV0]
 clear hV0
 have hSS := HSV.out V0 (HV0.out.mono HWS.out)
 refine tx 0 180 hSS ?_; simp only [ua,ub,uc,ud]
 refine tx 2 182 hSS ?_; simp only [ua,ub,uc,ud]
 refine tx 3 183 hSS ?_; simp only [ua,ub,uc,ud]
 refine tx 4 184 hSS ?_; simp only [ua,ub,uc,ud]
 refine tx 5 185 hSS ?_; simp only [ua,ub,uc,ud]
 refine tx 6 186 hSS ?_; simp only [ua,ub,uc,ud]
 refine tx 7 187 hSS ?_; simp only [ua,ub,uc,ud]
 refine tx 8 188 hSS ?_; simp only [ua,ub,uc,ud]
 refine tx 9 189 hSS ?_; simp only [ua,ub,uc,ud]
 refine tx 10 190 hSS ?_; simp only [ua,ub,uc,ud]
 refine tx 11 191 hSS ?_; simp only [ua,ub,uc,ud]
 refine tx 12 192 hSS ?_; simp only [ua,ub,uc,ud]
 refine tx 13 193 hSS ?_; simp only [ua,ub,uc,ud]
 refine tx 14 194 hSS ?_; simp only [ua,ub,uc,ud]
 refine tx 15 195 hSS ?_; simp only [ua,ub,uc,ud]
 refine AnyBut.step (i := 1) (by kernel_rfl) rfl (fun K hK => ?_)
 go_simp
 refine Calls.mono (HOW.out HO.out V0 HV0.out) ?_
 rintro e w11 ⟨⟨v11, rfl, hor11⟩, hb11⟩
 dsimp only
 have HQ11 : Hid (Below W.heap.size W w11 ∧ V0.heap.size ≤ w11.heap.size) := ⟨below_any HV0.out hb11, hb11.size⟩
 refine hK.out _ _ (HSV.out w11 (HQ11.out.1.mono HWS.out)) ?_
 clear hK hSS
 have HEO : Hid (EOk (lst ys, (tgt s xs).1)) := by (
 have h0 := (P.name_size HNM.out).1
 have h3 : (16 : Nat) ≤ maxLen := by decide
 have h1 := HO.out.wk.low z HZ.out.2.2.1
 have h2 := HO.out.wk.nx
 rw [HZ.out.1] at h1
 exact ⟨Nat.le_trans h0 h3, by simp only; omega, by simp only; omega⟩)
 have HCM := rmoved_any (fun k => w0.heap.size ≤ k ∧ k < V0.heap.size) V0.heap.size v11 (s := s) HO.out (xs := xs) (ys := ys) w11 HNX.out HNY.out HWZ.out HS0.out HST.out HCT.out.2.1 (by rw [ren_room HO.out HNX.out HNY.out HWZ.out HS0.out HST.out HCT.out.2.1 HNM.out, if_neg HCT.out.2.2]) HEO.out (RX.of_or hor11) hb11.size (fun k hk => by have := hb11.size; omega)
 rw [← HN.out.2, ← HXI.out, ← HYY.out, ← HQ.out.1, ← HQ.out.2.1, ← HYI.out.1] at HCM
 clear hor11 hb11
 refine AnyBut.step (i := 16) (by kernel_rfl) rfl (fun K hK => ?_)
 go_simp
 refine Calls.mono HCM ?_
 rintro e w12 ⟨⟨v12, rfl, hr12⟩, hb12⟩
 dsimp only
 have HQ12 : Hid (Below W.heap.size W w12) := HQ11.out.1.trans (hb12.mono HV0.out.size)
 refine hK.out _ _ (HSV.out w12 (HQ12.out.mono HWS.out)) ?_
 clear hK HCM hb12
 obtain ⟨a12, c12, rfl⟩ := hr12.shape
 obtain ⟨l12, hl12⟩ := exa (ren3 s xs ys)
 rw [← hl12] at hr12 ⊢
 obtain ⟨m12, hm12⟩ := exa (l12.length)
 rw [← hm12] at hr12 ⊢
 have HR12 : Hid (RX (fun k => w0.heap.size ≤ k ∧ k < V0.heap.size) V0.heap.size w12 (.slice a12 m12 c12) l12) := hr12
 have HTY : Hid (T 0 (l12, nx)) := by (
 have h9 : (l12, nx) = renS s xs ys := by
   unfold renS
   rw [if_neg HST.out, hl12, HN.out.2]
 rw [HT.out, h9]
 exact yes_told HO.out HX2.out.1 HE0.out)
 clear hr12 hl12 hm12
 obtain ⟨-, -, d0, d1, e0, e1⟩ := HSB.out w12 HQ12.out
 refine AnyBut.step (i := 17) (by kernel_rfl) rfl (fun K hK => ?_)
 go_simp
 have hb13 := HSV.out _ (below_set2 (HQ12.out.mono HWS.out) (Nat.le_refl _) (.slice a12 m12 c12) (.int .i64 nx))
 refine hK.out _ _ hb13 ?_
 clear hK
 refine AnyBut.step (i := 18) (by kernel_rfl) rfl (fun K hK => ?_)
 go_simp
 refine hK.out _ _ hb13 ?_
 clear hK hb13
 refine AnyBut.done (by kernel_rfl) ?_
 go_wp2
 refine bodyPost_ret (v := .tuple #[.agg #[.slice a12 m12 c12, .int .i64 nx], .int .i64 0]) (by simp [results, Tryz.results26, go_sem, *]) rfl (HYes.out _ _ _ _ HTY.out ?_ (below_set2 (HBW.out _ HQ12.out) (by omega) _ _))
 have h1 := HV0.out.size
 have h2 := HW.out
 have hn2 : (Value.slice a12 m12 c12).ownBlock ≠ some (w.heap.size + 1) := fun e => by have := (HR12.out.lt _ e).1; omega
 exact ((HR12.out.set ⟨by omega, by omega⟩ hn2 _ _).set ⟨by omega, by omega⟩ hn2 _ _).or (fun k k1 k2 => ⟨k1, by omega⟩) (by omega))))))
end Go.Proofs.YtkcnephbaffmbaaGreatDoor
namespace Go.Proofs.YtkcnephbaffmbaaGreatDoor
open Go.RowKit
open P (serr sval)
theorem rRename_any (n0 : Nat) (w0 : World) (a : Option Addr) (c : Nat) (s : St) (p q : ByteArray) (w : World) (hb0 : Below w0.heap.size w0 w) (hA : ndsR.lies n0 w0 [.slice a s.1.length c] s.1) (hM : FitsS s.1) :
   Calls Tryz.prog 26 #[.agg #[.slice a s.1.length c, .int .i64 s.2], .string p, .string q] w (FlatR w0.heap.size (Told s [p, q] (renE s (sval p) (sval q)) (renS s (sval p) (sval q))) w) :=
 (rRename_tells n0 w0 a c s p q w hb0 hA hM).mono fun _ _ h => h.flat
end Go.Proofs.YtkcnephbaffmbaaGreatDoor
