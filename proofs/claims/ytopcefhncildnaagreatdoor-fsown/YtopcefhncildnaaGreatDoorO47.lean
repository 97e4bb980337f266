/-
  The document's Find, two and home: what is found by a path; two paths' names; the place of a path's parent.
-/
import Derived.Test.YtopcefhncildnaaGreatDoorO44
import Derived.Test.YtopcefhncildnaaGreatDoorO45
set_option maxRecDepth 100000
set_option maxHeartbeats 8000000
namespace Go.Proofs.YtopcefhncildnaaGreatDoor
open Go.RowKit
open D (En ArgE Chk there fnd)
open P (ArgT OwnT serr sval)
theorem rfind10_any (n0 : Nat) (a : Option Addr) (c : Nat) (s : St) (p : ByteArray) (w : World) (hA : ndsR.lies n0 w [.slice a s.1.length c] s.1) (hM : FitsS s.1) :
   Calls Tryz.prog 104 #[.agg #[.slice a s.1.length c, .int .i64 s.2], .string p] w fun e w' => (∃ i k, e = .returned (.tuple #[.int .i64 i, .int .i64 k]) ∧ Found s p i k) ∧ Below w.heap.size w w' := by
 obtain ⟨post, hpost⟩ : ∃ post : Ending → World → Prop, post = fun e w' => (∃ i k, e = .returned (.tuple #[.int .i64 i, .int .i64 k]) ∧ Found s p i k) ∧ Below w.heap.size w w' := ⟨_, rfl⟩
 have HPo : Hid (∀ i k w', Found s p i k → Below w.heap.size w w' → post (.returned (.tuple #[.int .i64 i, .int .i64 k])) w') := fun i k w' h1 h2 => by rw [hpost]; exact ⟨⟨i, k, rfl, h1⟩, h2⟩
 rw [← hpost]
 clear hpost
 obtain ⟨W, hW⟩ := exa (w.alloc (.cells #[.slice a s.1.length c, .int .i64 s.2] 24))
 have hb : Below w.heap.size w W := by rw [hW]; exact (Below.refl _ w).alloc (Nat.le_refl _) _
 have HW : Hid (Below w.heap.size w W ∧ Box W w.heap.size 24 #[.slice a s.1.length c, .int .i64 s.2] ∧ ndsR.lies n0 W [.slice a s.1.length c] s.1) := ⟨hb, by rw [hW]; exact Box.new _ _ _, ndsR.below hA hb⟩
 have HC1 := rcheck10_any n0 a c s W HW.out.2.2 hM
 have HCW : Hid (Ok s → ∀ V (xs : List ByteArray) v, Below W.heap.size W V → OwnT W.heap.size V v xs → ∃ av m cv, v = .slice av m cv ∧ Calls Tryz.prog 172 #[.agg #[.slice a s.1.length c, .int .i64 s.2], .slice av m cv] V fun e w' => e = .returned (.tuple #[.int .i64 (wlk s.1 1 xs).1, .int .i64 (wlk s.1 1 xs).2]) ∧ Below V.heap.size V w') := fun hO V xs v hV hX => by
   obtain ⟨av, cv, rfl⟩ := hX.shape
   exact ⟨av, _, cv, rfl, rwalk_any n0 W.heap.size a c s hO.wk av cv xs V (ndsR.below HW.out.2.2 hV) hX.arg⟩
 obtain ⟨g0, g1, -, -⟩ := HW.out.2.1.two
 obtain ⟨n, hn⟩ := exa (s.1.length)
 obtain ⟨nx, hnx⟩ := exa (s.2)
 rw [← hn] at HW HC1 HCW hW g0 ⊢
 rw [← hnx] at HW HC1 HCW hW g1 ⊢
 rw [hW] at g0 g1
 clear hA hb hM hn hnx
 go_enter Tryz.func104, Tryz.ntmps104
 go_wp2_with fail
 rw [← hW]
 clear hW g0 g1
 refine HC1.mono ?_
 rintro e w1 ⟨⟨r, rfl, hr⟩, hb1⟩
 have HB1 : Hid (Below W.heap.size W w1) := hb1
 clear hb1 HC1
 by_cases hr0 : r = 0
 case neg => (
 have HF : Hid (Found s p 0 9) := by (
 rcases hr with ⟨_, h⟩ | ⟨h, _⟩
 · exact absurd h hr0
 · exact .inl ⟨h, rfl, rfl⟩)
 clear hr
 go_wp2
 exact HPo.out _ _ _ HF.out (below_any HW.out.1 HB1.out))
 have HO : Hid (Ok s) := by (
 rcases hr with ⟨h, _⟩ | ⟨_, h⟩
 · exact h
 · omega)
 clear hr
 subst hr0
 have HC2 := P.rsplit_any p w1
 go_wp2_with fail
 refine HC2.mono ?_
 rintro e w2 ⟨v, rfl, hO2, hb2⟩
 have HB2 : Hid (Below W.heap.size W w2 ∧ OwnT W.heap.size w2 v (sval p)) := ⟨below_any HB1.out hb2, hO2.weaken HB1.out.size⟩
 obtain ⟨av, m, cv, rfl, HC3⟩ := HCW.out HO.out w2 (sval p) v HB2.out.1 HB2.out.2
 obtain ⟨k2, hk2⟩ := exa (serr p)
 rw [← hk2]
 obtain ⟨g0, g1, -, -⟩ := (HW.out.2.1.below HB2.out.1 HW.out.2.1.lt).two
 clear hO2 hb2 HC2
 by_cases hk0 : k2 = 0
 case neg => (
 have HF : Hid (Found s p 0 k2) := .inr (.inl ⟨HO.out, by rw [← hk2]; exact hk0, rfl, hk2⟩)
 clear hk2 HC3
 go_wp2
 exact HPo.out _ _ _ HF.out (below_any HW.out.1 HB2.out.1))
 subst hk0
 have HF : Hid (∀ i k, (i, k) = wlk s.1 1 (sval p) → Found s p i k) := fun i k h => .inr (.inr ⟨HO.out, hk2.symm, by rw [← h], by rw [← h]⟩)
 obtain ⟨i3, k3, hik⟩ : ∃ i k, (i, k) = wlk s.1 1 (sval p) := ⟨_, _, rfl⟩
 have HIK : Hid ((i3, k3) = wlk s.1 1 (sval p)) := hik
 rw [← hik] at HC3
 clear hk2 hik
 go_wp2_with fail
 refine HC3.mono ?_
 rintro e w3 ⟨rfl, hb3⟩
 have HB3 : Hid (Below W.heap.size W w3) := below_any HB2.out.1 hb3
 clear hb3 HC3 g0 g1
 go_wp2
 exact HPo.out _ _ _ (HF.out _ _ HIK.out) (below_any HW.out.1 HB3.out)
theorem rhome_any (n0 n1 : Nat) (a : Option Addr) (c : Nat) (s : St) (hK : Wk s) (av : Option Addr) (cv : Nat) (xs : List ByteArray) (hne : xs ≠ []) (w : World) (hA : ndsR.lies n0 w [.slice a s.1.length c] s.1) (hX : ArgT n1 w (.slice av xs.length cv) xs) :
   Calls Tryz.prog 113 #[.agg #[.slice a s.1.length c, .int .i64 s.2], .slice av xs.length cv] w fun e w' => (∃ i x, e = .returned (.tuple #[.int .i64 i, .string x, .int .i64 (stdE s.1 xs)]) ∧ (stdE s.1 xs = 0 → i = plc s.1 (hold s xs).1 ∧ x = lst xs)) ∧ Below w.heap.size w w' := by
 obtain ⟨l, nx⟩ := s
 simp only at hA ⊢
 have h0 : 0 < xs.length := List.length_pos_iff.2 hne
 obtain ⟨post, hpost⟩ : ∃ post : Ending → World → Prop, post = fun e w' => (∃ i x, e = .returned (.tuple #[.int .i64 i, .string x, .int .i64 (stdE l xs)]) ∧ (stdE l xs = 0 → i = plc l (hold (l, nx) xs).1 ∧ x = lst xs)) ∧ Below w.heap.size w w' := ⟨_, rfl⟩
 have HPo : Hid (∀ i x k w', k = stdE l xs → (stdE l xs = 0 → i = plc l (hold (l, nx) xs).1 ∧ x = lst xs) → Below w.heap.size w w' → post (.returned (.tuple #[.int .i64 i, .string x, .int .i64 k])) w') := fun i x k w' h0 h1 h2 => by rw [hpost, h0]; exact ⟨⟨i, x, rfl, h1⟩, h2⟩
 rw [← hpost]
 clear hpost
 obtain ⟨W, hW⟩ := exa (w.alloc (.cells #[.slice a l.length c, .int .i64 nx] 24))
 have hb : Below w.heap.size w W := by rw [hW]; exact (Below.refl _ w).alloc (Nat.le_refl _) _
 have HW : Hid (Below w.heap.size w W ∧ Box W w.heap.size 24 #[.slice a l.length c, .int .i64 nx] ∧ ndsR.lies n0 W [.slice a l.length c] l) := ⟨hb, by rw [hW]; exact Box.new _ _ _, ndsR.below hA hb⟩
 obtain ⟨aa, na, ca, hna, hXA, hsl⟩ := argT_ahead hX (xs.length - 1) (by omega)
 obtain ⟨bx, ox, hixx, -, hcx⟩ := hX.at (xs.length - 1) _ (lst_at hne)
 have hna' : na = (ahd xs).length := by rw [hna]; unfold ahd; rw [List.length_take]; omega
 have hXA' : ArgT n1 w (.slice aa (ahd xs).length ca) (ahd xs) := by rw [← hna']; exact hXA
 have HCW : Hid (∀ V, Below W.heap.size W V → Calls Tryz.prog 172 #[.agg #[.slice a l.length c, .int .i64 nx], .slice aa na ca] V fun e w' => e = .returned (.tuple #[.int .i64 (wlk l 1 (ahd xs)).1, .int .i64 (wlk l 1 (ahd xs)).2]) ∧ Below V.heap.size V w') := fun V hV => by
   rw [hna']
   exact rwalk_any n0 n1 a c (l, nx) hK aa ca (ahd xs) V (ndsR.below HW.out.2.2 hV) (hXA'.below (below_any HW.out.1 hV))
 have HPL : Hid (∀ V (i : Int), Below W.heap.size W V → Calls Tryz.prog 105 #[.agg #[.slice a l.length c, .int .i64 nx], .int .i64 i] V fun e w' => e = .returned (.int .i64 (plc l i)) ∧ Below V.heap.size V w') := fun V i hV => rplace_any n0 a c l nx i V (ndsR.below HW.out.2.2 hV)
 have HXC : Hid (∀ V, Below W.heap.size W V → V.cell? ⟨bx, ox, none⟩ = some (.string (lst xs))) := fun V hV => by rw [(below_any HW.out.1 hV).cell (cell_lt hcx)]; exact hcx
 have HSB : Hid (∀ V, Below W.heap.size W V → V.cell? ⟨w.heap.size, 0, none⟩ = some (.slice a l.length c) ∧ V.cell? ⟨w.heap.size, 1, none⟩ = some (.int .i64 nx)) := fun V hV => by
   obtain ⟨g0, g1, -, -⟩ := (HW.out.2.1.below hV HW.out.2.1.lt).two
   exact ⟨g0, g1⟩
 have HK : Hid (Wk (l, nx)) := hK
 obtain ⟨n, hn⟩ := exa (l.length)
 have HN : Hid (n = l.length) := hn
 obtain ⟨m, hm⟩ := exa (xs.length)
 have hmx : m ≤ maxLen := by rw [hm]; obtain ⟨_, _, _, _, h, _⟩ := hX.shape; exact h
 unfold maxLen at hmx
 have hl1 := run_len Tryz.underlying57 av m cv
 rw [← hn] at HW HCW HPL HSB hW ⊢
 rw [← hm] at h0 hsl hixx ⊢
 rw [show ((m - 1 : Nat) : Int) = (m : Int) - 1 by omega] at hsl hixx
 obtain ⟨ly, hly⟩ := exa (lst xs)
 have HLY : Hid (ly = lst xs) := hly
 rw [← hly] at HXC
 obtain ⟨i1, k1, hik⟩ : ∃ i k, (i, k) = wlk l 1 (ahd xs) := ⟨_, _, rfl⟩
 have HIK : Hid ((i1, k1) = wlk l 1 (ahd xs)) := hik
 rw [← hik] at HCW
 have hwm : IntKind.i64.wrap ((m : Int) - 1) = (m : Int) - 1 := wrap_i64 (by omega) (by omega)
 have HS0 := HSB.out W.drew (Below.refl _ W).drew
 have HCR := HCW.out W.drew (Below.refl _ W).drew
 clear hA hb hX hXA hXA' hK hn hm hcx hly hik hne hna hna'
 go_enter Tryz.func113, Tryz.ntmps113
 go_wp2
 rw [← hW]
 clear hW
 go_region_held3 (fun U => U.cell? ⟨w.heap.size, 0, none⟩ = some (.slice a n c) ∧ U.cell? ⟨w.heap.size, 1, none⟩ = some (.int .i64 nx))
   (first | with_reducible exact HS1 | with_reducible exact HS0)
   ((first | (go_at_call 172; refine HCR.mono ?_; rintro e w1 ⟨rfl, hb1⟩; have HS1 := HSB.out w1 (below_any (Below.refl _ W).drew hb1))))
 have HB1 : Hid (Below W.heap.size W w1) := below_any (Below.refl _ W).drew hb1
 clear HS0 HS1 hb1 HCR hsl
 by_cases hk0 : k1 = 0
 case neg => (
 have HE : Hid (k1 = stdE l xs) := show k1 = stdE l xs by (
 unfold stdE
 rw [← HIK.out]
 simp only
 rw [if_neg hk0])
 go_wp2
 go_ret3
 exact HPo.out _ _ _ _ HE.out (fun h => absurd (HE.out.trans h) hk0) (below_any HW.out.1 HB1.out))
 subst hk0
 have hz : (wlk l 1 (ahd xs)).2 = 0 := by rw [← HIK.out]
 obtain ⟨p, hpl, hpi, hpg, -⟩ := wlk_in HK.out hz
 simp only at hpl hpi hpg
 rw [← HIK.out] at hpi hpg
 simp only at hpi hpg
 obtain ⟨at', hat, hpc⟩ := plc_mem HK.out.up hpl
 obtain ⟨b, o, ea, ec, fa, fc, hix, hall⟩ := ndr_at HW.out.2.2 at' p hat
 have HCP := HPL.out w1 i1 HB1.out
 rw [← hpi, hpc, hpi] at HCP
 have HP : Hid (gt l i1 = p ∧ (hold (l, nx) xs) = p ∧ plc l p.1 = (at' : Int)) := ⟨hpg, by unfold hold; simp only; rw [← HIK.out]; exact hpg, hpc⟩
 obtain ⟨pd, hpd⟩ := exa (isD p)
 have HD : Hid (pd = isD p) := hpd
 have HPD : Hid (∀ V, Below W.heap.size W V → V.cell? ⟨b, o + 1, none⟩ = some (.bool pd)) := fun V hV => by rw [hpd]; exact (hall V hV).1.2.1
 obtain ⟨g0, g1⟩ := HSB.out w1 HB1.out
 have hatn : (at' : Int) < (n : Int) := by (
 have h1 := (List.getElem?_eq_some_iff.1 hat).1
 have h2 := HN.out
 simp only at h1
 omega)
 clear hz hpl hpi hpg hat hpc hall hpd
 go_wp2_with fail
 refine HCP.mono ?_
 rintro e w2 ⟨rfl, hb2⟩
 have HB2 : Hid (Below W.heap.size W w2) := below_any HB1.out hb2
 clear hb2 HCP g0 g1
 obtain ⟨g0, g1⟩ := HSB.out w2 HB2.out
 have gd := HPD.out w2 HB2.out
 have gx := HXC.out w2 HB2.out
 cases pd
 · have HE : Hid ((103 : Int) = stdE l xs) := show (103 : Int) = stdE l xs by
     unfold stdE
     rw [← HIK.out]
     simp only
     rw [if_pos trivial, HP.out.1, if_neg (by rw [← HD.out]; decide)]
   go_wp2
   go_ret3
   exact HPo.out _ _ _ _ HE.out (fun h => absurd (HE.out.trans h) (by decide)) (below_any HW.out.1 HB2.out)
 · have HE : Hid ((0 : Int) = stdE l xs) := show (0 : Int) = stdE l xs by
     unfold stdE
     rw [← HIK.out]
     simp only
     rw [if_pos trivial, HP.out.1, if_pos HD.out.symm]
   go_wp2
   go_quiet (fail)
   go_wp2
   go_ret3
   refine HPo.out _ _ _ _ HE.out (fun h => ⟨?_, HLY.out⟩) (below_drewN (below_any HW.out.1 HB2.out) _)
   rw [HP.out.2.1]; exact HP.out.2.2.symm
end Go.Proofs.YtopcefhncildnaaGreatDoor
