/-
  The document's Find, two and home: what is found by a path; two paths' names; the place of a path's parent.
-/
import Derived.Test.YtkcnephbaffmbaaGreatDoorJ45
import Derived.Test.YtkcnephbaffmbaaGreatDoorJ46
set_option maxRecDepth 100000
set_option maxHeartbeats 8000000
namespace Go.Proofs.YtkcnephbaffmbaaGreatDoor
open Go.RowKit
open D (En ArgE Chk there fnd)
open P (ArgT OwnT serr sval)
theorem rfind10_any (n0 : Nat) (a : Option Addr) (c : Nat) (s : St) (p : ByteArray) (w : World) (hA : ndsR.lies n0 w [.slice a s.1.length c] s.1) (hM : FitsS s.1) :
   Calls Tryz.prog 11 #[.agg #[.slice a s.1.length c, .int .i64 s.2], .string p] w fun e w' => (∃ i k, e = .returned (.tuple #[.int .i64 i, .int .i64 k]) ∧ Found s p i k) ∧ Below w.heap.size w w' := by
 obtain ⟨post, hpost⟩ : ∃ post : Ending → World → Prop, post = fun e w' => (∃ i k, e = .returned (.tuple #[.int .i64 i, .int .i64 k]) ∧ Found s p i k) ∧ Below w.heap.size w w' := ⟨_, rfl⟩
 have HPo : Hid (∀ i k w', Found s p i k → Below w.heap.size w w' → post (.returned (.tuple #[.int .i64 i, .int .i64 k])) w') := fun i k w' h1 h2 => by rw [hpost]; exact ⟨⟨i, k, rfl, h1⟩, h2⟩
 rw [← hpost]
 clear hpost
 obtain ⟨W, hW⟩ := exa (w.alloc (.cells #[.slice a s.1.length c, .int .i64 s.2] 24))
 have hb : Below w.heap.size w W := by rw [hW]; exact (Below.refl _ w).alloc (Nat.le_refl _) _
 have HW : Hid (Below w.heap.size w W ∧ Box W w.heap.size 24 #[.slice a s.1.length c, .int .i64 s.2] ∧ ndsR.lies n0 W [.slice a s.1.length c] s.1) := ⟨hb, by rw [hW]; exact Box.new _ _ _, ndsR.below hA hb⟩
 have HC1 := rcheck10_any n0 a c s W HW.out.2.2 hM
 have HCW : Hid (Ok s → ∀ V (xs : List ByteArray) v, Below W.heap.size W V → OwnT W.heap.size V v xs → ∃ av m cv, v = .slice av m cv ∧ Calls Tryz.prog 49 #[.agg #[.slice a s.1.length c, .int .i64 s.2], .slice av m cv] V fun e w' => e = .returned (.tuple #[.int .i64 (wlk s.1 1 xs).1, .int .i64 (wlk s.1 1 xs).2]) ∧ Below V.heap.size V w') := fun hO V xs v hV hX => by
   obtain ⟨av, cv, rfl⟩ := hX.shape
   exact ⟨av, _, cv, rfl, rwalk_any n0 W.heap.size a c s hO.wk av cv xs V (ndsR.below HW.out.2.2 hV) hX.arg⟩
 obtain ⟨g0, g1, -, -⟩ := HW.out.2.1.two
 obtain ⟨n, hn⟩ := exa (s.1.length)
 obtain ⟨nx, hnx⟩ := exa (s.2)
 rw [← hn] at HW HC1 HCW hW g0 ⊢
 rw [← hnx] at HW HC1 HCW hW g1 ⊢
 rw [hW] at g0 g1
 clear hA hb hM hn hnx
 go_enter Tryz.func11, Tryz.ntmps11
 go_wp2_with fail
 rw [← hW]
 clear hW g0 g1
 refine HC1.mono ?_
 rintro e w1 ⟨⟨r, rfl, hr⟩, hb1⟩
 have HB1 : Hid (Below W.heap.size W w1) := hb1
 clear hb1 HC1
 by_cases hr0 : r = 0
 case neg => (
 have HF : Hid (Found s p 0 9) := by (
 rcases hr with ⟨_, h⟩ | ⟨h, _⟩
 · exact absurd h hr0
 · exact .inl ⟨h, rfl, rfl⟩)
 clear hr
 go_wp2
 exact HPo.out _ _ _ HF.out (below_any HW.out.1 HB1.out))
 have HO : Hid (Ok s) := by (
 rcases hr with ⟨h, _⟩ | ⟨_, h⟩
 · exact h
 · omega)
 clear hr
 subst hr0
 have HC2 := P.rsplit_any p w1
 go_wp2_with fail
 refine HC2.mono ?_
 rintro e w2 ⟨v, rfl, hO2, hb2⟩
 have HB2 : Hid (Below W.heap.size W w2 ∧ OwnT W.heap.size w2 v (sval p)) := ⟨below_any HB1.out hb2, hO2.weaken HB1.out.size⟩
 obtain ⟨av, m, cv, rfl, HC3⟩ := HCW.out HO.out w2 (sval p) v HB2.out.1 HB2.out.2
 obtain ⟨k2, hk2⟩ := exa (serr p)
 rw [← hk2]
 obtain ⟨g0, g1, -, -⟩ := (HW.out.2.1.below HB2.out.1 HW.out.2.1.lt).two
 clear hO2 hb2 HC2
 by_cases hk0 : k2 = 0
 case neg => (
 have HF : Hid (Found s p 0 k2) := .inr (.inl ⟨HO.out, by rw [← hk2]; exact hk0, rfl, hk2⟩)
 clear hk2 HC3
 go_wp2
 exact HPo.out _ _ _ HF.out (below_any HW.out.1 HB2.out.1))
 subst hk0
 have HF : Hid (∀ i k, (i, k) = wlk s.1 1 (sval p) → Found s p i k) := fun i k h => .inr (.inr ⟨HO.out, hk2.symm, by rw [← h], by rw [← h]⟩)
 obtain ⟨i3, k3, hik⟩ : ∃ i k, (i, k) = wlk s.1 1 (sval p) := ⟨_, _, rfl⟩
 have HIK : Hid ((i3, k3) = wlk s.1 1 (sval p)) := hik
 rw [← hik] at HC3
 clear hk2 hik
 go_wp2_with fail
 refine HC3.mono ?_
 rintro e w3 ⟨rfl, hb3⟩
 have HB3 : Hid (Below W.heap.size W w3) := below_any HB2.out.1 hb3
 clear hb3 HC3 g0 g1
 go_wp2
 exact HPo.out _ _ _ (HF.out _ _ HIK.out) (below_any HW.out.1 HB3.out)
end Go.Proofs.YtkcnephbaffmbaaGreatDoor
