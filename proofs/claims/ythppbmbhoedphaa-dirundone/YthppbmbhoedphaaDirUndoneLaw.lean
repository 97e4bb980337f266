/-
  DirUndone: for every entries and every entry the law answers true: an entry that is added and removed again, or removed and added again, leaves all as it was. No condition.
-/
import Derived.Test.YthppbmbhoedphaaLawMath
namespace Go.Proofs.Ythppbmbhoedphaa.dirUndone
open Go.ChangeShapes Go.WideShapes Go.ChangeAt Go.RowKit

set_option maxRecDepth 100000 in
set_option maxHeartbeats 4000000 in

theorem walk (v : Value) (l : List En) (us : List Value) (p : En) (w : World) (h : ArgE 0 w v l) (hf : l.length * 24 ≤ 140737488351232) (hp : enF.lies 0 w us p) : Calls Try.prog 6 #[v, .agg us.toArray] w fun e w' => e = .returned (.bool true) ∧ Below w.heap.size w w' := by
  obtain ⟨rfl, hok⟩ := en_view hp
  obtain ⟨s, x⟩ := p
  show Calls Try.prog 6 #[v, .agg #[.string s, .int .i64 x]] w _
  obtain ⟨U0, hU0⟩ : ∃ U, U = w.alloc (.cells #[.string s, .int .i64 x] 24) := ⟨_, rfl⟩
  have hb0 : Below w.heap.size w U0 := by rw [hU0]; exact (Below.refl _ w).alloc (Nat.le_refl _) _
  have KF : Hid (∀ V, Below U0.heap.size U0 V → Box V w.heap.size 24 #[.string s, .int .i64 x] ∧ ArgE 0 V v l ∧ Below w.heap.size w V) := fun V hV => by
    have hB : Box U0 w.heap.size 24 #[.string s, .int .i64 x] := by rw [hU0]; exact Box.new _ _ _
    have hbb := below_any hb0 hV
    exact ⟨hB.below hV hB.lt, h.below hbb, hbb⟩
  have HI : Hid (l.length * 24 ≤ 140737488351232 ∧ EOk (s, x) ∧ EOks l) := ⟨hf, hok, h.2⟩
  have HOF : Hid (∀ V, Below U0.heap.size U0 V → Calls Try.prog 9 #[v] V fun e w' => (∃ v', e = .returned v' ∧ OwnE 34 V.heap.size w' v' l) ∧ Below V.heap.size V w') := fun V hV => of_any 0 v l V (KF.out V hV).2.1 hf
  have HA := alive_any U0
  clear h hf hp hb0 hok
  go_enter Try.func6, Try.ntmps6
  go_wp2_with fail
  rw [← hU0]
  clear hU0
  refine HA.mono ?_
  rintro e w1 ⟨rfl, hb1⟩
  have HB1 : Hid (Below U0.heap.size U0 w1) := hb1
  obtain ⟨g0, g1, _, _⟩ := (KF.out w1 hb1).1.two
  have HS1 : w1.drew.cell? ⟨w.heap.size, 0, none⟩ = some (.string s) ∧ w1.drew.cell? ⟨w.heap.size, 1, none⟩ = some (.int .i64 x) ∧ Below U0.heap.size U0 w1.drew := ⟨g0, g1, hb1.drew⟩
  obtain ⟨E, hE⟩ : ∃ E, E = aerr l (s, x) := ⟨_, rfl⟩
  obtain ⟨R, hR⟩ : ∃ E, E = aval l (s, x) := ⟨_, rfl⟩
  have HE : Hid (E = aerr l (s, x) ∧ R = aval l (s, x)) := ⟨hE, hR⟩
  clear HA hb1 hE hR
  go_wp2
  go_region_held3 (fun w' => w'.cell? ⟨w.heap.size, 0, none⟩ = some (.string s) ∧ w'.cell? ⟨w.heap.size, 1, none⟩ = some (.int .i64 x) ∧ Below U0.heap.size U0 w')
    (first | with_reducible exact HS3 | with_reducible exact HS2 | with_reducible exact HS1)
    (first
      | (go_at_call 9
         refine (HOF.out _ HS1.2.2).mono ?_
         rintro e w2 ⟨⟨v2, rfl, hO2⟩, hb2⟩
         have HB2 : Below U0.heap.size U0 w2 := below_any HS1.2.2 hb2
         have HS2 : w2.cell? ⟨w.heap.size, 0, none⟩ = some (.string s) ∧ w2.cell? ⟨w.heap.size, 1, none⟩ = some (.int .i64 x) ∧ Below U0.heap.size U0 w2 := ⟨(KF.out w2 HB2).1.two.1, (KF.out w2 HB2).1.two.2.1, HB2⟩)
      | (go_at_call 12
         have HC3 := add_any _ v2 l (s, x) w2 hO2.arg HI.out.2.1
         rw [← HE.out.1, ← HE.out.2] at HC3
         refine HC3.mono ?_
         rintro e w3 ⟨⟨v3, rfl, hO3⟩, hb3⟩
         have HB3 : Below U0.heap.size U0 w3 := below_any HB2 hb3
         have HS3 : w3.cell? ⟨w.heap.size, 0, none⟩ = some (.string s) ∧ w3.cell? ⟨w.heap.size, 1, none⟩ = some (.int .i64 x) ∧ Below U0.heap.size U0 w3 := ⟨(KF.out w3 HB3).1.two.1, (KF.out w3 HB3).1.two.2.1, HB3⟩))
  have HB3' : Hid (Below U0.heap.size U0 w3 ∧ OwnE 34 w2.heap.size w3 v3 R) := ⟨HB3, hO3⟩
  clear HS1 HS2 HS3 HB2 HB3 hb2 hb3 hO2 hO3 g0 g1
  by_cases hE0 : E = 0
  · subst hE0
    obtain ⟨k1, k2, k3, k4, k5⟩ := undone HE.out.1.symm
    have H4 := remove_any _ v3 R s w3 HB3'.out.2.arg
    rw [HE.out.2] at H4
    rw [show rerr (aval l (s, x)) s = 0 from k1, show rval (aval l (s, x)) s = l from k2] at H4
    have HU : Hid (fno R s = x ∧ fis R s = true ∧ cerr R = 0) := by rw [HE.out.2]; exact ⟨k3, k4, k5⟩
    obtain ⟨g0, g1, _, _⟩ := (KF.out w3 HB3'.out.1).1.two
    clear k1 k2 k3 k4 k5
    go_wp2_with (go_at_call 16; refine (num_any _ _).mono ?_; rintro e w4 ⟨rfl, rfl⟩)
    clear g0 g1
    refine H4.mono ?_
    rintro e w4 ⟨⟨v4, rfl, hO4⟩, hb4⟩
    have HB4 : Hid (Below U0.heap.size U0 w4 ∧ OwnE 34 w3.heap.size w4 v4 l) := ⟨below_any HB3'.out.1 hb4, hO4⟩
    obtain ⟨g0, g1, _, _⟩ := (KF.out w4 HB4.out.1).1.two
    have H5 := find_any _ v3 R s w4 (HB3'.out.2.arg.below hb4)
    rw [HU.out.1, HU.out.2.1, HU.out.2.2] at H5
    clear H4 hO4 hb4
    go_wp2_with fail
    clear g0 g1
    refine H5.mono ?_
    rintro e w5 ⟨rfl, hb5⟩
    have HB5 : Hid (Below U0.heap.size U0 w5) := below_any HB4.out.1 hb5
    have H6 := alike_any _ 0 v4 v l l w5 (HB4.out.2.arg.below hb5) (KF.out w5 HB5.out).2.1
    rw [if_pos rfl] at H6
    clear H5 hb5
    go_wp2_with (go_at_call 16; refine (num_any _ _).mono ?_; rintro e w6 ⟨rfl, rfl⟩)
    refine H6.mono ?_
    rintro e w6 ⟨rfl, q6, hq6⟩
    have HB6 : Below U0.heap.size U0 w6 := by
      have hb6 : Below w5.heap.size w5 w6 := by rw [hq6]; exact below_drewN (Below.refl _ _) _
      exact below_any HB5.out hb6
    obtain ⟨g0, g1, _, _⟩ := (KF.out w6 HB6).1.two
    clear H6 hq6
    have HST : w6.drew.cell? ⟨w.heap.size, 0, none⟩ = some (.string s) ∧ w6.drew.cell? ⟨w.heap.size, 1, none⟩ = some (.int .i64 x) ∧ Below U0.heap.size U0 w6.drew := ⟨(KF.out w6 HB6).1.two.1, (KF.out w6 HB6).1.two.2.1, HB6.drew⟩
    obtain ⟨g0, g1, _, _⟩ := (KF.out w6 HB6).1.two
    obtain ⟨A, hA⟩ : ∃ A, A = fno l s := ⟨_, rfl⟩
    obtain ⟨C, hC⟩ : ∃ A, A = cerr l := ⟨_, rfl⟩
    obtain ⟨I, hI⟩ : ∃ A, A = fis l s := ⟨_, rfl⟩
    have HX : Hid (A = fno l s ∧ C = cerr l ∧ I = fis l s) := ⟨hA, hC, hI⟩
    clear hA hC hI
    go_wp2
    go_region_held3 (fun w' => w'.cell? ⟨w.heap.size, 0, none⟩ = some (.string s) ∧ w'.cell? ⟨w.heap.size, 1, none⟩ = some (.int .i64 x) ∧ Below U0.heap.size U0 w')
      (first | with_reducible exact HS8 | with_reducible exact HS7 | with_reducible exact HST)
      (first
        | (go_at_call 9
           refine (HOF.out _ HST.2.2).mono ?_
           rintro e w7 ⟨⟨v7, rfl, hO7⟩, hb7⟩
           have HB7 : Below U0.heap.size U0 w7 := below_any HST.2.2 hb7
           have HS7 : w7.cell? ⟨w.heap.size, 0, none⟩ = some (.string s) ∧ w7.cell? ⟨w.heap.size, 1, none⟩ = some (.int .i64 x) ∧ Below U0.heap.size U0 w7 := ⟨(KF.out w7 HB7).1.two.1, (KF.out w7 HB7).1.two.2.1, HB7⟩)
        | (go_at_call 10
           have HC8 := find_any _ v7 l s w7 hO7.arg
           rw [← HX.out.1, ← HX.out.2.1, ← HX.out.2.2] at HC8
           refine HC8.mono ?_
           rintro e w8 ⟨rfl, hb8⟩
           have HB8 : Below U0.heap.size U0 w8 := below_any HB7 hb8
           have HS8 : w8.cell? ⟨w.heap.size, 0, none⟩ = some (.string s) ∧ w8.cell? ⟨w.heap.size, 1, none⟩ = some (.int .i64 x) ∧ Below U0.heap.size U0 w8 := ⟨(KF.out w8 HB8).1.two.1, (KF.out w8 HB8).1.two.2.1, HB8⟩))
    have HB8' : Hid (Below U0.heap.size U0 w8) := HB8
    clear HS7 HS8 HST HB7 HB8 hb7 hb8 hO7 g0 g1
    cases hI : I
    · subst hI
      have hA0 : A = 0 := by rw [HX.out.1]; exact fno_none HX.out.2.2.symm
      subst hA0
      by_cases hC0 : C = 0
      · subst hC0
        go_wp2_with (go_at_call 16; refine (num_any _ _).mono ?_; rintro e w9 ⟨rfl, rfl⟩)
        go_ret
        exact ⟨rfl, (KF.out _ HB8'.out).2.2⟩
      · go_wp2_with (go_at_call 16; refine (num_any _ _).mono ?_; rintro e w9 ⟨rfl, rfl⟩)
        go_ret
        exact ⟨rfl, (KF.out _ HB8'.out).2.2⟩
    · subst hI
      obtain ⟨hc, hr, hae, hav, hmem⟩ := again HX.out.2.2.symm
      have hC0 : C = 0 := by rw [HX.out.2.1]; exact hc
      subst hC0
      have HY : Hid (rerr l s = 0 ∧ aerr (rval l s) (s, A) = 0 ∧ aval (rval l s) (s, A) = l ∧ EOk (s, A)) := ⟨hr, by rw [HX.out.1]; exact hae, by rw [HX.out.1]; exact hav, HI.out.2.2 _ (by rw [HX.out.1]; exact hmem)⟩
      have HST : w8.drew.cell? ⟨w.heap.size, 0, none⟩ = some (.string s) ∧ w8.drew.cell? ⟨w.heap.size, 1, none⟩ = some (.int .i64 x) ∧ Below U0.heap.size U0 w8.drew := ⟨(KF.out w8 HB8'.out).1.two.1, (KF.out w8 HB8'.out).1.two.2.1, HB8'.out.drew⟩
      obtain ⟨g0, g1, _, _⟩ := (KF.out w8 HB8'.out).1.two
      clear hc hr hae hav hmem
      go_wp2_with (go_at_call 16; refine (num_any _ _).mono ?_; rintro e w9 ⟨rfl, rfl⟩)
      go_region_held3 (fun w' => w'.cell? ⟨w.heap.size, 0, none⟩ = some (.string s) ∧ w'.cell? ⟨w.heap.size, 1, none⟩ = some (.int .i64 x) ∧ Below U0.heap.size U0 w')
        (first | with_reducible exact HS10 | with_reducible exact HS9 | with_reducible exact HST)
        (first
          | (go_at_call 9
             refine (HOF.out _ HST.2.2).mono ?_
             rintro e w9 ⟨⟨v9, rfl, hO9⟩, hb9⟩
             have HB9 : Below U0.heap.size U0 w9 := below_any HST.2.2 hb9
             have HS9 : w9.cell? ⟨w.heap.size, 0, none⟩ = some (.string s) ∧ w9.cell? ⟨w.heap.size, 1, none⟩ = some (.int .i64 x) ∧ Below U0.heap.size U0 w9 := ⟨(KF.out w9 HB9).1.two.1, (KF.out w9 HB9).1.two.2.1, HB9⟩)
          | (go_at_call 14
             have HC10 := remove_any _ v9 l s w9 hO9.arg
             rw [HY.out.1] at HC10
             refine HC10.mono ?_
             rintro e w10 ⟨⟨v10, rfl, hO10⟩, hb10⟩
             have HB10 : Below U0.heap.size U0 w10 := below_any HB9 hb10
             have HS10 : w10.cell? ⟨w.heap.size, 0, none⟩ = some (.string s) ∧ w10.cell? ⟨w.heap.size, 1, none⟩ = some (.int .i64 x) ∧ Below U0.heap.size U0 w10 := ⟨(KF.out w10 HB10).1.two.1, (KF.out w10 HB10).1.two.2.1, HB10⟩))
      have HB10' : Hid (Below U0.heap.size U0 w10) := HB10
      have H11 := add_any _ v10 (rval l s) (s, A) w10 hO10.arg HY.out.2.2.2
      rw [HY.out.2.1, HY.out.2.2.1] at H11
      clear HS9 HS10 HST HB9 HB10 hb9 hb10 hO9 hO10 g0 g1
      obtain ⟨g0, g1, _, _⟩ := (KF.out w10 HB10'.out).1.two
      go_wp2_with fail
      clear g0 g1
      refine H11.mono ?_
      rintro e w11 ⟨⟨v11, rfl, hO11⟩, hb11⟩
      have HB11 : Hid (Below U0.heap.size U0 w11) := below_any HB10'.out hb11
      have H12 := alike_any _ 0 v11 v l l w11 hO11.arg (KF.out w11 HB11.out).2.1
      rw [if_pos rfl] at H12
      clear H11 hO11 hb11
      go_wp2_with (go_at_call 16; refine (num_any _ _).mono ?_; rintro e w12 ⟨rfl, rfl⟩)
      refine H12.mono ?_
      rintro e w12 ⟨rfl, q12, hq12⟩
      have HB12 : Hid (Below w.heap.size w w12) := by
        have hb12 : Below w11.heap.size w11 w12 := by rw [hq12]; exact below_drewN (Below.refl _ _) _
        exact (KF.out w12 (below_any HB11.out hb12)).2.2
      clear H12 hq12
      go_wp2
      go_ret
      exact ⟨rfl, HB12.out⟩
  · have HB6 : Below U0.heap.size U0 w3 := HB3'.out.1
    go_wp2_with (go_at_call 16; refine (num_any _ _).mono ?_; rintro e w4 ⟨rfl, rfl⟩)
    have HST : w3.drew.cell? ⟨w.heap.size, 0, none⟩ = some (.string s) ∧ w3.drew.cell? ⟨w.heap.size, 1, none⟩ = some (.int .i64 x) ∧ Below U0.heap.size U0 w3.drew := ⟨(KF.out w3 HB6).1.two.1, (KF.out w3 HB6).1.two.2.1, HB6.drew⟩
    obtain ⟨g0, g1, _, _⟩ := (KF.out w3 HB6).1.two
    obtain ⟨A, hA⟩ : ∃ A, A = fno l s := ⟨_, rfl⟩
    obtain ⟨C, hC⟩ : ∃ A, A = cerr l := ⟨_, rfl⟩
    obtain ⟨I, hI⟩ : ∃ A, A = fis l s := ⟨_, rfl⟩
    have HX : Hid (A = fno l s ∧ C = cerr l ∧ I = fis l s) := ⟨hA, hC, hI⟩
    clear hA hC hI
    go_wp2
    go_region_held3 (fun w' => w'.cell? ⟨w.heap.size, 0, none⟩ = some (.string s) ∧ w'.cell? ⟨w.heap.size, 1, none⟩ = some (.int .i64 x) ∧ Below U0.heap.size U0 w')
      (first | with_reducible exact HS8 | with_reducible exact HS7 | with_reducible exact HST)
      (first
        | (go_at_call 9
           refine (HOF.out _ HST.2.2).mono ?_
           rintro e w7 ⟨⟨v7, rfl, hO7⟩, hb7⟩
           have HB7 : Below U0.heap.size U0 w7 := below_any HST.2.2 hb7
           have HS7 : w7.cell? ⟨w.heap.size, 0, none⟩ = some (.string s) ∧ w7.cell? ⟨w.heap.size, 1, none⟩ = some (.int .i64 x) ∧ Below U0.heap.size U0 w7 := ⟨(KF.out w7 HB7).1.two.1, (KF.out w7 HB7).1.two.2.1, HB7⟩)
        | (go_at_call 10
           have HC8 := find_any _ v7 l s w7 hO7.arg
           rw [← HX.out.1, ← HX.out.2.1, ← HX.out.2.2] at HC8
           refine HC8.mono ?_
           rintro e w8 ⟨rfl, hb8⟩
           have HB8 : Below U0.heap.size U0 w8 := below_any HB7 hb8
           have HS8 : w8.cell? ⟨w.heap.size, 0, none⟩ = some (.string s) ∧ w8.cell? ⟨w.heap.size, 1, none⟩ = some (.int .i64 x) ∧ Below U0.heap.size U0 w8 := ⟨(KF.out w8 HB8).1.two.1, (KF.out w8 HB8).1.two.2.1, HB8⟩))
    have HB8' : Hid (Below U0.heap.size U0 w8) := HB8
    clear HS7 HS8 HST HB7 HB8 hb7 hb8 hO7 g0 g1
    cases hI : I
    · subst hI
      have hA0 : A = 0 := by rw [HX.out.1]; exact fno_none HX.out.2.2.symm
      subst hA0
      by_cases hC0 : C = 0
      · subst hC0
        go_wp2_with (go_at_call 16; refine (num_any _ _).mono ?_; rintro e w9 ⟨rfl, rfl⟩)
        go_ret
        exact ⟨rfl, (KF.out _ HB8'.out).2.2⟩
      · go_wp2_with (go_at_call 16; refine (num_any _ _).mono ?_; rintro e w9 ⟨rfl, rfl⟩)
        go_ret
        exact ⟨rfl, (KF.out _ HB8'.out).2.2⟩
    · subst hI
      obtain ⟨hc, hr, hae, hav, hmem⟩ := again HX.out.2.2.symm
      have hC0 : C = 0 := by rw [HX.out.2.1]; exact hc
      subst hC0
      have HY : Hid (rerr l s = 0 ∧ aerr (rval l s) (s, A) = 0 ∧ aval (rval l s) (s, A) = l ∧ EOk (s, A)) := ⟨hr, by rw [HX.out.1]; exact hae, by rw [HX.out.1]; exact hav, HI.out.2.2 _ (by rw [HX.out.1]; exact hmem)⟩
      have HST : w8.drew.cell? ⟨w.heap.size, 0, none⟩ = some (.string s) ∧ w8.drew.cell? ⟨w.heap.size, 1, none⟩ = some (.int .i64 x) ∧ Below U0.heap.size U0 w8.drew := ⟨(KF.out w8 HB8'.out).1.two.1, (KF.out w8 HB8'.out).1.two.2.1, HB8'.out.drew⟩
      obtain ⟨g0, g1, _, _⟩ := (KF.out w8 HB8'.out).1.two
      clear hc hr hae hav hmem
      go_wp2_with (go_at_call 16; refine (num_any _ _).mono ?_; rintro e w9 ⟨rfl, rfl⟩)
      go_region_held3 (fun w' => w'.cell? ⟨w.heap.size, 0, none⟩ = some (.string s) ∧ w'.cell? ⟨w.heap.size, 1, none⟩ = some (.int .i64 x) ∧ Below U0.heap.size U0 w')
        (first | with_reducible exact HS10 | with_reducible exact HS9 | with_reducible exact HST)
        (first
          | (go_at_call 9
             refine (HOF.out _ HST.2.2).mono ?_
             rintro e w9 ⟨⟨v9, rfl, hO9⟩, hb9⟩
             have HB9 : Below U0.heap.size U0 w9 := below_any HST.2.2 hb9
             have HS9 : w9.cell? ⟨w.heap.size, 0, none⟩ = some (.string s) ∧ w9.cell? ⟨w.heap.size, 1, none⟩ = some (.int .i64 x) ∧ Below U0.heap.size U0 w9 := ⟨(KF.out w9 HB9).1.two.1, (KF.out w9 HB9).1.two.2.1, HB9⟩)
          | (go_at_call 14
             have HC10 := remove_any _ v9 l s w9 hO9.arg
             rw [HY.out.1] at HC10
             refine HC10.mono ?_
             rintro e w10 ⟨⟨v10, rfl, hO10⟩, hb10⟩
             have HB10 : Below U0.heap.size U0 w10 := below_any HB9 hb10
             have HS10 : w10.cell? ⟨w.heap.size, 0, none⟩ = some (.string s) ∧ w10.cell? ⟨w.heap.size, 1, none⟩ = some (.int .i64 x) ∧ Below U0.heap.size U0 w10 := ⟨(KF.out w10 HB10).1.two.1, (KF.out w10 HB10).1.two.2.1, HB10⟩))
      have HB10' : Hid (Below U0.heap.size U0 w10) := HB10
      have H11 := add_any _ v10 (rval l s) (s, A) w10 hO10.arg HY.out.2.2.2
      rw [HY.out.2.1, HY.out.2.2.1] at H11
      clear HS9 HS10 HST HB9 HB10 hb9 hb10 hO9 hO10 g0 g1
      obtain ⟨g0, g1, _, _⟩ := (KF.out w10 HB10'.out).1.two
      go_wp2_with fail
      clear g0 g1
      refine H11.mono ?_
      rintro e w11 ⟨⟨v11, rfl, hO11⟩, hb11⟩
      have HB11 : Hid (Below U0.heap.size U0 w11) := below_any HB10'.out hb11
      have H12 := alike_any _ 0 v11 v l l w11 hO11.arg (KF.out w11 HB11.out).2.1
      rw [if_pos rfl] at H12
      clear H11 hO11 hb11
      go_wp2_with (go_at_call 16; refine (num_any _ _).mono ?_; rintro e w12 ⟨rfl, rfl⟩)
      refine H12.mono ?_
      rintro e w12 ⟨rfl, q12, hq12⟩
      have HB12 : Hid (Below w.heap.size w w12) := by
        have hb12 : Below w11.heap.size w11 w12 := by rw [hq12]; exact below_drewN (Below.refl _ _) _
        exact (KF.out w12 (below_any HB11.out hb12)).2.2
      clear H12 hq12
      go_wp2
      go_ret
      exact ⟨rfl, HB12.out⟩

set_option maxRecDepth 100000 in
theorem lifted (os : Os) (started : os.Started) (H : Type) (enc : TypeId × Value → H) :
    ReturnsInHanded {} Try.checked os 6 .any (Rows.dirUndoneSpec.pre6 enc Try.prog Try.f6 Rows.dirUndoneRow.domain false) (Rows.dirUndoneSpec.post enc Try.prog Try.f6 false true false false) := by
  refine returnsInHanded_of_change_sized (C := Try.checked) own started (by kernel_rfl) Try.func6
    (ChangeSpec.witness6 (enc := enc) (C := Try.checked) false ⟨#[], #[.slice none 0 0, .agg #[.string ⟨#[]⟩, .int .i64 0]], []⟩ 8 (by kernel_rfl) (by kernel_rfl) (by kernel_rfl) (by kernel_rfl)) ?_
  intro W base args ds gs before hval0 hW hcnd hsz0 _
  have hval : ∀ (j : Nat) t v, Try.f6.params[j]? = some t → args[j]? = some v → Value.okWide Try.prog W .any base t v := hval0
  have hW' := hW
  obtain ⟨p, q, hA0, hV, rfl, hfz, hnd⟩ := hW
  have hA : DataW.TrodAll enc Try.prog W 0 (fun _ => true) true Try.f6.params.toList args.toList ds p := hA0
  have hsz : (DataW.weightsEach Try.prog (Try.f6.params.toList ++ Rows.dirUndoneSpec.plain.varTypes Try.prog) (ds ++ gs)).all (· ≤ reachBytes) = true := hsz0
  clear hsz0
  rw [Try.params6] at hA hval hsz
  obtain ⟨v0, vs0, d0, ds0, p0, q0, hargs, rfl, rfl, h0, r0⟩ := trodAll_cons hA
  obtain ⟨v1, vs1, d1, ds1, p1, q1, rfl, rfl, rfl, h1, r1⟩ := trodAll_cons r0
  obtain ⟨rfl, rfl, rfl⟩ := trodAll_nil r1
  obtain rfl : args = #[v0, v1] := by cases args; simp_all
  obtain ⟨rfl, rfl⟩ := trodVars_none hV
  obtain ⟨x0, len0, cap0, rfl⟩ := okWide_slice Try.underlying22 (hval 0 22 v0 rfl rfl)
  have k0 := h0
  have lt0 : ∀ x ∈ p0, x.block < W.heap.size := by obtain ⟨m, hm⟩ := k0; exact DataW.trod_lt m _ _ _ hm
  obtain ⟨m0, hm0⟩ := h0
  obtain ⟨s0, A0, F0'⟩ := ensR.reads hm0
  have F0 := F0' fun n hn => by have := List.all_eq_true.1 hsz _ (DataW.weights_mem_each (j := 0) rfl rfl n hn); simpa using this
  obtain ⟨cs1, rfl, hc1⟩ := okWide_struct Try.underlying24 (hval 1 24 v1 rfl rfl)
  obtain ⟨us1, rfl⟩ := as_list cs1
  have k1 := h1
  have lt1 : ∀ x ∈ p1, x.block < W.heap.size := by obtain ⟨m, hm⟩ := k1; exact DataW.trod_lt m _ _ _ hm
  obtain ⟨m1, hm1⟩ := h1
  obtain ⟨s1, A1, F1'⟩ := enR.reads hm1
  have F1 := F1' fun n hn => by have := List.all_eq_true.1 hsz _ (DataW.weights_mem_each (j := 1) rfl rfl n hn); simpa using this
  clear hA0 hval0
  refine (walk _ s0 us1 s1 W (args_of A0) (fits_of F0) A1).mono fun e W' ⟨he, bel⟩ => ?_
  subst he
  exact ⟨_, rfl, _, _, _, [], _, [], hW', trodAll_mk1 (shut_bool Try.underlying4 _), (trodAll_cons_mk (Below.trod laidOut (by kernel_rfl) (of_decide_eq_true (by kernel_rfl)) k0 bel lt0) (trodAll_cons_mk (Below.trod laidOut (by kernel_rfl) (of_decide_eq_true (by kernel_rfl)) k1 bel lt1) trodAll_mk0)), rfl, bel.frame _, fun h => by cases h⟩

theorem over : Rows.dirUndoneRow.holds Try.pinned (OpenSpec.ofChange Rows.dirUndoneSpec) :=
  OpenClaim.holds_of_wide 6 Try.f6 rfl rfl rfl rfl rfl rfl rfl ⟨rfl, rfl, rfl, rfl, rfl⟩ rfl rfl rfl rfl rfl (by kernel_rfl) Try.func6 (by kernel_rfl)
    (of_decide_eq_true (by kernel_rfl)) (by unfold Func.isWrapper; first | (rw [if_pos (by decide +kernel)]; kernel_rfl) | (rw [if_neg (by decide +kernel)]; exact ⟨rfl, rfl⟩))
    (fun os started H enc _ => lifted os started H enc)

end Go.Proofs.Ythppbmbhoedphaa.dirUndone

namespace Go.Proofs.Ythppbmbhoedphaa
theorem dirUndone_holds : Rows.DirUndoneSaid := dirUndone.over
#print axioms dirUndone_holds
end Go.Proofs.Ythppbmbhoedphaa
