/-
  NetOwn, proved: for every network and packet of the document and number (as great as the form reads them): the call returns true, and changes nothing that was in memory. No condition of its own.
-/
import Derived.Test.YtpecniajamgjiaaRefTake
import Derived.Test.YtpecniajamgjiaaRefSend
import Derived.Test.YtpecniajamgjiaaSameSt
import Derived.Test.YtpecniajamgjiaaAlive
import Derived.Test.YtpecniajamgjiaaFrame
import Derived.Test.YtpecniajamgjiaaPair
import Derived.Test.YtpecniajamgjiaaSpoil2
namespace Go.Proofs.Ytpecniajamgjiaa.netOwn
open Go.ChangeShapes Go.WideShapes Go.ChangeAt Go.RowKit
set_option linter.unusedVariables false

attribute [local go_sem ↓] Go.wp_at_zero Go.wp_at_succ

set_option maxRecDepth 100000 in
set_option maxHeartbeats 8000000 in
theorem walk (us ps : List Value) (s : St) (p : Pk) (k : Int) (w : World) (h : stR.lies 0 w us s) (hf : Fits s) (hp : pkF.lies 0 w ps p) (hpf : p.2.2.length ≤ 140737488351232) (hk : I64 k) :
    Calls Try.prog 6 #[.agg us.toArray, .agg ps.toArray, .int .i64 k] w fun e w' => e = .returned (.bool true) ∧ Below w.heap.size w w' := by
  obtain ⟨a, c, rfl, hL, hi, hm⟩ := st_viewR h
  obtain ⟨ax, cx, rfl, hA, hff, htt⟩ := pk_view hp
  obtain ⟨lim, l⟩ := s
  obtain ⟨pf, pt, pd⟩ := p
  simp only at hL hi hm hA hff htt hpf
  obtain ⟨n, hn⟩ : ∃ n, n = l.length := ⟨_, rfl⟩
  obtain ⟨m, hm'⟩ : ∃ m, m = pd.length := ⟨_, rfl⟩
  have HN : Hid (n = l.length ∧ m = pd.length) := ⟨hn, hm'⟩
  have HD : Hid (stR.lies 0 w [.int .i64 lim, .slice a n c] (lim, l) ∧ pkF.lies 0 w [.int .i64 pf, .int .i64 pt, .slice ax m cx] (pf, pt, pd) ∧ Fits (lim, l) ∧ pd.length ≤ 140737488351232) := by
    rw [hn, hm']; exact ⟨h, hp, hf, hpf⟩
  simp only
  rw [← hn, ← hm']
  clear h hL hi hm hA hff htt hp hn hm' hf hpf
  go_enter Try.func6, Try.ntmps6
  go_wp2_with fail
  refine (alive_any _).mono ?_
  rintro e w1 ⟨rfl, hb1⟩
  have hb0 : Below w.heap.size w ((w.alloc (.cells #[.int .i64 lim, .slice a n c] 24)).alloc (.cells #[.int .i64 pf, .int .i64 pt, .slice ax m cx] 27)) := ((Below.refl _ w).alloc (Nat.le_refl _) _).alloc (by simp) _
  have hS1 : Box w1 w.heap.size 24 #[.int .i64 lim, .slice a n c] := ((Box.new w 24 _).alloc _).below hb1 (by simp; omega)
  have hP1 : Box w1 (w.heap.size + 1) 27 #[.int .i64 pf, .int .i64 pt, .slice ax m cx] := by
    have := Box.new (w.alloc (.cells #[.int .i64 lim, .slice a n c] 24)) 27 #[.int .i64 pf, .int .i64 pt, .slice ax m cx]
    rw [World.size_alloc] at this
    exact this.below hb1 (by simp)
  have HB1 : Hid (Box w1 w.heap.size 24 #[.int .i64 lim, .slice a n c] ∧ Box w1 (w.heap.size + 1) 27 #[.int .i64 pf, .int .i64 pt, .slice ax m cx] ∧ Below w.heap.size w w1) := ⟨hS1, hP1, below_any hb0 hb1⟩
  have HC1 : Hid (∀ w', Below w1.heap.size w1 w' → Calls Try.prog 7 #[.agg #[.int .i64 lim, .slice a n c]] w' fun e w'' => (∃ us', e = .returned (.agg us'.toArray) ∧ stN.owns w'.heap.size w'' us' (lim, l)) ∧ Below w'.heap.size w' w'') := fun w' hw =>
    of_any 0 [.int .i64 lim, .slice a n c] (lim, l) w' (stR.below HD.out.1 (below_any HB1.out.2.2 hw)) HD.out.2.2.1
  have HC2 : Hid (∀ w', Below w1.heap.size w1 w' → Calls Try.prog 8 #[.agg #[.int .i64 pf, .int .i64 pt, .slice ax m cx]] w' fun e w'' => (∃ us', e = .returned (.agg us'.toArray) ∧ pkF.owns w'.heap.size w'' us' (pf, pt, pd)) ∧ Below w'.heap.size w' w'') := fun w' hw =>
    one_any 0 [.int .i64 pf, .int .i64 pt, .slice ax m cx] (pf, pt, pd) w' (pkF.keep HD.out.2.1 (.of_below (below_any HB1.out.2.2 hw))) (by have := HD.out.2.2.2; simp only; omega)
  obtain ⟨g0, g1, _, _⟩ := hS1.two
  obtain ⟨g2, g3, g4, _⟩ := hP1.three
  clear hb0 hb1 hS1 hP1
  have HLT : Hid (w.heap.size + 1 < w1.heap.size) := HB1.out.2.1.lt
  have hlt0 : w.heap.size < w1.heap.size := by have := HLT.out; omega
  have hlt1 : w.heap.size + 1 < w1.heap.size := HLT.out
  have HOS : OS w1 w.heap.size lim a n c pf pt ax m cx w1 := ⟨g0, g1, g2, g3, g4, Below.refl _ w1⟩
  go_wp2
  refine wp_mono (Q := fun e a' w' => e = .normal ∧ ∃ (Bx By : Nat) (xa ya : Option Addr) (xc yc : Nat), a' = { tmps := #[.agg #[.int .i64 lim, .slice a n c], .agg #[.int .i64 pf, .int .i64 pt, .slice ax m cx], .int .i64 k, .pointer (some ⟨w.heap.size, 0, none⟩), .pointer (some ⟨w.heap.size + 1, 0, none⟩), undef, .bool false, .pointer (some ⟨Bx, 0, none⟩), .pointer (some ⟨By, 0, none⟩), undef, undef, undef, undef, undef, undef, undef, undef, undef, undef, undef, undef, undef, .bool true, .bool false, .agg #[.int .i64 lim, .slice a n c], .agg #[.int .i64 lim, .slice xa n xc], .agg #[.int .i64 pf, .int .i64 pt, .slice ax m cx], .agg #[.int .i64 pf, .int .i64 pt, .slice ya m yc], undef, undef, undef, undef, undef, undef, undef, undef, undef, undef, undef, undef, undef, undef, undef, undef, undef, undef, undef, undef, undef, undef, undef, undef, undef, undef, undef, undef, undef, undef, undef, undef, undef, undef, undef, undef, undef, undef, undef, undef, undef, undef, undef, undef, undef, undef, undef, undef, undef, undef, undef, undef, undef, undef, undef, undef, undef, undef, undef, undef, undef, undef, undef, undef, undef, undef, undef, undef, undef, undef], defers := [] } ∧
    Box w' Bx 30 #[.int .i64 lim, .slice xa n xc] ∧ Box w' By 32 #[.int .i64 pf, .int .i64 pt, .slice ya m yc] ∧ stN.owns w1.heap.size w' [.int .i64 lim, .slice xa n xc] (lim, l) ∧ pkF.owns w1.heap.size w' [.int .i64 pf, .int .i64 pt, .slice ya m yc] (pf, pt, pd) ∧ Below w1.heap.size w1 w') ?_ ?_
  · go_region_held3 (fun w' => w'.cell? ⟨w.heap.size, 0, none⟩ = some (.int .i64 lim) ∧ w'.cell? ⟨w.heap.size, 1, none⟩ = some (.slice a n c) ∧ w'.cell? ⟨w.heap.size + 1, 0, none⟩ = some (.int .i64 pf) ∧ w'.cell? ⟨w.heap.size + 1, 1, none⟩ = some (.int .i64 pt) ∧ w'.cell? ⟨w.heap.size + 1, 2, none⟩ = some (.slice ax m cx) ∧ Below w1.heap.size w1 w')
      (first | with_reducible exact HOS.drew | with_reducible exact HOS.alloc.drew | with_reducible exact HOS.alloc.alloc.drew | with_reducible exact OS.alloc (by assumption) | with_reducible exact Q4 | with_reducible exact OS.through (by assumption) hb3 | (repeat (first | with_reducible exact Q4 | with_reducible refine OS.set hlt1 (by first | omega | (simp; omega)) ?_ | with_reducible refine OS.alloc ?_)))
      (first
        | (go_simp
           with_reducible refine Calls.mono (HC1.out _ ?_) ?_
           · exact OS.below (by assumption)
           rintro e w3 ⟨⟨u3, rfl, hO3⟩, hb3⟩
           obtain ⟨xa, xc, hu3, hO3', _⟩ := st_ownN hO3
           simp only at hu3
           rw [← HN.out.1] at hu3
           subst hu3
           have z3 := hb3.size
           try simp at z3
           first
             | (with_reducible have X1 := new2d hb3
                with_reducible have X2 := new1d hb3)
             | (with_reducible have X1 := new1d hb3)
             | skip
           try simp only [World.size_alloc] at X2)
        | (go_simp
           with_reducible refine Calls.mono (HC2.out _ ?_) ?_
           · exact OS.below (by assumption)
           rintro e w4 ⟨⟨u4, rfl, hO4⟩, hb4⟩
           obtain ⟨ya, yc, hu4, hO4', _⟩ := pk_own hO4
           simp only at hu4
           rw [← HN.out.2] at hu4
           subst hu4
           have Q4 : OS w1 w.heap.size lim a n c pf pt ax m cx w4 := OS.through (by assumption) hb4
           have z4 := hb4.size
           try simp at z4
           first
             | (with_reducible have Y1 := Box.through X1 hb4
                with_reducible have Y2 := Box.through X2 hb4)
             | (with_reducible have Y1 := Box.through (X1.alloc _) hb4
                with_reducible have Y2 := new1 hb4)
             | (with_reducible have Y1 := Box.through X1 hb4)
             | (with_reducible have Y1 := new2 hb4
                with_reducible have Y2 := new1 hb4)
             | (with_reducible have Y1 := new1 hb4)
             | skip
           try simp only [World.size_alloc] at Y2
           try simp only [World.size_alloc] at Y1
           try first
             | (have F1 := Y1.two; have F2 := fun o => (Y1.alloc o).two; have F3 := fun o o' => ((Y1.alloc o).alloc o').two)
             | (have F1 := Y1.three; have F2 := fun o => (Y1.alloc o).three; have F3 := fun o o' => ((Y1.alloc o).alloc o').three)
           try first
             | (have F4 := Y2.two; have F5 := fun o => (Y2.alloc o).two; have F6 := fun o o' => ((Y2.alloc o).alloc o').two)
             | (have F4 := Y2.three; have F5 := fun o => (Y2.alloc o).three; have F6 := fun o o' => ((Y2.alloc o).alloc o').three)
           try (have N1 := Box.ne Y1 Y2 (by decide); have N2 := N1.symm)
           try (have N3 := Nat.ne_of_lt Y1.lt; have N4 := N3.symm; have N5 := Y1.lt)
           try (have N6 := Nat.ne_of_lt Y2.lt; have N7 := N6.symm; have N8 := Y2.lt)))
    all_goals
      refine ⟨rfl, _, _, _, _, _, _, rfl, ?_, ?_, ?_, ?_, OS.below (by assumption)⟩
      · first | with_reducible exact Box.new' (by first | rfl | (simp; done) | (simp [World.setCell]; done)) | with_reducible exact Box.alloc (Box.new' (by first | rfl | (simp; done) | (simp [World.setCell]; done))) _ | with_reducible exact Box.alloc (Box.pair Y1) _ | with_reducible exact Box.other (Box.other (Box.other (Box.pair Y1) (by first | assumption | omega)) (by first | assumption | omega)) (by first | assumption | omega) | with_reducible exact Box.alloc (Box.pair Y2) _ | with_reducible exact Box.other (Box.other (Box.other (Box.pair Y2) (by first | assumption | omega)) (by first | assumption | omega)) (by first | assumption | omega)
      · first | with_reducible exact Box.new' (by first | rfl | (simp; done) | (simp [World.setCell]; done)) | with_reducible exact Box.alloc (Box.new' (by first | rfl | (simp; done) | (simp [World.setCell]; done))) _ | with_reducible exact Box.alloc (Box.triple Y1) _ | with_reducible exact Box.triple (Box.other (Box.other Y1 (by first | assumption | omega)) (by first | assumption | omega)) | with_reducible exact Box.alloc (Box.triple Y2) _ | with_reducible exact Box.triple (Box.other (Box.other Y2 (by first | assumption | omega)) (by first | assumption | omega))
      · refine stN.oweaken (Mid.own stN hO3 rfl ?_) (by first | exact Nat.le_refl _ | (simp; done) | (simp; omega))
        (repeat (first | with_reducible exact Mid.refl _ _ _ | with_reducible refine Mid.set ?_ (by first | omega | (simp; done) | (simp; omega)) | with_reducible refine Mid.through ?_ hb4 (by first | omega | (simp; done) | (simp; omega)) | with_reducible refine Mid.alloc ?_ (by first | omega | (simp; done) | (simp; omega) | (simp [World.setCell]; done) | (simp [World.setCell]; omega))))
      · refine pkF.oweaken (pkF.osame hO4 (fun k h1 h2 => (?_ : Mid _ w4.heap.size w4 _) k h1 h2)) (by first | omega | (simp; done) | (simp; omega))
        (repeat (first | with_reducible exact Mid.refl _ _ _ | with_reducible refine Mid.set ?_ (by first | omega | (simp; done) | (simp; omega)) | with_reducible refine Mid.through ?_ hb4 (by first | omega | (simp; done) | (simp; omega)) | with_reducible refine Mid.alloc ?_ (by first | omega | (simp; done) | (simp; omega) | (simp [World.setCell]; done) | (simp [World.setCell]; omega))))
  rintro e a' w5 ⟨rfl, Bx, By, xa, ya, xc, yc, rfl, hBX, hBY, hOX, hOY, hb5⟩
  have HB5 : Hid (Box w5 Bx 30 #[.int .i64 lim, .slice xa n xc] ∧ Box w5 By 32 #[.int .i64 pf, .int .i64 pt, .slice ya m yc] ∧ stN.owns w1.heap.size w5 [.int .i64 lim, .slice xa n xc] (lim, l) ∧ pkF.owns w1.heap.size w5 [.int .i64 pf, .int .i64 pt, .slice ya m yc] (pf, pt, pd) ∧ Below w1.heap.size w1 w5) := ⟨hBX, hBY, hOX, hOY, hb5⟩
  obtain ⟨q0, q1, _, _⟩ := hBX.two
  obtain ⟨q2, q3, q4, _⟩ := hBY.three
  clear g0 g1 g2 g3 g4 HOS hlt0 hlt1 hBX hBY hOX hOY hb5 HC1 HC2
  obtain ⟨SE, hSE⟩ : ∃ x, x = serr (lim, l) (pf, pt, pd) := ⟨_, rfl⟩
  obtain ⟨SI, hSI⟩ : ∃ x, x = sis (lim, l) (pf, pt, pd) := ⟨_, rfl⟩
  obtain ⟨TE, hTE⟩ : ∃ x, x = terr (lim, l) k := ⟨_, rfl⟩
  obtain ⟨S1, hS1⟩ : ∃ x, x = sst (lim, l) (pf, pt, pd) := ⟨_, rfl⟩
  obtain ⟨S2, hS2⟩ : ∃ x, x = tst (lim, l) k := ⟨_, rfl⟩
  obtain ⟨P2, hP2⟩ : ∃ x, x = tpk (lim, l) k := ⟨_, rfl⟩
  have HA : Hid (∀ w', Below w5.heap.size w5 w' → Calls Try.prog 9 #[.agg #[.int .i64 lim, .slice xa n xc], .agg #[.int .i64 pf, .int .i64 pt, .slice ya m yc]] w' fun e w'' => (∃ us', e = .returned (.tuple #[.agg us'.toArray, .bool SI, .int .i64 SE]) ∧ stN.owns w'.heap.size w'' us' S1) ∧ Below w'.heap.size w' w'') := fun w' hw => by
    rw [hSE, hSI, hS1]
    exact send_any w1.heap.size w1.heap.size [.int .i64 lim, .slice xa n xc] [.int .i64 pf, .int .i64 pt, .slice ya m yc] _ _ w' (stN.below (stN.olies HB5.out.2.2.1) hw) (pkF.keep (pkF.olies HB5.out.2.2.2.1) (.of_below hw))
  have HBB : Hid (∀ w', Below w.heap.size w w' → Calls Try.prog 10 #[.agg #[.int .i64 lim, .slice a n c], .agg #[.int .i64 pf, .int .i64 pt, .slice ax m cx]] w' fun e w'' => (∃ us', e = .returned (.tuple #[.agg us'.toArray, .bool SI, .int .i64 SE]) ∧ stR.owns w'.heap.size w'' us' S1) ∧ Below w'.heap.size w' w'') := fun w' hw => by
    rw [hSE, hSI, hS1]
    exact rsend_any 0 0 [.int .i64 lim, .slice a n c] [.int .i64 pf, .int .i64 pt, .slice ax m cx] _ _ w' (stR.below HD.out.1 hw) (pkF.keep HD.out.2.1 (.of_below hw))
  have HCC : Hid (∀ w', Below w5.heap.size w5 w' → Calls Try.prog 11 #[.agg #[.int .i64 lim, .slice xa n xc], .int .i64 k] w' fun e w'' => (∃ us' ps', e = .returned (.tuple #[.agg us'.toArray, .agg ps'.toArray, .int .i64 TE]) ∧ stN.owns w'.heap.size w'' us' S2 ∧ pkF.owns w'.heap.size w'' ps' P2) ∧ Below w'.heap.size w' w'') := fun w' hw => by
    rw [hTE, hS2, hP2]
    exact take_any w1.heap.size [.int .i64 lim, .slice xa n xc] _ k w' (stN.below (stN.olies HB5.out.2.2.1) hw) hk
  have HDD : Hid (∀ w', Below w.heap.size w w' → Calls Try.prog 12 #[.agg #[.int .i64 lim, .slice a n c], .int .i64 k] w' fun e w'' => (∃ us' ps', e = .returned (.tuple #[.agg us'.toArray, .agg ps'.toArray, .int .i64 TE]) ∧ stR.owns w'.heap.size w'' us' S2 ∧ pkF.owns w'.heap.size w'' ps' P2) ∧ Below w'.heap.size w' w'') := fun w' hw => by
    rw [hTE, hS2, hP2]
    exact rtake_any 0 [.int .i64 lim, .slice a n c] _ k w' (stR.below HD.out.1 hw) hk
  clear hSE hSI hTE hS1 hS2 hP2
  go_wp2_with fail
  refine (HA.out w5 (Below.refl _ _)).mono ?_
  rintro e w6 ⟨⟨u6, rfl, hO6⟩, hb6⟩
  obtain ⟨a6, c6, rfl, _⟩ := st_ownN hO6
  obtain ⟨W6, hW6⟩ : ∃ W, W = w6.alloc (.cells #[.int .i64 S1.1, .slice a6 S1.2.length c6] 30) := ⟨_, rfl⟩
  have hbW6 : Below w5.heap.size w5 W6 := by rw [hW6]; exact hb6.alloc hb6.size _
  have HB6 : Hid (Below w5.heap.size w5 W6 ∧ Below w.heap.size w W6 ∧ Box W6 w6.heap.size 30 #[.int .i64 S1.1, .slice a6 S1.2.length c6] ∧ stN.owns w5.heap.size W6 [.int .i64 S1.1, .slice a6 S1.2.length c6] S1 ∧ w5.heap.size ≤ w6.heap.size) :=
    ⟨hbW6, below_any (below_any HB1.out.2.2 HB5.out.2.2.2.2) hbW6, by rw [hW6]; exact Box.new _ _ _, by rw [hW6]; exact stN.osame hO6 (.alloc _ _ _), hb6.size⟩
  obtain ⟨r0, r1, _, _⟩ := (HB1.out.1.below HB5.out.2.2.2.2 HB1.out.1.lt).below hbW6 (HB1.out.1.below HB5.out.2.2.2.2 HB1.out.1.lt).lt |>.two
  obtain ⟨r2, r3, r4, _⟩ := (HB1.out.2.1.below HB5.out.2.2.2.2 HB1.out.2.1.lt).below hbW6 (HB1.out.2.1.below HB5.out.2.2.2.2 HB1.out.2.1.lt).lt |>.three
  rw [hW6] at r0 r1 r2 r3 r4
  clear hO6 hb6 hbW6 q0 q1 q2 q3 q4
  dsimp only
  go_wp2_with fail
  rw [← hW6]
  clear hW6 r0 r1 r2 r3 r4
  refine (HBB.out W6 HB6.out.2.1).mono ?_
  rintro e w7 ⟨⟨u7, rfl, hO7⟩, hb7⟩
  obtain ⟨a7, c7, rfl, _⟩ := st_ownR hO7
  obtain ⟨W7, hW7⟩ : ∃ W, W = w7.alloc (.cells #[.int .i64 S1.1, .slice a7 S1.2.length c7] 24) := ⟨_, rfl⟩
  have hbW7 : Below W6.heap.size W6 W7 := by rw [hW7]; exact hb7.alloc hb7.size _
  have HB7 : Hid (Below w5.heap.size w5 W7 ∧ Below w.heap.size w W7 ∧ (Box W7 w6.heap.size 30 #[.int .i64 S1.1, .slice a6 S1.2.length c6] ∧ Box W7 w7.heap.size 24 #[.int .i64 S1.1, .slice a7 S1.2.length c7]) ∧ stN.owns w5.heap.size W7 [.int .i64 S1.1, .slice a6 S1.2.length c6] S1 ∧ stR.owns w5.heap.size W7 [.int .i64 S1.1, .slice a7 S1.2.length c7] S1 ∧ w5.heap.size ≤ w7.heap.size) :=
    ⟨below_any HB6.out.1 hbW7, below_any HB6.out.2.1 hbW7, ⟨HB6.out.2.2.1.below hbW7 HB6.out.2.2.1.lt, by rw [hW7]; exact Box.new _ _ _⟩, stN.obelow HB6.out.2.2.2.1 hbW7, by rw [hW7]; exact stR.oweaken (stR.osame hO7 (.alloc _ _ _)) HB6.out.1.size, by have := hb7.size; have := HB6.out.1.size; omega⟩
  obtain ⟨q0, q1, _, _⟩ := (HB5.out.1.below HB7.out.1 HB5.out.1.lt).two
  rw [hW7] at q0 q1
  have HS6 : Hid (w5.heap.size ≤ w6.heap.size) := HB6.out.2.2.2.2
  clear hO7 hb7 hbW7 HB6
  dsimp only
  go_wp2_with fail
  rw [← hW7]
  clear hW7 q0 q1
  refine (HCC.out W7 HB7.out.1).mono ?_
  rintro e w8 ⟨⟨u8, p8, rfl, hO8, hK8⟩, hb8⟩
  obtain ⟨a8, c8, rfl, _⟩ := st_ownN hO8
  obtain ⟨b8, d8, rfl, _⟩ := pk_own hK8
  obtain ⟨W8, hW8⟩ : ∃ W, W = (w8.alloc (.cells #[.int .i64 S2.1, .slice a8 S2.2.length c8] 30)).alloc (.cells #[.int .i64 P2.1, .int .i64 P2.2.1, .slice b8 P2.2.2.length d8] 32) := ⟨_, rfl⟩
  have hbW8 : Below W7.heap.size W7 W8 := by rw [hW8]; exact (hb8.alloc hb8.size _).alloc (by have := hb8.size; simp; omega) _
  have HB8 : Hid (Below w5.heap.size w5 W8 ∧ Below w.heap.size w W8 ∧ (Box W8 w6.heap.size 30 #[.int .i64 S1.1, .slice a6 S1.2.length c6] ∧ Box W8 w7.heap.size 24 #[.int .i64 S1.1, .slice a7 S1.2.length c7] ∧ Box W8 w8.heap.size 30 #[.int .i64 S2.1, .slice a8 S2.2.length c8] ∧ Box W8 (w8.heap.size + 1) 32 #[.int .i64 P2.1, .int .i64 P2.2.1, .slice b8 P2.2.2.length d8]) ∧ (stN.owns w5.heap.size W8 [.int .i64 S1.1, .slice a6 S1.2.length c6] S1 ∧ stR.owns w5.heap.size W8 [.int .i64 S1.1, .slice a7 S1.2.length c7] S1 ∧ stN.owns w5.heap.size W8 [.int .i64 S2.1, .slice a8 S2.2.length c8] S2 ∧ pkF.owns w5.heap.size W8 [.int .i64 P2.1, .int .i64 P2.2.1, .slice b8 P2.2.2.length d8] P2) ∧ w5.heap.size ≤ w8.heap.size) := by
    have hN : w5.heap.size ≤ W7.heap.size := HB7.out.1.size
    refine ⟨below_any HB7.out.1 hbW8, below_any HB7.out.2.1 hbW8, ⟨HB7.out.2.2.1.1.below hbW8 HB7.out.2.2.1.1.lt, HB7.out.2.2.1.2.below hbW8 HB7.out.2.2.1.2.lt, by rw [hW8]; exact (Box.new _ _ _).alloc _, ?_⟩, ⟨stN.obelow HB7.out.2.2.2.1 hbW8, stR.obelow HB7.out.2.2.2.2.1 hbW8, by rw [hW8]; exact stN.oweaken (stN.osame (stN.osame hO8 (.alloc _ _ _)) (.alloc _ _ _)) hN, by rw [hW8]; exact pkF.oweaken (pkF.osame (pkF.osame hK8 (.alloc _ _ _)) (.alloc _ _ _)) hN⟩, by have := hb8.size; omega⟩
    rw [hW8]
    have := Box.new (w8.alloc (.cells #[.int .i64 S2.1, .slice a8 S2.2.length c8] 30)) 32 #[.int .i64 P2.1, .int .i64 P2.2.1, .slice b8 P2.2.2.length d8]
    rwa [World.size_alloc] at this
  obtain ⟨r0, r1, _, _⟩ := (HB1.out.1.below HB5.out.2.2.2.2 HB1.out.1.lt).below HB8.out.1 (HB1.out.1.below HB5.out.2.2.2.2 HB1.out.1.lt).lt |>.two
  rw [hW8] at r0 r1
  have HS7 : Hid (w5.heap.size ≤ w7.heap.size) := HB7.out.2.2.2.2.2
  clear hO8 hK8 hb8 hbW8 HB7
  dsimp only
  go_wp2_with fail
  rw [← hW8]
  clear hW8 r0 r1
  refine (HDD.out W8 HB8.out.2.1).mono ?_
  rintro e w9 ⟨⟨u9, p9, rfl, hO9, hK9⟩, hb9⟩
  obtain ⟨a9, c9, rfl, _⟩ := st_ownR hO9
  obtain ⟨b9, d9, rfl, _⟩ := pk_own hK9
  obtain ⟨W9, hW9⟩ : ∃ W, W = (w9.alloc (.cells #[.int .i64 S2.1, .slice a9 S2.2.length c9] 24)).alloc (.cells #[.int .i64 P2.1, .int .i64 P2.2.1, .slice b9 P2.2.2.length d9] 27) := ⟨_, rfl⟩
  have hbW9 : Below W8.heap.size W8 W9 := by rw [hW9]; exact (hb9.alloc hb9.size _).alloc (by have := hb9.size; simp; omega) _
  have HB9 : Hid (Below w5.heap.size w5 W9 ∧ Below w.heap.size w W9 ∧ (Box W9 w6.heap.size 30 #[.int .i64 S1.1, .slice a6 S1.2.length c6] ∧ Box W9 w7.heap.size 24 #[.int .i64 S1.1, .slice a7 S1.2.length c7] ∧ Box W9 w8.heap.size 30 #[.int .i64 S2.1, .slice a8 S2.2.length c8] ∧ Box W9 (w8.heap.size + 1) 32 #[.int .i64 P2.1, .int .i64 P2.2.1, .slice b8 P2.2.2.length d8] ∧ Box W9 w9.heap.size 24 #[.int .i64 S2.1, .slice a9 S2.2.length c9] ∧ Box W9 (w9.heap.size + 1) 27 #[.int .i64 P2.1, .int .i64 P2.2.1, .slice b9 P2.2.2.length d9]) ∧ (stN.owns w5.heap.size W9 [.int .i64 S1.1, .slice a6 S1.2.length c6] S1 ∧ stR.owns w5.heap.size W9 [.int .i64 S1.1, .slice a7 S1.2.length c7] S1 ∧ stN.owns w5.heap.size W9 [.int .i64 S2.1, .slice a8 S2.2.length c8] S2 ∧ pkF.owns w5.heap.size W9 [.int .i64 P2.1, .int .i64 P2.2.1, .slice b8 P2.2.2.length d8] P2 ∧ stR.owns w5.heap.size W9 [.int .i64 S2.1, .slice a9 S2.2.length c9] S2 ∧ pkF.owns w5.heap.size W9 [.int .i64 P2.1, .int .i64 P2.2.1, .slice b9 P2.2.2.length d9] P2) ∧ w5.heap.size ≤ w6.heap.size ∧ w5.heap.size ≤ w7.heap.size ∧ w5.heap.size ≤ w8.heap.size ∧ w5.heap.size ≤ w9.heap.size) := by
    have hN : w5.heap.size ≤ W8.heap.size := HB8.out.1.size
    refine ⟨below_any HB8.out.1 hbW9, below_any HB8.out.2.1 hbW9, ⟨HB8.out.2.2.1.1.below hbW9 HB8.out.2.2.1.1.lt, HB8.out.2.2.1.2.1.below hbW9 HB8.out.2.2.1.2.1.lt, HB8.out.2.2.1.2.2.1.below hbW9 HB8.out.2.2.1.2.2.1.lt, HB8.out.2.2.1.2.2.2.below hbW9 HB8.out.2.2.1.2.2.2.lt, by rw [hW9]; exact (Box.new _ _ _).alloc _, ?_⟩, ⟨stN.obelow HB8.out.2.2.2.1.1 hbW9, stR.obelow HB8.out.2.2.2.1.2.1 hbW9, stN.obelow HB8.out.2.2.2.1.2.2.1 hbW9, pkF.osame HB8.out.2.2.2.1.2.2.2 (.of_below hbW9), by rw [hW9]; exact stR.oweaken (stR.osame (stR.osame hO9 (.alloc _ _ _)) (.alloc _ _ _)) hN, by rw [hW9]; exact pkF.oweaken (pkF.osame (pkF.osame hK9 (.alloc _ _ _)) (.alloc _ _ _)) hN⟩, HS6.out, HS7.out, HB8.out.2.2.2.2, by have := hb9.size; omega⟩
    rw [hW9]
    have := Box.new (w9.alloc (.cells #[.int .i64 S2.1, .slice a9 S2.2.length c9] 24)) 27 #[.int .i64 P2.1, .int .i64 P2.2.1, .slice b9 P2.2.2.length d9]
    rwa [World.size_alloc] at this
  have hEY : Eight w1.heap.size W9 (.slice ya m yc) m := by
    obtain ⟨a', c', e', hO', _⟩ := pk_own HB5.out.2.2.2.1
    simp only at e' hO'
    have e2 : Value.slice ya m yc = Value.slice a' pd.length c' := (List.cons.inj (List.cons.inj (List.cons.inj e').2).2).1
    rw [e2, HN.out.2]
    exact ⟨pd, rfl, own_below hO'.row HB9.out.1⟩
  have hEYN : ∀ g, (Value.slice ya m yc).ownBlock = some g → g < w5.heap.size := by
    obtain ⟨a', c', e', hO', _⟩ := pk_own HB5.out.2.2.2.1
    simp only at e' hO'
    have e2 : Value.slice ya m yc = Value.slice a' pd.length c' := (List.cons.inj (List.cons.inj (List.cons.inj e').2).2).1
    intro g hg
    rw [e2] at hg
    exact (hO'.row.lt g hg).2
  have hSP : SP w W9 w1.heap.size w5.heap.size Bx #[.int .i64 lim, .slice xa n xc] (.slice xa n xc) n W9 := by
    refine ⟨fun _ _ _ => rfl, Nat.le_refl _, HB9.out.2.1, HB5.out.1.below HB9.out.1 HB5.out.1.lt, ?_⟩
    obtain ⟨a', c', e', hO', _⟩ := st_ownN HB5.out.2.2.1
    simp only at e' hO'
    have e2 : Value.slice xa n xc = Value.slice a' l.length c' := (List.cons.inj (List.cons.inj e').2).1
    have := (Raw.of hO').same (.of_below HB9.out.1)
    rw [← e2, ← HN.out.1] at this
    exact this
  have HSY := spoil_eight w1.heap.size (.slice ya m yc) m W9 hEY
  have HSP : Hid (∀ w', W9.grownBy w' (Value.slice ya m yc).ownBlock → (∀ b u m, Eight b W9 u m → Eight b w' u m) → SP w W9 w1.heap.size w5.heap.size Bx #[.int .i64 lim, .slice xa n xc] (.slice xa n xc) n w') := fun w' hg hE => hSP.step (by have := HB1.out.2.2.size; omega) hEY hEYN hg hE
  have hlx := run_len Try.underlying28 xa n xc
  obtain ⟨q0, q1, q2, _⟩ := (HB5.out.2.1.below HB9.out.1 HB5.out.2.1.lt).three
  rw [hW9] at q0 q1 q2
  have hn63 : n ≤ 9223372036854775807 := by
    obtain ⟨_, _, _, _, _, hm⟩ := st_viewN (stN.olies HB5.out.2.2.1)
    simp only [maxLen] at hm
    rw [HN.out.1]
    omega
  clear hO9 hK9 hb9 hbW9 HB8 hEY hEYN hSP
  dsimp only
  go_wp2_with fail
  rw [← hW9]
  clear hW9 q0 q1 q2
  refine HSY.mono ?_
  rintro e w10 ⟨rfl, hg10, hE10⟩
  have H10 : Hid (SP w W9 w1.heap.size w5.heap.size Bx #[.int .i64 lim, .slice xa n xc] (.slice xa n xc) n w10) := HSP.out w10 hg10 hE10
  clear hg10 hE10 HSY HSP
  go_wp2
  go_loopw [21] (fun i wr => ∃ j : Nat, j ≤ n ∧ i = .int .i64 j ∧ SP w W9 w1.heap.size w5.heap.size Bx #[.int .i64 lim, .slice xa n xc] (.slice xa n xc) n wr) (fun i _ => n - (intOf i).toNat)
  case atStart => exact ⟨0, Nat.zero_le _, rfl, H10.out⟩
  case round =>
    obtain ⟨j, hj, rfl, hsp⟩ := hrel
    obtain ⟨q0, q1, _, _⟩ := hsp.2.2.2.1.two
    by_cases hlt : j < n
    · obtain ⟨b, o, va, vm, vc, hix, hcell, hE, hEN⟩ := hsp.2.2.2.2.at j hlt
      have HS := spoil_eight w1.heap.size (.slice va vm vc) vm wr hE
      have HST : Hid (∀ w', wr.grownBy w' (Value.slice va vm vc).ownBlock → (∀ b u m, Eight b wr u m → Eight b w' u m) → SP w W9 w1.heap.size w5.heap.size Bx #[.int .i64 lim, .slice xa n xc] (.slice xa n xc) n w') := fun w' hg hE' => hsp.step (by have := HB1.out.2.2.size; omega) hE hEN hg hE'
      have hji : (j : Int) < (n : Int) := by omega
      clear hsp hE hEN H10
      go_wp2_with fail
      refine HS.mono ?_
      rintro e w11 ⟨rfl, hg11, hE11⟩
      have H11 : Hid (SP w W9 w1.heap.size w5.heap.size Bx #[.int .i64 lim, .slice xa n xc] (.slice xa n xc) n w11) := HST.out w11 hg11 hE11
      clear hg11 hE11 HS HST q0 q1 hix hcell
      go_wp2
      go_roundw
      case rel => exact ⟨j + 1, by omega, by go_num, H11.out⟩
      case measure => simp [intOf]; omega
    · obtain rfl : j = n := by omega
      have HR : Hid (SP w W9 w1.heap.size w5.heap.size Bx #[.int .i64 lim, .slice xa j xc] (.slice xa j xc) j wr) := hsp
      have K1 := HR.out.box HB9.out.2.2.1.1 HS6.out
      have K2 := HR.out.box HB9.out.2.2.1.2.1 HS7.out
      have K3 := HR.out.box HB9.out.2.2.1.2.2.1 HB9.out.2.2.2.2.2.2.1
      have K4 := HR.out.box HB9.out.2.2.1.2.2.2.1 (by have := HB9.out.2.2.2.2.2.2.1; omega)
      have K5 := HR.out.box HB9.out.2.2.1.2.2.2.2.1 HB9.out.2.2.2.2.2.2.2
      have K6 := HR.out.box HB9.out.2.2.1.2.2.2.2.2 (by have := HB9.out.2.2.2.2.2.2.2; omega)
      have HK : Hid (Box wr w6.heap.size 30 #[.int .i64 S1.1, .slice a6 S1.2.length c6] ∧ Box wr w7.heap.size 24 #[.int .i64 S1.1, .slice a7 S1.2.length c7] ∧ Box wr w8.heap.size 30 #[.int .i64 S2.1, .slice a8 S2.2.length c8] ∧ Box wr (w8.heap.size + 1) 32 #[.int .i64 P2.1, .int .i64 P2.2.1, .slice b8 P2.2.2.length d8] ∧ Box wr w9.heap.size 24 #[.int .i64 S2.1, .slice a9 S2.2.length c9] ∧ Box wr (w9.heap.size + 1) 27 #[.int .i64 P2.1, .int .i64 P2.2.1, .slice b9 P2.2.2.length d9]) := ⟨K1, K2, K3, K4, K5, K6⟩
      have HC1 := same_st w5.heap.size w5.heap.size [.int .i64 S1.1, .slice a6 S1.2.length c6] [.int .i64 S1.1, .slice a7 S1.2.length c7] S1 wr (stN.olies (stN.osame HB9.out.2.2.2.1.1 HR.out.1)) (stR.olies (stR.osame HB9.out.2.2.2.1.2.1 HR.out.1))
      have HC2 : Hid (∀ w', Below wr.heap.size wr w' → Calls Try.prog 19 #[.agg #[.int .i64 S2.1, .slice a8 S2.2.length c8], .agg #[.int .i64 S2.1, .slice a9 S2.2.length c9]] w' fun e w'' => e = .returned (.bool true) ∧ Below w'.heap.size w' w'') := fun w' hw =>
        same_st w5.heap.size w5.heap.size [.int .i64 S2.1, .slice a8 S2.2.length c8] [.int .i64 S2.1, .slice a9 S2.2.length c9] S2 w' (stN.below (stN.olies (stN.osame HB9.out.2.2.2.1.2.2.1 HR.out.1)) hw) (stR.below (stR.olies (stR.osame HB9.out.2.2.2.1.2.2.2.2.1 HR.out.1)) hw)
      have HC3 : Hid (∀ w', Below wr.heap.size wr w' → Calls Try.prog 21 #[.agg #[.int .i64 P2.1, .int .i64 P2.2.1, .slice b8 P2.2.2.length d8], .agg #[.int .i64 P2.1, .int .i64 P2.2.1, .slice b9 P2.2.2.length d9]] w' fun e w'' => e = .returned (.bool true) ∧ Below w'.heap.size w' w'') := fun w' hw =>
        samePacket_true w5.heap.size w5.heap.size [.int .i64 P2.1, .int .i64 P2.2.1, .slice b8 P2.2.2.length d8] [.int .i64 P2.1, .int .i64 P2.2.1, .slice b9 P2.2.2.length d9] P2 w' (pkF.keep (pkF.olies (pkF.osame HB9.out.2.2.2.1.2.2.2.1 HR.out.1)) (.of_below hw)) (pkF.keep (pkF.olies (pkF.osame HB9.out.2.2.2.1.2.2.2.2.2 HR.out.1)) (.of_below hw))
      obtain ⟨k0, k1, _, _⟩ := K1.two
      obtain ⟨k2, k3, _, _⟩ := K2.two
      have HBW : Hid (Below w.heap.size w wr) := HR.out.2.2.1
      clear hsp K1 K2 K3 K4 K5 K6 H10
      go_wp2_with (go_at_call 20; refine (num_any _ _).mono ?_; rintro e w12 ⟨rfl, rfl⟩)
      refine HC1.mono ?_
      rintro e w13 ⟨rfl, hb13⟩
      obtain ⟨m0, m1, _, _⟩ := (HK.out.2.2.1.below hb13 HK.out.2.2.1.lt).two
      obtain ⟨m2, m3, _, _⟩ := (HK.out.2.2.2.2.1.below hb13 HK.out.2.2.2.2.1.lt).two
      clear k0 k1 k2 k3 q0 q1
      go_wp2_with fail
      refine (HC2.out w13 hb13).mono ?_
      rintro e w14 ⟨rfl, hb14⟩
      have hbb := below_any hb13 hb14
      obtain ⟨i0, i1, i2, _⟩ := (HK.out.2.2.2.1.below hbb HK.out.2.2.2.1.lt).three
      obtain ⟨i3, i4, i5, _⟩ := (HK.out.2.2.2.2.2.below hbb HK.out.2.2.2.2.2.lt).three
      clear m0 m1 m2 m3
      go_wp2_with fail
      refine (HC3.out w14 hbb).mono ?_
      rintro e w15 ⟨rfl, hb15⟩
      go_wp2
      go_ret
      exact ⟨rfl, below_any HBW.out (below_any hbb hb15)⟩

set_option maxRecDepth 100000 in
theorem lifted (os : Os) (started : os.Started) (H : Type) (enc : TypeId × Value → H) :
    ReturnsInHanded {} Try.checked os 6 .any (Rows.netOwnSpec.pre6 enc Try.prog Try.f6 Rows.netOwnRow.domain false) (Rows.netOwnSpec.post enc Try.prog Try.f6 false true false false) := by
  refine returnsInHanded_of_change_sized (C := Try.checked) own started (by kernel_rfl) Try.func6
    (ChangeSpec.witness6 (enc := enc) (C := Try.checked) false ⟨#[], #[.agg #[.int .i64 0, .slice none 0 0], .agg #[.int .i64 0, .int .i64 0, .slice none 0 0], .int .i64 0], []⟩ 8 (by kernel_rfl) (by kernel_rfl) (by kernel_rfl) (by kernel_rfl)) ?_
  intro W base args ds gs before hval0 hW hcnd hsz0 _
  have hval : ∀ (j : Nat) t v, Try.f6.params[j]? = some t → args[j]? = some v → Value.okWide Try.prog W .any base t v := hval0
  have hW' := hW
  obtain ⟨p, q, hA0, hV, rfl, hfz, hnd⟩ := hW
  have hA : DataW.TrodAll enc Try.prog W 0 (fun _ => true) true Try.f6.params.toList args.toList ds p := hA0
  have hsz : (DataW.weightsEach Try.prog (Try.f6.params.toList ++ Rows.netOwnSpec.plain.varTypes Try.prog) (ds ++ gs)).all (· ≤ reachBytes) = true := hsz0
  clear hsz0
  rw [Try.params6] at hA hval hsz
  obtain ⟨v0, vs0, d0, ds0, p0, q0, hargs, rfl, rfl, h0, r0⟩ := trodAll_cons hA
  obtain ⟨v1, vs1, d1, ds1, p1, q1, rfl, rfl, rfl, h1, r1⟩ := trodAll_cons r0
  obtain ⟨v2, vs2, d2, ds2, p2, q2, rfl, rfl, rfl, h2, r2⟩ := trodAll_cons r1
  obtain ⟨rfl, rfl, rfl⟩ := trodAll_nil r2
  obtain rfl : args = #[v0, v1, v2] := by cases args; simp_all
  obtain ⟨rfl, rfl⟩ := trodVars_none hV
  obtain ⟨cs0, rfl, hc0⟩ := okWide_struct Try.underlying24 (hval 0 24 v0 rfl rfl)
  obtain ⟨us0, rfl⟩ := as_list cs0
  have k0 := h0
  have lt0 : ∀ x ∈ p0, x.block < W.heap.size := by obtain ⟨m, hm⟩ := k0; exact DataW.trod_lt m _ _ _ hm
  obtain ⟨m0, hm0⟩ := h0
  obtain ⟨s0, A0, F0'⟩ := stR.reads hm0
  have F0 := F0' fun n hn => by have := List.all_eq_true.1 hsz _ (DataW.weights_mem_each (j := 0) rfl rfl n hn); simpa using this
  obtain ⟨cs1, rfl, hc1⟩ := okWide_struct Try.underlying27 (hval 1 27 v1 rfl rfl)
  obtain ⟨us1, rfl⟩ := as_list cs1
  have k1 := h1
  have lt1 : ∀ x ∈ p1, x.block < W.heap.size := by obtain ⟨m, hm⟩ := k1; exact DataW.trod_lt m _ _ _ hm
  obtain ⟨m1, hm1⟩ := h1
  obtain ⟨s1, A1, F1'⟩ := pkR.reads hm1
  have F1 := F1' fun n hn => by have := List.all_eq_true.1 hsz _ (DataW.weights_mem_each (j := 1) rfl rfl n hn); simpa using this
  obtain ⟨a2, rfl, rfl, rfl, w2⟩ := open_int Try.underlying3 (hval 2 3 v2 rfl rfl) h2
  have b2 := bounds_i64 w2
  clear hA0 hval0
  refine (walk us0 us1 s0 s1 a2 W A0 (fits_of F0) A1 (pk_fits F1) b2).mono fun e W' ⟨he, bel⟩ => ?_
  subst he
  exact ⟨_, rfl, _, _, _, [], _, [], hW', trodAll_mk1 (shut_bool Try.underlying4 _), (trodAll_cons_mk (Below.trod laidOut (by kernel_rfl) (of_decide_eq_true (by kernel_rfl)) k0 bel lt0) (trodAll_cons_mk (Below.trod laidOut (by kernel_rfl) (of_decide_eq_true (by kernel_rfl)) k1 bel lt1) (trodAll_cons_mk (shut_int Try.underlying3 w2) trodAll_mk0))), rfl, bel.frame _, fun h => by cases h⟩

theorem over : Rows.netOwnRow.holds Try.pinned (OpenSpec.ofChange Rows.netOwnSpec) :=
  OpenClaim.holds_of_wide 6 Try.f6 rfl rfl rfl rfl rfl rfl rfl ⟨rfl, rfl, rfl, rfl, rfl⟩ rfl rfl rfl rfl rfl (by kernel_rfl) Try.func6 (by kernel_rfl)
    (of_decide_eq_true (by kernel_rfl)) (by unfold Func.isWrapper; first | (rw [if_pos (by decide +kernel)]; kernel_rfl) | (rw [if_neg (by decide +kernel)]; exact ⟨rfl, rfl⟩))
    (fun os started H enc _ => lifted os started H enc)

end Go.Proofs.Ytpecniajamgjiaa.netOwn

namespace Go.Proofs.Ytpecniajamgjiaa
theorem netOwn_holds : Rows.NetOwnSaid := netOwn.over
#print axioms netOwn_holds
end Go.Proofs.Ytpecniajamgjiaa
