/-
  NetTells, proved: for every network and packet of the document and two numbers (as great as the form reads them): the call returns true, and changes nothing that was in memory. No condition of its own.
-/
import Derived.Test.YtpecniajamgjiaaDrop
import Derived.Test.YtpecniajamgjiaaRefFor
import Derived.Test.YtpecniajamgjiaaSameSt
import Derived.Test.YtpecniajamgjiaaAlive
import Derived.Test.YtpecniajamgjiaaFrame
import Derived.Test.YtpecniajamgjiaaPair
namespace Go.Proofs.Ytpecniajamgjiaa.netTells
open Go.ChangeShapes Go.WideShapes Go.ChangeAt Go.RowKit
set_option linter.unusedVariables false

attribute [local go_sem ↓] Go.wp_at_zero Go.wp_at_succ

/-- The four variables, and the memory that was there. -/
abbrev OT (w5 : World) (B Bx By : Nat) (lim : Int) (a : Option Addr) (n c : Nat) (pf pt : Int) (ax : Option Addr) (m cx : Nat) (xa : Option Addr) (xc : Nat) (ya : Option Addr) (yc : Nat) (w' : World) : Prop :=
  w'.cell? ⟨B, 0, none⟩ = some (.int .i64 lim) ∧ w'.cell? ⟨B, 1, none⟩ = some (.slice a n c) ∧ w'.cell? ⟨B + 1, 0, none⟩ = some (.int .i64 pf) ∧ w'.cell? ⟨B + 1, 1, none⟩ = some (.int .i64 pt) ∧ w'.cell? ⟨B + 1, 2, none⟩ = some (.slice ax m cx) ∧
  w'.cell? ⟨Bx, 0, none⟩ = some (.int .i64 lim) ∧ w'.cell? ⟨Bx, 1, none⟩ = some (.slice xa n xc) ∧ w'.cell? ⟨By, 0, none⟩ = some (.int .i64 pf) ∧ w'.cell? ⟨By, 1, none⟩ = some (.int .i64 pt) ∧ w'.cell? ⟨By, 2, none⟩ = some (.slice ya m yc) ∧ Below w5.heap.size w5 w'
theorem OT.below {w5 : World} {B Bx By : Nat} {lim : Int} {a : Option Addr} {n c : Nat} {pf pt : Int} {ax : Option Addr} {m cx : Nat} {xa : Option Addr} {xc : Nat} {ya : Option Addr} {yc : Nat} {w' : World} (h : OT w5 B Bx By lim a n c pf pt ax m cx xa xc ya yc w') : Below w5.heap.size w5 w' := h.2.2.2.2.2.2.2.2.2.2
theorem OT.through {w5 : World} {B Bx By : Nat} {lim : Int} {a : Option Addr} {n c : Nat} {pf pt : Int} {ax : Option Addr} {m cx : Nat} {xa : Option Addr} {xc : Nat} {ya : Option Addr} {yc : Nat} {w' w'' : World} (h : OT w5 B Bx By lim a n c pf pt ax m cx xa xc ya yc w') (hb : Below w'.heap.size w' w'') : OT w5 B Bx By lim a n c pf pt ax m cx xa xc ya yc w'' := by
  obtain ⟨h1, h2, h3, h4, h5, h6, h7, h8, h9, h10, h11⟩ := h
  have keep : ∀ (z : Addr) (u : Value), w'.cell? z = some u → w''.cell? z = some u := fun z u hz => by rw [hb.cell (cell_lt hz)]; exact hz
  exact ⟨keep _ _ h1, keep _ _ h2, keep _ _ h3, keep _ _ h4, keep _ _ h5, keep _ _ h6, keep _ _ h7, keep _ _ h8, keep _ _ h9, keep _ _ h10, below_any h11 hb⟩
theorem OT.drew {w5 : World} {B Bx By : Nat} {lim : Int} {a : Option Addr} {n c : Nat} {pf pt : Int} {ax : Option Addr} {m cx : Nat} {xa : Option Addr} {xc : Nat} {ya : Option Addr} {yc : Nat} {w' : World} (h : OT w5 B Bx By lim a n c pf pt ax m cx xa xc ya yc w') : OT w5 B Bx By lim a n c pf pt ax m cx xa xc ya yc w'.drew := h.through ((Below.refl _ w').drew)

set_option maxRecDepth 100000 in
set_option maxHeartbeats 16000000 in
theorem walk (us ps : List Value) (s : St) (p : Pk) (k to : Int) (w : World) (h : stR.lies 0 w us s) (hf : Fits s) (hp : pkF.lies 0 w ps p) (hpf : p.2.2.length ≤ 140737488351232) (hk : I64 k) :
    Calls Try.prog 3 #[.agg us.toArray, .agg ps.toArray, .int .i64 k, .int .i64 to] w fun e w' => e = .returned (.bool true) ∧ Below w.heap.size w w' := by
  obtain ⟨a, c, rfl, hL, hi, hm⟩ := st_viewR h
  obtain ⟨ax, cx, rfl, hA, hff, htt⟩ := pk_view hp
  obtain ⟨lim, l⟩ := s
  obtain ⟨pf, pt, pd⟩ := p
  simp only at hL hi hm hA hff htt hpf
  obtain ⟨n, hn⟩ : ∃ n, n = l.length := ⟨_, rfl⟩
  obtain ⟨m, hm'⟩ : ∃ m, m = pd.length := ⟨_, rfl⟩
  have HN : Hid (n = l.length ∧ m = pd.length) := ⟨hn, hm'⟩
  have HD : Hid (stR.lies 0 w [.int .i64 lim, .slice a n c] (lim, l) ∧ pkF.lies 0 w [.int .i64 pf, .int .i64 pt, .slice ax m cx] (pf, pt, pd) ∧ Fits (lim, l) ∧ pd.length ≤ 140737488351232) := by
    rw [hn, hm']; exact ⟨h, hp, hf, hpf⟩
  simp only
  rw [← hn, ← hm']
  clear h hL hi hm hA hff htt hp hn hm' hf hpf
  go_enter Try.func3, Try.ntmps3
  obtain ⟨w1, hw1⟩ : ∃ w1, w1 = (w.alloc (.cells #[.int .i64 lim, .slice a n c] 24)).alloc (.cells #[.int .i64 pf, .int .i64 pt, .slice ax m cx] 27) := ⟨_, rfl⟩
  have hS1 : Box w1 w.heap.size 24 #[.int .i64 lim, .slice a n c] := by rw [hw1]; exact (Box.new w 24 _).alloc _
  have hP1 : Box w1 (w.heap.size + 1) 27 #[.int .i64 pf, .int .i64 pt, .slice ax m cx] := by
    rw [hw1]
    have := Box.new (w.alloc (.cells #[.int .i64 lim, .slice a n c] 24)) 27 #[.int .i64 pf, .int .i64 pt, .slice ax m cx]
    rwa [World.size_alloc] at this
  have HB1 : Hid (Box w1 w.heap.size 24 #[.int .i64 lim, .slice a n c] ∧ Box w1 (w.heap.size + 1) 27 #[.int .i64 pf, .int .i64 pt, .slice ax m cx] ∧ Below w.heap.size w w1) := ⟨hS1, hP1, by rw [hw1]; exact ((Below.refl _ w).alloc (Nat.le_refl _) _).alloc (by simp) _⟩
  have HC1 : Hid (∀ w', Below w1.heap.size w1 w' → Calls Try.prog 7 #[.agg #[.int .i64 lim, .slice a n c]] w' fun e w'' => (∃ us', e = .returned (.agg us'.toArray) ∧ stN.owns w'.heap.size w'' us' (lim, l)) ∧ Below w'.heap.size w' w'') := fun w' hw =>
    of_any 0 [.int .i64 lim, .slice a n c] (lim, l) w' (stR.below HD.out.1 (below_any HB1.out.2.2 hw)) HD.out.2.2.1
  have HC2 : Hid (∀ w', Below w1.heap.size w1 w' → Calls Try.prog 8 #[.agg #[.int .i64 pf, .int .i64 pt, .slice ax m cx]] w' fun e w'' => (∃ us', e = .returned (.agg us'.toArray) ∧ pkF.owns w'.heap.size w'' us' (pf, pt, pd)) ∧ Below w'.heap.size w' w'') := fun w' hw =>
    one_any 0 [.int .i64 pf, .int .i64 pt, .slice ax m cx] (pf, pt, pd) w' (pkF.keep HD.out.2.1 (.of_below (below_any HB1.out.2.2 hw))) (by have := HD.out.2.2.2; simp only; omega)
  obtain ⟨g0, g1, _, _⟩ := hS1.two
  obtain ⟨g2, g3, g4, _⟩ := hP1.three
  clear hS1 hP1
  have HLT : Hid (w.heap.size + 1 < w1.heap.size) := HB1.out.2.1.lt
  have hlt0 : w.heap.size < w1.heap.size := by have := HLT.out; omega
  have hlt1 : w.heap.size + 1 < w1.heap.size := HLT.out
  have HOS : OS w1 w.heap.size lim a n c pf pt ax m cx w1 := ⟨g0, g1, g2, g3, g4, Below.refl _ w1⟩
  go_wp2
  rw [← hw1]
  clear hw1
  refine wp_mono (Q := fun e a' w' => e = .normal ∧ ∃ (Bx By : Nat) (xa ya : Option Addr) (xc yc : Nat), a' = { tmps := #[.agg #[.int .i64 lim, .slice a n c], .agg #[.int .i64 pf, .int .i64 pt, .slice ax m cx], .int .i64 k, .int .i64 to, .pointer (some ⟨w.heap.size, 0, none⟩), .pointer (some ⟨w.heap.size + 1, 0, none⟩), undef, undef, .bool false, .pointer (some ⟨Bx, 0, none⟩), .pointer (some ⟨By, 0, none⟩), undef, undef, undef, undef, undef, undef, undef, undef, undef, undef, undef, undef, undef, undef, undef, undef, undef, undef, undef, undef, undef, undef, undef, undef, undef, undef, .agg #[.int .i64 lim, .slice a n c], .agg #[.int .i64 lim, .slice xa n xc], .agg #[.int .i64 pf, .int .i64 pt, .slice ax m cx], .agg #[.int .i64 pf, .int .i64 pt, .slice ya m yc], undef, undef, undef, undef, undef, undef, undef, undef, undef, undef, undef, undef, undef, undef, undef, undef, undef, undef, undef, undef, undef, undef, undef, undef, undef, undef, undef, undef, undef, undef, undef, undef, undef, undef, undef, undef, undef, undef, undef, undef, undef, undef, undef, undef, undef, undef, undef, undef, undef, undef, undef, undef, undef, undef, undef, undef, undef, undef, undef, undef, undef, undef, undef, undef, undef, undef, undef, undef, undef, undef, undef, undef, undef, undef, undef, undef, undef, undef, undef, undef, undef, undef, undef, undef, undef, undef, undef, undef, undef, undef, undef, undef, undef, undef, undef, undef, undef, undef, undef, undef, undef, undef, undef, undef, undef, undef, undef, undef, undef, undef, undef, undef, undef, undef, undef, undef, undef, undef, undef, undef, undef, undef, undef, undef, undef, undef, undef, undef, undef, undef, undef, undef, undef, undef, undef, undef, undef, undef, undef, undef, undef, undef, undef, undef, undef, undef, undef, undef, undef, undef, undef, undef, undef, undef, undef, undef, undef, undef, undef], defers := [] } ∧
    Box w' Bx 30 #[.int .i64 lim, .slice xa n xc] ∧ Box w' By 32 #[.int .i64 pf, .int .i64 pt, .slice ya m yc] ∧ stN.owns w1.heap.size w' [.int .i64 lim, .slice xa n xc] (lim, l) ∧ pkF.owns w1.heap.size w' [.int .i64 pf, .int .i64 pt, .slice ya m yc] (pf, pt, pd) ∧ Below w1.heap.size w1 w') ?_ ?_
  · go_region_held3 (fun w' => w'.cell? ⟨w.heap.size, 0, none⟩ = some (.int .i64 lim) ∧ w'.cell? ⟨w.heap.size, 1, none⟩ = some (.slice a n c) ∧ w'.cell? ⟨w.heap.size + 1, 0, none⟩ = some (.int .i64 pf) ∧ w'.cell? ⟨w.heap.size + 1, 1, none⟩ = some (.int .i64 pt) ∧ w'.cell? ⟨w.heap.size + 1, 2, none⟩ = some (.slice ax m cx) ∧ Below w1.heap.size w1 w')
      (first | with_reducible exact HOS.drew | with_reducible exact HOS.alloc.drew | with_reducible exact HOS.alloc.alloc.drew | with_reducible exact OS.alloc (by assumption) | with_reducible exact Q4 | with_reducible exact OS.through (by assumption) hb3 | (repeat (first | with_reducible exact Q4 | with_reducible refine OS.set hlt1 (by first | omega | (simp; omega)) ?_ | with_reducible refine OS.alloc ?_)))
      (first
        | (go_simp
           with_reducible refine Calls.mono (HC1.out _ ?_) ?_
           · exact OS.below (by assumption)
           rintro e w3 ⟨⟨u3, rfl, hO3⟩, hb3⟩
           obtain ⟨xa, xc, hu3, hO3', _⟩ := st_ownN hO3
           simp only at hu3
           rw [← HN.out.1] at hu3
           subst hu3
           have z3 := hb3.size
           try simp at z3
           first
             | (with_reducible have X1 := new2d hb3
                with_reducible have X2 := new1d hb3)
             | (with_reducible have X1 := new1d hb3)
             | skip
           try simp only [World.size_alloc] at X2)
        | (go_simp
           with_reducible refine Calls.mono (HC2.out _ ?_) ?_
           · exact OS.below (by assumption)
           rintro e w4 ⟨⟨u4, rfl, hO4⟩, hb4⟩
           obtain ⟨ya, yc, hu4, hO4', _⟩ := pk_own hO4
           simp only at hu4
           rw [← HN.out.2] at hu4
           subst hu4
           have Q4 : OS w1 w.heap.size lim a n c pf pt ax m cx w4 := OS.through (by assumption) hb4
           have z4 := hb4.size
           try simp at z4
           first
             | (with_reducible have Y1 := Box.through X1 hb4
                with_reducible have Y2 := Box.through X2 hb4)
             | (with_reducible have Y1 := Box.through (X1.alloc _) hb4
                with_reducible have Y2 := new1 hb4)
             | (with_reducible have Y1 := Box.through X1 hb4)
             | (with_reducible have Y1 := new2 hb4
                with_reducible have Y2 := new1 hb4)
             | (with_reducible have Y1 := new1 hb4)
             | skip
           try simp only [World.size_alloc] at Y2
           try simp only [World.size_alloc] at Y1
           try first
             | (have F1 := Y1.two; have F2 := fun o => (Y1.alloc o).two; have F3 := fun o o' => ((Y1.alloc o).alloc o').two)
             | (have F1 := Y1.three; have F2 := fun o => (Y1.alloc o).three; have F3 := fun o o' => ((Y1.alloc o).alloc o').three)
           try first
             | (have F4 := Y2.two; have F5 := fun o => (Y2.alloc o).two; have F6 := fun o o' => ((Y2.alloc o).alloc o').two)
             | (have F4 := Y2.three; have F5 := fun o => (Y2.alloc o).three; have F6 := fun o o' => ((Y2.alloc o).alloc o').three)
           try (have N1 := Box.ne Y1 Y2 (by decide); have N2 := N1.symm)
           try (have N3 := Nat.ne_of_lt Y1.lt; have N4 := N3.symm; have N5 := Y1.lt)
           try (have N6 := Nat.ne_of_lt Y2.lt; have N7 := N6.symm; have N8 := Y2.lt)))
    all_goals
      refine ⟨rfl, _, _, _, _, _, _, rfl, ?_, ?_, ?_, ?_, OS.below (by assumption)⟩
      · first | with_reducible exact Box.new' (by first | rfl | (simp; done) | (simp [World.setCell]; done)) | with_reducible exact Box.alloc (Box.new' (by first | rfl | (simp; done) | (simp [World.setCell]; done))) _ | with_reducible exact Box.alloc (Box.pair Y1) _ | with_reducible exact Box.other (Box.other (Box.other (Box.pair Y1) (by first | assumption | omega)) (by first | assumption | omega)) (by first | assumption | omega) | with_reducible exact Box.alloc (Box.pair Y2) _ | with_reducible exact Box.other (Box.other (Box.other (Box.pair Y2) (by first | assumption | omega)) (by first | assumption | omega)) (by first | assumption | omega)
      · first | with_reducible exact Box.new' (by first | rfl | (simp; done) | (simp [World.setCell]; done)) | with_reducible exact Box.alloc (Box.new' (by first | rfl | (simp; done) | (simp [World.setCell]; done))) _ | with_reducible exact Box.alloc (Box.triple Y1) _ | with_reducible exact Box.triple (Box.other (Box.other Y1 (by first | assumption | omega)) (by first | assumption | omega)) | with_reducible exact Box.alloc (Box.triple Y2) _ | with_reducible exact Box.triple (Box.other (Box.other Y2 (by first | assumption | omega)) (by first | assumption | omega))
      · refine stN.oweaken (Mid.own stN hO3 rfl ?_) (by first | exact Nat.le_refl _ | (simp; done) | (simp; omega))
        (repeat (first | with_reducible exact Mid.refl _ _ _ | with_reducible refine Mid.set ?_ (by first | omega | (simp; done) | (simp; omega)) | with_reducible refine Mid.through ?_ hb4 (by first | omega | (simp; done) | (simp; omega)) | with_reducible refine Mid.alloc ?_ (by first | omega | (simp; done) | (simp; omega) | (simp [World.setCell]; done) | (simp [World.setCell]; omega))))
      · refine pkF.oweaken (pkF.osame hO4 (fun k h1 h2 => (?_ : Mid _ w4.heap.size w4 _) k h1 h2)) (by first | omega | (simp; done) | (simp; omega))
        (repeat (first | with_reducible exact Mid.refl _ _ _ | with_reducible refine Mid.set ?_ (by first | omega | (simp; done) | (simp; omega)) | with_reducible refine Mid.through ?_ hb4 (by first | omega | (simp; done) | (simp; omega)) | with_reducible refine Mid.alloc ?_ (by first | omega | (simp; done) | (simp; omega) | (simp [World.setCell]; done) | (simp [World.setCell]; omega))))
  rintro e a' w5 ⟨rfl, Bx, By, xa, ya, xc, yc, rfl, hBX, hBY, hOX, hOY, hb5⟩
  have HB5 : Hid (Box w5 Bx 30 #[.int .i64 lim, .slice xa n xc] ∧ Box w5 By 32 #[.int .i64 pf, .int .i64 pt, .slice ya m yc] ∧ stN.owns w1.heap.size w5 [.int .i64 lim, .slice xa n xc] (lim, l) ∧ pkF.owns w1.heap.size w5 [.int .i64 pf, .int .i64 pt, .slice ya m yc] (pf, pt, pd) ∧ Below w1.heap.size w1 w5) := ⟨hBX, hBY, hOX, hOY, hb5⟩
  have HS5 : Hid (Box w5 w.heap.size 24 #[.int .i64 lim, .slice a n c] ∧ Box w5 (w.heap.size + 1) 27 #[.int .i64 pf, .int .i64 pt, .slice ax m cx]) := ⟨HB1.out.1.below hb5 HB1.out.1.lt, HB1.out.2.1.below hb5 HB1.out.2.1.lt⟩
  clear g0 g1 g2 g3 g4 HOS hlt0 hlt1 hBX hBY hOX hOY hb5 HC1 HC2
  obtain ⟨SE, hSE⟩ : ∃ x, x = serr (lim, l) (pf, pt, pd) := ⟨_, rfl⟩
  obtain ⟨SI, hSI⟩ : ∃ x, x = sis (lim, l) (pf, pt, pd) := ⟨_, rfl⟩
  obtain ⟨TE, hTE⟩ : ∃ x, x = terr (lim, l) k := ⟨_, rfl⟩
  obtain ⟨DE, hDE⟩ : ∃ x, x = derr (lim, l) k := ⟨_, rfl⟩
  obtain ⟨DI, hDI⟩ : ∃ x, x = dis (lim, l) k := ⟨_, rfl⟩
  obtain ⟨CE, hCE⟩ : ∃ x, x = cerr (lim, l) := ⟨_, rfl⟩
  obtain ⟨S1, hS1⟩ : ∃ x, x = sst (lim, l) (pf, pt, pd) := ⟨_, rfl⟩
  obtain ⟨S2, hS2⟩ : ∃ x, x = tst (lim, l) k := ⟨_, rfl⟩
  obtain ⟨S3, hS3⟩ : ∃ x, x = dst (lim, l) k := ⟨_, rfl⟩
  obtain ⟨P2, hP2⟩ : ∃ x, x = tpk (lim, l) k := ⟨_, rfl⟩
  obtain ⟨L, hL⟩ : ∃ x, x = pls (lim, l) to := ⟨_, rfl⟩
  have HCA : Hid (∀ w', Below w5.heap.size w5 w' → Calls Try.prog 9 #[.agg #[.int .i64 lim, .slice xa n xc], .agg #[.int .i64 pf, .int .i64 pt, .slice ya m yc]] w' fun e w'' => (∃ us', e = .returned (.tuple #[.agg us'.toArray, .bool SI, .int .i64 SE]) ∧ stN.owns w'.heap.size w'' us' S1) ∧ Below w'.heap.size w' w'') := fun w' hw => by
    rw [hSE, hSI, hS1]
    exact send_any w1.heap.size w1.heap.size [.int .i64 lim, .slice xa n xc] [.int .i64 pf, .int .i64 pt, .slice ya m yc] _ _ w' (stN.below (stN.olies HB5.out.2.2.1) hw) (pkF.keep (pkF.olies HB5.out.2.2.2.1) (.of_below hw))
  have HCB : Hid (∀ w', Below w5.heap.size w5 w' → Calls Try.prog 10 #[.agg #[.int .i64 lim, .slice a n c], .agg #[.int .i64 pf, .int .i64 pt, .slice ax m cx]] w' fun e w'' => (∃ us', e = .returned (.tuple #[.agg us'.toArray, .bool SI, .int .i64 SE]) ∧ stR.owns w'.heap.size w'' us' S1) ∧ Below w'.heap.size w' w'') := fun w' hw => by
    rw [hSE, hSI, hS1]
    exact rsend_any 0 0 [.int .i64 lim, .slice a n c] [.int .i64 pf, .int .i64 pt, .slice ax m cx] _ _ w' (stR.below HD.out.1 (below_any (below_any HB1.out.2.2 HB5.out.2.2.2.2) hw)) (pkF.keep HD.out.2.1 (.of_below (below_any (below_any HB1.out.2.2 HB5.out.2.2.2.2) hw)))
  have HCC : Hid (∀ w', Below w5.heap.size w5 w' → Calls Try.prog 11 #[.agg #[.int .i64 lim, .slice xa n xc], .int .i64 k] w' fun e w'' => (∃ us' ps', e = .returned (.tuple #[.agg us'.toArray, .agg ps'.toArray, .int .i64 TE]) ∧ stN.owns w'.heap.size w'' us' S2 ∧ pkF.owns w'.heap.size w'' ps' P2) ∧ Below w'.heap.size w' w'') := fun w' hw => by
    rw [hTE, hS2, hP2]
    exact take_any w1.heap.size [.int .i64 lim, .slice xa n xc] _ k w' (stN.below (stN.olies HB5.out.2.2.1) hw) hk
  have HCD : Hid (∀ w', Below w5.heap.size w5 w' → Calls Try.prog 12 #[.agg #[.int .i64 lim, .slice a n c], .int .i64 k] w' fun e w'' => (∃ us' ps', e = .returned (.tuple #[.agg us'.toArray, .agg ps'.toArray, .int .i64 TE]) ∧ stR.owns w'.heap.size w'' us' S2 ∧ pkF.owns w'.heap.size w'' ps' P2) ∧ Below w'.heap.size w' w'') := fun w' hw => by
    rw [hTE, hS2, hP2]
    exact rtake_any 0 [.int .i64 lim, .slice a n c] _ k w' (stR.below HD.out.1 (below_any (below_any HB1.out.2.2 HB5.out.2.2.2.2) hw)) hk
  have HCE : Hid (∀ w', Below w5.heap.size w5 w' → Calls Try.prog 13 #[.agg #[.int .i64 lim, .slice xa n xc], .int .i64 k] w' fun e w'' => (∃ us', e = .returned (.tuple #[.agg us'.toArray, .int .i64 TE]) ∧ stN.owns w'.heap.size w'' us' S2) ∧ Below w'.heap.size w' w'') := fun w' hw => by
    rw [hTE, hS2]
    exact drop_any w1.heap.size [.int .i64 lim, .slice xa n xc] _ k w' (stN.below (stN.olies HB5.out.2.2.1) hw) hk
  have HCF : Hid (∀ w', Below w5.heap.size w5 w' → Calls Try.prog 14 #[.agg #[.int .i64 lim, .slice a n c], .int .i64 k] w' fun e w'' => (∃ us', e = .returned (.tuple #[.agg us'.toArray, .int .i64 TE]) ∧ stR.owns w'.heap.size w'' us' S2) ∧ Below w'.heap.size w' w'') := fun w' hw => by
    rw [hTE, hS2]
    exact rdrop_any 0 [.int .i64 lim, .slice a n c] _ k w' (stR.below HD.out.1 (below_any (below_any HB1.out.2.2 HB5.out.2.2.2.2) hw)) hk
  have HCG : Hid (∀ w', Below w5.heap.size w5 w' → Calls Try.prog 15 #[.agg #[.int .i64 lim, .slice xa n xc], .int .i64 k] w' fun e w'' => (∃ us', e = .returned (.tuple #[.agg us'.toArray, .bool DI, .int .i64 DE]) ∧ stN.owns w'.heap.size w'' us' S3) ∧ Below w'.heap.size w' w'') := fun w' hw => by
    rw [hDE, hDI, hS3]
    exact double_any w1.heap.size [.int .i64 lim, .slice xa n xc] _ k w' (stN.below (stN.olies HB5.out.2.2.1) hw) hk
  have HCH : Hid (∀ w', Below w5.heap.size w5 w' → Calls Try.prog 16 #[.agg #[.int .i64 lim, .slice a n c], .int .i64 k] w' fun e w'' => (∃ us', e = .returned (.tuple #[.agg us'.toArray, .bool DI, .int .i64 DE]) ∧ stR.owns w'.heap.size w'' us' S3) ∧ Below w'.heap.size w' w'') := fun w' hw => by
    rw [hDE, hDI, hS3]
    exact rdouble_any 0 [.int .i64 lim, .slice a n c] _ k w' (stR.below HD.out.1 (below_any (below_any HB1.out.2.2 HB5.out.2.2.2.2) hw)) hk
  have HCI : Hid (∀ w', Below w5.heap.size w5 w' → Calls Try.prog 17 #[.agg #[.int .i64 lim, .slice xa n xc], .int .i64 to] w' fun e w'' => (∃ v, e = .returned (.tuple #[v, .int .i64 CE]) ∧ intsS.owns w'.heap.size w'' [v] L) ∧ Below w'.heap.size w' w'') := fun w' hw => by
    rw [hCE, hL]
    exact for_any w1.heap.size [.int .i64 lim, .slice xa n xc] _ to w' (stN.below (stN.olies HB5.out.2.2.1) hw)
  have HCJ : Hid (∀ w', Below w5.heap.size w5 w' → Calls Try.prog 18 #[.agg #[.int .i64 lim, .slice a n c], .int .i64 to] w' fun e w'' => (∃ v, e = .returned (.tuple #[v, .int .i64 CE]) ∧ intsS.owns w'.heap.size w'' [v] L) ∧ Below w'.heap.size w' w'') := fun w' hw => by
    rw [hCE, hL]
    exact rfor_any 0 [.int .i64 lim, .slice a n c] _ to w' (stR.below HD.out.1 (below_any (below_any HB1.out.2.2 HB5.out.2.2.2.2) hw))
  have HCK : Hid (∀ w', Below w5.heap.size w5 w' → Calls Try.prog 23 #[.agg #[.int .i64 lim, .slice xa n xc]] w' fun e w'' => e = .returned (.int .i64 CE) ∧ Below w'.heap.size w' w'') := fun w' hw => by
    rw [hCE]
    exact check_any w1.heap.size [.int .i64 lim, .slice xa n xc] _ w' (stN.below (stN.olies HB5.out.2.2.1) hw)
  have HCL : Hid (∀ w', Below w5.heap.size w5 w' → Calls Try.prog 24 #[.agg #[.int .i64 lim, .slice a n c]] w' fun e w'' => e = .returned (.int .i64 CE) ∧ Below w'.heap.size w' w'') := fun w' hw => by
    rw [hCE]
    exact rcheck_any 0 [.int .i64 lim, .slice a n c] _ w' (stR.below HD.out.1 (below_any (below_any HB1.out.2.2 HB5.out.2.2.2.2) hw))
  have HCM : Hid (∀ w', Below w5.heap.size w5 w' → Calls Try.prog 19 #[.agg #[.int .i64 lim, .slice xa n xc], .agg #[.int .i64 lim, .slice a n c]] w' fun e w'' => e = .returned (.bool true) ∧ Below w'.heap.size w' w'') := fun w' hw =>
    same_st w1.heap.size 0 [.int .i64 lim, .slice xa n xc] [.int .i64 lim, .slice a n c] (lim, l) w' (stN.below (stN.olies HB5.out.2.2.1) hw) (stR.below HD.out.1 (below_any (below_any HB1.out.2.2 HB5.out.2.2.2.2) hw))
  have HCO : Hid (∀ w', Below w5.heap.size w5 w' → Calls Try.prog 21 #[.agg #[.int .i64 pf, .int .i64 pt, .slice ya m yc], .agg #[.int .i64 pf, .int .i64 pt, .slice ax m cx]] w' fun e w'' => e = .returned (.bool true) ∧ Below w'.heap.size w' w'') := fun w' hw =>
    samePacket_true w1.heap.size 0 [.int .i64 pf, .int .i64 pt, .slice ya m yc] [.int .i64 pf, .int .i64 pt, .slice ax m cx] (pf, pt, pd) w' (pkF.keep (pkF.olies HB5.out.2.2.2.1) (.of_below hw)) (pkF.keep HD.out.2.1 (.of_below (below_any (below_any HB1.out.2.2 HB5.out.2.2.2.2) hw)))
  clear hSE hSI hTE hDE hDI hCE hS1 hS2 hS3 hP2 hL
  -- A
  obtain ⟨q0, q1, _, _⟩ := (HB5.out.1.below (Below.refl w5.heap.size w5) HB5.out.1.lt).two
  obtain ⟨q2, q3, q4, _⟩ := (HB5.out.2.1.below (Below.refl w5.heap.size w5) HB5.out.2.1.lt).three
  go_wp2_with fail
  clear q0 q1 q2 q3 q4
  refine (HCA.out w5 (Below.refl w5.heap.size w5)).mono ?_
  rintro e z1 ⟨⟨u1, rfl, hO⟩, hb⟩
  obtain ⟨a1, c1, rfl, _⟩ := st_ownN hO
  obtain ⟨V1, hV1⟩ : ∃ W, W = z1.alloc (.cells #[.int .i64 S1.1, .slice a1 S1.2.length c1] 30) := ⟨_, rfl⟩
  have hbV : Below w5.heap.size w5 V1 := by rw [hV1]; exact hb.alloc hb.size _
  have HV1 : Hid (Below w5.heap.size w5 V1 ∧ Below w5.heap.size w5 V1) := ⟨below_any (Below.refl w5.heap.size w5) hbV, hbV⟩
  have HR1 : Hid (∀ w', Below V1.heap.size V1 w' → Box w' z1.heap.size 30 #[.int .i64 S1.1, .slice a1 S1.2.length c1] ∧ stN.lies 0 w' [.int .i64 S1.1, .slice a1 S1.2.length c1] S1) := fun w' hw => by
    exact ⟨Box.through (by rw [hV1]; exact Box.new _ _ _) hw, stN.below (stN.weaken (stN.olies (n := w5.heap.size) (by rw [hV1]; exact stN.osame hO (.alloc _ _ _))) (Nat.zero_le _)) hw⟩
  clear hO hb hbV
  -- B
  obtain ⟨q0, q1, _, _⟩ := (HS5.out.1.below HV1.out.1 HS5.out.1.lt).two
  obtain ⟨q2, q3, q4, _⟩ := (HS5.out.2.below HV1.out.1 HS5.out.2.lt).three
  rw [hV1] at q0 q1 q2 q3 q4
  dsimp only
  go_wp2_with fail
  rw [← hV1]
  clear hV1 q0 q1 q2 q3 q4
  refine (HCB.out V1 HV1.out.1).mono ?_
  rintro e z2 ⟨⟨u2, rfl, hO⟩, hb⟩
  obtain ⟨a2, c2, rfl, _⟩ := st_ownR hO
  obtain ⟨V2, hV2⟩ : ∃ W, W = z2.alloc (.cells #[.int .i64 S1.1, .slice a2 S1.2.length c2] 24) := ⟨_, rfl⟩
  have hbV : Below V1.heap.size V1 V2 := by rw [hV2]; exact hb.alloc hb.size _
  have HV2 : Hid (Below w5.heap.size w5 V2 ∧ Below V1.heap.size V1 V2) := ⟨below_any HV1.out.1 hbV, hbV⟩
  have HR2 : Hid (∀ w', Below V2.heap.size V2 w' → Box w' z2.heap.size 24 #[.int .i64 S1.1, .slice a2 S1.2.length c2] ∧ stR.lies 0 w' [.int .i64 S1.1, .slice a2 S1.2.length c2] S1) := fun w' hw => by
    exact ⟨Box.through (by rw [hV2]; exact Box.new _ _ _) hw, stR.below (stR.weaken (stR.olies (n := V1.heap.size) (by rw [hV2]; exact stR.osame hO (.alloc _ _ _))) (Nat.zero_le _)) hw⟩
  clear hO hb hbV
  -- C
  obtain ⟨q0, q1, _, _⟩ := (HB5.out.1.below HV2.out.1 HB5.out.1.lt).two
  rw [hV2] at q0 q1
  dsimp only
  go_wp2_with fail
  rw [← hV2]
  clear hV2 q0 q1
  refine (HCC.out V2 HV2.out.1).mono ?_
  rintro e z3 ⟨⟨u3, r3, rfl, hO, hK⟩, hb⟩
  obtain ⟨a3, c3, rfl, _⟩ := st_ownN hO
  obtain ⟨b3, d3, rfl, _⟩ := pk_own hK
  obtain ⟨V3, hV3⟩ : ∃ W, W = (z3.alloc (.cells #[.int .i64 S2.1, .slice a3 S2.2.length c3] 30)).alloc (.cells #[.int .i64 P2.1, .int .i64 P2.2.1, .slice b3 P2.2.2.length d3] 32) := ⟨_, rfl⟩
  have hbV : Below V2.heap.size V2 V3 := by rw [hV3]; exact (hb.alloc hb.size _).alloc (by have := hb.size; simp; omega) _
  have HV3 : Hid (Below w5.heap.size w5 V3 ∧ Below V2.heap.size V2 V3) := ⟨below_any HV2.out.1 hbV, hbV⟩
  have HR3 : Hid (∀ w', Below V3.heap.size V3 w' → Box w' z3.heap.size 30 #[.int .i64 S2.1, .slice a3 S2.2.length c3] ∧ stN.lies 0 w' [.int .i64 S2.1, .slice a3 S2.2.length c3] S2) := fun w' hw => by
    refine ⟨Box.through (by rw [hV3]; exact (Box.new _ _ _).alloc _) hw, stN.below (stN.weaken (stN.olies (n := V2.heap.size) (by rw [hV3]; exact stN.osame (stN.osame hO (.alloc _ _ _)) (.alloc _ _ _))) (Nat.zero_le _)) hw⟩
  have HP3 : Hid (∀ w', Below V3.heap.size V3 w' → Box w' (z3.heap.size + 1) 32 #[.int .i64 P2.1, .int .i64 P2.2.1, .slice b3 P2.2.2.length d3] ∧ pkF.lies 0 w' [.int .i64 P2.1, .int .i64 P2.2.1, .slice b3 P2.2.2.length d3] P2) := fun w' hw => by
    refine ⟨Box.through ?_ hw, pkF.keep (pkF.weaken (pkF.olies (n := V2.heap.size) (by rw [hV3]; exact pkF.osame (pkF.osame hK (.alloc _ _ _)) (.alloc _ _ _))) (Nat.zero_le _)) (.of_below hw)⟩
    rw [hV3]
    have := Box.new (z3.alloc (.cells #[.int .i64 S2.1, .slice a3 S2.2.length c3] 30)) 32 #[.int .i64 P2.1, .int .i64 P2.2.1, .slice b3 P2.2.2.length d3]
    rwa [World.size_alloc] at this
  clear hO hK hb hbV
  -- D
  obtain ⟨q0, q1, _, _⟩ := (HS5.out.1.below HV3.out.1 HS5.out.1.lt).two
  rw [hV3] at q0 q1
  dsimp only
  go_wp2_with fail
  rw [← hV3]
  clear hV3 q0 q1
  refine (HCD.out V3 HV3.out.1).mono ?_
  rintro e z4 ⟨⟨u4, r4, rfl, hO, hK⟩, hb⟩
  obtain ⟨a4, c4, rfl, _⟩ := st_ownR hO
  obtain ⟨b4, d4, rfl, _⟩ := pk_own hK
  obtain ⟨V4, hV4⟩ : ∃ W, W = (z4.alloc (.cells #[.int .i64 S2.1, .slice a4 S2.2.length c4] 24)).alloc (.cells #[.int .i64 P2.1, .int .i64 P2.2.1, .slice b4 P2.2.2.length d4] 27) := ⟨_, rfl⟩
  have hbV : Below V3.heap.size V3 V4 := by rw [hV4]; exact (hb.alloc hb.size _).alloc (by have := hb.size; simp; omega) _
  have HV4 : Hid (Below w5.heap.size w5 V4 ∧ Below V3.heap.size V3 V4) := ⟨below_any HV3.out.1 hbV, hbV⟩
  have HR4 : Hid (∀ w', Below V4.heap.size V4 w' → Box w' z4.heap.size 24 #[.int .i64 S2.1, .slice a4 S2.2.length c4] ∧ stR.lies 0 w' [.int .i64 S2.1, .slice a4 S2.2.length c4] S2) := fun w' hw => by
    refine ⟨Box.through (by rw [hV4]; exact (Box.new _ _ _).alloc _) hw, stR.below (stR.weaken (stR.olies (n := V3.heap.size) (by rw [hV4]; exact stR.osame (stR.osame hO (.alloc _ _ _)) (.alloc _ _ _))) (Nat.zero_le _)) hw⟩
  have HP4 : Hid (∀ w', Below V4.heap.size V4 w' → Box w' (z4.heap.size + 1) 27 #[.int .i64 P2.1, .int .i64 P2.2.1, .slice b4 P2.2.2.length d4] ∧ pkF.lies 0 w' [.int .i64 P2.1, .int .i64 P2.2.1, .slice b4 P2.2.2.length d4] P2) := fun w' hw => by
    refine ⟨Box.through ?_ hw, pkF.keep (pkF.weaken (pkF.olies (n := V3.heap.size) (by rw [hV4]; exact pkF.osame (pkF.osame hK (.alloc _ _ _)) (.alloc _ _ _))) (Nat.zero_le _)) (.of_below hw)⟩
    rw [hV4]
    have := Box.new (z4.alloc (.cells #[.int .i64 S2.1, .slice a4 S2.2.length c4] 24)) 27 #[.int .i64 P2.1, .int .i64 P2.2.1, .slice b4 P2.2.2.length d4]
    rwa [World.size_alloc] at this
  clear hO hK hb hbV
  -- E
  obtain ⟨q0, q1, _, _⟩ := (HB5.out.1.below HV4.out.1 HB5.out.1.lt).two
  rw [hV4] at q0 q1
  dsimp only
  go_wp2_with fail
  rw [← hV4]
  clear hV4 q0 q1
  refine (HCE.out V4 HV4.out.1).mono ?_
  rintro e z5 ⟨⟨u5, rfl, hO⟩, hb⟩
  obtain ⟨a5, c5, rfl, _⟩ := st_ownN hO
  obtain ⟨V5, hV5⟩ : ∃ W, W = z5.alloc (.cells #[.int .i64 S2.1, .slice a5 S2.2.length c5] 30) := ⟨_, rfl⟩
  have hbV : Below V4.heap.size V4 V5 := by rw [hV5]; exact hb.alloc hb.size _
  have HV5 : Hid (Below w5.heap.size w5 V5 ∧ Below V4.heap.size V4 V5) := ⟨below_any HV4.out.1 hbV, hbV⟩
  have HR5 : Hid (∀ w', Below V5.heap.size V5 w' → Box w' z5.heap.size 30 #[.int .i64 S2.1, .slice a5 S2.2.length c5] ∧ stN.lies 0 w' [.int .i64 S2.1, .slice a5 S2.2.length c5] S2) := fun w' hw => by
    exact ⟨Box.through (by rw [hV5]; exact Box.new _ _ _) hw, stN.below (stN.weaken (stN.olies (n := V4.heap.size) (by rw [hV5]; exact stN.osame hO (.alloc _ _ _))) (Nat.zero_le _)) hw⟩
  clear hO hb hbV
  -- F
  obtain ⟨q0, q1, _, _⟩ := (HS5.out.1.below HV5.out.1 HS5.out.1.lt).two
  rw [hV5] at q0 q1
  dsimp only
  go_wp2_with fail
  rw [← hV5]
  clear hV5 q0 q1
  refine (HCF.out V5 HV5.out.1).mono ?_
  rintro e z6 ⟨⟨u6, rfl, hO⟩, hb⟩
  obtain ⟨a6, c6, rfl, _⟩ := st_ownR hO
  obtain ⟨V6, hV6⟩ : ∃ W, W = z6.alloc (.cells #[.int .i64 S2.1, .slice a6 S2.2.length c6] 24) := ⟨_, rfl⟩
  have hbV : Below V5.heap.size V5 V6 := by rw [hV6]; exact hb.alloc hb.size _
  have HV6 : Hid (Below w5.heap.size w5 V6 ∧ Below V5.heap.size V5 V6) := ⟨below_any HV5.out.1 hbV, hbV⟩
  have HR6 : Hid (∀ w', Below V6.heap.size V6 w' → Box w' z6.heap.size 24 #[.int .i64 S2.1, .slice a6 S2.2.length c6] ∧ stR.lies 0 w' [.int .i64 S2.1, .slice a6 S2.2.length c6] S2) := fun w' hw => by
    exact ⟨Box.through (by rw [hV6]; exact Box.new _ _ _) hw, stR.below (stR.weaken (stR.olies (n := V5.heap.size) (by rw [hV6]; exact stR.osame hO (.alloc _ _ _))) (Nat.zero_le _)) hw⟩
  clear hO hb hbV
  -- G
  obtain ⟨q0, q1, _, _⟩ := (HB5.out.1.below HV6.out.1 HB5.out.1.lt).two
  rw [hV6] at q0 q1
  dsimp only
  go_wp2_with fail
  rw [← hV6]
  clear hV6 q0 q1
  refine (HCG.out V6 HV6.out.1).mono ?_
  rintro e z7 ⟨⟨u7, rfl, hO⟩, hb⟩
  obtain ⟨a7, c7, rfl, _⟩ := st_ownN hO
  obtain ⟨V7, hV7⟩ : ∃ W, W = z7.alloc (.cells #[.int .i64 S3.1, .slice a7 S3.2.length c7] 30) := ⟨_, rfl⟩
  have hbV : Below V6.heap.size V6 V7 := by rw [hV7]; exact hb.alloc hb.size _
  have HV7 : Hid (Below w5.heap.size w5 V7 ∧ Below V6.heap.size V6 V7) := ⟨below_any HV6.out.1 hbV, hbV⟩
  have HR7 : Hid (∀ w', Below V7.heap.size V7 w' → Box w' z7.heap.size 30 #[.int .i64 S3.1, .slice a7 S3.2.length c7] ∧ stN.lies 0 w' [.int .i64 S3.1, .slice a7 S3.2.length c7] S3) := fun w' hw => by
    exact ⟨Box.through (by rw [hV7]; exact Box.new _ _ _) hw, stN.below (stN.weaken (stN.olies (n := V6.heap.size) (by rw [hV7]; exact stN.osame hO (.alloc _ _ _))) (Nat.zero_le _)) hw⟩
  clear hO hb hbV
  -- H
  obtain ⟨q0, q1, _, _⟩ := (HS5.out.1.below HV7.out.1 HS5.out.1.lt).two
  rw [hV7] at q0 q1
  dsimp only
  go_wp2_with fail
  rw [← hV7]
  clear hV7 q0 q1
  refine (HCH.out V7 HV7.out.1).mono ?_
  rintro e z8 ⟨⟨u8, rfl, hO⟩, hb⟩
  obtain ⟨a8, c8, rfl, _⟩ := st_ownR hO
  obtain ⟨V8, hV8⟩ : ∃ W, W = z8.alloc (.cells #[.int .i64 S3.1, .slice a8 S3.2.length c8] 24) := ⟨_, rfl⟩
  have hbV : Below V7.heap.size V7 V8 := by rw [hV8]; exact hb.alloc hb.size _
  have HV8 : Hid (Below w5.heap.size w5 V8 ∧ Below V7.heap.size V7 V8) := ⟨below_any HV7.out.1 hbV, hbV⟩
  have HR8 : Hid (∀ w', Below V8.heap.size V8 w' → Box w' z8.heap.size 24 #[.int .i64 S3.1, .slice a8 S3.2.length c8] ∧ stR.lies 0 w' [.int .i64 S3.1, .slice a8 S3.2.length c8] S3) := fun w' hw => by
    exact ⟨Box.through (by rw [hV8]; exact Box.new _ _ _) hw, stR.below (stR.weaken (stR.olies (n := V7.heap.size) (by rw [hV8]; exact stR.osame hO (.alloc _ _ _))) (Nat.zero_le _)) hw⟩
  clear hO hb hbV
  -- I
  obtain ⟨q0, q1, _, _⟩ := (HB5.out.1.below HV8.out.1 HB5.out.1.lt).two
  rw [hV8] at q0 q1
  dsimp only
  go_wp2_with fail
  rw [← hV8]
  clear hV8 q0 q1
  refine (HCI.out V8 HV8.out.1).mono ?_
  rintro e V9 ⟨⟨v9, rfl, hO⟩, hb⟩
  obtain ⟨x9, y9, e9, _⟩ := ints_len (intsS.olies hO)
  obtain rfl : v9 = _ := by simpa using e9
  have HV9 : Hid (Below w5.heap.size w5 V9 ∧ Below V8.heap.size V8 V9) := ⟨below_any HV8.out.1 hb, hb⟩
  have HR9 : Hid (∀ w', Below V9.heap.size V9 w' → intsS.lies 0 w' [.slice x9 L.length y9] L) := fun w' hw => intsS.below (intsS.weaken (intsS.olies hO) (Nat.zero_le _)) hw
  obtain ⟨q0, q1, _, _⟩ := (HS5.out.1.below HV9.out.1 HS5.out.1.lt).two
  clear hO hb e9
  dsimp only
  go_wp2_with fail
  clear q0 q1
  refine (HCJ.out V9 HV9.out.1).mono ?_
  rintro e V10 ⟨⟨v10, rfl, hO⟩, hb⟩
  obtain ⟨x10, y10, e10, _⟩ := ints_len (intsS.olies hO)
  obtain rfl : v10 = _ := by simpa using e10
  have HV10 : Hid (Below w5.heap.size w5 V10 ∧ Below V9.heap.size V9 V10) := ⟨below_any HV9.out.1 hb, hb⟩
  have HR10 : Hid (∀ w', Below V10.heap.size V10 w' → intsS.lies 0 w' [.slice x10 L.length y10] L) := fun w' hw => intsS.below (intsS.weaken (intsS.olies hO) (Nat.zero_le _)) hw
  clear hO hb e10
  have B9 : Hid (Below V9.heap.size V9 V10) := HV10.out.2
  have B8 : Hid (Below V8.heap.size V8 V10) := below_any HV9.out.2 B9.out
  have B7 : Hid (Below V7.heap.size V7 V10) := below_any HV8.out.2 B8.out
  have B6 : Hid (Below V6.heap.size V6 V10) := below_any HV7.out.2 B7.out
  have B5 : Hid (Below V5.heap.size V5 V10) := below_any HV6.out.2 B6.out
  have B4 : Hid (Below V4.heap.size V4 V10) := below_any HV5.out.2 B5.out
  have B3 : Hid (Below V3.heap.size V3 V10) := below_any HV4.out.2 B4.out
  have B2 : Hid (Below V2.heap.size V2 V10) := below_any HV3.out.2 B3.out
  have B1 : Hid (Below V1.heap.size V1 V10) := below_any HV2.out.2 B2.out
  clear HCA HCB HCC HCD HCE HCF HCG HCH HCI HCJ
  obtain ⟨k0, k1, _, _⟩ := (HR1.out V10 B1.out).1.two
  obtain ⟨k2, k3, _, _⟩ := (HR2.out V10 B2.out).1.two
  have hS := same_st 0 0 [.int .i64 S1.1, .slice a1 S1.2.length c1] [.int .i64 S1.1, .slice a2 S1.2.length c2] S1 V10 (HR1.out V10 B1.out).2 (HR2.out V10 B2.out).2
  dsimp only
  go_wp2_with (go_at_call 20; refine (num_any _ _).mono ?_; rintro e w20 ⟨rfl, rfl⟩)
  refine hS.mono ?_
  rintro e Z1 ⟨rfl, hb⟩
  have HZ1 : Hid (Below V10.heap.size V10 Z1) := hb
  clear hS hb k0 k1 k2 k3
  obtain ⟨k0, k1, _, _⟩ := (HR3.out Z1 (below_any B3.out HZ1.out)).1.two
  obtain ⟨k2, k3, _, _⟩ := (HR4.out Z1 (below_any B4.out HZ1.out)).1.two
  have hS := same_st 0 0 [.int .i64 S2.1, .slice a3 S2.2.length c3] [.int .i64 S2.1, .slice a4 S2.2.length c4] S2 Z1 (HR3.out Z1 (below_any B3.out HZ1.out)).2 (HR4.out Z1 (below_any B4.out HZ1.out)).2
  go_wp2_with (go_at_call 20; refine (num_any _ _).mono ?_; rintro e w20 ⟨rfl, rfl⟩)
  refine hS.mono ?_
  rintro e Z2 ⟨rfl, hb⟩
  have HZ2 : Hid (Below V10.heap.size V10 Z2) := below_any HZ1.out hb
  clear hS hb k0 k1 k2 k3
  obtain ⟨k0, k1, k2, _⟩ := (HP3.out Z2 (below_any B3.out HZ2.out)).1.three
  obtain ⟨k3, k4, k5, _⟩ := (HP4.out Z2 (below_any B4.out HZ2.out)).1.three
  have hS := samePacket_true 0 0 [.int .i64 P2.1, .int .i64 P2.2.1, .slice b3 P2.2.2.length d3] [.int .i64 P2.1, .int .i64 P2.2.1, .slice b4 P2.2.2.length d4] P2 Z2 (HP3.out Z2 (below_any B3.out HZ2.out)).2 (HP4.out Z2 (below_any B4.out HZ2.out)).2
  go_wp2_with (go_at_call 20; refine (num_any _ _).mono ?_; rintro e w20 ⟨rfl, rfl⟩)
  refine hS.mono ?_
  rintro e Z3 ⟨rfl, hb⟩
  have HZ3 : Hid (Below V10.heap.size V10 Z3) := below_any HZ2.out hb
  clear hS hb k0 k1 k2 k3 k4 k5
  obtain ⟨k0, k1, _, _⟩ := (HR5.out Z3 (below_any B5.out HZ3.out)).1.two
  obtain ⟨k2, k3, _, _⟩ := (HR6.out Z3 (below_any B6.out HZ3.out)).1.two
  have hS := same_st 0 0 [.int .i64 S2.1, .slice a5 S2.2.length c5] [.int .i64 S2.1, .slice a6 S2.2.length c6] S2 Z3 (HR5.out Z3 (below_any B5.out HZ3.out)).2 (HR6.out Z3 (below_any B6.out HZ3.out)).2
  go_wp2_with (go_at_call 20; refine (num_any _ _).mono ?_; rintro e w20 ⟨rfl, rfl⟩)
  refine hS.mono ?_
  rintro e Z4 ⟨rfl, hb⟩
  have HZ4 : Hid (Below V10.heap.size V10 Z4) := below_any HZ3.out hb
  clear hS hb k0 k1 k2 k3
  obtain ⟨k0, k1, _, _⟩ := (HR7.out Z4 (below_any B7.out HZ4.out)).1.two
  obtain ⟨k2, k3, _, _⟩ := (HR8.out Z4 (below_any B8.out HZ4.out)).1.two
  have hS := same_st 0 0 [.int .i64 S3.1, .slice a7 S3.2.length c7] [.int .i64 S3.1, .slice a8 S3.2.length c8] S3 Z4 (HR7.out Z4 (below_any B7.out HZ4.out)).2 (HR8.out Z4 (below_any B8.out HZ4.out)).2
  go_wp2_with (go_at_call 20; refine (num_any _ _).mono ?_; rintro e w20 ⟨rfl, rfl⟩)
  refine hS.mono ?_
  rintro e Z5 ⟨rfl, hb⟩
  have HZ5 : Hid (Below V10.heap.size V10 Z5) := below_any HZ4.out hb
  clear hS hb k0 k1 k2 k3
  have hS := sameInts_true 0 0 _ _ L Z5 (HR9.out Z5 (below_any B9.out HZ5.out)) (HR10.out Z5 HZ5.out)
  go_wp2_with (go_at_call 20; refine (num_any _ _).mono ?_; rintro e w20 ⟨rfl, rfl⟩)
  refine hS.mono ?_
  rintro e Z6 ⟨rfl, q6, hq6⟩
  have HZ6 : Hid (Below w5.heap.size w5 Z6) := by
    show Below _ _ _
    rw [hq6]; exact below_drewN (below_any HV10.out.1 HZ5.out) q6
  clear hS hq6 HR1 HR2 HR3 HR4 HR5 HR6 HR7 HR8 HR9 HR10 HP3 HP4 B1 B2 B3 B4 B5 B6 B7 B8 B9 HV1 HV2 HV3 HV4 HV5 HV6 HV7 HV8 HV9 HV10 HZ1 HZ2 HZ3 HZ4 HZ5
  go_wp2_with (go_at_call 20; refine (num_any _ _).mono ?_; rintro e w20 ⟨rfl, rfl⟩)
  have HOT : OT w5 w.heap.size Bx By lim a n c pf pt ax m cx xa xc ya yc Z6 := by
    have e1 := (HS5.out.1.below HZ6.out HS5.out.1.lt).two
    have e2 := (HS5.out.2.below HZ6.out HS5.out.2.lt).three
    have e3 := (HB5.out.1.below HZ6.out HB5.out.1.lt).two
    have e4 := (HB5.out.2.1.below HZ6.out HB5.out.2.1.lt).three
    exact ⟨e1.1, e1.2.1, e2.1, e2.2.1, e2.2.2.1, e3.1, e3.2.1, e4.1, e4.2.1, e4.2.2.1, HZ6.out⟩
  have HBW : Hid (Below w.heap.size w w5) := below_any HB1.out.2.2 HB5.out.2.2.2.2
  go_region_held3 (fun w' => w'.cell? ⟨w.heap.size, 0, none⟩ = some (.int .i64 lim) ∧ w'.cell? ⟨w.heap.size, 1, none⟩ = some (.slice a n c) ∧ w'.cell? ⟨w.heap.size + 1, 0, none⟩ = some (.int .i64 pf) ∧ w'.cell? ⟨w.heap.size + 1, 1, none⟩ = some (.int .i64 pt) ∧ w'.cell? ⟨w.heap.size + 1, 2, none⟩ = some (.slice ax m cx) ∧ w'.cell? ⟨Bx, 0, none⟩ = some (.int .i64 lim) ∧ w'.cell? ⟨Bx, 1, none⟩ = some (.slice xa n xc) ∧ w'.cell? ⟨By, 0, none⟩ = some (.int .i64 pf) ∧ w'.cell? ⟨By, 1, none⟩ = some (.int .i64 pt) ∧ w'.cell? ⟨By, 2, none⟩ = some (.slice ya m yc) ∧ Below w5.heap.size w5 w')
    (first | with_reducible exact HOT.drew | with_reducible assumption | with_reducible exact OT.through (by assumption) hbc)
    (first
      | (go_simp
         with_reducible refine Calls.mono (num_any _ _) ?_
         rintro e w20 ⟨rfl, rfl⟩)
      | (go_simp
         with_reducible refine Calls.mono (HCK.out _ ?_) ?_
         · exact OT.below (by assumption)
         rintro e w21 ⟨rfl, hbc⟩)
      | (go_simp
         with_reducible refine Calls.mono (HCL.out _ ?_) ?_
         · exact OT.below (by assumption)
         rintro e w22 ⟨rfl, hbc⟩)
      | (go_simp
         with_reducible refine Calls.mono (HCM.out _ ?_) ?_
         · exact OT.below (by assumption)
         rintro e w23 ⟨rfl, hbc⟩)
      | (go_simp
         with_reducible refine Calls.mono (HCO.out _ ?_) ?_
         · exact OT.below (by assumption)
         rintro e w24 ⟨rfl, hbc⟩)
      | (go_simp
         with_reducible refine Calls.mono (alive_any _) ?_
         rintro e w25 ⟨rfl, hbc⟩))
  all_goals
    have HE := OT.below (by assumption)
    go_wp2
    go_ret
    exact ⟨rfl, below_any HBW.out HE⟩

set_option maxRecDepth 100000 in
theorem lifted (os : Os) (started : os.Started) (H : Type) (enc : TypeId × Value → H) :
    ReturnsInHanded {} Try.checked os 3 .any (Rows.netTellsSpec.pre6 enc Try.prog Try.f3 Rows.netTellsRow.domain false) (Rows.netTellsSpec.post enc Try.prog Try.f3 false true false false) := by
  refine returnsInHanded_of_change_sized (C := Try.checked) own started (by kernel_rfl) Try.func3
    (ChangeSpec.witness6 (enc := enc) (C := Try.checked) false ⟨#[], #[.agg #[.int .i64 0, .slice none 0 0], .agg #[.int .i64 0, .int .i64 0, .slice none 0 0], .int .i64 0, .int .i64 0], []⟩ 8 (by kernel_rfl) (by kernel_rfl) (by kernel_rfl) (by kernel_rfl)) ?_
  intro W base args ds gs before hval0 hW hcnd hsz0 _
  have hval : ∀ (j : Nat) t v, Try.f3.params[j]? = some t → args[j]? = some v → Value.okWide Try.prog W .any base t v := hval0
  have hW' := hW
  obtain ⟨p, q, hA0, hV, rfl, hfz, hnd⟩ := hW
  have hA : DataW.TrodAll enc Try.prog W 0 (fun _ => true) true Try.f3.params.toList args.toList ds p := hA0
  have hsz : (DataW.weightsEach Try.prog (Try.f3.params.toList ++ Rows.netTellsSpec.plain.varTypes Try.prog) (ds ++ gs)).all (· ≤ reachBytes) = true := hsz0
  clear hsz0
  rw [Try.params3] at hA hval hsz
  obtain ⟨v0, vs0, d0, ds0, p0, q0, hargs, rfl, rfl, h0, r0⟩ := trodAll_cons hA
  obtain ⟨v1, vs1, d1, ds1, p1, q1, rfl, rfl, rfl, h1, r1⟩ := trodAll_cons r0
  obtain ⟨v2, vs2, d2, ds2, p2, q2, rfl, rfl, rfl, h2, r2⟩ := trodAll_cons r1
  obtain ⟨v3, vs3, d3, ds3, p3, q3, rfl, rfl, rfl, h3, r3⟩ := trodAll_cons r2
  obtain ⟨rfl, rfl, rfl⟩ := trodAll_nil r3
  obtain rfl : args = #[v0, v1, v2, v3] := by cases args; simp_all
  obtain ⟨rfl, rfl⟩ := trodVars_none hV
  obtain ⟨cs0, rfl, hc0⟩ := okWide_struct Try.underlying24 (hval 0 24 v0 rfl rfl)
  obtain ⟨us0, rfl⟩ := as_list cs0
  have k0 := h0
  have lt0 : ∀ x ∈ p0, x.block < W.heap.size := by obtain ⟨m, hm⟩ := k0; exact DataW.trod_lt m _ _ _ hm
  obtain ⟨m0, hm0⟩ := h0
  obtain ⟨s0, A0, F0'⟩ := stR.reads hm0
  have F0 := F0' fun n hn => by have := List.all_eq_true.1 hsz _ (DataW.weights_mem_each (j := 0) rfl rfl n hn); simpa using this
  obtain ⟨cs1, rfl, hc1⟩ := okWide_struct Try.underlying27 (hval 1 27 v1 rfl rfl)
  obtain ⟨us1, rfl⟩ := as_list cs1
  have k1 := h1
  have lt1 : ∀ x ∈ p1, x.block < W.heap.size := by obtain ⟨m, hm⟩ := k1; exact DataW.trod_lt m _ _ _ hm
  obtain ⟨m1, hm1⟩ := h1
  obtain ⟨s1, A1, F1'⟩ := pkR.reads hm1
  have F1 := F1' fun n hn => by have := List.all_eq_true.1 hsz _ (DataW.weights_mem_each (j := 1) rfl rfl n hn); simpa using this
  obtain ⟨a2, rfl, rfl, rfl, w2⟩ := open_int Try.underlying3 (hval 2 3 v2 rfl rfl) h2
  have b2 := bounds_i64 w2
  obtain ⟨a3, rfl, rfl, rfl, w3⟩ := open_int Try.underlying3 (hval 3 3 v3 rfl rfl) h3
  have b3 := bounds_i64 w3
  clear hA0 hval0
  refine (walk us0 us1 s0 s1 a2 a3 W A0 (fits_of F0) A1 (pk_fits F1) b2).mono fun e W' ⟨he, bel⟩ => ?_
  subst he
  exact ⟨_, rfl, _, _, _, [], _, [], hW', trodAll_mk1 (shut_bool Try.underlying4 _), (trodAll_cons_mk (Below.trod laidOut (by kernel_rfl) (of_decide_eq_true (by kernel_rfl)) k0 bel lt0) (trodAll_cons_mk (Below.trod laidOut (by kernel_rfl) (of_decide_eq_true (by kernel_rfl)) k1 bel lt1) (trodAll_cons_mk (shut_int Try.underlying3 w2) (trodAll_cons_mk (shut_int Try.underlying3 w3) trodAll_mk0)))), rfl, bel.frame _, fun h => by cases h⟩

theorem over : Rows.netTellsRow.holds Try.pinned (OpenSpec.ofChange Rows.netTellsSpec) :=
  OpenClaim.holds_of_wide 3 Try.f3 rfl rfl rfl rfl rfl rfl rfl ⟨rfl, rfl, rfl, rfl, rfl⟩ rfl rfl rfl rfl rfl (by kernel_rfl) Try.func3 (by kernel_rfl)
    (of_decide_eq_true (by kernel_rfl)) (by unfold Func.isWrapper; first | (rw [if_pos (by decide +kernel)]; kernel_rfl) | (rw [if_neg (by decide +kernel)]; exact ⟨rfl, rfl⟩))
    (fun os started H enc _ => lifted os started H enc)

end Go.Proofs.Ytpecniajamgjiaa.netTells

namespace Go.Proofs.Ytpecniajamgjiaa
theorem netTells_holds : Rows.NetTellsSaid := netTells.over
#print axioms netTells_holds
end Go.Proofs.Ytpecniajamgjiaa
