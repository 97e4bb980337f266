/-
  What Write makes of a file, where it is refused at once or nothing is written.
-/
import Derived.Test.YtgflfmpoeamnnaaWMath
namespace Go.Proofs.Ytgflfmpoeamnnaa
open Go.RowKit

theorem in_nil (w : World) (d : Nat) (a : Option Addr) (l c : Nat) : (Op.equalIn (d + 1) 25 (.slice a l c) (.slice none 0 0)).run Try.prog w = .ok a.isNone w := by
  cases a <;> simp [Op.equalIn, run_underlying Try.underlying25]
theorem equal_nil (w : World) (a : Option Addr) (l c : Nat) : (Op.equal 25 (.slice a l c) (.slice none 0 0)).run Try.prog w = .ok a.isNone w := in_nil w 9999 a l c
theorem eql_nil (w : World) (a : Option Addr) (l c : Nat) : (binOp .eql 25 (.slice a l c) (.slice none 0 0)).run Try.prog w = .ok (.bool a.isNone) w := by
  simp [binOp, equal_nil w a l c]

/-- The two variables of a call that takes a file and answers one. -/
def Two (w : World) (V : World) (s : Int) (v : Value) : Prop := Below w.heap.size w V ∧ Box V w.heap.size 28 #[.int .i64 s, v] ∧ Box V (w.heap.size + 1) 28 #[.int .i64 0, .slice none 0 0]
theorem Two.start (w : World) (s : Int) (v : Value) : Two w ((w.alloc (.cells #[.int .i64 s, v] 28)).alloc (.cells #[.int .i64 0, .slice none 0 0] 28)) s v := by
  refine ⟨((Below.refl _ w).alloc (Nat.le_refl _) _).alloc (by simp) _, (Box.new _ _ _).alloc _, ?_⟩
  have := Box.new (w.alloc (.cells #[.int .i64 s, v] 28)) 28 #[.int .i64 0, .slice none 0 0]
  rwa [World.size_alloc] at this
theorem Two.below {w V V' : World} {s : Int} {v : Value} (h : Two w V s v) (hb : Below V.heap.size V V') : Two w V' s v := ⟨below_any h.1 hb, h.2.1.below hb h.2.1.lt, h.2.2.below hb h.2.2.lt⟩
theorem Two.lt {w V : World} {s : Int} {v : Value} (h : Two w V s v) : w.heap.size + 2 ≤ V.heap.size := h.2.2.lt
theorem Two.cells {w V : World} {s : Int} {v : Value} (h : Two w V s v) : V.cell? ⟨w.heap.size, 0, none⟩ = some (.int .i64 s) ∧ V.cell? ⟨w.heap.size, 1, none⟩ = some v ∧ V.cell? ⟨w.heap.size + 1, 0, none⟩ = some (.int .i64 0) ∧ V.cell? ⟨w.heap.size + 1, 1, none⟩ = some (.slice none 0 0) ∧ V.frozen? ⟨w.heap.size + 1, 0, none⟩ = false ∧ V.frozen? ⟨w.heap.size + 1, 1, none⟩ = false :=
  ⟨h.2.1.two.1, h.2.1.two.2.1, h.2.2.two.1, h.2.2.two.2.1, h.2.2.two.2.2.1, h.2.2.two.2.2.2⟩
theorem Two.grown {w V V' : World} {s : Int} {v : Value} {g : Nat} (h : Two w V s v) (hg : V.grownBy V' (some g)) (hn : w.heap.size + 2 ≤ g) : Two w V' s v := ⟨h.1.grown hg h.1.size (fun i hi => by cases hi; omega), h.2.1.grown hg (by simp; omega), h.2.2.grown hg (by simp; omega)⟩
/-- The answer is stored. -/
theorem Two.ends {w V : World} {s : Int} {v : Value} (h : Two w V s v) {n0 : Nat} {us : List Value} {f : Fl} (hn : w.heap.size + 2 ≤ n0) (hl : flN.lies n0 V us f) (x y : Value) : flN.lies w.heap.size ((V.setCell ⟨w.heap.size + 1, 0, none⟩ x).setCell ⟨w.heap.size + 1, 1, none⟩ y) us f ∧ Below w.heap.size w ((V.setCell ⟨w.heap.size + 1, 0, none⟩ x).setCell ⟨w.heap.size + 1, 1, none⟩ y) :=
  ⟨flN.weaken (flN.keep hl (.set2 (by omega))) (by omega), below_set2 h.1 (by omega) _ _⟩

set_option maxRecDepth 100000 in
set_option maxHeartbeats 4000000 in
theorem write_less (n0 n1 : Nat) (us : List Value) (f : Fl) (off : Int) (v : Value) (d : List Int) (w : World) (h : flN.lies n0 w us f) (hoff : I64 off) (hv : Arg n1 w v d) (hless : chk f = false ∨ off < 0 ∨ d.length = 0) :
    Calls Try.prog 12 #[.agg us.toArray, .int .i64 off, v] w fun e w' => (∃ us', e = .returned (.tuple #[.agg us'.toArray, .int .i64 (wrE f off d)]) ∧ flN.lies w.heap.size w' us' (wrF f off d)) ∧ Below w.heap.size w w' := by
  obtain ⟨a, c, rfl, hL, hi, hm⟩ := fl_viewN h
  obtain ⟨s, l⟩ := f
  obtain ⟨x, cap, rfl, hcap, hdm, _⟩ := hv.shape
  simp only at hL hi hm ⊢
  unfold maxLen at hm hdm
  have hI := hoff
  unfold I64 at hoff
  have hld := run_len Try.underlying25 x d.length cap
  obtain ⟨W, hW⟩ : ∃ W, W = (w.alloc (.cells #[.int .i64 s, .slice a l.length c] 28)).alloc (.cells #[.int .i64 0, .slice none 0 0] 28) := ⟨_, rfl⟩
  have hT : Two w W s (.slice a l.length c) := by rw [hW]; exact Two.start _ _ _
  have HC := check_any n0 [.int .i64 s, .slice a l.length c] (s, l) W (flN.below h hT.1)
  have HT : Hid (Two w W s (.slice a l.length c)) := hT
  have HL : Hid (flN.lies n0 w [.int .i64 s, .slice a l.length c] (s, l) ∧ Arg n1 w (.slice x d.length cap) d ∧ I64 s) := ⟨h, hv, hi⟩
  obtain ⟨g0, g1, _⟩ := hT.cells
  rw [hW] at g0 g1
  clear h hL hi hT hv

  cases hck : chk (s, l)
  case false =>
    rw [show cerr (s, l) = 9 by unfold cerr; rw [hck]; rfl] at HC
    have e1 : wrE (s, l) off d = 9 := if_pos hck
    have e2 : wrF (s, l) off d = (0, []) := if_neg (by rw [e1]; omega)
    rw [e1, e2]
    go_enter Try.func12, Try.ntmps12
    go_wp2_with fail
    rw [← hW]
    clear hW g0 g1
    refine HC.mono ?_
    rintro e w1 ⟨rfl, hb1⟩
    have HT1 : Hid (Two w w1 s (.slice a l.length c)) := HT.out.below hb1
    obtain ⟨_, _, t0, t1, f0, f1⟩ := HT1.out.cells
    go_wp2
    refine bodyPost_ret (v := .tuple #[.agg #[.int .i64 0, .slice none 0 0], .int .i64 9]) (by simp [results, Try.results12, go_sem, *]) rfl ⟨⟨[_, _], rfl, fl_nilN _ _⟩, below_set2 HT1.out.1 (by omega) _ _⟩
  rw [show cerr (s, l) = 0 by unfold cerr; rw [hck]; rfl] at HC
  by_cases ho0 : off < 0
  · have e1 : wrE (s, l) off d = 4 := by unfold wrE; rw [if_neg (by rw [hck]; simp), if_pos ho0]
    have e2 : wrF (s, l) off d = (0, []) := if_neg (by rw [e1]; omega)
    rw [e1, e2]
    go_enter Try.func12, Try.ntmps12
    go_wp2_with fail
    rw [← hW]
    clear hW g0 g1
    refine HC.mono ?_
    rintro e w1 ⟨rfl, hb1⟩
    have HT1 : Hid (Two w w1 s (.slice a l.length c)) := HT.out.below hb1
    obtain ⟨_, _, t0, t1, f0, f1⟩ := HT1.out.cells
    go_wp2
    refine bodyPost_ret (v := .tuple #[.agg #[.int .i64 0, .slice none 0 0], .int .i64 4]) (by simp [results, Try.results12, go_sem, *]) rfl ⟨⟨[_, _], rfl, fl_nilN _ _⟩, below_set2 HT1.out.1 (by omega) _ _⟩
  by_cases hd0 : d.length = 0
  · have e1 : wrE (s, l) off d = 0 := by unfold wrE; rw [if_neg (by rw [hck]; simp), if_neg ho0, if_pos hd0]
    have e2 : wrF (s, l) off d = (s, mkL (bd l) 76) := by
      unfold wrF
      rw [if_pos e1, wrT_none _ hd0, mk_txt hck]
      rw [show mkL (bd l) 76 = l from same_done hck]
    rw [e1, e2]
    have hdz : (d.length : Int) = 0 := by omega
    have HSP : Hid (∀ V, Two w V s (.slice a l.length c) → Calls Try.prog 29 #[.agg #[.int .i64 s, .slice a l.length c]] V.drew fun e w' => (∃ b M c, e = .returned (.map (some b)) ∧ MT V.heap.size c w' b M (bd l) ∧ c ≤ 76) ∧ Below V.heap.size V w') := fun V hV =>
      (spread_any n0 [.int .i64 s, .slice a l.length c] (s, l) V.drew (flN.keep (flN.below HL.out.1 hV.1) (.drew _ _)) hck).mono fun e w' h => ⟨h.1, ((Below.refl _ V).drew).trans h.2⟩
    have HSI : Hid (I64 s) := HL.out.2.2
    obtain ⟨n, hn⟩ : ∃ n, n = l.length := ⟨_, rfl⟩
    rw [← hn] at hW HT HC HSP g0 g1 ⊢
    obtain ⟨R, hR⟩ : ∃ R, R = mkL (bd l) 76 := ⟨_, rfl⟩
    have HR : Hid (R = mkL (bd l) 76) := hR
    rw [← hR]
    clear e1 e2 hck hn hR HL
    go_enter Try.func12, Try.ntmps12
    go_wp2_with fail
    rw [← hW]
    clear hW g0 g1
    refine HC.mono ?_
    rintro e w1 ⟨rfl, hb1⟩
    have HT1 : Hid (Two w w1 s (.slice a n c)) := HT.out.below hb1
    obtain ⟨r0, r1, t0, t1, f0, f1⟩ := HT1.out.cells
    clear HC hb1
    go_wp2
    go_region_held3 (fun V => V.cell? ⟨w.heap.size, 0, none⟩ = some (.int .i64 s) ∧ V.cell? ⟨w.heap.size, 1, none⟩ = some (.slice a n c)) (first | exact ⟨r0, r1⟩ | exact ⟨x0, x1⟩ | exact ⟨y0, y1⟩ | go_keep)
      ((first
        | (go_at_call 29; go_simp; refine Calls.mono (HSP.out _ HT1.out) ?_; rintro e w2 ⟨⟨b, M, cc, rfl, hMT, hcc⟩, hb2⟩; have HT2 : Hid (Two w w2 s (.slice a n c)) := HT1.out.below hb2; obtain ⟨x0, x1, _⟩ := HT2.out.cells; have HM : Hid (MT w1.heap.size cc w2 b M (bd l) ∧ cc ≤ 76) := ⟨hMT, hcc⟩; clear hMT hcc hb2)
        | (go_at_call 28; go_simp; refine Calls.mono (gather_any w1.heap.size _ s _ _ _ _ HM.out.1 HSI.out (by have := HM.out.2; omega)) ?_; rintro e w3 ⟨⟨us3, rfl, hu3⟩, hb3⟩; have HT3 : Hid (Two w w3 s (.slice a n c)) := HT2.out.below hb3; obtain ⟨y0, y1, y2, y3, y4, y5⟩ := HT3.out.cells; obtain ⟨a3, c3, rfl, _⟩ := fl_viewN hu3)))
    have HU3 : Hid (flN.lies w1.heap.size w3 [.int .i64 s, .slice a3 (mkL (bd l) 76).length c3] (s, mkL (bd l) 76)) := hu3
    clear hu3 hb3
    go_wp2
    refine bodyPost_ret (v := .tuple #[.agg #[.int .i64 s, .slice a3 (mkL (bd l) 76).length c3], .int .i64 0]) (by simp [results, Try.results12, go_sem, *]) rfl ?_
    obtain ⟨h1, h2⟩ := HT3.out.ends HT1.out.lt HU3.out (.int .i64 s) (.slice a3 (mkL (bd l) 76).length c3)
    rw [HR.out]
    exact ⟨⟨_, rfl, h1⟩, h2⟩
  rcases hless with h | h | h
  · rw [hck] at h; cases h
  · exact absurd h ho0
  · exact absurd h hd0

end Go.Proofs.Ytgflfmpoeamnnaa
