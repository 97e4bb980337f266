/-
  FileOne: for every octets and every list of numbers the law answers true: two files of one text are one file, however they came to be. No condition.
-/
import Derived.Test.YtgflfmpoeamnnaaOneMath
namespace Go.Proofs.Ytgflfmpoeamnnaa.fileOne
open Go.ChangeShapes Go.WideShapes Go.ChangeAt Go.RowKit

/-- A variable's two cells, and the memory that was there. -/
abbrev OB (w1 : World) (B : Nat) (x y : Value) (V : World) : Prop := V.cell? ⟨B, 0, none⟩ = some x ∧ V.cell? ⟨B, 1, none⟩ = some y ∧ Below w1.heap.size w1 V
theorem OB.below {w1 V : World} {B : Nat} {x y : Value} (h : OB w1 B x y V) : Below w1.heap.size w1 V := h.2.2
theorem OB.through {w1 V V' : World} {B : Nat} {x y : Value} (h : OB w1 B x y V) (hb : Below V.heap.size V V') : OB w1 B x y V' :=
  ⟨by rw [hb.cell (cell_lt h.1)]; exact h.1, by rw [hb.cell (cell_lt h.2.1)]; exact h.2.1, below_any h.2.2 hb⟩
theorem OB.alloc {w1 V : World} {B : Nat} {x y : Value} {o : Obj} (h : OB w1 B x y V) : OB w1 B x y (V.alloc o) := h.through ((Below.refl _ _).alloc (Nat.le_refl _) _)
theorem OB.drew {w1 V : World} {B : Nat} {x y : Value} (h : OB w1 B x y V) : OB w1 B x y V.drew := ⟨h.1, h.2.1, h.2.2.drew⟩
theorem OB.set {w1 V : World} {B : Nat} {x y z : Value} {D i : Nat} (hB : B < w1.heap.size) (hD : w1.heap.size ≤ D) (h : OB w1 B x y V) : OB w1 B x y (V.setCell ⟨D, i, none⟩ z) := by
  obtain ⟨h1, h2, h6⟩ := h
  have keep : ∀ (k j : Nat) (u : Value), k ≠ D → V.cell? ⟨k, j, none⟩ = some u → (V.setCell ⟨D, i, none⟩ z).cell? ⟨k, j, none⟩ = some u := fun k j u hk hu => by
    rw [World.cell?_of_block (Below.heap_setCell _ _ _ _ hk)]; exact hu
  exact ⟨keep _ _ _ (by omega) h1, keep _ _ _ (by omega) h2, h6.setCell (p := ⟨D, i, none⟩) hD _⟩
theorem new1 {v w' : World} {cs : Array Value} {t : TypeId} (hb : Below (v.alloc (.cells cs t)).heap.size (v.alloc (.cells cs t)) w') : Box w' v.heap.size t cs ∧ v.heap.size < w'.heap.size := by
  have := (Box.new v t cs).below hb (Box.new v t cs).lt
  exact ⟨this, this.lt⟩
theorem new1d {v w' : World} {cs : Array Value} {t : TypeId} (hb : Below (v.alloc (.cells cs t)).drew.heap.size (v.alloc (.cells cs t)).drew w') : Box w' v.heap.size t cs ∧ v.heap.size < w'.heap.size := by
  have := Box.below (w := (v.alloc (.cells cs t)).drew) (Box.new v t cs) hb (Box.new v t cs).lt
  exact ⟨this, this.lt⟩
theorem Box.pair {w : World} {B : Nat} {t : TypeId} {u v x y : Value} (h : Box w B t #[u, v]) : Box ((w.setCell ⟨B, 0, none⟩ x).setCell ⟨B, 1, none⟩ y) B t #[x, y] := (h.set 0 x).set 1 y

set_option maxRecDepth 100000 in
set_option maxHeartbeats 4000000 in
theorem walk (v : Value) (d : List Int) (u : Value) (cuts : List Int) (w : World) (hv : Arg 0 w v d) (hu : intsS.lies 0 w [u] cuts) : Calls Try.prog 5 #[v, u] w fun e w' => e = .returned (.bool true) ∧ Below w.heap.size w w' := by
  obtain ⟨da, dc, rfl, _, hdm, _⟩ := hv.shape
  obtain ⟨ca, cc, hcu, _, hcm, _⟩ := ints_len hu
  obtain rfl : u = _ := by simpa using hcu
  unfold maxLen at hdm hcm
  have HU : Hid (∀ V, Below w.heap.size w V → intsS.lies 0 V [.slice ca cuts.length cc] cuts) := fun V hV => intsS.below hu hV
  obtain ⟨D, hD⟩ : ∃ D, D = d.take (min d.length 2432) := ⟨_, rfl⟩
  obtain ⟨m, hm⟩ : ∃ m, m = min d.length 2432 := ⟨_, rfl⟩
  have hmb : m ≤ 2432 := by omega
  have HD : Hid (D.length = m) := by
    show D.length = m
    rw [hD, hm, List.length_take]; omega
  obtain ⟨v', hv', hcut⟩ := hv.ahead m (by omega)
  rw [show d.take m = D by rw [hD, hm]] at hv'
  obtain ⟨va, vc, rfl, _⟩ := hv'.shape
  rw [HD.out] at hv' hcut
  have HV : Hid (∀ V, Below w.heap.size w V → Arg 0 V (.slice va m vc) D) := fun V hV => hv'.below hV
  obtain ⟨dl, hdl⟩ : ∃ x, x = d.length := ⟨_, rfl⟩
  obtain ⟨cl, hcl⟩ : ∃ x, x = cuts.length := ⟨_, rfl⟩
  have HCL : Hid (cl = cuts.length) := hcl
  have hmn : min (dl : Int) 2432 = (m : Int) := by omega
  rw [← hdl] at hcut ⊢
  rw [← hcl] at HU hcm ⊢
  have hl0 := run_len Try.underlying25 da dl dc
  have hl1 := run_len Try.underlying25 va m vc
  have hl2 := run_len Try.underlying55 ca cl cc
  have HA := alive_any w
  clear hv hu hcu hv' hD hm hdl hcl hdm
  go_enter Try.func5, Try.ntmps5
  go_wp2_with fail
  refine HA.mono ?_
  rintro e w1 ⟨rfl, hb1⟩
  have HB1 : Hid (Below w.heap.size w w1) := hb1
  have HO := of_any 0 _ D w1 (HV.out w1 hb1)
  rw [show ofE D = 0 from if_neg (by rw [HD.out]; omega), show ofF D = mk D from if_neg (by rw [HD.out]; omega)] at HO
  clear HA hb1
  go_wp2_with fail
  refine HO.mono ?_
  rintro e w2 ⟨⟨u2, rfl, hu2⟩, hb2⟩
  obtain ⟨s2, a2, l2, c2, rfl, hu2, hx⟩ := var_new (flN.weaken hu2 (Nat.zero_le _))
  obtain ⟨U2, hU2⟩ : ∃ U, U = w2.alloc (.cells #[.int .i64 s2, .slice a2 l2 c2] 28) := ⟨_, rfl⟩
  have hbU : Below w2.heap.size w2 U2 := by rw [hU2]; exact (Below.refl _ _).alloc (Nat.le_refl _) _
  obtain ⟨U3, hU3⟩ : ∃ U, U = U2.alloc (.cells #[.int .i64 0, .slice none 0 0] 28) := ⟨_, rfl⟩
  have hbU3 : Below U2.heap.size U2 U3 := by rw [hU3]; exact (Below.refl _ _).alloc (Nat.le_refl _) _
  have hBa : Box U2 w2.heap.size 28 #[.int .i64 s2, .slice a2 l2 c2] := by rw [hU2]; exact Box.new _ _ _
  have hBb : Box U3 U2.heap.size 28 #[.int .i64 0, .slice none 0 0] := by rw [hU3]; exact Box.new _ _ _
  have hsz : U2.heap.size = w2.heap.size + 1 := by rw [hU2]; simp
  rw [hsz] at hBb
  have HST : Hid (Below w2.heap.size w2 U3 ∧ Box U3 w2.heap.size 28 #[.int .i64 s2, .slice a2 l2 c2] ∧ Box U3 (w2.heap.size + 1) 28 #[.int .i64 0, .slice none 0 0] ∧ U3.heap.size = w2.heap.size + 2) := by
    have hb23 := below_any hbU hbU3
    exact ⟨hb23, hBa.below hbU3 hBa.lt, hBb, by rw [hU3]; simp [hsz]⟩
  have HN := num_any
  have HL2 : Hid (flN.lies 0 w2 [.int .i64 s2, .slice a2 l2 c2] (mk D) ∧ Below w.heap.size w w2) := ⟨hu2, below_any HB1.out hb2⟩
  rw [hU2] at hU3
  clear hu2 hb2 hbU hbU3 hBa hBb hx hU2 HO hsz
  go_wp2
  rw [← hU3]
  clear hU3
  go_loopw [8, 9] (fun x i wr => ∃ (k j : Nat) (sb : Int) (ab : Option Addr) (lb cb : Nat), k ≤ m ∧ j ≤ cl ∧ x = .int .i64 (k : Int) ∧ i = .int .i64 (j : Int) ∧ Below w2.heap.size w2 wr ∧ Box wr w2.heap.size 28 #[.int .i64 s2, .slice a2 l2 c2] ∧ Box wr (w2.heap.size + 1) 28 #[.int .i64 sb, .slice ab lb cb] ∧ flN.lies (w2.heap.size + 2) wr [.int .i64 sb, .slice ab lb cb] (bf D k) ∧ w2.heap.size + 2 ≤ wr.heap.size) (fun _ i _ => cl - (intOf i).toNat)
  case atStart =>
    obtain ⟨h1, h2, h4, h6⟩ := HST.out
    refine ⟨m, 0, 0, none, 0, 0, Nat.le_refl _, Nat.zero_le _, rfl, rfl, h1, h2, h4, ?_, by omega⟩
    rw [show bf D m = (0, []) from if_pos HD.out.symm]
    exact fl_nilN _ _
  case round =>
    obtain ⟨k, j, sb, ab, lb, cb, hk, hj, rfl, rfl, hbel2, hBa, hBb, hlb, hsz⟩ := hrel
    have hbel := below_any HL2.out.2 hbel2
    have HR : Hid (Below w2.heap.size w2 wr ∧ Box wr w2.heap.size 28 #[.int .i64 s2, .slice a2 l2 c2] ∧ Box wr (w2.heap.size + 1) 28 #[.int .i64 sb, .slice ab lb cb] ∧ flN.lies (w2.heap.size + 2) wr [.int .i64 sb, .slice ab lb cb] (bf D k) ∧ w2.heap.size + 2 ≤ wr.heap.size) := ⟨hbel2, hBa, hBb, hlb, hsz⟩
    have HOB : OB wr (w2.heap.size + 1) (.int .i64 sb) (.slice ab lb cb) wr := ⟨hBb.two.1, hBb.two.2.1, Below.refl _ wr⟩
    obtain ⟨q0, q1, f0, f1⟩ := hBb.two
    have hDm := HD.out
    by_cases hlt : j < cl ∧ 0 < k
    · obtain ⟨hjl, hk0⟩ := hlt
      have hji : (j : Int) < (cl : Int) := by omega
      have hki : (0 : Int) < (k : Int) := by omega
      obtain ⟨x, hx⟩ := get_lt (l := cuts) (k := j) (by rw [← HCL.out]; exact hjl)
      obtain ⟨bx, ox, hix, gx, hxi⟩ := ints_at (HU.out wr hbel) j x hx
      obtain ⟨r, hr, er⟩ := mod50 x
      obtain ⟨t, ht⟩ : ∃ t, t = k - min k (1 + r) := ⟨_, rfl⟩
      have htk : t < k := by omega
      obtain ⟨vp, hvp, hcp⟩ := (HV.out wr hbel).cut t k (by omega) (by omega)
      obtain ⟨e1, e2⟩ := bf_step (D := D) (j := t) (k := k) (by omega) htk (by omega)
      have HW : Hid (∀ V, Below wr.heap.size wr V → Calls Try.prog 12 #[.agg #[.int .i64 sb, .slice ab lb cb], .int .i64 (t : Int), vp] V fun e w' => (∃ us', e = .returned (.tuple #[.agg us'.toArray, .int .i64 0]) ∧ flN.lies V.heap.size w' us' (bf D t)) ∧ Below V.heap.size V w') := fun V hV => by
        have := write_any _ 0 [.int .i64 sb, .slice ab lb cb] (bf D k) (t : Int) vp ((D.take k).drop t) V (flN.below hlb hV) (by unfold I64; omega) (hvp.below hV)
        rw [e1, e2] at this
        exact this
      have hto : wrap64 ((k : Int) - min (k : Int) (wrap64 (1 + (wrap64 (x.tmod 50 + 50)).tmod 50))) = (t : Int) := by
        rw [er, wrap64_in' (1 + (r : Int)) (by omega), wrap64_in' _ (by omega)]
        omega
      have htl : t ≤ k := by omega
      have HT : Hid (t ≤ m ∧ t < k ∧ t ≤ k) := ⟨by omega, htk, htl⟩
      have hwl : w2.heap.size + 1 < wr.heap.size := hsz
      clear hbel hbel2 hBa hBb hlb hsz hx hvp e1 e2 ht er hDm htk htl hr
      go_wp2
      rw [hto]
      clear hto
      go_region_held3 (fun V => V.cell? ⟨w2.heap.size + 1, 0, none⟩ = some (.int .i64 sb) ∧ V.cell? ⟨w2.heap.size + 1, 1, none⟩ = some (.slice ab lb cb) ∧ Below wr.heap.size wr V)
        (first | with_reducible exact HOB.drew | with_reducible exact HOB.alloc.drew | with_reducible exact OB.alloc (by assumption) | with_reducible exact Q3 | (repeat (first | with_reducible exact Q3 | with_reducible refine OB.set hwl (by first | omega | (simp; omega)) ?_ | with_reducible refine OB.alloc ?_)))
        ((go_at_call 12; go_simp
          with_reducible refine Calls.mono (HW.out _ ?_) ?_
          · exact OB.below (by assumption)
          rintro e w3 ⟨⟨u3, rfl, hu3⟩, hb3⟩
          obtain ⟨s3, a3, l3, c3, rfl, hu3', -⟩ := var_new hu3
          clear hu3
          have Q3 : OB wr (w2.heap.size + 1) (.int .i64 sb) (.slice ab lb cb) w3 := OB.through (by assumption) hb3
          have z3 := hb3.size
          try simp at z3
          first
            | (with_reducible have X1 := new1d hb3)
            | (with_reducible have X1 := new1 hb3)
            | skip
          try (obtain ⟨F1, F2, F3, F4⟩ := X1.1.two; have N3 := Nat.ne_of_lt X1.2; have N4 := N3.symm; have N5 := X1.2)))
      all_goals
        have HX3 : Hid (∃ n, wr.heap.size ≤ n ∧ flN.lies n w3 [.int .i64 s3, .slice a3 l3 c3] (bf D t)) := ⟨_, by first | exact Nat.le_refl _ | (simp; done) | (simp; omega), hu3'⟩
        first
          | (obtain ⟨W3, hW3⟩ : ∃ W, W = w3.alloc (.cells #[.int .i64 s3, .slice a3 l3 c3] 28) := ⟨_, rfl⟩
             rw [← hW3]
             have hG : Below wr.heap.size wr W3 ∧ Box W3 w3.heap.size 28 #[.int .i64 s3, .slice a3 l3 c3] ∧ flN.lies wr.heap.size W3 [.int .i64 s3, .slice a3 l3 c3] (bf D t) ∧ wr.heap.size ≤ w3.heap.size := by
               obtain ⟨n, h1, h2⟩ := HX3.out
               rw [hW3]
               exact ⟨Q3.below.alloc z3 _, Box.new _ _ _, flN.below (flN.weaken h2 h1) ((Below.refl _ _).alloc (Nat.le_refl _) _), z3⟩)
          | (obtain ⟨W3, hW3⟩ : ∃ W, W = (w3.setCell ⟨wr.heap.size, 0, none⟩ (.int .i64 s3)).setCell ⟨wr.heap.size, 1, none⟩ (.slice a3 l3 c3) := ⟨_, rfl⟩
             rw [← hW3]
             have hG : Below wr.heap.size wr W3 ∧ Box W3 wr.heap.size 28 #[.int .i64 s3, .slice a3 l3 c3] ∧ flN.lies wr.heap.size W3 [.int .i64 s3, .slice a3 l3 c3] (bf D t) ∧ wr.heap.size ≤ wr.heap.size := by
               rw [hW3]
               refine ⟨below_set2 Q3.below (Nat.le_refl _) _ _, Box.pair X1.1, flN.weaken (flN.keep hu3' (.set2 ?_)) ?_, Nat.le_refl _⟩
               · simp
               · simp
             clear X1 F1 F2 F3 F4 N3 N4 N5)
        have hb3' := HR.out.2.2.1.below hG.1 HR.out.2.2.1.lt
        have HG : Hid (Below wr.heap.size wr W3 ∧ flN.lies wr.heap.size W3 [.int .i64 s3, .slice a3 l3 c3] (bf D t)) := ⟨hG.1, hG.2.2.1⟩
        obtain ⟨p0, p1, _, _⟩ := hG.2.1.two
        obtain ⟨q0, q1, f0, f1⟩ := hb3'.two
        have hne1 := hG.2.1.lt
        have hne : w2.heap.size + 1 ≠ _ := Nat.ne_of_lt (Nat.lt_of_lt_of_le hwl hG.2.2.2)
        have HBB : Hid (Box W3 (w2.heap.size + 1) 28 #[.int .i64 sb, .slice ab lb cb]) := hb3'
        clear hW3 hG hb3' hb3 hu3' HX3 Q3 z3 HOB HW
        go_wp2_with (go_at_call 19; refine (HN _ _).mono ?_; rintro e t0 ⟨rfl, rfl⟩)
        go_roundw
        case rel =>
          obtain ⟨h1, h2, h3, h4, h5⟩ := HR.out
          refine ⟨t, j + 1, s3, a3, l3, c3, HT.out.1, by omega, rfl, by go_num, below_set2 (below_any h1 HG.out.1) (by omega) _ _, ((h2.below HG.out.1 h2.lt).other (by omega)).other (by omega), Box.pair HBB.out, flN.keep (flN.weaken HG.out.2 h5) (.set2 (by omega)), ?_⟩
          have := HG.out.1.size
          simp [World.setCell]
          omega
        case measure => simp [intOf]; omega
    · obtain ⟨vp, hvp, hcp⟩ := (HV.out wr hbel).ahead k (by omega)
      have hvp' : Arg 0 wr.drew vp (D.take k) := hvp.below ((Below.refl _ wr).drew)
      have HW := write_any _ 0 [.int .i64 sb, .slice ab lb cb] (bf D k) 0 vp (D.take k) wr.drew (flN.below hlb (Below.refl _ wr).drew) (by unfold I64; omega) hvp'
      obtain ⟨e1, e2⟩ := bf_end (D := D) (k := k) (by omega) (by omega)
      rw [e1, e2] at HW
      have hend : j = cl ∨ (j < cl ∧ k = 0) := by omega
      have hwl : w2.heap.size + 1 < wr.heap.size := hsz
      clear hbel hbel2 hBa hBb hlb hsz hvp hvp' e1 e2 hlt
      rcases hend with rfl | ⟨hjl, hkz⟩
      all_goals
        try have hji : (j : Int) < (cl : Int) := by omega
        try have hki : ¬ (0 : Int) < (k : Int) := by omega
        try clear hkz
        go_wp2
        go_region_with
          ((go_at_call 12; refine Calls.mono HW ?_; rintro e w3 ⟨⟨u3, rfl, hu3⟩, hb3⟩; obtain ⟨s3, a3, l3, c3, rfl, hu3', -⟩ := var_new hu3; clear hu3; have hb3' : Below wr.heap.size wr w3 := ((Below.refl _ wr).drew).trans hb3; clear hb3; obtain ⟨x0, x1, x2, x3⟩ := (HR.out.2.2.1.below hb3' HR.out.2.2.1.lt).two))
        obtain ⟨W3, hW3⟩ : ∃ W, W = (w3.setCell ⟨w2.heap.size + 1, 0, none⟩ (.int .i64 s3)).setCell ⟨w2.heap.size + 1, 1, none⟩ (.slice a3 l3 c3) := ⟨_, rfl⟩
        rw [← hW3]
        have HG : Hid (Below w2.heap.size w2 W3 ∧ Below w.heap.size w W3 ∧ Box W3 w2.heap.size 28 #[.int .i64 s2, .slice a2 l2 c2] ∧ Box W3 (w2.heap.size + 1) 28 #[.int .i64 s3, .slice a3 l3 c3] ∧ flN.lies 0 W3 [.int .i64 s3, .slice a3 l3 c3] (mk D)) := by
          obtain ⟨h1, h2, h3, h4, h5⟩ := HR.out
          have hb : Below w2.heap.size w2 W3 := by rw [hW3]; exact below_set2 (below_any h1 hb3') (by omega) _ _
          refine ⟨hb, below_any HL2.out.2 hb, ?_, ?_, ?_⟩
          · rw [hW3]; exact ((h2.below hb3' h2.lt).other (by omega)).other (by omega)
          · rw [hW3]; exact Box.pair (h3.below hb3' h3.lt)
          · rw [hW3]; exact flN.weaken (flN.keep hu3' (.set2 (by simpa using hwl))) (Nat.zero_le _)
        have HQ := rof_any 0 _ D W3 (HV.out W3 HG.out.2.1)
        rw [show ofE D = 0 from if_neg (by rw [HD.out]; omega), show ofF D = mk D from if_neg (by rw [HD.out]; omega)] at HQ
        clear hW3 hb3' hu3' x0 x1 x2 x3 q0 q1 f0 f1 HOB HW hcp
        go_wp2_with fail
        refine HQ.mono ?_
        rintro e w4 ⟨⟨u4', rfl, hu4⟩, hb4⟩
        obtain ⟨s4, a4, l4, c4, rfl, hu4', -⟩ := var_newR (flR.weaken hu4 (Nat.zero_le _))
        obtain ⟨U4, hU4⟩ : ∃ U, U = w4.alloc (.cells #[.int .i64 s4, .slice a4 l4 c4] 24) := ⟨_, rfl⟩
        have hbU4 : Below w4.heap.size w4 U4 := by rw [hU4]; exact (Below.refl _ _).alloc (Nat.le_refl _) _
        have HV4 : Hid (∀ V, Below U4.heap.size U4 V → Box V w4.heap.size 24 #[.int .i64 s4, .slice a4 l4 c4] ∧ flR.lies 0 V [.int .i64 s4, .slice a4 l4 c4] (mk D) ∧ Box V w2.heap.size 28 #[.int .i64 s2, .slice a2 l2 c2] ∧ flN.lies 0 V [.int .i64 s2, .slice a2 l2 c2] (mk D) ∧ Box V (w2.heap.size + 1) 28 #[.int .i64 s3, .slice a3 l3 c3] ∧ flN.lies 0 V [.int .i64 s3, .slice a3 l3 c3] (mk D) ∧ Below w.heap.size w V) := fun V hV => by
          obtain ⟨h1, h2, h3, h4, h5⟩ := HG.out
          have hbx : Below w4.heap.size w4 V := below_any hbU4 hV
          have hby : Below W3.heap.size W3 V := below_any hb4 hbx
          have hB4 : Box U4 w4.heap.size 24 #[.int .i64 s4, .slice a4 l4 c4] := by rw [hU4]; exact Box.new _ _ _
          exact ⟨hB4.below hV hB4.lt, flR.below hu4' hbx, h3.below hby h3.lt, flN.below HL2.out.1 (below_any h1 hby), h4.below hby h4.lt, flN.below h5 hby, below_any h2 hby⟩
        have v4 := HV4.out U4 (Below.refl _ _)
        obtain ⟨y0, y1, _, _⟩ := v4.1.two
        obtain ⟨y2, y3, _, _⟩ := v4.2.2.1.two
        have HK := alike_any 0 0 _ _ (mk D) (mk D) U4 v4.2.2.2.1 v4.2.1
        rw [if_pos rfl] at HK
        clear v4 hu4 hu4' hb4 hbU4 HQ
        go_wp2_with fail
        rw [← hU4]
        clear hU4
        refine (HN _ _).mono ?_
        rintro e t0 ⟨rfl, rfl⟩
        go_wp2_with (go_at_call 19; refine (HN _ _).mono ?_; rintro e t0 ⟨rfl, rfl⟩)
        refine HK.mono ?_
        rintro e w5 ⟨rfl, hb5⟩
        have v5 := HV4.out w5 hb5
        have HB5 : Hid (Below U4.heap.size U4 w5) := hb5
        have HK2 := alike_any 0 0 _ _ (mk D) (mk D) w5 v5.2.2.2.2.2.1 v5.2.1
        rw [if_pos rfl] at HK2
        clear y0 y1 y2 y3 HK hb5
        obtain ⟨y0, y1, _, _⟩ := v5.1.two
        obtain ⟨y2, y3, _, _⟩ := v5.2.2.2.2.1.two
        clear v5
        go_wp2_with fail
        refine HK2.mono ?_
        rintro e w6 ⟨rfl, hb6⟩
        have HB6 : Hid (Below U4.heap.size U4 w6) := below_any HB5.out hb6
        clear hb6 y0 y1 y2 y3 HK2
        go_wp2
        go_ret
        exact ⟨rfl, (HV4.out w6 HB6.out).2.2.2.2.2.2⟩

set_option maxRecDepth 100000 in
theorem lifted (os : Os) (started : os.Started) (H : Type) (enc : TypeId × Value → H) :
    ReturnsInHanded {} Try.checked os 5 .any (Rows.fileOneSpec.pre6 enc Try.prog Try.f5 Rows.fileOneRow.domain false) (Rows.fileOneSpec.post enc Try.prog Try.f5 false true false false) := by
  refine returnsInHanded_of_change_sized (C := Try.checked) own started (by kernel_rfl) Try.func5
    (ChangeSpec.witness6 (enc := enc) (C := Try.checked) false ⟨#[], #[.slice none 0 0, .slice none 0 0], []⟩ 8 (by kernel_rfl) (by kernel_rfl) (by kernel_rfl) (by kernel_rfl)) ?_
  intro W base args ds gs before hval0 hW hcnd hsz0 _
  have hval : ∀ (j : Nat) t v, Try.f5.params[j]? = some t → args[j]? = some v → Value.okWide Try.prog W .any base t v := hval0
  have hW' := hW
  obtain ⟨p, q, hA0, hV, rfl, hfz, hnd⟩ := hW
  have hA : DataW.TrodAll enc Try.prog W 0 (fun _ => true) true Try.f5.params.toList args.toList ds p := hA0
  have hsz : (DataW.weightsEach Try.prog (Try.f5.params.toList ++ Rows.fileOneSpec.plain.varTypes Try.prog) (ds ++ gs)).all (· ≤ reachBytes) = true := hsz0
  clear hsz0
  rw [Try.params5] at hA hval hsz
  obtain ⟨v0, vs0, d0, ds0, p0, q0, hargs, rfl, rfl, h0, r0⟩ := trodAll_cons hA
  obtain ⟨v1, vs1, d1, ds1, p1, q1, rfl, rfl, rfl, h1, r1⟩ := trodAll_cons r0
  obtain ⟨rfl, rfl, rfl⟩ := trodAll_nil r1
  obtain rfl : args = #[v0, v1] := by cases args; simp_all
  obtain ⟨rfl, rfl⟩ := trodVars_none hV
  obtain ⟨x0, len0, cap0, rfl⟩ := okWide_slice Try.underlying25 (hval 0 25 v0 rfl rfl)
  have k0 := h0
  have lt0 : ∀ x ∈ p0, x.block < W.heap.size := by obtain ⟨m, hm⟩ := k0; exact DataW.trod_lt m _ _ _ hm
  obtain ⟨m0, hm0⟩ := h0
  obtain ⟨s0, A0, F0'⟩ := bytesS.reads hm0
  have F0 := F0' fun n hn => by have := List.all_eq_true.1 hsz _ (DataW.weights_mem_each (j := 0) rfl rfl n hn); simpa using this
  obtain ⟨x1, len1, cap1, rfl⟩ := okWide_slice Try.underlying55 (hval 1 55 v1 rfl rfl)
  have k1 := h1
  have lt1 : ∀ x ∈ p1, x.block < W.heap.size := by obtain ⟨m, hm⟩ := k1; exact DataW.trod_lt m _ _ _ hm
  obtain ⟨m1, hm1⟩ := h1
  obtain ⟨s1, A1, F1'⟩ := intsS.reads hm1
  have F1 := F1' fun n hn => by have := List.all_eq_true.1 hsz _ (DataW.weights_mem_each (j := 1) rfl rfl n hn); simpa using this
  clear hA0 hval0
  refine (walk _ s0 _ s1 W A0 A1).mono fun e W' ⟨he, bel⟩ => ?_
  subst he
  exact ⟨_, rfl, _, _, _, [], _, [], hW', trodAll_mk1 (shut_bool Try.underlying4 _), (trodAll_cons_mk (Below.trod laidOut (by kernel_rfl) (of_decide_eq_true (by kernel_rfl)) k0 bel lt0) (trodAll_cons_mk (Below.trod laidOut (by kernel_rfl) (of_decide_eq_true (by kernel_rfl)) k1 bel lt1) trodAll_mk0)), rfl, bel.frame _, fun h => by cases h⟩

theorem over : Rows.fileOneRow.holds Try.pinned (OpenSpec.ofChange Rows.fileOneSpec) :=
  OpenClaim.holds_of_wide 5 Try.f5 rfl rfl rfl rfl rfl rfl rfl ⟨rfl, rfl, rfl, rfl, rfl⟩ rfl rfl rfl rfl rfl (by kernel_rfl) Try.func5 (by kernel_rfl)
    (of_decide_eq_true (by kernel_rfl)) (by unfold Func.isWrapper; first | (rw [if_pos (by decide +kernel)]; kernel_rfl) | (rw [if_neg (by decide +kernel)]; exact ⟨rfl, rfl⟩))
    (fun os started H enc _ => lifted os started H enc)

end Go.Proofs.Ytgflfmpoeamnnaa.fileOne

namespace Go.Proofs.Ytgflfmpoeamnnaa
theorem fileOne_holds : Rows.FileOneSaid := fileOne.over
#print axioms fileOne_holds
end Go.Proofs.Ytgflfmpoeamnnaa
