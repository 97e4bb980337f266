import Derived.Test.YthlfgpnabcplnaaDoorTf25
import Derived.Test.YthlfgpnabcplnaaDoorTf20
import Derived.Test.YthlfgpnabcplnaaDoorTf18
import Derived.Deep.DrawnRows
import Derived.Test.YthlfgpnabcplnaaDoorTf21
/-
  What readRecord makes of a reader, and so what Decode answers.
-/
namespace Go.Proofs.YthlfgpnabcplnaaDoor.W
open Go.RowKit

abbrev zeroR : Value := .agg #[.int .i64 0, .slice none 0 0, .slice none 0 0]

theorem same_of_grown {n R : Nat} {w w' : World} (h : w.grownBy w' (some R)) (hR : R < n) : Same n w w' := fun k hk hk2 => h.block k hk2 (fun e => by have := Option.some.inj e; omega)

theorem grown_set3 {w a : World} {R Z : Nat} (h : w.grownBy a (some R)) (hZ : w.heap.size ≤ Z) (x y z : Value) : w.grownBy (((a.setCell ⟨Z, 0, none⟩ x).setCell ⟨Z, 1, none⟩ y).setCell ⟨Z, 2, none⟩ z) (some R) :=
  grown_append h (below_set3 ((Below.refl _ a).mono h.size) hZ x y z)

set_option maxRecDepth 100000 in
set_option maxHeartbeats 4000000 in
theorem record_any (w0 : World) (R : Nat) (l : List Int) (w : World) (h : Rdr w0 R l w) :
    Calls Tryd.prog 55 #[.pointer (some ⟨R, 0, none⟩)] w fun e w' => Told w0 R w zeroR (fun w' v a => ∃ us : List Value, v = .agg us.toArray ∧ recF.owns w.heap.size w' us a) (recR l) e w' := by
  obtain ⟨W, hW⟩ : ∃ W, W = w.alloc (.cells #[.int .i64 0, .slice none 0 0, .slice none 0 0] 53) := ⟨_, rfl⟩
  have hb : Below w.heap.size w W := by rw [hW]; exact (Below.refl _ w).alloc (Nat.le_refl _) _
  have hP : Box W w.heap.size 53 #[.int .i64 0, .slice none 0 0, .slice none 0 0] := by rw [hW]; exact Box.new w 53 _
  have HRW : Hid (R < w.heap.size) := h.lt
  have HW : Hid (w.grownBy W (some R) ∧ Box W w.heap.size 53 #[.int .i64 0, .slice none 0 0, .slice none 0 0] ∧ w.heap.size < W.heap.size) := ⟨grown_below hb, hP, hP.lt⟩
  have HO := octet_any w0 R l W (h.below hb h.lt)
  obtain ⟨X, hX⟩ : ∃ X, X = recR l := ⟨_, rfl⟩
  rw [← hX]
  clear h hb hP
  cases l with
  | nil =>
    rw [show octR [] = .error 8 from rfl] at HO
    have HX : Hid (X = .error 8) := hX
    clear hX
    go_enter Tryd.func55, Tryd.ntmps55
    go_wp2_with fail
    rw [← hW]
    clear hW
    refine HO.mono ?_
    rintro e w1 ⟨hg, rfl⟩
    obtain ⟨g0, g1, g2, f0, f1, f2⟩ := (HW.out.2.1.grown hg (fun e => by have := Option.some.inj e; have := HRW.out; omega)).three
    have HG : Hid (w.grownBy w1 (some R)) := grown_trans HW.out.1 hg
    clear hg HO
    go_wp2
    refine bodyPost_ret (v := .tuple #[zeroR, faultW 8]) (by simp [results, Tryd.results55, go_sem, *]) rfl ?_
    rw [HX.out]
    exact ⟨grown_set3 HG.out (Nat.le_refl _) _ _ _, rfl⟩
  | cons c r =>
    rw [show octR (c :: r) = .ok (c, r) from rfl] at HO
    have hX1 : X = (someR numR r).then fun ns r => (someR textR r).then fun ts r => if r = [] then .ok ((c, ns, ts), []) else .error 23 := hX
    have HX0 : Hid (X = (someR numR r).then fun ns r => (someR textR r).then fun ts r => if r = [] then .ok ((c, ns, ts), []) else .error 23) := hX1
    clear hX hX1
    go_enter Tryd.func55, Tryd.ntmps55
    go_wp2_with fail
    rw [← hW]
    clear hW
    refine HO.mono ?_
    rintro e w1 ⟨hg, v, rfl, ⟨rfl, hc⟩, hR⟩
    have hB1 := HW.out.2.1.grown hg (fun e => by have := Option.some.inj e; have := HRW.out; omega)
    have HG1 : Hid (w.grownBy w1 (some R) ∧ Box w1 w.heap.size 53 #[.int .i64 0, .slice none 0 0, .slice none 0 0] ∧ Rdr w0 R r w1 ∧ w.heap.size < w1.heap.size) := ⟨grown_trans HW.out.1 hg, hB1, hR, hB1.lt⟩
    have HN := readInts_any w0 R r w1 hR
    clear hg HO hR hB1 HW
    cases hn : someR numR r with
    | error k =>
      rw [hn] at HN
      have HX : Hid (X = .error k) := by show _ = _; rw [HX0.out, hn]; rfl
      clear hn HX0
      go_wp2_with fail
      refine HN.mono ?_
      rintro e w2 ⟨hg, rfl⟩
      obtain ⟨g0, g1, g2, f0, f1, f2⟩ := (HG1.out.2.1.grown hg (fun e => by have := Option.some.inj e; have := HRW.out; omega)).three
      have HG : Hid (w.grownBy w2 (some R)) := grown_trans HG1.out.1 hg
      clear hg HN
      go_wp2
      refine bodyPost_ret (v := .tuple #[zeroR, faultW k]) (by simp [results, Tryd.results55, go_sem, *]) rfl ?_
      rw [HX.out]
      exact ⟨grown_set3 HG.out (Nat.le_refl _) _ _ _, rfl⟩
    | ok pp =>
      obtain ⟨ns, r2⟩ := pp
      rw [hn] at HN
      have HX1 : Hid (X = (someR textR r2).then fun ts r => if r = [] then .ok ((c, ns, ts), []) else .error 23) := by show _ = _; rw [HX0.out, hn]; rfl
      clear hn HX0
      go_wp2_with fail
      refine HN.mono ?_
      rintro e w2 ⟨hg, v, rfl, hI, hR⟩
      obtain ⟨an, cn, rfl⟩ := own_shape (ints_own hI)
      have hB2 := HG1.out.2.1.grown hg (fun e => by have := Option.some.inj e; have := HRW.out; omega)
      have HG2 : Hid (w.grownBy w2 (some R) ∧ Box w2 w.heap.size 53 #[.int .i64 0, .slice none 0 0, .slice none 0 0] ∧ Rdr w0 R r2 w2 ∧ intsS.owns w1.heap.size w2 [.slice an ns.length cn] ns ∧ w1.heap.size ≤ w2.heap.size) := ⟨grown_trans HG1.out.1 hg, hB2, hR, hI, hg.size⟩
      have HT := readTexts_any w0 R r2 w2 hR
      obtain ⟨nl, hnl⟩ : ∃ y, y = ns.length := ⟨_, rfl⟩
      rw [← hnl] at HG2 ⊢
      clear hg HN hR hB2 hI hnl
      cases hn : someR textR r2 with
      | error k =>
        rw [hn] at HT
        have HX : Hid (X = .error k) := by show _ = _; rw [HX1.out, hn]; rfl
        clear hn HX1
        go_wp2_with fail
        refine HT.mono ?_
        rintro e w3 ⟨hg, rfl⟩
        obtain ⟨g0, g1, g2, f0, f1, f2⟩ := (HG2.out.2.1.grown hg (fun e => by have := Option.some.inj e; have := HRW.out; omega)).three
        have HG : Hid (w.grownBy w3 (some R)) := grown_trans HG2.out.1 hg
        clear hg HT
        go_wp2
        refine bodyPost_ret (v := .tuple #[zeroR, faultW k]) (by simp [results, Tryd.results55, go_sem, *]) rfl ?_
        rw [HX.out]
        exact ⟨grown_set3 HG.out (Nat.le_refl _) _ _ _, rfl⟩
      | ok pp =>
        obtain ⟨ts, r3⟩ := pp
        rw [hn] at HT
        have HX2 : Hid (X = if r3 = [] then .ok ((c, ns, ts), []) else .error 23) := by show _ = _; rw [HX1.out, hn]; rfl
        clear hn HX1
        go_wp2_with fail
        refine HT.mono ?_
        rintro e w3 ⟨hg, v, rfl, hTT, hR⟩
        obtain ⟨at', ct, _, hv, _⟩ := texts_own hTT
        obtain rfl : v = _ := by simpa using hv
        have hB3 := HG2.out.2.1.grown hg (fun e => by have := Option.some.inj e; have := HRW.out; omega)
        have HG3 : Hid (w.grownBy w3 (some R) ∧ Rdr w0 R r3 w3 ∧ intsS.owns w1.heap.size w3 [.slice an nl cn] ns ∧ textsS.owns w2.heap.size w3 [.slice at' ts.length ct] ts) :=
          ⟨grown_trans HG2.out.1 hg, hR, intsS.osame HG2.out.2.2.2.1 (same_of_grown hg (by have := HG1.out.2.2.2; have := HRW.out; omega)), hTT⟩
        obtain ⟨g0, g1, g2, f0, f1, f2⟩ := hB3.three
        obtain ⟨ar, cr, hBR, _⟩ := hR.ex
        have gR := hBR.cell 0 (u := .slice ar r3.length cr) rfl
        have hlen := run_len Tryd.underlying22 ar r3.length cr
        obtain ⟨tl, htl⟩ : ∃ y, y = ts.length := ⟨_, rfl⟩
        rw [← htl] at HG3 ⊢
        clear hg HT hR hB3 hTT htl hv hBR
        by_cases h0 : r3 = []
        · subst h0
          have HX : Hid (X = .ok ((c, ns, ts), [])) := by show _ = _; rw [HX2.out, if_pos rfl]
          have HCC : Hid (I64 c) := ⟨by omega, by omega⟩
          simp only [List.length_nil] at gR hlen
          clear HX2
          go_wp2
          refine bodyPost_ret (v := .tuple #[.agg #[.int .i64 c, .slice an nl cn, .slice at' tl ct], .nilIface]) (by simp [results, Tryd.results55, go_sem, *]) rfl ?_
          rw [HX.out]
          have hz1 := HG1.out.2.2.2
          have hz2 := HG2.out.2.2.2.2
          refine ⟨grown_set3 HG3.out.1 (Nat.le_refl _) _ _ _, _, rfl, ⟨[_, _, _], rfl, ?_⟩, ?_⟩
          · exact rec_omk (r := (c, ns, ts)) (intsS.oweaken (intsS.osame HG3.out.2.2.1 (.set3 (by omega))) (by omega)) (textsS.oweaken (textsS.osame HG3.out.2.2.2 (.set3 (by omega))) (by omega)) HCC.out
          · exact HG3.out.2.1.below (n := w.heap.size) (below_set3 ((Below.refl _ w3).mono HG3.out.1.size) (Nat.le_refl _) _ _ _) HRW.out
        · have HX : Hid (X = .error 23) := by show _ = _; rw [HX2.out, if_neg h0]
          obtain ⟨ll, hll⟩ : ∃ y, y = r3.length := ⟨_, rfl⟩
          have hl0 : (0 : Int) < (ll : Int) := by
            rw [hll]
            have := List.length_pos_iff.2 h0
            omega
          rw [← hll] at gR hlen
          clear HX2 h0 hll
          go_wp2
          refine bodyPost_ret (v := .tuple #[zeroR, faultW 23]) (by simp [results, Tryd.results55, go_sem, *]) rfl ?_
          rw [HX.out]
          exact ⟨grown_set3 HG3.out.1 (Nat.le_refl _) _ _ _, rfl⟩

end Go.Proofs.YthlfgpnabcplnaaDoor.W

/-
  What Decode answers, of every octets.
-/
namespace Go.Proofs.YthlfgpnabcplnaaDoor.W
open Go.RowKit

/-- Decode's error, and its record. -/
def rdE : Rd Rc → Int
  | .error k => k
  | .ok (_, _) => 0
def rdR : Rd Rc → Rc
  | .error _ => (0, [], [])
  | .ok (r, _) => r
def decE (l : List Int) : Int := if C.oerr l = 0 then rdE (recR (C.oout l)) else C.oerr l
def decV (l : List Int) : Rc := if C.oerr l = 0 then rdR (recR (C.oout l)) else (0, [], [])

theorem rec_zero (n : Nat) (w : World) : recF.owns n w [.int .i64 0, .slice none 0 0, .slice none 0 0] (0, [], []) :=
  rec_omk (r := (0, [], [])) (ints_omk (World.ownsRow_nil _ _ _ _) (fun x hx => by cases hx)) (Shape.list_nil bytesS 37 Tryd.underlying37 cells37 _ _) ⟨by decide, by decide⟩

/-- What numberOf is asked of, behind readRecord. -/
def errV : Rd Rc → Value
  | .error k => faultW k
  | .ok (_, _) => .nilIface

theorem numberOf_any (x : Rd Rc) (w : World) (hg : Glob w) : Calls Tryd.prog 56 #[errV x] w fun e w' => e = .returned (.int .i64 (rdE x)) ∧ Below w.heap.size w w' := by
  cases x with
  | error k => exact numberOf_fault k w hg
  | ok pp => obtain ⟨a, l⟩ := pp; exact numberOf_nil w

theorem record_told (w0 : World) (R : Nat) (l : List Int) (w : World) (h : Rdr w0 R l w) :
    Calls Tryd.prog 55 #[.pointer (some ⟨R, 0, none⟩)] w fun e w' => w.grownBy w' (some R) ∧ ∃ ax cx ay cy nx ny, e = .returned (.tuple #[.agg #[.int .i64 (rdR (recR l)).1, .slice ax nx cx, .slice ay ny cy], errV (recR l)]) ∧ recF.owns w.heap.size w' [.int .i64 (rdR (recR l)).1, .slice ax nx cx, .slice ay ny cy] (rdR (recR l)) := by
  refine (record_any w0 R l w h).mono ?_
  intro e w' ⟨hg, hm⟩
  cases hx : recR l with
  | error k =>
    rw [hx] at hm
    exact ⟨hg, _, _, _, _, _, _, hm, rec_zero _ _⟩
  | ok pp =>
    obtain ⟨r, q⟩ := pp
    rw [hx] at hm
    obtain ⟨v, he, ⟨us, rfl, ho⟩, _⟩ := hm
    obtain ⟨x, y, rfl, h1, h2, _⟩ := rec_own ho
    obtain ⟨ax, cx, rfl⟩ := own_shape (ints_own h1)
    obtain ⟨ay, cy, _, hv, _⟩ := texts_own h2
    obtain rfl : y = _ := by simpa using hv
    exact ⟨hg, ax, cx, ay, cy, _, _, he, ho⟩

attribute [local go_sem ↓] Go.wp_at_zero Go.wp_at_succ

set_option maxRecDepth 100000 in
set_option maxHeartbeats 4000000 in
theorem dec_ok (n0 : Nat) (v : Value) (l : List Int) (w : World) (h : Arg n0 w v l) (hs : l.length ≤ 140737488355328) (hg : Glob w) (he : C.oerr l = 0) :
    Calls Tryd.prog 40 #[v] w fun e w' => (∃ us : List Value, e = .returned (.tuple #[.agg us.toArray, .int .i64 (rdE (recR (C.oout l)))]) ∧ recF.owns w.heap.size w' us (rdR (recR (C.oout l)))) ∧ Below w.heap.size w w' := by
  obtain ⟨W, hW⟩ : ∃ W, W = w.alloc (.cells #[.int .i64 0, .slice none 0 0, .slice none 0 0] 53) := ⟨_, rfl⟩
  have hbW : Below w.heap.size w W := by rw [hW]; exact (Below.refl _ w).alloc (Nat.le_refl _) _
  have hP : Box W w.heap.size 53 #[.int .i64 0, .slice none 0 0, .slice none 0 0] := by rw [hW]; exact Box.new w 53 _
  have HO := C.open_any v l W (h.below hbW).toC hs
  rw [he] at HO
  obtain ⟨L, hL⟩ : ∃ L, L = C.oout l := ⟨_, rfl⟩
  have HLO : Hid (Oc L) := by show Oc L; rw [hL]; exact C.oout_oct h.oct
  rw [← hL] at HO ⊢
  have HW : Hid (Below w.heap.size w W ∧ Box W w.heap.size 53 #[.int .i64 0, .slice none 0 0, .slice none 0 0] ∧ Glob w) := ⟨hbW, hP, hg⟩
  obtain ⟨a0, c0, rfl, _⟩ := h.shape
  clear h hP hbW hs he hL hg
  go_enter Tryd.func40, Tryd.ntmps40
  go_wp2_with fail
  rw [← hW]
  clear hW
  refine HO.mono ?_
  rintro e w1 ⟨a, cap, rfl, ho1, hb1⟩
  have hA1 : Arg 0 w1 (.slice a L.length cap) L := (Own1.mk ho1 HLO.out).arg.weaken (Nat.zero_le _)
  obtain ⟨V, hV⟩ : ∃ V, V = w1.alloc (.cells #[.slice a L.length cap] 101) := ⟨_, rfl⟩
  have hbV : Below w1.heap.size w1 V := by rw [hV]; exact (Below.refl _ w1).alloc (Nat.le_refl _) _
  have hRd : Rdr w1 w1.heap.size L V := ⟨⟨a, cap, by rw [hV]; exact Box.new w1 101 _, hA1⟩, hbV, Nat.le_refl _⟩
  have HR := record_told w1 w1.heap.size L V hRd
  have hBZ := (HW.out.2.1.below hb1 HW.out.2.1.lt).below hbV (by have := (HW.out.2.1.below hb1 HW.out.2.1.lt).lt; omega)
  have HV : Hid (Below w.heap.size w V ∧ Box V w.heap.size 53 #[.int .i64 0, .slice none 0 0, .slice none 0 0] ∧ w.heap.size < w1.heap.size) := ⟨below_any (below_any HW.out.1 hb1) hbV, hBZ, (HW.out.2.1.below hb1 HW.out.2.1.lt).lt⟩
  obtain ⟨ln, hln⟩ : ∃ y, y = L.length := ⟨_, rfl⟩
  rw [← hln] at hV ⊢
  clear ho1 hb1 hA1 hbV hRd hBZ hln HO
  go_wp2_with fail
  rw [← hV]
  clear hV
  refine HR.mono ?_
  rintro e w2 ⟨hgr, ax, cx, ay, cy, nx, ny, rfl, ho2⟩
  have hB2 : Box w2 w.heap.size 53 #[.int .i64 0, .slice none 0 0, .slice none 0 0] := HV.out.2.1.grown hgr (fun e => by have := Option.some.inj e; have := HV.out.2.2; omega)
  have hb2 : Below w.heap.size w w2 := HV.out.1.grown hgr HV.out.1.size (fun j hj => by have := Option.some.inj hj; have := HV.out.2.2; omega)
  obtain ⟨k, hk⟩ : ∃ k, k = (rdR (recR L)).1 := ⟨_, rfl⟩
  obtain ⟨W3, hW3⟩ : ∃ W3, W3 = w2.alloc (.cells #[.int .i64 k, .slice ax nx cx, .slice ay ny cy] 53) := ⟨_, rfl⟩
  have hb3 : Below w2.heap.size w2 W3 := by rw [hW3]; exact (Below.refl _ w2).alloc (Nat.le_refl _) _
  have hB3 : Box W3 w2.heap.size 53 #[.int .i64 k, .slice ax nx cx, .slice ay ny cy] := by rw [hW3]; exact Box.new w2 53 _
  have hBZ3 : Box W3 w.heap.size 53 #[.int .i64 0, .slice none 0 0, .slice none 0 0] := hB2.below hb3 hB2.lt
  obtain ⟨X, hX⟩ : ∃ X, X = recR L := ⟨_, rfl⟩
  rw [← hX] at hk ho2 ⊢
  rw [← hk] at ho2 ⊢
  have HN : Hid (∀ U, Below W3.heap.size W3 U → Calls Tryd.prog 56 #[errV X] U fun e w' => e = .returned (.int .i64 (rdE X)) ∧ Below W3.heap.size W3 w') := fun U hU =>
    (numberOf_any X U (((HW.out.2.2.below hb2 HW.out.2.2.lt).below hb3 (by have := HW.out.2.2.lt; have := hb2.size; omega)).below hU (by have := HW.out.2.2.lt; have := hb2.size; have := hb3.size; omega))).mono fun e w' ⟨h1, h2⟩ => ⟨h1, below_any hU h2⟩
  have HB3 : Hid (Box W3 w2.heap.size 53 #[.int .i64 k, .slice ax nx cx, .slice ay ny cy] ∧ Box W3 w.heap.size 53 #[.int .i64 0, .slice none 0 0, .slice none 0 0]) := ⟨hB3, hBZ3⟩
  have HE : Hid (recF.owns V.heap.size w2 [.int .i64 k, .slice ax nx cx, .slice ay ny cy] (rdR X) ∧ Below w2.heap.size w2 W3 ∧ Below w.heap.size w w2 ∧ w.heap.size < V.heap.size) := ⟨ho2, hb3, hb2, HV.out.2.1.lt⟩
  obtain ⟨ev, hev⟩ : ∃ ev, ev = errV X := ⟨_, rfl⟩
  obtain ⟨ne, hne⟩ : ∃ ne, ne = rdE X := ⟨_, rfl⟩
  rw [← hev] at HN ⊢
  rw [← hne] at HN
  have HNE : Hid (ne = rdE X) := hne
  have HXL : Hid (X = recR L) := hX
  obtain ⟨p0, p1, p2, _⟩ := hB3.three
  obtain ⟨z0, z1, z2, z3, z4, z5⟩ := hBZ3.three
  have hU0 : Below W3.heap.size W3 W3 := Below.refl _ _
  clear hgr ho2 hB2 hb2 hb3 hB3 hBZ3 hk hX hev hne HR
  go_wp2
  rw [← hW3]
  clear hW3
  go_region_law
    (first
      | (go_simp
         with_reducible refine Calls.mono (HN.out _ (by first | assumption | exact Below.drew (by assumption))) ?_
         rintro e w4 ⟨rfl, hU4⟩
         obtain ⟨q0, q1, q2, _⟩ := (HB3.out.1.below hU4 HB3.out.1.lt).three
         obtain ⟨y0, y1, y2, y3, y4, y5⟩ := (HB3.out.2.below hU4 HB3.out.2.lt).three))
  all_goals
    clear p0 p1 p2 z0 z1 z2 z3 z4 z5
    go_wp2
    refine bodyPost_ret (v := .tuple #[.agg #[.int .i64 k, .slice ax nx cx, .slice ay ny cy], .int .i64 ne]) (by simp [results, Tryd.results40, go_sem, *]) rfl ?_
    have h4 := HE.out.2.2.2
    have h5 := HE.out.2.2.1.size
    rw [← HXL.out, ← HNE.out]
    refine ⟨⟨[_, _, _], rfl, ?_⟩, ?_⟩
    · exact recF.oweaken (recF.osame (recF.osame (recF.osame HE.out.1 (.of_below HE.out.2.1)) (.of_below hU4)) (.set3 h4)) (by omega)
    · exact below_set3 (below_any (below_any HE.out.2.2.1 HE.out.2.1) hU4) (Nat.le_refl _) _ _ _

theorem dec_any (n0 : Nat) (v : Value) (l : List Int) (w : World) (h : Arg n0 w v l) (hs : l.length ≤ 140737488355328) (hg : Glob w) :
    Calls Tryd.prog 40 #[v] w fun e w' => (∃ us : List Value, e = .returned (.tuple #[.agg us.toArray, .int .i64 (decE l)]) ∧ recF.owns w.heap.size w' us (decV l)) ∧ Below w.heap.size w w' := by
  by_cases he : C.oerr l = 0
  · unfold decE decV
    rw [if_pos he, if_pos he]
    exact dec_ok n0 v l w h hs hg he
  · unfold decE decV
    rw [if_neg he, if_neg he]
    exact (dec_bad n0 v l w h hs he).mono fun e w' ⟨h1, h2⟩ => ⟨⟨[_, _, _], h1, rec_zero _ _⟩, h2⟩

end Go.Proofs.YthlfgpnabcplnaaDoor.W

/-
  A record is read back from its octets, and what is read is built again, as plain mathematics.
-/
namespace Go.Proofs.YthlfgpnabcplnaaDoor.W
open Go.RowKit

theorem grpR_bad : ∀ (l : List Int) (i acc : Nat) (k : Int), grpR i acc l = .error k → k ≠ 0
  | [], i, acc, k, h => by
    rw [grpR_nil] at h
    injection h with h
    omega
  | c :: l, i, acc, k, h => by
    rw [grpR_cons] at h
    split at h
    · injection h with h; omega
    split at h
    · injection h with h; omega
    split at h
    · exact grpR_bad l _ _ k h
    · cases h
theorem numR_bad (l : List Int) (k : Int) (h : numR l = .error k) : k ≠ 0 := by
  unfold numR at h
  cases hx : grpR 0 0 l with
  | error e => rw [hx] at h; injection h with h; rw [← h]; exact grpR_bad l 0 0 e hx
  | ok pp => obtain ⟨m, r⟩ := pp; rw [hx] at h; cases h
theorem textR_bad (l : List Int) (k : Int) (h : textR l = .error k) : k ≠ 0 := by
  unfold textR at h
  cases hx : grpR 0 0 l with
  | error e => rw [hx] at h; injection h with h; rw [← h]; exact grpR_bad l 0 0 e hx
  | ok pp =>
    obtain ⟨m, r⟩ := pp
    rw [hx] at h
    simp only [Rd.then] at h
    split at h
    · injection h with h; omega
    unfold takeR at h
    split at h
    · injection h with h; omega
    · cases h
theorem manyR_bad {α : Type} {f : List Int → Rd α} (hf : ∀ l k, f l = .error k → k ≠ 0) : ∀ (n : Nat) (l : List Int) (k : Int), manyR f n l = .error k → k ≠ 0
  | 0, l, k, h => by cases h
  | n + 1, l, k, h => by
    simp only [manyR] at h
    cases hx : f l with
    | error e => rw [hx] at h; injection h with h; rw [← h]; exact hf l e hx
    | ok pp =>
      obtain ⟨a, r⟩ := pp
      rw [hx] at h
      simp only [Rd.then] at h
      cases hy : manyR f n r with
      | error e => rw [hy] at h; injection h with h; rw [← h]; exact manyR_bad hf n r e hy
      | ok pp => obtain ⟨b, s⟩ := pp; rw [hy] at h; cases h
theorem someR_bad {α : Type} {f : List Int → Rd α} (hf : ∀ l k, f l = .error k → k ≠ 0) (l : List Int) (k : Int) (h : someR f l = .error k) : k ≠ 0 := by
  unfold someR at h
  cases l with
  | nil => injection h with h; omega
  | cons c r =>
    simp only [octR, Rd.then] at h
    split at h
    · injection h with h; omega
    · exact manyR_bad hf _ _ k h
theorem recR_bad (l : List Int) (k : Int) (h : recR l = .error k) : k ≠ 0 := by
  cases l with
  | nil => injection h with h; omega
  | cons c r =>
    simp only [recR, octR, Rd.then] at h
    cases hx : someR numR r with
    | error e => rw [hx] at h; injection h with h; rw [← h]; exact someR_bad numR_bad r e hx
    | ok pp =>
      obtain ⟨ns, r2⟩ := pp
      rw [hx] at h
      simp only at h
      cases hy : someR textR r2 with
      | error e => rw [hy] at h; injection h with h; rw [← h]; exact someR_bad textR_bad r2 e hy
      | ok pp =>
        obtain ⟨ts, r3⟩ := pp
        rw [hy] at h
        simp only at h
        split at h
        · cases h
        · injection h with h; omega

theorem laidR_oc {r : Rc} (hc : chkR r = 0) (ht : ∀ t ∈ r.2.2, Oc t) : Oc (laidR r) := by
  obtain ⟨h1, h2, h3, h4, _⟩ := chk_ok hc
  exact oc_cons.2 ⟨⟨h1, h2⟩, oc_cons.2 ⟨by omega, oc_append.2 ⟨laidN_oc _, oc_cons.2 ⟨by omega, laidT_oc _ ht⟩⟩⟩⟩

theorem dec_enc {r : Rc} (hc : chkR r = 0) (hn : ∀ n ∈ r.2.1, I64 n) (ht : ∀ t ∈ r.2.2, Oc t) : decE (encO r) = 0 ∧ decV (encO r) = r := by
  have he : encO r = C.sealed (laidR r) := by unfold encO; rw [if_pos hc]
  have ho := C.open_sealed (laidR r) (laidR_oc hc ht)
  have hr := recR_laid r hc hn
  rw [he]
  unfold decE decV
  rw [if_pos ho.1, if_pos ho.1, ho.2, hr]
  exact ⟨rfl, rfl⟩

theorem dec_zero {l : List Int} (h : decE l ≠ 0) : decV l = (0, [], []) := by
  unfold decE at h
  unfold decV
  split
  · rename_i he
    rw [if_pos he] at h
    cases hx : recR (C.oout l) with
    | error k => rfl
    | ok pp => obtain ⟨r, q⟩ := pp; rw [hx] at h; exact absurd rfl h
  · rfl

theorem sealed_out {l : List Int} (h : C.oerr l = 0) : C.sealed (C.oout l) = l := by
  unfold C.oerr at h
  split at h
  · cases h
  split at h
  · rename_i h4 hl
    unfold C.oout
    rw [if_neg h4, if_pos hl]
    unfold C.sealed
    rw [hl, List.take_append_drop]
  · cases h

theorem enc_dec {l : List Int} (ho : Oc l) (h : decE l = 0) : chkR (decV l) = 0 ∧ encO (decV l) = l := by
  unfold decE at h
  split at h
  · rename_i he
    cases hx : recR (C.oout l) with
    | error k => rw [hx] at h; exact absurd h (recR_bad _ k hx)
    | ok pp =>
      obtain ⟨r, q⟩ := pp
      obtain ⟨h1, h2, _⟩ := recR_back (C.oout l) r q (C.oout_oct ho) hx
      have hv : decV l = r := by unfold decV; rw [if_pos he, hx]; rfl
      rw [hv]
      refine ⟨h2, ?_⟩
      unfold encO
      rw [if_pos h2, ← h1]
      exact sealed_out he
  · rename_i he
    exact absurd h he

theorem rec_oview {n : Nat} {w : World} {us : List Value} {r : Rc} (h : recF.owns n w us r) : ∃ ax cx ay cy, us = [.int .i64 r.1, .slice ax r.2.1.length cx, .slice ay r.2.2.length cy] := by
  obtain ⟨x, y, rfl, h1, h2, _⟩ := rec_own h
  obtain ⟨ax, cx, rfl⟩ := own_shape (ints_own h1)
  obtain ⟨ay, cy, _, hv, _⟩ := texts_own h2
  obtain rfl : y = _ := by simpa using hv
  exact ⟨ax, cx, ay, cy, rfl⟩

theorem rec_ints {n : Nat} {w : World} {us : List Value} {r : Rc} (h : recF.lies n w us r) : (∀ x ∈ r.2.1, I64 x) ∧ ∀ t ∈ r.2.2, Oc t := by
  obtain ⟨a, c, b, d, _, hI, hT, _⟩ := rec_view h
  exact ⟨ints_in hI, texts_oct hT⟩

theorem enc_len {r : Rc} (hi : ∀ x ∈ r.2.1, I64 x) : (encO r).length ≤ 1000000 := by
  unfold encO
  split
  · rename_i hc
    rw [C.sealed_length]
    obtain ⟨_, _, h3, h4, h5⟩ := chk_ok hc
    have h1 := laidN_length r.2.1 hi
    have h2 := laidT_length r.2.2 h5
    unfold laidR
    rw [List.length_cons, List.length_cons, List.length_append, List.length_cons]
    omega
  · simp

end Go.Proofs.YthlfgpnabcplnaaDoor.W
