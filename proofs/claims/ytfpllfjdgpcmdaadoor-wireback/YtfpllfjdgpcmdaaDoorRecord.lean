/-
  What readRecord makes of a reader, and so what Decode answers.
-/
import Derived.Test.YtfpllfjdgpcmdaaDoorText
import Derived.Test.YtfpllfjdgpcmdaaDoorNumOf
import Derived.Test.YtfpllfjdgpcmdaaDoorDecBad
namespace Go.Proofs.YtfpllfjdgpcmdaaDoor
open Go.RowKit

abbrev zeroR : Value := .agg #[.int .i64 0, .slice none 0 0, .slice none 0 0]

theorem same_of_grown {n R : Nat} {w w' : World} (h : w.grownBy w' (some R)) (hR : R < n) : Same n w w' := fun k hk hk2 => h.block k hk2 (fun e => by have := Option.some.inj e; omega)

theorem grown_set3 {w a : World} {R Z : Nat} (h : w.grownBy a (some R)) (hZ : w.heap.size ≤ Z) (x y z : Value) : w.grownBy (((a.setCell ⟨Z, 0, none⟩ x).setCell ⟨Z, 1, none⟩ y).setCell ⟨Z, 2, none⟩ z) (some R) :=
  grown_append h (below_set3 ((Below.refl _ a).mono h.size) hZ x y z)

set_option maxRecDepth 100000 in
set_option maxHeartbeats 4000000 in
theorem record_any (w0 : World) (R : Nat) (l : List Int) (w : World) (h : Rdr w0 R l w) :
    Calls Tryd.prog 35 #[.pointer (some ⟨R, 0, none⟩)] w fun e w' => Told w0 R w zeroR (fun w' v a => ∃ us : List Value, v = .agg us.toArray ∧ recF.owns w.heap.size w' us a) (recR l) e w' := by
  obtain ⟨W, hW⟩ : ∃ W, W = w.alloc (.cells #[.int .i64 0, .slice none 0 0, .slice none 0 0] 27) := ⟨_, rfl⟩
  have hb : Below w.heap.size w W := by rw [hW]; exact (Below.refl _ w).alloc (Nat.le_refl _) _
  have hP : Box W w.heap.size 27 #[.int .i64 0, .slice none 0 0, .slice none 0 0] := by rw [hW]; exact Box.new w 27 _
  have HRW : Hid (R < w.heap.size) := h.lt
  have HW : Hid (w.grownBy W (some R) ∧ Box W w.heap.size 27 #[.int .i64 0, .slice none 0 0, .slice none 0 0] ∧ w.heap.size < W.heap.size) := ⟨grown_below hb, hP, hP.lt⟩
  have HO := octet_any w0 R l W (h.below hb h.lt)
  obtain ⟨X, hX⟩ : ∃ X, X = recR l := ⟨_, rfl⟩
  rw [← hX]
  clear h hb hP
  cases l with
  | nil =>
    rw [show octR [] = .error 8 from rfl] at HO
    have HX : Hid (X = .error 8) := hX
    clear hX
    go_enter Tryd.func35, Tryd.ntmps35
    go_wp2_with fail
    rw [← hW]
    clear hW
    refine HO.mono ?_
    rintro e w1 ⟨hg, rfl⟩
    obtain ⟨g0, g1, g2, f0, f1, f2⟩ := (HW.out.2.1.grown hg (fun e => by have := Option.some.inj e; have := HRW.out; omega)).three
    have HG : Hid (w.grownBy w1 (some R)) := grown_trans HW.out.1 hg
    clear hg HO
    go_wp2
    refine bodyPost_ret (v := .tuple #[zeroR, faultW 8]) (by simp [results, Tryd.results35, go_sem, *]) rfl ?_
    rw [HX.out]
    exact ⟨grown_set3 HG.out (Nat.le_refl _) _ _ _, rfl⟩
  | cons c r =>
    rw [show octR (c :: r) = .ok (c, r) from rfl] at HO
    have hX1 : X = (someR numR r).then fun ns r => (someR textR r).then fun ts r => if r = [] then .ok ((c, ns, ts), []) else .error 23 := hX
    have HX0 : Hid (X = (someR numR r).then fun ns r => (someR textR r).then fun ts r => if r = [] then .ok ((c, ns, ts), []) else .error 23) := hX1
    clear hX hX1
    go_enter Tryd.func35, Tryd.ntmps35
    go_wp2_with fail
    rw [← hW]
    clear hW
    refine HO.mono ?_
    rintro e w1 ⟨hg, v, rfl, ⟨rfl, hc⟩, hR⟩
    have hB1 := HW.out.2.1.grown hg (fun e => by have := Option.some.inj e; have := HRW.out; omega)
    have HG1 : Hid (w.grownBy w1 (some R) ∧ Box w1 w.heap.size 27 #[.int .i64 0, .slice none 0 0, .slice none 0 0] ∧ Rdr w0 R r w1 ∧ w.heap.size < w1.heap.size) := ⟨grown_trans HW.out.1 hg, hB1, hR, hB1.lt⟩
    have HN := readInts_any w0 R r w1 hR
    clear hg HO hR hB1 HW
    cases hn : someR numR r with
    | error k =>
      rw [hn] at HN
      have HX : Hid (X = .error k) := by show _ = _; rw [HX0.out, hn]; rfl
      clear hn HX0
      go_wp2_with fail
      refine HN.mono ?_
      rintro e w2 ⟨hg, rfl⟩
      obtain ⟨g0, g1, g2, f0, f1, f2⟩ := (HG1.out.2.1.grown hg (fun e => by have := Option.some.inj e; have := HRW.out; omega)).three
      have HG : Hid (w.grownBy w2 (some R)) := grown_trans HG1.out.1 hg
      clear hg HN
      go_wp2
      refine bodyPost_ret (v := .tuple #[zeroR, faultW k]) (by simp [results, Tryd.results35, go_sem, *]) rfl ?_
      rw [HX.out]
      exact ⟨grown_set3 HG.out (Nat.le_refl _) _ _ _, rfl⟩
    | ok pp =>
      obtain ⟨ns, r2⟩ := pp
      rw [hn] at HN
      have HX1 : Hid (X = (someR textR r2).then fun ts r => if r = [] then .ok ((c, ns, ts), []) else .error 23) := by show _ = _; rw [HX0.out, hn]; rfl
      clear hn HX0
      go_wp2_with fail
      refine HN.mono ?_
      rintro e w2 ⟨hg, v, rfl, hI, hR⟩
      obtain ⟨an, cn, rfl⟩ := own_shape (ints_own hI)
      have hB2 := HG1.out.2.1.grown hg (fun e => by have := Option.some.inj e; have := HRW.out; omega)
      have HG2 : Hid (w.grownBy w2 (some R) ∧ Box w2 w.heap.size 27 #[.int .i64 0, .slice none 0 0, .slice none 0 0] ∧ Rdr w0 R r2 w2 ∧ intsS.owns w1.heap.size w2 [.slice an ns.length cn] ns ∧ w1.heap.size ≤ w2.heap.size) := ⟨grown_trans HG1.out.1 hg, hB2, hR, hI, hg.size⟩
      have HT := readTexts_any w0 R r2 w2 hR
      obtain ⟨nl, hnl⟩ : ∃ y, y = ns.length := ⟨_, rfl⟩
      rw [← hnl] at HG2 ⊢
      clear hg HN hR hB2 hI hnl
      cases hn : someR textR r2 with
      | error k =>
        rw [hn] at HT
        have HX : Hid (X = .error k) := by show _ = _; rw [HX1.out, hn]; rfl
        clear hn HX1
        go_wp2_with fail
        refine HT.mono ?_
        rintro e w3 ⟨hg, rfl⟩
        obtain ⟨g0, g1, g2, f0, f1, f2⟩ := (HG2.out.2.1.grown hg (fun e => by have := Option.some.inj e; have := HRW.out; omega)).three
        have HG : Hid (w.grownBy w3 (some R)) := grown_trans HG2.out.1 hg
        clear hg HT
        go_wp2
        refine bodyPost_ret (v := .tuple #[zeroR, faultW k]) (by simp [results, Tryd.results35, go_sem, *]) rfl ?_
        rw [HX.out]
        exact ⟨grown_set3 HG.out (Nat.le_refl _) _ _ _, rfl⟩
      | ok pp =>
        obtain ⟨ts, r3⟩ := pp
        rw [hn] at HT
        have HX2 : Hid (X = if r3 = [] then .ok ((c, ns, ts), []) else .error 23) := by show _ = _; rw [HX1.out, hn]; rfl
        clear hn HX1
        go_wp2_with fail
        refine HT.mono ?_
        rintro e w3 ⟨hg, v, rfl, hTT, hR⟩
        obtain ⟨at', ct, _, hv, _⟩ := texts_own hTT
        obtain rfl : v = _ := by simpa using hv
        have hB3 := HG2.out.2.1.grown hg (fun e => by have := Option.some.inj e; have := HRW.out; omega)
        have HG3 : Hid (w.grownBy w3 (some R) ∧ Rdr w0 R r3 w3 ∧ intsS.owns w1.heap.size w3 [.slice an nl cn] ns ∧ textsS.owns w2.heap.size w3 [.slice at' ts.length ct] ts) :=
          ⟨grown_trans HG2.out.1 hg, hR, intsS.osame HG2.out.2.2.2.1 (same_of_grown hg (by have := HG1.out.2.2.2; have := HRW.out; omega)), hTT⟩
        obtain ⟨g0, g1, g2, f0, f1, f2⟩ := hB3.three
        obtain ⟨ar, cr, hBR, _⟩ := hR.ex
        have gR := hBR.cell 0 (u := .slice ar r3.length cr) rfl
        have hlen := run_len Tryd.underlying26 ar r3.length cr
        obtain ⟨tl, htl⟩ : ∃ y, y = ts.length := ⟨_, rfl⟩
        rw [← htl] at HG3 ⊢
        clear hg HT hR hB3 hTT htl hv hBR
        by_cases h0 : r3 = []
        · subst h0
          have HX : Hid (X = .ok ((c, ns, ts), [])) := by show _ = _; rw [HX2.out, if_pos rfl]
          have HCC : Hid (I64 c) := ⟨by omega, by omega⟩
          simp only [List.length_nil] at gR hlen
          clear HX2
          go_wp2
          refine bodyPost_ret (v := .tuple #[.agg #[.int .i64 c, .slice an nl cn, .slice at' tl ct], .nilIface]) (by simp [results, Tryd.results35, go_sem, *]) rfl ?_
          rw [HX.out]
          have hz1 := HG1.out.2.2.2
          have hz2 := HG2.out.2.2.2.2
          refine ⟨grown_set3 HG3.out.1 (Nat.le_refl _) _ _ _, _, rfl, ⟨[_, _, _], rfl, ?_⟩, ?_⟩
          · exact rec_omk (r := (c, ns, ts)) (intsS.oweaken (intsS.osame HG3.out.2.2.1 (.set3 (by omega))) (by omega)) (textsS.oweaken (textsS.osame HG3.out.2.2.2 (.set3 (by omega))) (by omega)) HCC.out
          · exact HG3.out.2.1.below (n := w.heap.size) (below_set3 ((Below.refl _ w3).mono HG3.out.1.size) (Nat.le_refl _) _ _ _) HRW.out
        · have HX : Hid (X = .error 23) := by show _ = _; rw [HX2.out, if_neg h0]
          obtain ⟨ll, hll⟩ : ∃ y, y = r3.length := ⟨_, rfl⟩
          have hl0 : (0 : Int) < (ll : Int) := by
            rw [hll]
            have := List.length_pos_iff.2 h0
            omega
          rw [← hll] at gR hlen
          clear HX2 h0 hll
          go_wp2
          refine bodyPost_ret (v := .tuple #[zeroR, faultW 23]) (by simp [results, Tryd.results35, go_sem, *]) rfl ?_
          rw [HX.out]
          exact ⟨grown_set3 HG3.out.1 (Nat.le_refl _) _ _ _, rfl⟩

end Go.Proofs.YtfpllfjdgpcmdaaDoor
