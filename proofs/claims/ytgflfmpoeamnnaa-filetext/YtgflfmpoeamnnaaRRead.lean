/-
  What the document's Read and Of answer: what the program's do.
-/
import Derived.Test.YtgflfmpoeamnnaaRCheck
namespace Go.Proofs.Ytgflfmpoeamnnaa
open Go.RowKit

/-- The first j octets of t from p on. -/
def part (t : List Int) (p j : Nat) : List Int := (List.range j).map fun i => oc t (p + i)
theorem part_succ (t : List Int) (p j : Nat) : part t p (j + 1) = part t p j ++ [oc t (p + j)] := by
  unfold part
  rw [List.range_succ, List.map_append]
  rfl
theorem part_len (t : List Int) (p j : Nat) : (part t p j).length = j := by simp [part]
theorem part_oct {t : List Int} (h : Oct t) (p j : Nat) : Oct (part t p j) := fun x hx => by
  obtain ⟨i, _, rfl⟩ := List.mem_map.1 hx
  exact oc_oct h _
theorem own_nil (n : Nat) (w : World) : Own1 n w (.slice none 0 0) [] := .mk (World.ownsRow_nil _ _ _ _) (fun _ h => by cases h)

set_option maxRecDepth 100000 in
set_option maxHeartbeats 4000000 in
theorem rread_any (n0 : Nat) (us : List Value) (f : Fl) (off n : Int) (w : World) (h : flR.lies n0 w us f) (hoff : I64 off) (hn : I64 n) :
    Calls Try.prog 11 #[.agg us.toArray, .int .i64 off, .int .i64 n] w fun e w' => (∃ v, e = .returned (.tuple #[v, .int .i64 (rdE f off n)]) ∧ Arg w.heap.size w' v (rdO f off n)) ∧ Below w.heap.size w w' := by
  obtain ⟨W, hW⟩ : ∃ W, W = w.alloc (.cells us.toArray 24) := ⟨_, rfl⟩
  have hbW : Below w.heap.size w W := by rw [hW]; exact (Below.refl _ w).alloc (Nat.le_refl _) _
  have HC := rcheck_any n0 us f W (flR.below h hbW)
  obtain ⟨a, c, rfl, _, hi, hm⟩ := fl_viewR h
  obtain ⟨s, l⟩ := f
  obtain ⟨i0, hi0, hz0, hz1, hz2⟩ := info_parts Try.info5
  simp only at hi hm HC hW ⊢
  unfold I64 at hoff hn
  have hP : Box W w.heap.size 24 #[.int .i64 s, .slice a l.length c] := by rw [hW]; exact Box.new _ _ _
  obtain ⟨g0, g1, _, _⟩ := hP.two
  have HP : Hid (Below w.heap.size w W ∧ Box W w.heap.size 24 #[.int .i64 s, .slice a l.length c] ∧ flR.lies n0 w [.int .i64 s, .slice a l.length c] (s, l)) := ⟨hbW, hP, h⟩
  obtain ⟨ln, hln⟩ : ∃ x, x = l.length := ⟨_, rfl⟩
  rw [← hln] at hW HP HC g1 ⊢
  rw [hW] at g0 g1
  clear h hP hbW hi hm hln
  cases hck : chk (s, l)
  case false =>
    rw [show cerr (s, l) = 9 by unfold cerr; rw [hck]; rfl] at HC
    have e1 : rdE (s, l) off n = 9 := if_pos hck
    have e2 : rdO (s, l) off n = [] := if_neg (by rw [e1]; omega)
    rw [e1, e2]
    go_enter Try.func11, Try.ntmps11
    go_wp2_with fail
    rw [← hW]
    clear hW
    refine HC.mono ?_
    rintro e w1 ⟨rfl, hb1⟩
    go_wp2
    go_ret2
    exact ⟨⟨_, rfl, arg_nil _ _⟩, below_any HP.out.1 hb1⟩
  rw [show cerr (s, l) = 0 by unfold cerr; rw [hck]; rfl] at HC
  obtain ⟨hs, _, _⟩ := chk_iff.1 hck
  simp only at hs
  by_cases ho0 : off < 0
  · have e1 : rdE (s, l) off n = 4 := by unfold rdE; rw [if_neg (by rw [hck]; simp), if_pos (.inl ho0)]
    have e2 : rdO (s, l) off n = [] := if_neg (by rw [e1]; omega)
    rw [e1, e2]
    go_enter Try.func11, Try.ntmps11
    go_wp2_with fail
    rw [← hW]
    clear hW
    refine HC.mono ?_
    rintro e w1 ⟨rfl, hb1⟩
    go_wp2
    go_ret2
    exact ⟨⟨_, rfl, arg_nil _ _⟩, below_any HP.out.1 hb1⟩
  by_cases hn0 : n < 0
  · have e1 : rdE (s, l) off n = 4 := by unfold rdE; rw [if_neg (by rw [hck]; simp), if_pos (.inr hn0)]
    have e2 : rdO (s, l) off n = [] := if_neg (by rw [e1]; omega)
    rw [e1, e2]
    go_enter Try.func11, Try.ntmps11
    go_wp2_with fail
    rw [← hW]
    clear hW
    refine HC.mono ?_
    rintro e w1 ⟨rfl, hb1⟩
    go_wp2
    go_ret2
    exact ⟨⟨_, rfl, arg_nil _ _⟩, below_any HP.out.1 hb1⟩
  have e1 : rdE (s, l) off n = 0 := by unfold rdE; rw [if_neg (by rw [hck]; simp), if_neg (by omega)]
  obtain ⟨p, rfl⟩ : ∃ p : Nat, off = p := ⟨off.toNat, by omega⟩
  obtain ⟨m, rfl⟩ : ∃ m : Nat, n = m := ⟨n.toNat, by omega⟩
  have e2 : rdO (s, l) (p : Int) (m : Int) = part (txt (s, l)) p (min m (s.toNat - p)) := by
    unfold rdO
    rw [if_pos e1, Int.toNat_natCast, Int.toNat_natCast]
    unfold rdL part
    rw [txt_length]
  rw [e1, e2]
  obtain ⟨t, ht⟩ : ∃ t, t = txt (s, l) := ⟨_, rfl⟩
  obtain ⟨S, hS⟩ : ∃ S : Nat, s = S := ⟨s.toNat, by omega⟩
  have HTX : Hid (t = txt (s, l) ∧ t.length = S) := ⟨ht, by rw [ht, txt_length]; simp only; omega⟩
  have HT : Hid (∀ V, Below w.heap.size w V → Calls Try.prog 27 #[.agg #[.int .i64 s, .slice a ln c]] V fun e w' => (∃ v, e = .returned v ∧ Own1 V.heap.size w' v t) ∧ Below V.heap.size V w') := fun V hV => by
    have := rtext_any n0 [.int .i64 s, .slice a ln c] (s, l) V (flR.below HP.out.2.2 hV) hs
    rw [rtext_txt hck, ← ht] at this
    exact this
  rw [← ht, show min m (s.toNat - p) = min m (S - p) by omega]
  obtain ⟨q, hq⟩ : ∃ q, q = min m (S - p) := ⟨_, rfl⟩
  have HQ : Hid (q = min m (S - p)) := hq
  rw [← hq]
  have hS2 : S ≤ 2432 := by omega
  clear e1 e2 hck ht hS hq hs
  go_enter Try.func11, Try.ntmps11
  go_wp2_with fail
  rw [← hW]
  clear hW g0 g1
  refine HC.mono ?_
  rintro e w1 ⟨rfl, hb1⟩
  have HB1 : Hid (Below w.heap.size w w1 ∧ Box w1 w.heap.size 24 #[.int .i64 s, .slice a ln c]) := ⟨below_any HP.out.1 hb1, HP.out.2.1.below hb1 HP.out.2.1.lt⟩
  obtain ⟨r0, r1, _, _⟩ := HB1.out.2.two
  clear HC hb1
  go_wp2_with fail
  refine (HT.out _ HB1.out.1).mono ?_
  rintro e w2 ⟨⟨v2, rfl, hv2⟩, hb2⟩
  obtain ⟨a2, c2, rfl⟩ := hv2.shape
  rw [HTX.out.2] at hv2 ⊢
  have HB2 : Hid (Below w.heap.size w w2 ∧ Arg w1.heap.size w2 (.slice a2 S c2) t) := ⟨below_any HB1.out.1 hb2, hv2.arg⟩
  have hl1 := run_len Try.underlying25 a2 S c2
  clear hv2 hb2 r0 r1
  go_wp2
  go_loopw [8, 10] (fun o x wr => ∃ (j : Nat), j ≤ q ∧ x = .int .i64 ((p : Int) + (j : Int)) ∧ Own1 w2.heap.size wr o (part t p j) ∧ Below w2.heap.size w2 wr) (fun _ x _ => p + q - (intOf x).toNat)
  case atStart => exact ⟨0, Nat.zero_le _, by simp, own_nil _ _, Below.refl _ _⟩
  case round =>
    obtain ⟨j, hj, rfl, hown, hbel⟩ := hrel
    have hqv := HQ.out
    by_cases hlt : j < q
    · have h1 : (p : Int) + (j : Int) < (S : Int) := by omega
      have h2 : (j : Int) < (m : Int) := by omega
      obtain ⟨x, hx⟩ := get_lt (l := t) (k := p + j) (by rw [HTX.out.2]; omega)
      obtain ⟨bx, ox, hixx, _, gx, hxw⟩ := (HB2.out.2.below hbel).at (p + j) x hx
      have hixb : ∀ W, (Instr.indexAt 25 (.slice a2 S c2) (.int .i64 ((p : Int) + (j : Int)))).run Try.prog W = .ok (.pointer (some ⟨bx, ox, none⟩)) W := fun W => by
        have := hixx W
        rwa [show (((p + j : Nat)) : Int) = (p : Int) + (j : Int) by omega] at this
      have HPS : Hid (part t p (j + 1) = part t p j ++ [x] ∧ Oct (part t p (j + 1))) := ⟨by rw [part_succ, oc_some hx], part_oct HB2.out.2.oct _ _⟩
      obtain ⟨va, vc, rfl⟩ := hown.shape
      have hrow := hown.row
      rw [part_len] at hrow ⊢
      have HO : Hid (wr.ownsRow w2.heap.size 5 1 (.slice va j vc) j ((part t p j).map (Value.int .u8)) ∧ Below w2.heap.size w2 wr) := ⟨hrow, hbel⟩
      have hpb : p ≤ 2432 ∧ j ≤ 2432 := by omega
      clear hown hrow hixx hx hbel hqv
      go_wp2_with (at_builtin; refine wpList_append_lies _ (by rfl) _ _ 25 (by rfl) w2.heap.size 5 i0 _ 1 1 Try.underlying25 hi0 hz0 hz1 hz2 rfl (by omega) _ j _ (by rfl) (HO.out.1.alloc _) ⟨wr.heap.size, 0, none⟩ 1 1 [.int .u8 x] (by rfl) (by rfl) (World.news_of_block (cs := #[.int .u8 x]) (t := 5) (fr := (0, 0)) (heap_alloc_new wr _)) (by simp [Value.oneCell']) (by omega) (by unfold maxLen; omega) (by omega) (by have := HO.out.2.size; simp; omega) (wr.heap.size + 1) (by simp) ?_; intro gg cap3 w3 hown3 hgrow3 hat hltg)
      have hO3 : Own1 w2.heap.size w3 (.slice (some ⟨gg, 0, none⟩) (j + 1) cap3) (part t p (j + 1)) := .mk (by rw [part_len, HPS.out.1, List.map_append]; exact hown3) HPS.out.2
      have HO3 : Hid (Own1 w2.heap.size w3 (.slice (some ⟨gg, 0, none⟩) (j + 1) cap3) (part t p (j + 1)) ∧ Below w2.heap.size w2 w3) := ⟨hO3, (HO.out.2.alloc HO.out.2.size _).grown hgrow3 (by have := HO.out.2.size; simp; omega) (fun i hi => (HO.out.1.lt i hi).1)⟩
      clear hown3 hgrow3 hat hltg hO3
      go_wp2
      go_roundw
      case rel => exact ⟨j + 1, by omega, by simp; omega, HO3.out.1, HO3.out.2⟩
      case measure => simp [intOf]; omega
    · obtain rfl : j = q := by omega
      obtain ⟨va, vc, rfl⟩ := hown.shape
      rw [part_len] at hown ⊢
      have HE : Hid (Arg w.heap.size wr (.slice va j vc) (part t p j) ∧ Below w.heap.size w wr) := ⟨hown.arg.weaken HB2.out.1.size, below_any HB2.out.1 hbel⟩
      clear hown hbel
      by_cases h1 : (p : Int) + (j : Int) < (S : Int)
      · have h2 : ¬ (j : Int) < (m : Int) := by omega
        clear hqv
        go_wp2
        go_ret2
        exact ⟨⟨_, rfl, HE.out.1⟩, HE.out.2⟩
      · clear hqv
        go_wp2
        go_ret2
        exact ⟨⟨_, rfl, HE.out.1⟩, HE.out.2⟩

set_option maxRecDepth 100000 in
set_option maxHeartbeats 1000000 in
theorem rof_any (n1 : Nat) (v : Value) (d : List Int) (w : World) (hv : Arg n1 w v d) :
    Calls Try.prog 17 #[v] w fun e w' => (∃ us', e = .returned (.tuple #[.agg us'.toArray, .int .i64 (ofE d)]) ∧ flR.lies w.heap.size w' us' (ofF d)) ∧ Below w.heap.size w w' := by
  obtain ⟨W, hW⟩ : ∃ W, W = w.alloc (.cells #[.int .i64 0, .slice none 0 0] 24) := ⟨_, rfl⟩
  have hb : Below w.heap.size w W := by rw [hW]; exact (Below.refl _ w).alloc (Nat.le_refl _) _
  have hB : Box W w.heap.size 24 #[.int .i64 0, .slice none 0 0] := by rw [hW]; exact Box.new _ _ _
  obtain ⟨a, cap, rfl, _⟩ := hv.shape
  have HB : Hid (Below w.heap.size w W ∧ Box W w.heap.size 24 #[.int .i64 0, .slice none 0 0] ∧ Arg n1 W (.slice a d.length cap) d) := ⟨hb, hB, hv.below hb⟩
  have hl1 := run_len Try.underlying25 a d.length cap
  obtain ⟨g0, g1, f0, f1⟩ := hB.two
  rw [hW] at g0 g1 f0 f1
  clear hv hb hB
  by_cases hbig : 2432 < d.length
  · rw [show ofE d = 107 from if_pos hbig, show ofF d = (0, []) from if_pos hbig]
    have hbi : (2432 : Int) < (d.length : Int) := by omega
    obtain ⟨dl, hdl⟩ : ∃ x, x = d.length := ⟨_, rfl⟩
    rw [← hdl] at hl1 hbi ⊢
    rw [hW] at HB
    clear hdl hW hbig
    go_enter Try.func17, Try.ntmps17
    go_wp2
    refine bodyPost_ret (v := .tuple #[.agg #[.int .i64 0, .slice none 0 0], .int .i64 107]) (by simp [results, Try.results17, go_sem, *]) rfl ⟨⟨[_, _], rfl, fl_nilR _ _⟩, ?_⟩
    first | exact HB.out.1 | exact below_set2 HB.out.1 (Nat.le_refl _) _ _
  · rw [show ofE d = 0 from if_neg hbig, show ofF d = mk d from if_neg hbig]
    have hbi : ¬ (2432 : Int) < (d.length : Int) := by omega
    have HM := made_any n1 _ d W HB.out.2.2 (by omega)
    obtain ⟨dl, hdl⟩ : ∃ x, x = d.length := ⟨_, rfl⟩
    rw [← hdl] at hl1 hbi HM ⊢
    clear hdl hbig
    go_enter Try.func17, Try.ntmps17
    go_wp2_with fail
    rw [← hW]
    clear hW g0 g1 f0 f1
    refine HM.mono ?_
    rintro e w1 ⟨⟨us, rfl, hu⟩, hb1⟩
    obtain ⟨t0, t1, f0, f1⟩ := (HB.out.2.1.below hb1 HB.out.2.1.lt).two
    obtain ⟨a1, c1, rfl, _⟩ := fl_viewR hu
    obtain ⟨s1, hs1⟩ : ∃ x, x = (mk d).1 := ⟨_, rfl⟩
    obtain ⟨l1, hl1'⟩ : ∃ x, x = (mk d).2.length := ⟨_, rfl⟩
    rw [← hs1, ← hl1'] at hu ⊢
    have HU : Hid (flR.lies W.heap.size w1 [.int .i64 s1, .slice a1 l1 c1] (mk d) ∧ Below w.heap.size w w1 ∧ w.heap.size < W.heap.size) := ⟨hu, below_any HB.out.1 hb1, HB.out.2.1.lt⟩
    clear hu hb1 HM hs1 hl1'
    go_wp2
    refine bodyPost_ret (v := .tuple #[.agg #[.int .i64 s1, .slice a1 l1 c1], .int .i64 0]) (by simp [results, Try.results17, go_sem, *]) rfl ⟨⟨_, rfl, flR.weaken (flR.keep HU.out.1 (.set2 HU.out.2.2)) (by have := HU.out.2.2; omega)⟩, below_set2 HU.out.2.1 (Nat.le_refl _) _ _⟩

end Go.Proofs.Ytgflfmpoeamnnaa
