/-
  What the document's Write makes of a file: what the program's does.
-/
import Derived.Test.YtgflfmpoeamnnaaRRead
namespace Go.Proofs.Ytgflfmpoeamnnaa
open Go.RowKit

/-- The two variables of a call that takes a file and answers one. -/
def TwoR (w : World) (V : World) (s : Int) (v : Value) : Prop := Below w.heap.size w V ∧ Box V w.heap.size 24 #[.int .i64 s, v] ∧ Box V (w.heap.size + 1) 24 #[.int .i64 0, .slice none 0 0]
theorem TwoR.start (w : World) (s : Int) (v : Value) : TwoR w ((w.alloc (.cells #[.int .i64 s, v] 24)).alloc (.cells #[.int .i64 0, .slice none 0 0] 24)) s v := by
  refine ⟨((Below.refl _ w).alloc (Nat.le_refl _) _).alloc (by simp) _, (Box.new _ _ _).alloc _, ?_⟩
  have := Box.new (w.alloc (.cells #[.int .i64 s, v] 24)) 24 #[.int .i64 0, .slice none 0 0]
  rwa [World.size_alloc] at this
theorem TwoR.below {w V V' : World} {s : Int} {v : Value} (h : TwoR w V s v) (hb : Below V.heap.size V V') : TwoR w V' s v := ⟨below_any h.1 hb, h.2.1.below hb h.2.1.lt, h.2.2.below hb h.2.2.lt⟩
theorem TwoR.lt {w V : World} {s : Int} {v : Value} (h : TwoR w V s v) : w.heap.size + 2 ≤ V.heap.size := h.2.2.lt
theorem TwoR.cells {w V : World} {s : Int} {v : Value} (h : TwoR w V s v) : V.cell? ⟨w.heap.size, 0, none⟩ = some (.int .i64 s) ∧ V.cell? ⟨w.heap.size, 1, none⟩ = some v ∧ V.cell? ⟨w.heap.size + 1, 0, none⟩ = some (.int .i64 0) ∧ V.cell? ⟨w.heap.size + 1, 1, none⟩ = some (.slice none 0 0) ∧ V.frozen? ⟨w.heap.size + 1, 0, none⟩ = false ∧ V.frozen? ⟨w.heap.size + 1, 1, none⟩ = false :=
  ⟨h.2.1.two.1, h.2.1.two.2.1, h.2.2.two.1, h.2.2.two.2.1, h.2.2.two.2.2.1, h.2.2.two.2.2.2⟩
theorem TwoR.grown {w V V' : World} {s : Int} {v : Value} {g : Nat} (h : TwoR w V s v) (hg : V.grownBy V' (some g)) (hn : w.heap.size + 2 ≤ g) : TwoR w V' s v := ⟨h.1.grown hg h.1.size (fun i hi => by cases hi; omega), h.2.1.grown hg (by simp; omega), h.2.2.grown hg (by simp; omega)⟩
/-- The answer is stored. -/
theorem TwoR.ends {w V : World} {s : Int} {v : Value} (h : TwoR w V s v) {n0 : Nat} {us : List Value} {f : Fl} (hn : w.heap.size + 2 ≤ n0) (hl : flR.lies n0 V us f) (x y : Value) : flR.lies w.heap.size ((V.setCell ⟨w.heap.size + 1, 0, none⟩ x).setCell ⟨w.heap.size + 1, 1, none⟩ y) us f ∧ Below w.heap.size w ((V.setCell ⟨w.heap.size + 1, 0, none⟩ x).setCell ⟨w.heap.size + 1, 1, none⟩ y) :=
  ⟨flR.weaken (flR.keep hl (.set2 (by omega))) (by omega), below_set2 h.1 (by omega) _ _⟩

/-- The text t behind the loops of Write: so long, its octets from p on written over, j of them. -/
def wl (t d : List Int) (p N j : Nat) : List Int := (List.range N).map fun q => if p ≤ q ∧ q < p + j then oc d (q - p) else oc t q
theorem wl_length (t d : List Int) (p N j : Nat) : (wl t d p N j).length = N := by simp [wl]
theorem wl_get (t d : List Int) (p N j q : Nat) (h : q < N) : (wl t d p N j).getD q 0 = if p ≤ q ∧ q < p + j then oc d (q - p) else oc t q := range_get _ _ _ _ h
theorem wl_start (t d : List Int) (p z : Nat) : wl t d p (t.length + z) 0 = t ++ List.replicate z 0 := by
  refine alike (by rw [wl_length]; simp) fun q hq => ?_
  rw [wl_length] at hq
  rw [wl_get _ _ _ _ _ _ hq, if_neg (by omega)]
  unfold oc
  simp only [List.getD_eq_getElem?_getD]
  by_cases h : q < t.length
  · rw [List.getElem?_append_left h]
  · rw [List.getElem?_append_right (by omega), List.getElem?_eq_none (by omega), List.getElem?_replicate, if_pos (by omega)]
    rfl
theorem wl_set (t d : List Int) (p N j : Nat) : (wl t d p N j).set (p + j) (oc d j) = wl t d p N (j + 1) := by
  refine alike (by rw [List.length_set, wl_length, wl_length]) fun q hq => ?_
  rw [List.length_set, wl_length] at hq
  rw [wl_get _ _ _ _ _ _ hq]
  have e := wl_get t d p N j q hq
  simp only [List.getD_eq_getElem?_getD, List.getElem?_set] at e ⊢
  by_cases h : p + j = q
  · subst h
    rw [if_pos rfl, if_pos (by rw [wl_length]; exact hq), if_pos (by omega), show p + j - p = j by omega]
    rfl
  · rw [if_neg h, e]
    by_cases h2 : p ≤ q ∧ q < p + j
    · rw [if_pos h2, if_pos (by omega)]
    · rw [if_neg h2, if_neg (by omega)]
theorem wl_done {t d : List Int} {p : Nat} (hd : d.length ≠ 0) : wl t d p (max t.length (p + d.length)) d.length = wrT t p d := by
  unfold wrT
  rw [if_neg hd]
  rfl
theorem wl_oct {t d : List Int} (ht : Oct t) (hd : Oct d) (p N j : Nat) : Oct (wl t d p N j) := fun x hx => by
  obtain ⟨q, _, rfl⟩ := List.mem_map.1 hx
  split
  · exact oc_oct hd _
  · exact oc_oct ht _
theorem snoc_zeros (t : List Int) (z : Nat) : t ++ List.replicate (z + 1) 0 = t ++ List.replicate z 0 ++ [0] := by
  rw [List.replicate_succ', List.append_assoc]

def lenOf : Value → Nat
  | .slice _ n _ => n
  | _ => 0

set_option maxRecDepth 100000 in
set_option maxHeartbeats 4000000 in
theorem rwrite_any (n0 n1 : Nat) (us : List Value) (f : Fl) (off : Int) (v : Value) (d : List Int) (w : World) (h : flR.lies n0 w us f) (hoff : I64 off) (hv : Arg n1 w v d) :
    Calls Try.prog 13 #[.agg us.toArray, .int .i64 off, v] w fun e w' => (∃ us', e = .returned (.tuple #[.agg us'.toArray, .int .i64 (wrE f off d)]) ∧ flR.lies w.heap.size w' us' (wrF f off d)) ∧ Below w.heap.size w w' := by
  obtain ⟨a, c, rfl, _, hi, hm⟩ := fl_viewR h
  obtain ⟨s, l⟩ := f
  obtain ⟨x, cap, rfl, hcap, hdm, _⟩ := hv.shape
  simp only at hi hm ⊢
  unfold maxLen at hm hdm
  unfold I64 at hoff
  have hld := run_len Try.underlying25 x d.length cap
  obtain ⟨W, hW⟩ : ∃ W, W = (w.alloc (.cells #[.int .i64 s, .slice a l.length c] 24)).alloc (.cells #[.int .i64 0, .slice none 0 0] 24) := ⟨_, rfl⟩
  have hT : TwoR w W s (.slice a l.length c) := by rw [hW]; exact TwoR.start _ _ _
  have HC := rcheck_any n0 [.int .i64 s, .slice a l.length c] (s, l) W (flR.below h hT.1)
  have HT : Hid (TwoR w W s (.slice a l.length c)) := hT
  have HL : Hid (flR.lies n0 w [.int .i64 s, .slice a l.length c] (s, l) ∧ Arg n1 w (.slice x d.length cap) d) := ⟨h, hv⟩
  obtain ⟨g0, g1, _⟩ := hT.cells
  obtain ⟨n, hn⟩ : ∃ n, n = l.length := ⟨_, rfl⟩
  rw [← hn] at hW HT HL HC g1 ⊢
  rw [hW] at g0 g1
  clear h hi hT hv hm hn
  cases hck : chk (s, l)
  case false =>
    rw [show cerr (s, l) = 9 by unfold cerr; rw [hck]; rfl] at HC
    have e1 : wrE (s, l) off d = 9 := by exact if_pos hck
    have e2 : wrF (s, l) off d = (0, []) := if_neg (by rw [e1]; omega)
    rw [e1, e2]
    clear e1 e2
    go_enter Try.func13, Try.ntmps13
    go_wp2_with fail
    rw [← hW]
    clear hW g0 g1
    refine HC.mono ?_
    rintro e w1 ⟨rfl, hb1⟩
    have HT1 : Hid (TwoR w w1 s (.slice a n c)) := HT.out.below hb1
    obtain ⟨_, _, t0, t1, f0, f1⟩ := HT1.out.cells
    clear HC hb1
    go_wp2
    refine bodyPost_ret (v := .tuple #[.agg #[.int .i64 0, .slice none 0 0], .int .i64 9]) (by simp [results, Try.results13, go_sem, *]) rfl ⟨⟨[_, _], rfl, fl_nilR _ _⟩, below_set2 HT1.out.1 (by omega) _ _⟩
  rw [show cerr (s, l) = 0 by unfold cerr; rw [hck]; rfl] at HC
  by_cases ho0 : off < 0
  · have e1 : wrE (s, l) off d = 4 := by unfold wrE; rw [if_neg (by rw [hck]; simp), if_pos ho0]
    have e2 : wrF (s, l) off d = (0, []) := if_neg (by rw [e1]; omega)
    rw [e1, e2]
    clear e1 e2
    go_enter Try.func13, Try.ntmps13
    go_wp2_with fail
    rw [← hW]
    clear hW g0 g1
    refine HC.mono ?_
    rintro e w1 ⟨rfl, hb1⟩
    have HT1 : Hid (TwoR w w1 s (.slice a n c)) := HT.out.below hb1
    obtain ⟨_, _, t0, t1, f0, f1⟩ := HT1.out.cells
    clear HC hb1
    go_wp2
    refine bodyPost_ret (v := .tuple #[.agg #[.int .i64 0, .slice none 0 0], .int .i64 4]) (by simp [results, Try.results13, go_sem, *]) rfl ⟨⟨[_, _], rfl, fl_nilR _ _⟩, below_set2 HT1.out.1 (by omega) _ _⟩
  obtain ⟨hs, _, _⟩ := chk_iff.1 hck
  simp only at hs
  obtain ⟨t, ht⟩ : ∃ t, t = txt (s, l) := ⟨_, rfl⟩
  obtain ⟨S, hS⟩ : ∃ S : Nat, s = S := ⟨s.toNat, by omega⟩
  have HTX : Hid (t.length = S ∧ S ≤ 2432) := ⟨by rw [ht, txt_length]; simp only; omega, by omega⟩
  have HTT : Hid (∀ V, Below w.heap.size w V → Calls Try.prog 27 #[.agg #[.int .i64 s, .slice a n c]] V fun e w' => (∃ v, e = .returned v ∧ Own1 V.heap.size w' v t) ∧ Below V.heap.size V w') := fun V hV => by
    have := rtext_any n0 [.int .i64 s, .slice a n c] (s, l) V (flR.below HL.out.1 hV) hs
    rw [rtext_txt hck, ← ht] at this
    exact this
  by_cases hd0 : d.length = 0
  · have e1 : wrE (s, l) off d = 0 := by unfold wrE; rw [if_neg (by rw [hck]; simp), if_neg ho0, if_pos hd0]
    have e2 : wrF (s, l) off d = mk t := by
      unfold wrF
      rw [if_pos e1, wrT_none _ hd0, ht]
    rw [e1, e2]
    have hdz : (d.length : Int) = 0 := by omega
    obtain ⟨dl, hdl⟩ : ∃ x, x = d.length := ⟨_, rfl⟩
    rw [← hdl] at hld hdz HL ⊢
    clear e1 e2 hck ht hS hdl hd0 hcap hdm
    go_enter Try.func13, Try.ntmps13
    go_wp2_with fail
    rw [← hW]
    clear hW g0 g1
    refine HC.mono ?_
    rintro e w1 ⟨rfl, hb1⟩
    have HT1 : Hid (TwoR w w1 s (.slice a n c)) := HT.out.below hb1
    obtain ⟨r0, r1, _⟩ := HT1.out.cells
    clear HC hb1
    go_wp2_with fail
    refine (HTT.out _ HT1.out.1).mono ?_
    rintro e w2 ⟨⟨v2, rfl, hv2⟩, hb2⟩
    have HT2 : Hid (TwoR w w2 s (.slice a n c) ∧ w1.heap.size ≤ w2.heap.size) := ⟨HT1.out.below hb2, hb2.size⟩
    have HM := made_any w1.heap.size v2 t w2 hv2.arg (by have := HTX.out; omega)
    obtain ⟨a2, c2, rfl⟩ := hv2.shape
    rw [HTX.out.1] at HM ⊢
    clear hv2 hb2 r0 r1
    go_wp2_with fail
    refine HM.mono ?_
    rintro e w3 ⟨⟨us3, rfl, hu3⟩, hb3⟩
    have HT3 : Hid (TwoR w w3 s (.slice a n c)) := HT2.out.1.below hb3
    obtain ⟨y0, y1, y2, y3, y4, y5⟩ := HT3.out.cells
    obtain ⟨a3, c3, rfl, _⟩ := fl_viewR hu3
    obtain ⟨s3, hs3⟩ : ∃ x, x = (mk t).1 := ⟨_, rfl⟩
    obtain ⟨l3, hl3⟩ : ∃ x, x = (mk t).2.length := ⟨_, rfl⟩
    rw [← hs3, ← hl3] at hu3 ⊢
    have HU3 : Hid (flR.lies w2.heap.size w3 [.int .i64 s3, .slice a3 l3 c3] (mk t)) := hu3
    clear hu3 hb3 HM hs3 hl3
    go_wp2
    refine bodyPost_ret (v := .tuple #[.agg #[.int .i64 s3, .slice a3 l3 c3], .int .i64 0]) (by simp [results, Try.results13, go_sem, *]) rfl ?_
    obtain ⟨h1, h2⟩ := HT3.out.ends (Nat.le_trans HT1.out.lt HT2.out.2) HU3.out (.int .i64 s3) (.slice a3 l3 c3)
    exact ⟨⟨_, rfl, h1⟩, h2⟩
  obtain ⟨p, rfl⟩ : ∃ p : Nat, off = p := ⟨off.toNat, by omega⟩
  obtain ⟨dl, hdl⟩ : ∃ x, x = d.length := ⟨_, rfl⟩
  by_cases hbig : 2432 < (p : Int) + (d.length : Int)
  · have e1 : wrE (s, l) (p : Int) d = 107 := by unfold wrE; rw [if_neg (by rw [hck]; simp), if_neg ho0, if_neg hd0, if_pos hbig]
    have e2 : wrF (s, l) (p : Int) d = (0, []) := if_neg (by rw [e1]; omega)
    rw [e1, e2]
    rw [← hdl] at hld hbig hd0 hdm ⊢
    have hdz : ¬ (dl : Int) = 0 := by omega
    clear e1 e2 hck ht hS HTT HTX HL hdl hcap hd0
    by_cases hp : (2432 : Int) < (p : Int)
    all_goals
      have hq : 2432 - (p : Int) < (dl : Int) := by omega
      go_enter Try.func13, Try.ntmps13
      go_wp2_with fail
      rw [← hW]
      clear hW g0 g1
      refine HC.mono ?_
      rintro e w1 ⟨rfl, hb1⟩
      have HT1 : Hid (TwoR w w1 s (.slice a n c)) := HT.out.below hb1
      obtain ⟨_, _, t0, t1, f0, f1⟩ := HT1.out.cells
      clear HC hb1
      go_wp2
      refine bodyPost_ret (v := .tuple #[.agg #[.int .i64 0, .slice none 0 0], .int .i64 107]) (by simp [results, Try.results13, go_sem, *]) rfl ⟨⟨[_, _], rfl, fl_nilR _ _⟩, below_set2 HT1.out.1 (by omega) _ _⟩
  have e1 : wrE (s, l) (p : Int) d = 0 := by unfold wrE; rw [if_neg (by rw [hck]; simp), if_neg ho0, if_neg hd0, if_neg hbig]
  have e2 : wrF (s, l) (p : Int) d = mk (wrT t p d) := by
    unfold wrF
    rw [if_pos e1, Int.toNat_natCast, ht]
  rw [e1, e2]
  have hpd : (p : Int) + (dl : Int) ≤ 2432 := by omega
  obtain ⟨N, hN⟩ : ∃ N, N = max S (p + dl) := ⟨_, rfl⟩
  have HNN : Hid (N = max S (p + dl) ∧ wl t d p N dl = wrT t p d ∧ N ≤ 2432) := by
    refine ⟨hN, ?_, by have := HTX.out.2; omega⟩
    rw [hN, hdl, ← HTX.out.1]
    exact wl_done hd0
  obtain ⟨R, hR⟩ : ∃ R, R = wrT t p d := ⟨_, rfl⟩
  rw [← hR] at HNN ⊢
  obtain ⟨i0, hi0, hz0, hz1, hz2⟩ := info_parts Try.info5
  have HDA : Hid (∀ V, Below w.heap.size w V → Arg n1 V (.slice x dl cap) d) := fun V hV => by rw [hdl]; exact HL.out.2.below hV
  have HDL : Hid (dl = d.length) := hdl
  rw [← hdl] at hld hd0 ⊢
  have hdz : ¬ (dl : Int) = 0 := by omega
  have hpn : ¬ (2432 : Int) < (p : Int) := by omega
  have hqn : ¬ 2432 - (p : Int) < (dl : Int) := by omega
  have hp0 : ¬ (p : Int) < 0 := by omega
  clear e1 e2 hck ht hS hN hR HL hdl hcap hbig hoff hdm
  go_enter Try.func13, Try.ntmps13
  go_wp2_with fail
  rw [← hW]
  clear hW g0 g1
  refine HC.mono ?_
  rintro e w1 ⟨rfl, hb1⟩
  have HT1 : Hid (TwoR w w1 s (.slice a n c)) := HT.out.below hb1
  obtain ⟨r0, r1, _⟩ := HT1.out.cells
  clear HC hb1
  go_wp2_with fail
  refine (HTT.out _ HT1.out.1).mono ?_
  rintro e w2 ⟨⟨v2, rfl, hv2⟩, hb2⟩
  have HT2 : Hid (TwoR w w2 s (.slice a n c) ∧ w1.heap.size ≤ w2.heap.size ∧ Own1 w1.heap.size w2 v2 t) := ⟨HT1.out.below hb2, hb2.size, hv2⟩
  clear hv2 hb2 r0 r1
  have HNB := HNN.out.1
  have HNT := HTX.out
  have hNb : S ≤ N ∧ p + dl ≤ N ∧ (N = S ∨ N = p + dl) ∧ N ≤ 2432 := by have := HNN.out.2.2; omega
  have HNI : Hid (S ≤ N ∧ p + dl ≤ N ∧ (N = S ∨ N = p + dl) ∧ N ≤ 2432) := hNb
  clear HNB HNT hNb
  go_wp2
  go_loopw [8] (fun o wr => ∃ (z : Nat), S + z ≤ N ∧ Own1 w1.heap.size wr o (t ++ List.replicate z 0) ∧ TwoR w wr s (.slice a n c) ∧ w1.heap.size ≤ wr.heap.size) (fun o _ => N - lenOf o)
  case atStart => exact ⟨0, by have := HNI.out; omega, by simpa using HT2.out.2.2, HT2.out.1, HT2.out.2.1⟩
  case round =>
    obtain ⟨z, hz, hown, hTV, hsz⟩ := hrel
    obtain ⟨va, vc, rfl⟩ := hown.shape
    have hlen : (t ++ List.replicate z 0).length = S + z := by rw [List.length_append, List.length_replicate, HTX.out.1]
    rw [hlen] at hown ⊢
    have hl1 := run_len Try.underlying25 va (S + z) vc
    have hni := HNI.out
    by_cases hlt : S + z < p + dl
    · have h1 : (S : Int) + (z : Int) < (p : Int) + (dl : Int) := by omega
      have hrow := hown.row
      rw [hlen] at hrow
      obtain ⟨K, hK⟩ : ∃ K, K = S + z := ⟨_, rfl⟩
      rw [← hK] at hrow hl1 hlt ⊢
      have h1' : (K : Int) < (p : Int) + (dl : Int) := by omega
      have HO : Hid (wr.ownsRow w1.heap.size 5 1 (.slice va K vc) K ((t ++ List.replicate z 0).map (Value.int .u8)) ∧ TwoR w wr s (.slice a n c) ∧ w1.heap.size ≤ wr.heap.size ∧ Oct (t ++ List.replicate z 0) ∧ K = S + z) := ⟨hrow, hTV, hsz, hown.oct, hK⟩
      have hKb : K ≤ 2432 := by omega
      clear hown hrow hTV hsz hlen hK hni h1 hz
      go_wp2_with (at_builtin; refine wpList_append_lies _ (by rfl) _ _ 25 (by rfl) w1.heap.size 5 i0 _ 1 1 Try.underlying25 hi0 hz0 hz1 hz2 rfl (by omega) _ K _ (by rfl) (HO.out.1.alloc _) ⟨wr.heap.size, 0, none⟩ 1 1 [.int .u8 0] (by rfl) (by rfl) (World.news_of_block (cs := #[.int .u8 0]) (t := 5) (fr := (0, 0)) (heap_alloc_new wr _)) (by simp [Value.oneCell']) (by omega) (by unfold maxLen; omega) (by omega) (by have := HO.out.2.2.1; simp; omega) (wr.heap.size + 1) (by simp) ?_; intro gg cap3 w3 hown3 hgrow3 hat hltg)
      obtain ⟨h2, h3, h4, h5, h6⟩ := HO.out
      refine ⟨⟨z + 1, by have := HNI.out; omega, ?_, ?_, ?_⟩, ?_⟩
      · rw [snoc_zeros]
        refine .mk ?_ ?_
        · rw [List.length_append, List.length_append, List.length_replicate, HTX.out.1, ← h6, List.map_append]
          exact hown3
        · intro y hy
          rcases List.mem_append.1 hy with hy | hy
          · exact h5 y hy
          · rw [List.mem_singleton.1 hy]; decide
      · refine ⟨(h3.1.alloc h3.1.size _).grown hgrow3 (by have := h3.1.size; simp; omega) (fun i hi => by have := (h2.lt i hi).1; have := HT1.out.lt; omega), (h3.2.1.alloc _).grown hgrow3 (row_ne h2 (by have := HT1.out.lt; omega)), (h3.2.2.alloc _).grown hgrow3 (row_ne h2 (by have := HT1.out.lt; omega))⟩
      · have := hgrow3.size
        simp at this
        omega
      · have := HNI.out
        simp only [lenOf]
        omega
    · have hNe : S + z = N := by omega
      rw [hNe] at hown hl1 hlt ⊢
      have h1 : ¬ (N : Int) < (p : Int) + (dl : Int) := by omega
      have hnpos : N ≠ 0 := by omega
      have hwl : t ++ List.replicate z 0 = wl t d p N 0 := by rw [← hNe, ← HTX.out.1, wl_start]
      rw [hwl] at hown
      have hrow := hown.row
      rw [wl_length] at hrow
      rcases id hrow.2 with ⟨_, hN0⟩ | ⟨g, cap', cur', hvv, _⟩
      · exact absurd hN0 hnpos
      obtain ⟨rfl, _, rfl⟩ := Value.slice.inj hvv
      have HST : Hid (wr.ownsRow w1.heap.size 5 1 (.slice (some ⟨g, 0, none⟩) N vc) N ((wl t d p N 0).map (Value.int .u8)) ∧ TwoR w wr s (.slice a n c) ∧ w1.heap.size ≤ wr.heap.size) := ⟨hrow, hTV, hsz⟩
      have HOC : Hid (Oct t ∧ Oct d) := ⟨HT2.out.2.2.oct, (HDA.out w2 HT2.out.1.1).oct⟩
      clear hown hrow hTV hsz hlen hni hz hNe hwl hvv hnpos hlt
      go_wp2
      go_loopw [9] (fun y wq => ∃ j : Nat, j ≤ dl ∧ y = .int .i64 (j : Int) ∧ wq.ownsRow w1.heap.size 5 1 (.slice (some ⟨g, 0, none⟩) N vc) N ((wl t d p N j).map (Value.int .u8)) ∧ TwoR w wq s (.slice a n c) ∧ w1.heap.size ≤ wq.heap.size) (fun y _ => dl - (intOf y).toNat)
      case atStart => exact ⟨0, Nat.zero_le _, rfl, HST.out⟩
      case round =>
        obtain ⟨j, hj, rfl, hrow, hTV, hsz⟩ := hrel
        have hni := HNI.out
        by_cases hjl : j < dl
        · have h2 : (j : Int) < (dl : Int) := by omega
          obtain ⟨y, hy⟩ := get_lt (l := d) (k := j) (by rw [← HDL.out]; exact hjl)
          obtain ⟨bx, ox, hixx, _, gx, hxw⟩ := (HDA.out wr hTV.1).at j y hy
          have hixr : ∀ W, (Instr.indexAt 25 (.slice (some ⟨g, 0, none⟩) N vc) (.int .i64 ((p : Int) + (j : Int)))).run Try.prog W = .ok (.pointer (some ⟨g, p + j, none⟩)) W := fun W => by
            have := run_index Try.underlying25 hi0 hz1 g 0 N vc (p + j) (by omega) W
            rw [show (((p + j : Nat)) : Int) = (p : Int) + (j : Int) by omega] at this
            simpa using this
          have hfz := hrow.frozenAt (p + j)
          have hcy : wr.cell? ⟨g, p + j, none⟩ = some (.int .u8 ((wl t d p N j).getD (p + j) 0)) := by
            have hkl : p + j < (wl t d p N j).length := by rw [wl_length]; omega
            rw [hrow.cellAt (p + j) (by omega), List.getElem?_map, List.getElem?_eq_getElem hkl]
            simp [List.getElem?_eq_getElem hkl]
          obtain ⟨y0, hy0⟩ : ∃ y0, y0 = (wl t d p N j).getD (p + j) 0 := ⟨_, rfl⟩
          rw [← hy0] at hcy
          have hst := hrow.stored (p + j) (.int .u8 y)
          rw [← List.map_set, show (wl t d p N j).set (p + j) y = wl t d p N (j + 1) by rw [← wl_set, oc_some hy]] at hst
          have hng : w1.heap.size ≤ g := (hrow.lt g rfl).1
          have HNX : Hid ((wr.setCell ⟨g, p + j, none⟩ (.int .u8 y)).ownsRow w1.heap.size 5 1 (.slice (some ⟨g, 0, none⟩) N vc) N ((wl t d p N (j + 1)).map (Value.int .u8)) ∧ TwoR w (wr.setCell ⟨g, p + j, none⟩ (.int .u8 y)) s (.slice a n c) ∧ w1.heap.size ≤ (wr.setCell ⟨g, p + j, none⟩ (.int .u8 y)).heap.size) := ⟨hst.1, hTV.grown (grown_set _ _ _ _) (by have := HT1.out.lt; omega), by simpa [World.setCell] using hsz⟩
          have hpb : p ≤ 2432 ∧ j ≤ 2432 := by omega
          clear hrow hTV hsz hst hy hy0 hni hng
          go_wp2
          go_roundw
          case rel => exact ⟨j + 1, by omega, by go_num, HNX.out⟩
          case measure => simp [intOf]; omega
        · obtain rfl : j = dl := by omega
          have hwd : wl t d p N j = R := by rw [HNN.out.2.1]
          rw [hwd] at hrow
          have hRL : R.length = N := by rw [← hwd, wl_length]
          have hown : Own1 w1.heap.size wr (.slice (some ⟨g, 0, none⟩) N vc) R := .mk (by rw [hRL]; exact hrow) (by rw [← hwd]; exact wl_oct HOC.out.1 HOC.out.2 _ _ _)
          have HM := made_any w1.heap.size _ R wr hown.arg (by omega)
          have HT2' : Hid (TwoR w wr s (.slice a n c) ∧ w1.heap.size ≤ wr.heap.size) := ⟨hTV, hsz⟩
          clear hrow hTV hsz hown hwd hRL hni
          go_wp2_with fail
          refine HM.mono ?_
          rintro e w3 ⟨⟨us3, rfl, hu3⟩, hb3⟩
          have HT3 : Hid (TwoR w w3 s (.slice a n c)) := HT2'.out.1.below hb3
          obtain ⟨y0, y1, y2, y3, y4, y5⟩ := HT3.out.cells
          obtain ⟨a3, c3, rfl, _⟩ := fl_viewR hu3
          obtain ⟨s3, hs3⟩ : ∃ x, x = (mk R).1 := ⟨_, rfl⟩
          obtain ⟨l3, hl3⟩ : ∃ x, x = (mk R).2.length := ⟨_, rfl⟩
          rw [← hs3, ← hl3] at hu3 ⊢
          have HU3 : Hid (flR.lies wr.heap.size w3 [.int .i64 s3, .slice a3 l3 c3] (mk R)) := hu3
          clear hu3 hb3 HM hs3 hl3
          go_wp2
          refine bodyPost_ret (v := .tuple #[.agg #[.int .i64 s3, .slice a3 l3 c3], .int .i64 0]) (by simp [results, Try.results13, go_sem, *]) rfl ?_
          obtain ⟨h1, h2⟩ := HT3.out.ends (Nat.le_trans HT1.out.lt HT2'.out.2) HU3.out (.int .i64 s3) (.slice a3 l3 c3)
          exact ⟨⟨_, rfl, h1⟩, h2⟩

end Go.Proofs.Ytgflfmpoeamnnaa
