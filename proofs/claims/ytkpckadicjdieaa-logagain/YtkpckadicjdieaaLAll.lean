/-
  All blocks that are there, as the program tells them.
-/
import Derived.Test.YtkpckadicjdieaaAMeet
import Derived.Test.YtkpckadicjdieaaLCopy
import Derived.Test.YtkpckadicjdieaaLCheck2
namespace Go.Proofs.Ytkpckadicjdieaa
open Go.RowKit

theorem BX.far {w0 w : World} {base : Nat} {v : Value} {L : List Bk} (h : BX w0 w base v L) {k : Nat} (hk : k < base) : some k ≠ v.ownBlock := by
  obtain ⟨vss, h1, _⟩ := h
  intro e
  have := (h1.lt k e.symm).1
  omega

set_option maxRecDepth 100000 in
set_option maxHeartbeats 8000000 in
theorem all_any (n0 : Nat) (us : List Value) (s : St) (w : World) (h : stN.lies n0 w us s) :
    Calls Try.prog 15 #[.agg us.toArray] w fun e w' => (∃ v' L, e = .returned (.tuple #[v', .int .i64 (okE s)]) ∧ bksN.owns w.heap.size w' [v'] L ∧ (Ok s → AllOf s L) ∧ (¬ Ok s → L = [])) ∧ Below w.heap.size w w' := by
  obtain ⟨a, c, b, d, e, f, rfl, hS, hH, hO, hN, m1, m2, m3⟩ := st_viewN h
  obtain ⟨post, hpost⟩ : ∃ post : Ending → World → Prop, post = fun e w' => (∃ v' L, e = .returned (.tuple #[v', .int .i64 (okE s)]) ∧ bksN.owns w.heap.size w' [v'] L ∧ (Ok s → AllOf s L) ∧ (¬ Ok s → L = [])) ∧ Below w.heap.size w w' := ⟨_, rfl⟩
  have HNO : Hid (∀ w', ¬ Ok s → Below w.heap.size w w' → post (.returned (.tuple #[.slice none 0 0, .int .i64 9])) w') := fun w' h1 h3 => by
    rw [hpost]
    exact ⟨⟨_, [], by rw [okE_bad h1], Shape.list_nil bkN 31 Try.underlying31 cells31 _ _, fun h => absurd h h1, fun _ => rfl⟩, h3⟩
  have HYES : Hid (∀ v' L w', Ok s → bksN.owns w.heap.size w' [v'] L → AllOf s L → Below w.heap.size w w' → post (.returned (.tuple #[v', .int .i64 0])) w') := fun v' L w' h1 h2 h4 h3 => by
    rw [hpost]
    exact ⟨⟨v', L, by rw [okE_ok h1], h2, fun _ => h4, fun h => absurd h1 h⟩, h3⟩
  rw [← hpost]
  clear hpost
  obtain ⟨n, hn⟩ : ∃ n, n = s.1.length := ⟨_, rfl⟩
  obtain ⟨nh, hnh⟩ : ∃ n, n = s.2.1.length := ⟨_, rfl⟩
  obtain ⟨no, hno⟩ : ∃ n, n = s.2.2.1.length := ⟨_, rfl⟩
  obtain ⟨nx, hnx⟩ : ∃ n, n = s.2.2.2 := ⟨_, rfl⟩
  rw [← hn, ← hnh, ← hno, ← hnx] at h ⊢
  obtain ⟨W, hW⟩ : ∃ W, W = w.alloc (.cells #[.slice a n c, .slice b nh d, .slice e no f, .int .i64 nx] 33) := ⟨_, rfl⟩
  have hbW : Below w.heap.size w W := by rw [hW]; exact (Below.refl _ w).alloc (Nat.le_refl _) _
  have hB1 : Box W w.heap.size 33 #[.slice a n c, .slice b nh d, .slice e no f, .int .i64 nx] := by rw [hW]; exact Box.new _ _ _
  have HC := checkL_any n0 [.slice a n c, .slice b nh d, .slice e no f, .int .i64 nx] s W (stN.below h hbW)
  have HW : Hid (Below w.heap.size w W ∧ Box W w.heap.size 33 #[.slice a n c, .slice b nh d, .slice e no f, .int .i64 nx] ∧ stN.lies n0 w [.slice a n c, .slice b nh d, .slice e no f, .int .i64 nx] s) := ⟨hbW, hB1, h⟩
  obtain ⟨g0, g1, g2, g3, -⟩ := hB1.four
  rw [hW] at g0 g1 g2 g3
  clear h hS hH hO hN m1 m2 m3 hbW hB1 hn hnh hno hnx
  go_enter Try.func15, Try.ntmps15
  go_wp2_with fail
  rw [← hW]
  clear hW g0 g1 g2 g3
  refine HC.mono ?_
  rintro e1 w1 ⟨rfl, hb1⟩
  have HB1 : Hid (Below w.heap.size w w1) := below_any HW.out.1 hb1
  obtain ⟨q0, q1, q2, q3, -⟩ := (HW.out.2.1.below hb1 HW.out.2.1.lt).four
  clear hb1 HC
  rcases okE_cases s with ⟨hk, hok⟩ | ⟨hk, hok⟩
  case inr =>
    rw [hk]
    have HE : Hid (post (.returned (.tuple #[.slice none 0 0, .int .i64 9])) w1) := HNO.out w1 hok HB1.out
    clear hk hok
    go_wp2
    exact HE.out
  case inl =>
    rw [hk]
    have HOK : Hid (Ok s) := hok
    have HCL := last_any n0 [.slice a n c, .slice b nh d, .slice e no f, .int .i64 nx] s w1 (stN.below HW.out.2.2 HB1.out) hok
    clear hk hok
    go_wp2_with fail
    refine HCL.mono ?_
    rintro e2 w2 ⟨⟨bb, rfl, hLV, hbb⟩, hb2⟩
    obtain ⟨w3, cnt0, hrange, hLG, hg3, hs3⟩ := hLV.range
    have hb3 : Below w1.heap.size w1 w3 := hb2.grown hg3 hb2.size (fun _ h => by cases h)
    have HST : Hid (LG w1 w3 bb w2.heap.size (vers s) (fun o i => decide (0 < (kn (vers s) o i).2.2.2)) cnt0 ∧ Below w1.heap.size w1 w3 ∧ w3.heap.size = w2.heap.size + 1 ∧ w1.heap.size ≤ bb ∧ bb < w2.heap.size ∧ w1.heap.size ≤ w2.heap.size) := ⟨hLG, hb3, hs3, hbb, hLV.lt, hb2.size⟩
    clear hLV hbb hb2 hLG hg3 hs3 hb3 HCL q0 q1 q2 q3
    go_wp2
    go_loopw [5] (fun v wr => ∃ (left : Int → Int → Bool) (cnt : Nat) (L : List Bk), Hid (LG w1 wr bb w2.heap.size (vers s) left cnt ∧ BX w1 wr (w2.heap.size + 1) v L ∧ Met s left L ∧ Below w1.heap.size w1 wr ∧ w2.heap.size + 1 ≤ wr.heap.size)) (fun _ wr => wr.rangeLeft bb w2.heap.size)
    case atStart => exact ⟨_, cnt0, [], HST.out.1, BX.nil _ _ _, Met.start s, HST.out.2.1, by have := HST.out.2.2.1; omega⟩
    case round =>
      obtain ⟨left, cnt, L, HJ⟩ := hrel
      have HLEN : Hid (L.length ≤ 1000) := HJ.out.2.2.1.few HOK.out
      have hle := HJ.out.1.left_eq
      rcases HJ.out.1.next 0 with ⟨hl, hrun⟩ | ⟨o, i, kvv, w4, cnt4, ho, hi, hlo, hkv, hrun, hLG4, hlt, hg4, hs4, hen⟩
      · have hnx : ∀ ty, (Instr.next (.pointer (some ⟨w2.heap.size, 0, none⟩)) false ty).run Try.prog wr = .ok (.tuple #[.bool false]) wr := fun _ => hrun
        obtain ⟨av, cv, rfl⟩ := HJ.out.2.1.shape
        have HS := sorted_any ((HJ.out.2.1).weaken (by have := HST.out.2.2.2.2.2; omega : w1.heap.size ≤ w2.heap.size + 1)) HJ.out.2.2.2.1 HLEN.out HJ.out.2.2.1.un
        have HL : Hid (∀ L', L'.Perm L → L'.Pairwise kLt → AllOf s L') := fun L' hp hu => HJ.out.2.2.1.done HOK.out hl hp hu
        obtain ⟨ml, hml⟩ : ∃ m, m = L.length := ⟨_, rfl⟩
        rw [← hml] at HS ⊢
        have HML : Hid (ml = L.length) := hml
        clear hl hrun hml
        go_wp2_with fail
        refine HS.mono ?_
        rintro e5 w5 ⟨rfl, ⟨L', hp, hu, hl5⟩, hb5⟩
        have hall := HL.out L' hp hu
        have HCB := cblocks_any 0 _ L' w5 hl5 (hall.fits HOK.out (by rw [hp.length_eq]; exact HLEN.out))
        clear HS hp hu hl5
        dsimp only
        go_wp2_with fail
        refine HCB.mono ?_
        rintro e6 w6 ⟨⟨v6, rfl, ho6⟩, hb6⟩
        have HE : Hid (post (.returned (.tuple #[v6, .int .i64 0])) w6) := HYES.out v6 L' w6 HOK.out (bksN.oweaken ho6 (by have := HB1.out.size; have := hb5.size; omega)) hall (below_any (below_any HB1.out hb5) hb6)
        clear ho6 hb6 hb5 hall HCB
        go_wp2
        exact HE.out
      · have hnx : ∀ ty, (Instr.next (.pointer (some ⟨w2.heap.size, 0, none⟩)) false ty).run Try.prog wr = .ok (.tuple #[.bool true, kv o i, kvv]) w4 := fun _ => hrun
        obtain ⟨ka, kc, hkv0, hKA, hko, hki, _⟩ := hkv
        have HMT : Hid (Met s (fun o' i' => left o' i' && !decide (o' = o ∧ i' = i)) (if (kn (vers s) o i).1.2.2 = [] then L else L ++ [(kn (vers s) o i).1])) := HJ.out.2.2.1.step hlo
        obtain ⟨⟨kb, sq, pl, ct⟩, hkk⟩ : ∃ y, y = kn (vers s) o i := ⟨_, rfl⟩
        rw [← hkk] at hkv0 hKA hko hki HMT
        simp only at hkv0 hKA hko hki HMT
        obtain ⟨m, hm⟩ : ∃ m, m = kb.2.2.length := ⟨_, rfl⟩
        rw [← hm] at hkv0 hKA
        subst hkv0
        have HM : Hid (m = kb.2.2.length) := hm
        have HUS : Hid (bkN.lies 0 w1 [.int .i64 kb.1, .int .i64 kb.2.1, .slice ka m kc] kb) := bk_mk (p := kb) hKA hko hki
        obtain ⟨lf, hlf⟩ : ∃ lf, lf = (fun o' i' => left o' i' && !decide (o' = o ∧ i' = i)) := ⟨_, rfl⟩
        rw [← hlf] at HMT hLG4
        obtain ⟨V, hV⟩ : ∃ V, V = w4.alloc (.cells #[.int .i64 kb.1, .int .i64 kb.2.1, .slice ka m kc, .int .i64 sq, .int .i64 (pl : Nat), .int .i64 (ct : Nat)] 98) := ⟨_, rfl⟩
        have hb4 : Below w1.heap.size w1 w4 := HJ.out.2.2.2.1.grown hg4 HJ.out.2.2.2.1.size (fun i hi => by cases hi; exact HST.out.2.2.2.2.2)
        obtain ⟨av, cv, rfl⟩ := HJ.out.2.1.shape
        have hx4 : BX w1 w4 (w2.heap.size + 1) (.slice av L.length cv) L := by
          obtain ⟨vss, h1, h2⟩ := HJ.out.2.1
          exact ⟨vss, own_same h1 (fun i hi hlt' => hg4.block i hlt' (fun e => by cases e; omega)), h2⟩
        have hbV : Below w4.heap.size w4 V := by rw [hV]; exact (Below.refl _ _).alloc (Nat.le_refl _) _
        have hxV : Box V w4.heap.size 98 #[.int .i64 kb.1, .int .i64 kb.2.1, .slice ka m kc, .int .i64 sq, .int .i64 (pl : Nat), .int .i64 (ct : Nat)] := by rw [hV]; exact Box.new _ _ _
        have HG := isGone_any kb.1 kb.2.1 ka m kc V
        have HV : Hid (∀ U, Below V.heap.size V U → LG w1 U bb w2.heap.size (vers s) lf cnt4 ∧ BX w1 U (w2.heap.size + 1) (.slice av L.length cv) L ∧ Below w1.heap.size w1 U ∧ w2.heap.size + 1 ≤ U.heap.size ∧ Box U w4.heap.size 98 #[.int .i64 kb.1, .int .i64 kb.2.1, .slice ka m kc, .int .i64 sq, .int .i64 (pl : Nat), .int .i64 (ct : Nat)]) := fun U hU => by
          have h1 : Below w4.heap.size w4 U := hbV.trans (hU.mono hbV.size)
          exact ⟨hLG4.below h1, hx4.below h1, below_any hb4 h1, by have := h1.size; have := HJ.out.2.2.2.2; omega, hxV.below hU hxV.lt⟩
        have HLE : Hid (wr.rangeLeft bb w2.heap.size = cnt ∧ cnt4 < cnt) := ⟨hle, hlt⟩
        obtain ⟨x0, x1, x2, x3, x4, x5⟩ := hxV.six
        clear hrun hKA hko hki hkk hm hlf hLG4 hlt hg4 hs4 hb4 hx4 hbV hxV hle ho hi hlo
        go_upto_region 8 with fail
        rw [← hV]
        clear hV hen hnx
        by_cases h0 : m = 0
        · have HEM : Hid (kb.2.2 = []) := List.eq_nil_of_length_eq_zero (by rw [← HM.out]; exact h0)
          rw [decide_eq_true h0] at HG
          clear h0
          go_wp2_with fail
          refine HG.mono ?_
          rintro e5 w5 ⟨rfl, hb5⟩
          have HF := HV.out w5 hb5
          clear hb5 HG x0 x1 x2 x3 x4 x5
          dsimp only
          go_wp2
          go_roundw
          case rel =>
            have := HMT.out
            rw [if_pos HEM.out] at this
            exact ⟨lf, cnt4, L, HF.1, HF.2.1, this, HF.2.2.1, HF.2.2.2.1⟩
          case measure => rw [HF.1.left_eq, HLE.out.1]; exact HLE.out.2
        · have HEM : Hid (kb.2.2 ≠ []) := fun c => h0 (by rw [HM.out, c]; rfl)
          rw [decide_eq_false h0] at HG
          clear h0
          go_wp2_with fail
          refine HG.mono ?_
          rintro e5 w5 ⟨rfl, hb5⟩
          obtain ⟨f1, f2, f3, f4, f5⟩ := HV.out w5 hb5
          obtain ⟨y0, y1, y2, y3, y4, y5⟩ := f5.six
          obtain ⟨gg, cap3, w6, hrun, hbx6, hg6⟩ := f2.push HUS.out f4 (by have := HLEN.out; omega)
          have HF : Hid (LG w1 w6 bb w2.heap.size (vers s) lf cnt4 ∧ BX w1 w6 (w2.heap.size + 1) (.slice (some ⟨gg, 0, none⟩) (L.length + 1) cap3) (L ++ [kb]) ∧ Met s lf (L ++ [kb]) ∧ Below w1.heap.size w1 w6 ∧ w2.heap.size + 1 ≤ w6.heap.size) := by
            have h9 := HMT.out
            rw [if_neg HEM.out] at h9
            have h8 := HST.out.2.2.2.2
            exact ⟨f1.kept hg6 (f2.far (by omega)) (f2.far (by omega)), hbx6, h9, (f2.weaken (by omega : w1.heap.size ≤ w2.heap.size + 1)).grow hg6 f3 f3.size, Nat.le_trans f4 hg6.size⟩
          clear hb5 HG x0 x1 x2 x3 x4 x5 f1 f2 f3 f4 f5 hbx6 hg6
          dsimp only
          go_wp2_with (at_builtin; refine list_app rfl _ _ 31 rfl rfl rfl rfl hrun ?_)
          go_roundw
          case rel => exact ⟨lf, cnt4, _, HF.out⟩
          case measure => rw [HF.out.1.left_eq, HLE.out.1]; exact HLE.out.2

end Go.Proofs.Ytkpckadicjdieaa
