/-
  FileText: for every list of steps and every two numbers the law answers true: behind any writes and cuts a file reads as the text that they make. No condition.
-/
import Derived.Test.YtgflfmpoeamnnaaTextMath
namespace Go.Proofs.Ytgflfmpoeamnnaa.fileText
open Go.ChangeShapes Go.WideShapes Go.ChangeAt Go.RowKit

theorem Box.pair {w : World} {B : Nat} {t : TypeId} {u v x y : Value} (h : Box w B t #[u, v]) : Box ((w.setCell ⟨B, 0, none⟩ x).setCell ⟨B, 1, none⟩ y) B t #[x, y] := (h.set 0 x).set 1 y
theorem own_nil (base : Nat) (w : World) : Own1 base w (.slice none 0 0) [] := .mk (World.ownsRow_nil _ _ _ _) (fun x hx => by cases hx)

set_option maxRecDepth 100000 in
set_option maxHeartbeats 4000000 in
theorem walk (v : Value) (l : List Sp) (off n : Int) (w : World) (hv : stepsS.lies 0 w [v] l) (hoff : I64 off) (hn : I64 n) : Calls Try.prog 4 #[v, .int .i64 off, .int .i64 n] w fun e w' => e = .returned (.bool true) ∧ Below w.heap.size w w' := by
  obtain ⟨la, lc, hlv, _, hlm, _⟩ := steps_len hv
  obtain rfl : v = _ := by simpa using hlv
  unfold maxLen at hlm
  have HU : Hid (stepsS.lies 0 w [.slice la l.length lc] l) := hv
  obtain ⟨ll, hll⟩ : ∃ x, x = l.length := ⟨_, rfl⟩
  have HLL : Hid (ll = l.length) := hll
  rw [← hll] at HU hlm ⊢
  have hl0 := run_len Try.underlying51 la ll lc
  have HN := num_any
  have HA := alive_any w
  have HI : Hid (I64 off ∧ I64 n) := ⟨hoff, hn⟩
  unfold I64 at hoff hn
  clear hv hlv hll
  go_enter Try.func4, Try.ntmps4
  go_wp2_with fail
  refine HA.mono ?_
  rintro e w1 ⟨rfl, hb1⟩
  have HB1 : Hid (Below w.heap.size w w1) := hb1
  obtain ⟨U, hU⟩ : ∃ U, U = w1.alloc (.cells #[.int .i64 0, .slice none 0 0] 28) := ⟨_, rfl⟩
  have HST : Hid (Below w1.heap.size w1 U ∧ Box U w1.heap.size 28 #[.int .i64 0, .slice none 0 0] ∧ U.heap.size = w1.heap.size + 1) := by
    rw [hU]
    exact ⟨(Below.refl _ _).alloc (Nat.le_refl _) _, Box.new _ _ _, by simp⟩
  clear HA hb1
  go_wp2
  rw [← hU]
  clear hU
  go_loopw [8, 9] (fun x i wr => ∃ (j : Nat) (t : List Int) (s : Int) (a : Option Addr) (m c : Nat), j ≤ ll ∧ i = .int .i64 (j : Int) ∧ t.length ≤ 2432 ∧ Own1 (w1.heap.size + 1) wr x t ∧ Box wr w1.heap.size 28 #[.int .i64 s, .slice a m c] ∧ flN.lies (w1.heap.size + 1) wr [.int .i64 s, .slice a m c] (mk t) ∧ Below w1.heap.size w1 wr ∧ w1.heap.size + 1 ≤ wr.heap.size) (fun _ i _ => ll - (intOf i).toNat)
  case atStart =>
    obtain ⟨h1, h2, h3⟩ := HST.out
    refine ⟨0, [], 0, none, 0, 0, Nat.zero_le _, rfl, by simp, own_nil _ _, h2, ?_, h1, by omega⟩
    rw [mk_nil]
    exact fl_nilN _ _
  case round =>
    obtain ⟨wo, rfl⟩ : ∃ wo, wo = wr := ⟨_, rfl⟩
    obtain ⟨j, t, s, a, m, c, hj, rfl, htl, hown, hBf, hlf, hbel, hsz⟩ := hrel
    obtain ⟨xa, xc, rfl⟩ := hown.shape
    have HR : Hid (t.length ≤ 2432 ∧ Own1 (w1.heap.size + 1) wo (.slice xa t.length xc) t ∧ Box wo w1.heap.size 28 #[.int .i64 s, .slice a m c] ∧ flN.lies (w1.heap.size + 1) wo [.int .i64 s, .slice a m c] (mk t) ∧ Below w1.heap.size w1 wo ∧ w1.heap.size + 1 ≤ wo.heap.size) := ⟨htl, hown, hBf, hlf, hbel, hsz⟩
    obtain ⟨q0, q1, f0, f1⟩ := hBf.two
    obtain ⟨tl, htl'⟩ : ∃ x, x = t.length := ⟨_, rfl⟩
    have HTL : Hid (tl = t.length) := htl'
    rw [← htl'] at HR htl ⊢
    have hl8 := run_len Try.underlying25 xa tl xc
    have hbw := below_any HB1.out hbel
    by_cases hlt : j < ll ∧ j < 60
    · obtain ⟨hjl, hj6⟩ := hlt
      have hji : (j : Int) < (ll : Int) := by omega
      have hjk : (j : Int) < 60 := by omega
      obtain ⟨⟨wh, o, d⟩, hp⟩ := get_lt (l := l) (k := j) (by rw [← HLL.out]; exact hjl)
      obtain ⟨bx, ox, da, dc, hix, c0, c1, c2, hA, hi1, hi2⟩ := steps_at HU.out j _ hp
      simp only at c0 c1 c2 hA hi1 hi2
      obtain ⟨dl, hdl⟩ : ∃ x, x = d.length := ⟨_, rfl⟩
      have HDL : Hid (dl = d.length) := hdl
      rw [← hdl] at c2 hA
      have hdm : dl ≤ maxLen := by rw [hdl]; obtain ⟨_, _, _, _, h, _⟩ := hA.shape; exact h
      unfold maxLen at hdm
      have hld := run_len Try.underlying25 da dl dc
      have HC : Hid (∀ V, Below w.heap.size w V → V.cell? ⟨bx, ox, none⟩ = some (.int .i64 wh) ∧ V.cell? ⟨bx, ox + 1, none⟩ = some (.int .i64 o) ∧ V.cell? ⟨bx, ox + 2, none⟩ = some (.slice da dl dc) ∧ Arg 0 V (.slice da dl dc) d) := fun V hV =>
        ⟨by rw [hV.cell (cell_lt c0)]; exact c0, by rw [hV.cell (cell_lt c1)]; exact c1, by rw [hV.cell (cell_lt c2)]; exact c2, hA.below hV⟩
      have HO : Hid (I64 o) := hi2
      unfold I64 at hi2
      obtain ⟨V0, hV0⟩ : ∃ V, V = wo.alloc (.cells #[.int .i64 s, .slice a m c] 28) := ⟨_, rfl⟩
      have HV0 : Hid (Below wo.heap.size wo V0 ∧ Box V0 wo.heap.size 28 #[.int .i64 s, .slice a m c] ∧ V0.heap.size = wo.heap.size + 1) := by
        rw [hV0]
        exact ⟨(Below.refl _ _).alloc (Nat.le_refl _) _, Box.new _ _ _, by simp⟩
      have HS : Hid (∀ V, Below wo.heap.size wo V → V.cell? ⟨w1.heap.size, 0, none⟩ = some (.int .i64 s) ∧ V.cell? ⟨w1.heap.size, 1, none⟩ = some (.slice a m c) ∧ V.cell? ⟨bx, ox, none⟩ = some (.int .i64 wh) ∧ V.cell? ⟨bx, ox + 1, none⟩ = some (.int .i64 o) ∧ V.cell? ⟨bx, ox + 2, none⟩ = some (.slice da dl dc)) := fun V hV => by
        obtain ⟨h1, h2, h3, h4, h5, h6⟩ := HR.out
        have hB := h3.below hV h3.lt
        have hC := HC.out V (below_any (below_any HB1.out h5) hV)
        exact ⟨hB.two.1, hB.two.2.1, hC.1, hC.2.1, hC.2.2.1⟩
      have HKEEP : Hid (∀ V, Below wo.heap.size wo V → ∃ (j' : Nat) (t' : List Int) (s' : Int) (a' : Option Addr) (m' c' : Nat), j' ≤ ll ∧ Value.int .i64 ((j : Int) + 1) = .int .i64 (j' : Int) ∧ t'.length ≤ 2432 ∧ Own1 (w1.heap.size + 1) V (.slice xa tl xc) t' ∧ Box V w1.heap.size 28 #[.int .i64 s', .slice a' m' c'] ∧ flN.lies (w1.heap.size + 1) V [.int .i64 s', .slice a' m' c'] (mk t') ∧ Below w1.heap.size w1 V ∧ w1.heap.size + 1 ≤ V.heap.size) := fun V hV => by
        obtain ⟨h1, h2, h3, h4, h5, h6⟩ := HR.out
        exact ⟨j + 1, t, s, a, m, c, by omega, by simp, by rw [← HTL.out]; exact h1, bytesS.obelow h2 hV, h3.below hV h3.lt, flN.below h4 hV, below_any h5 hV, Nat.le_trans h6 hV.size⟩
      obtain ⟨k0, k1, c0, c1, c2⟩ := HS.out V0 HV0.out.1
      obtain ⟨_, _, c0', c1', c2'⟩ := HS.out wo (Below.refl _ _)
      obtain ⟨v0, v1, v2, v3⟩ := HV0.out.2.1.two
      clear hown hBf hlf hbel hsz hbw hA hi1 hp htl' hdl
      by_cases hwh : wh = 0
      · subst hwh
        obtain ⟨er, her⟩ : ∃ x, x = wrE (mk t) o d := ⟨_, rfl⟩
        obtain ⟨fr, hfr⟩ : ∃ x, x = wrF (mk t) o d := ⟨_, rfl⟩
        have HE : Hid (er = (if o < 0 then 4 else if dl = 0 then 0 else if 2432 < o + (dl : Int) then 107 else 0) ∧ fr = (if er = 0 then mk (wrT t o.toNat d) else (0, []))) := by
          obtain ⟨h1, h2⟩ := wr_mk (d := d) (off := o) (t := t) (by rw [← HTL.out]; exact htl)
          rw [HDL.out]
          exact ⟨her.trans h1, by rw [hfr, h2, ← her]⟩
        have HW : Hid (∀ V, Below wo.heap.size wo V → Calls Try.prog 12 #[.agg #[.int .i64 s, .slice a m c], .int .i64 o, .slice da dl dc] V fun e w' => (∃ us', e = .returned (.tuple #[.agg us'.toArray, .int .i64 er]) ∧ flN.lies V.heap.size w' us' fr) ∧ Below V.heap.size V w') := fun V hV => by
          obtain ⟨h1, h2, h3, h4, h5, h6⟩ := HR.out
          rw [her, hfr]
          exact write_any _ 0 [.int .i64 s, .slice a m c] (mk t) o _ d V (flN.below h4 hV) HO.out (HC.out V (below_any (below_any HB1.out h5) hV)).2.2.2
        clear her hfr
        rw [hV0] at c0 c1 c2 k0 k1 v0 v1 v2 v3
        go_wp2
        rw [← hV0] at c0 c1 c2 k0 k1 v0 v1 v2 v3 ⊢
        clear hV0
        go_region_held3 (fun V => V.cell? ⟨w1.heap.size, 0, none⟩ = some (.int .i64 s) ∧ V.cell? ⟨w1.heap.size, 1, none⟩ = some (.slice a m c) ∧ V.cell? ⟨bx, ox, none⟩ = some (.int .i64 0) ∧ V.cell? ⟨bx, ox + 1, none⟩ = some (.int .i64 o) ∧ V.cell? ⟨bx, ox + 2, none⟩ = some (.slice da dl dc))
          (first | exact ⟨k0, k1, c0, c1, c2⟩ | exact y3 | exact HS.out _ (below_set2 HB3.out.1 (Nat.le_refl _) _ _))
          ((go_at_call 12; go_simp; refine Calls.mono (HW.out V0.drew HV0.out.1.drew) ?_; rintro e w3 ⟨⟨u3, rfl, hu3⟩, hb3⟩; obtain ⟨s3, a3, l3, c3, rfl, hu3', -⟩ := var_new hu3; clear hu3; have hb3' : Below V0.heap.size V0 w3 := ((Below.refl _ V0).drew).trans hb3; have HB3 : Hid (Below wo.heap.size wo w3 ∧ Box w3 wo.heap.size 28 #[.int .i64 s, .slice a m c] ∧ flN.lies (wo.heap.size + 1) w3 [.int .i64 s3, .slice a3 l3 c3] fr) := ⟨below_any HV0.out.1 hb3', HV0.out.2.1.below hb3' HV0.out.2.1.lt, by have e3 : V0.drew.heap.size = wo.heap.size + 1 := HV0.out.2.2; rw [e3] at hu3'; exact hu3'⟩; clear hb3 hb3' hu3'; have y3 := HS.out w3 HB3.out.1; obtain ⟨v4, v5, v6, v7⟩ := HB3.out.2.1.two))
        obtain ⟨W4, hW4⟩ : ∃ W, W = (w3.setCell ⟨wo.heap.size, 0, none⟩ (.int .i64 s3)).setCell ⟨wo.heap.size, 1, none⟩ (.slice a3 l3 c3) := ⟨_, rfl⟩
        rw [← hW4]
        have HG : Hid (Below wo.heap.size wo W4 ∧ Box W4 wo.heap.size 28 #[.int .i64 s3, .slice a3 l3 c3] ∧ flN.lies (wo.heap.size + 1) W4 [.int .i64 s3, .slice a3 l3 c3] fr) := by
          rw [hW4]
          exact ⟨below_set2 HB3.out.1 (Nat.le_refl _) _ _, Box.pair HB3.out.2.1, flN.keep HB3.out.2.2 (.set2 (by omega))⟩
        clear k0 k1 c0 c1 c2 v0 v1 v2 v3 v4 v5 v6 v7 y3 hW4 HW
        obtain ⟨k0, k1, c0, c1, c2⟩ := HS.out W4 HG.out.1
        obtain ⟨v0, v1, _, _⟩ := HG.out.2.1.two
        by_cases ho : o < 0
        · as_aux_lemma =>
            obtain rfl : er = 4 := by rw [HE.out.1, if_pos ho]
            have b1 : decide ((0 : Int) ≤ o) = false := decide_eq_false (by omega)
            go_wp2_with (go_at_call 19; refine (HN _ _).mono ?_; rintro e t0 ⟨rfl, rfl⟩)
            go_quiet (fail)
            go_wp2
            go_roundw
            case rel => exact HKEEP.out _ (below_drewN HG.out.1 _)
            case measure => simp [intOf]; omega
        by_cases hd0 : dl = 0
        · as_aux_lemma =>
            obtain rfl : er = 0 := by rw [HE.out.1, if_neg ho, if_pos hd0]
            obtain ⟨T, hT⟩ : ∃ T, T = t := ⟨_, rfl⟩
            obtain rfl : fr = mk T := by rw [HE.out.2, if_pos rfl, wrT_none _ (by rw [← HDL.out]; exact hd0), hT]
            have HT : Hid (T = t) := hT
            have hdz : (dl : Int) = 0 := by omega
            clear hT k0 k1
            obtain ⟨h1, h2, h3, h4, h5, h6⟩ := HR.out
            have hB4 := h3.below HG.out.1 h3.lt
            obtain ⟨k0, k1, k2, k3⟩ := hB4.two
            have hne1 : bx ≠ w1.heap.size := by have := cell_lt c0'; have := (HC.out w (Below.refl _ _)).1; have := cell_lt this; have := HB1.out.size; simp at *; omega
            have hne2 : wo.heap.size ≠ w1.heap.size := by omega
            have hne3 := hne1.symm
            have hne4 := hne2.symm
            have HB4 : Hid (Box W4 w1.heap.size 28 #[.int .i64 s, .slice a m c]) := hB4
            clear h1 h2 h3 h4 h5 h6 hB4
            go_wp2_with (go_at_call 19; refine (HN _ _).mono ?_; rintro e t0 ⟨rfl, rfl⟩)
            obtain ⟨W5, hW5⟩ : ∃ W, W = (W4.setCell ⟨w1.heap.size, 0, none⟩ (.int .i64 s3)).setCell ⟨w1.heap.size, 1, none⟩ (.slice a3 l3 c3) := ⟨_, rfl⟩
            have HF5 : Hid (Below w1.heap.size w1 W5 ∧ Box W5 w1.heap.size 28 #[.int .i64 s3, .slice a3 l3 c3] ∧ flN.lies (wo.heap.size + 1) W5 [.int .i64 s3, .slice a3 l3 c3] (mk T) ∧ Own1 (w1.heap.size + 1) W5 (.slice xa tl xc) t ∧ wo.heap.size + 1 ≤ W5.heap.size) := by
              obtain ⟨h1, h2, h3, h4, h5, h6⟩ := HR.out
              have hz : wo.heap.size + 1 ≤ W4.heap.size := HG.out.2.1.lt
              rw [hW5]
              refine ⟨below_set2 (below_any h5 HG.out.1) (Nat.le_refl _) _ _, Box.pair HB4.out, flN.keep HG.out.2.2 (.set2 (by omega)), bytesS.osame h2 (Same.trans (.of_below HG.out.1) HG.out.1.size (.set2 (by omega))), by simpa [World.setCell] using hz⟩
            go_roundw
            case rel =>
              obtain ⟨h1, h2, h3, h4, h5⟩ := HF5.out
              rw [HT.out] at h3
              rw [hW5] at h1 h2 h3 h4 h5
              exact ⟨j + 1, t, s3, a3, l3, c3, by omega, by go_num, by rw [← HTL.out]; exact htl, h4, h2, flN.weaken h3 (by have := HR.out.2.2.2.2.2; omega), h1, by have := HR.out.2.2.2.2.2; omega⟩
            case measure => simp [intOf]; omega
        by_cases hbig : 2432 < o + (dl : Int)
        · by_cases ho2 : (2432 : Int) < o
          · as_aux_lemma =>
              obtain rfl : er = 107 := by rw [HE.out.1, if_neg (by omega), if_neg (by omega), if_pos (by omega)]
              have b1 : decide ((0 : Int) ≤ o) = true := decide_eq_true (by omega)
              have b2 : decide (o ≤ (2432 : Int)) = false := decide_eq_false (by omega)
              go_wp2_with (go_at_call 19; refine (HN _ _).mono ?_; rintro e t0 ⟨rfl, rfl⟩)
              go_quiet (fail)
              go_wp2
              go_roundw
              case rel => exact HKEEP.out _ (below_drewN HG.out.1 _)
              case measure => simp [intOf]; omega
          · as_aux_lemma =>
              obtain rfl : er = 107 := by rw [HE.out.1, if_neg (by omega), if_neg (by omega), if_pos (by omega)]
              have b1 : decide ((0 : Int) ≤ o) = true := decide_eq_true (by omega)
              have b2 : decide (o ≤ (2432 : Int)) = true := decide_eq_true (by omega)
              have b3 : decide ((dl : Int) ≤ 2432 - o) = false := decide_eq_false (by omega)
              go_wp2_with (go_at_call 19; refine (HN _ _).mono ?_; rintro e t0 ⟨rfl, rfl⟩)
              go_quiet (fail)
              go_wp2
              go_roundw
              case rel => exact HKEEP.out _ (below_drewN HG.out.1 _)
              case measure => simp [intOf]; omega
        as_aux_lemma =>
          obtain rfl : er = 0 := by rw [HE.out.1, if_neg ho, if_neg hd0, if_neg hbig]
          obtain ⟨p, rfl⟩ : ∃ p : Nat, o = p := ⟨o.toNat, by omega⟩
          obtain ⟨T, hT⟩ : ∃ T, T = wrT t p d := ⟨_, rfl⟩
          obtain rfl : fr = mk T := by rw [HE.out.2, if_pos rfl, Int.toNat_natCast, hT]
          have hpd : p + dl ≤ 2432 := by omega
          have HT : Hid (T = wrT t p d ∧ p + dl ≤ 2432) := ⟨hT, hpd⟩
          have hdz : ¬ (dl : Int) = 0 := by omega
          have hdb : ((dl : Int) == 0) = false := by simpa using hdz
          clear hT k0 k1 ho hbig
          obtain ⟨h1, h2, h3, h4, h5, h6⟩ := HR.out
          have hB4 := h3.below HG.out.1 h3.lt
          obtain ⟨k0, k1, k2, k3⟩ := hB4.two
          have hne1 : bx ≠ w1.heap.size := by have := cell_lt c0'; have := (HC.out w (Below.refl _ _)).1; have := cell_lt this; have := HB1.out.size; simp at *; omega
          have hne2 : wo.heap.size ≠ w1.heap.size := by omega
          have hne3 := hne1.symm
          have hne4 := hne2.symm
          have HB4 : Hid (Box W4 w1.heap.size 28 #[.int .i64 s, .slice a m c]) := hB4
          clear h1 h2 h3 h4 h5 h6 hB4
          go_wp2_with (go_at_call 19; refine (HN _ _).mono ?_; rintro e t0 ⟨rfl, rfl⟩)
          try rw [hdb]
          obtain ⟨W5, hW5⟩ : ∃ W, W = (W4.setCell ⟨w1.heap.size, 0, none⟩ (.int .i64 s3)).setCell ⟨w1.heap.size, 1, none⟩ (.slice a3 l3 c3) := ⟨_, rfl⟩
          have HF5 : Hid (Below w1.heap.size w1 W5 ∧ Box W5 w1.heap.size 28 #[.int .i64 s3, .slice a3 l3 c3] ∧ flN.lies (wo.heap.size + 1) W5 [.int .i64 s3, .slice a3 l3 c3] (mk T) ∧ Own1 (w1.heap.size + 1) W5 (.slice xa tl xc) t ∧ wo.heap.size + 1 ≤ W5.heap.size) := by
            obtain ⟨h1, h2, h3, h4, h5, h6⟩ := HR.out
            have hz : wo.heap.size + 1 ≤ W4.heap.size := HG.out.2.1.lt
            rw [hW5]
            refine ⟨below_set2 (below_any h5 HG.out.1) (Nat.le_refl _) _ _, Box.pair HB4.out, flN.keep HG.out.2.2 (.set2 (by omega)), bytesS.osame h2 (Same.trans (.of_below HG.out.1) HG.out.1.size (.set2 (by omega))), by simpa [World.setCell] using hz⟩
          rw [← hW5]
          obtain ⟨g0, hg0⟩ : ∃ g, g = (Value.slice xa tl xc).ownBlock := ⟨_, rfl⟩
          have HG0 : Hid (∀ g, g0 = some g → w1.heap.size + 1 ≤ g ∧ g < wo.heap.size) := fun g hg => by
            rw [hg0] at hg
            exact HR.out.2.1.row.lt g hg
          have HK5 : Hid (KP w1 W5 g0 W5 (.slice xa tl xc)) := by rw [hg0]; exact KP.start _ HF5.out.1
          obtain ⟨L1, hL1⟩ : ∃ L, L = max tl p := ⟨_, rfl⟩
          have HL1 : Hid (L1 = max tl p ∧ L1 ≤ 2432 ∧ tl ≤ L1 ∧ p ≤ L1) := ⟨hL1, by omega, by omega, by omega⟩
          obtain ⟨i0, hi0, hz0, hz1, hz2⟩ := info_parts Try.info5
          clear hg0 hW5 hL1 k0 k1 k2 k3 c0 c1 c2 v0 v1 hne2 hne4 c0' c1' c2' f0 f1 q0 q1
          go_loopw [8] (fun x wq => ∃ z : Nat, tl + z ≤ L1 ∧ Own1 (w1.heap.size + 1) wq x (t ++ List.replicate z 0) ∧ KP w1 W5 g0 wq x) (fun x _ => L1 - lenOf x)
          case atStart => exact ⟨0, by have := HL1.out; omega, by simpa using HF5.out.2.2.2.1, HK5.out⟩
          case round =>
            obtain ⟨wq, rfl⟩ : ∃ wq, wq = wr := ⟨_, rfl⟩
            obtain ⟨z, hz, hown, hKP⟩ := hrel
            obtain ⟨va, vc, rfl⟩ := hown.shape
            have hlen : (t ++ List.replicate z 0).length = tl + z := by rw [List.length_append, List.length_replicate, ← HTL.out]
            rw [hlen] at hown hKP ⊢
            obtain ⟨c0, c1, c2, hA⟩ := HC.out wq (below_any HB1.out hKP.1)
            obtain ⟨K, hK⟩ : ∃ K, K = tl + z := ⟨_, rfl⟩
            rw [← hK] at hown hKP ⊢
            have hl1 := run_len Try.underlying25 va K vc
            have hzl := HL1.out
            by_cases hlt : K < p
            · have h1 : (K : Int) < (p : Int) := by omega
              have hrow := hown.row
              rw [hlen, ← hK] at hrow
              have HO2 : Hid (wq.ownsRow (w1.heap.size + 1) 5 1 (.slice va K vc) K ((t ++ List.replicate z 0).map (Value.int .u8)) ∧ Oct (t ++ List.replicate z 0) ∧ K = tl + z ∧ KP w1 W5 g0 wq (.slice va K vc) ∧ w1.heap.size + 1 ≤ wq.heap.size) := ⟨hrow, hown.oct, hK, hKP, by have := hKP.2.1; have := HF5.out.2.2.2.2; have := HR.out.2.2.2.2.2; omega⟩
              have hKb : K ≤ 2432 := by omega
              clear hown hrow hlen hK hzl hz hKP hA
              go_wp2_with (at_builtin; refine wpList_append_lies _ (by rfl) _ _ 25 (by rfl) (w1.heap.size + 1) 5 i0 _ 1 1 Try.underlying25 hi0 hz0 hz1 hz2 rfl (by omega) _ K _ (by rfl) (HO2.out.1.alloc _) ⟨wq.heap.size, 0, none⟩ 1 1 [.int .u8 0] (by rfl) (by rfl) (World.news_of_block (cs := #[.int .u8 0]) (t := 5) (fr := (0, 0)) (heap_alloc_new wq _)) (by simp [Value.oneCell']) (by omega) (by unfold maxLen; omega) (by omega) (by have := HO2.out.2.2.2.2; simp; omega) (wq.heap.size + 1) (by simp) ?_; intro gg cap3 w6 hown3 hgrow3 hat hltg)
              go_roundw
              case rel =>
                obtain ⟨h2, h3, h4, h5, h6⟩ := HO2.out
                refine ⟨z + 1, by have := HL1.out; omega, ?_, ?_⟩
                · rw [snoc_zeros]
                  refine .mk ?_ ?_
                  · rw [List.length_append, List.length_append, List.length_replicate, ← HTL.out, ← h4, List.map_append]
                    exact hown3
                  · intro y hy
                    rcases List.mem_append.1 hy with hy | hy
                    · exact h3 y hy
                    · rw [List.mem_singleton.1 hy]; decide
                · refine (h5.alloc _).grown hgrow3 (fun k hk => by have := (h2.lt k hk).1; omega) ?_
                  rcases hat with h | h
                  · exact .inl h.symm
                  · exact .inr ⟨gg, rfl, by have := h5.2.1; omega⟩
              case measure =>
                have := HL1.out
                simp only [lenOf]
                omega
            · have hKe : K = L1 := by omega
              subst hKe
              have h1 : ¬ (K : Int) < (p : Int) := by omega
              have hw0 : t ++ List.replicate z 0 = wl t d p K 0 := by rw [hK, HTL.out, wl_start]
              rw [hw0] at hown
              have HST3 : Hid (Own1 (w1.heap.size + 1) wq (.slice va K vc) (wl t d p K 0) ∧ KP w1 W5 g0 wq (.slice va K vc)) := ⟨hown, hKP⟩
              have HOC : Hid (Oct t ∧ Oct d) := ⟨HF5.out.2.2.2.1.oct, hA.oct⟩
              clear hown hKP hA hw0 hlen hK hz hzl hlt
              go_wp2
              go_loopw [8, 12] (fun x y wr => ∃ k N : Nat, k ≤ dl ∧ N = max K (p + k) ∧ y = .int .i64 (k : Int) ∧ Own1 (w1.heap.size + 1) wr x (wl t d p N k) ∧ KP w1 W5 g0 wr x) (fun _ y _ => dl - (intOf y).toNat)
              case atStart => exact ⟨0, K, Nat.zero_le _, by have := HL1.out; omega, rfl, HST3.out⟩
              case round =>
                obtain ⟨k, N, hk, hN, rfl, hown, hKP⟩ := hrel
                obtain ⟨vb, vd, rfl⟩ := hown.shape
                rw [wl_length] at hown hKP ⊢
                have hl2 := run_len Try.underlying25 vb N vd
                obtain ⟨c3', c4', c5', hA⟩ := HC.out wr (below_any HB1.out hKP.1)
                have hzl := HL1.out
                have hNb : N ≤ 2432 := by omega
                by_cases hkl : k < dl
                · obtain ⟨y, hy⟩ := get_lt (l := d) (k := k) (by rw [← HDL.out]; exact hkl)
                  obtain ⟨bz, oz, hiz, _, gzw, hyw⟩ := (HC.out w (Below.refl _ _)).2.2.2.at k y hy
                  have hbz : bz < w.heap.size := cell_lt gzw
                  have gz : wr.cell? ⟨bz, oz, none⟩ = some (.int .u8 y) := by rw [(below_any HB1.out hKP.1).cell hbz]; exact gzw
                  have hki : (k : Int) < (dl : Int) := by omega
                  have hrow := hown.row
                  rw [wl_length] at hrow
                  by_cases hst : p + k < N
                  · as_aux_lemma =>
                      have h3 : (p : Int) + (k : Int) < (N : Int) := by omega
                      rcases id hrow.2 with ⟨_, hN0⟩ | ⟨g, cap', cur', hvv, _⟩
                      · omega
                      obtain ⟨rfl, _, rfl⟩ := Value.slice.inj hvv
                      have hixr : ∀ W, (Instr.indexAt 25 (.slice (some ⟨g, 0, none⟩) N vd) (.int .i64 ((p : Int) + (k : Int)))).run Try.prog W = .ok (.pointer (some ⟨g, p + k, none⟩)) W := fun W => by
                        have := run_index Try.underlying25 hi0 hz1 g 0 N vd (p + k) (by omega) W
                        rw [show (((p + k : Nat)) : Int) = (p : Int) + (k : Int) by omega] at this
                        simpa using this
                      have hfz := hrow.frozenAt (p + k)
                      have hcy : wr.cell? ⟨g, p + k, none⟩ = some (.int .u8 ((wl t d p N k).getD (p + k) 0)) := by
                        have hkl : p + k < (wl t d p N k).length := by rw [wl_length]; omega
                        rw [hrow.cellAt (p + k) (by omega), List.getElem?_map, List.getElem?_eq_getElem hkl]
                        simp [List.getElem?_eq_getElem hkl]
                      obtain ⟨y0, hy0⟩ : ∃ y0, y0 = (wl t d p N k).getD (p + k) 0 := ⟨_, rfl⟩
                      rw [← hy0] at hcy
                      have hst' := hrow.stored (p + k) (.int .u8 y)
                      rw [← List.map_set, show (wl t d p N k).set (p + k) y = wl t d p N (k + 1) by rw [← wl_set, oc_some hy]] at hst'
                      have hng : w1.heap.size + 1 ≤ g := (hrow.lt g rfl).1
                      have HNX : Hid (Own1 (w1.heap.size + 1) (wr.setCell ⟨g, p + k, none⟩ (.int .u8 y)) (.slice (some ⟨g, 0, none⟩) N vd) (wl t d p N (k + 1)) ∧ KP w1 W5 g0 (wr.setCell ⟨g, p + k, none⟩ (.int .u8 y)) (.slice (some ⟨g, 0, none⟩) N vd) ∧ N = max K (p + (k + 1))) := by
                        refine ⟨.mk (by rw [wl_length]; exact hst'.1) (wl_oct HOC.out.1 HOC.out.2 _ _ _), hKP.grown (grown_set _ _ _ _) (fun b hb => by obtain rfl : g = b := Option.some.inj hb; omega) (.inl rfl), by omega⟩
                      have hpb : p ≤ 2432 ∧ k ≤ 2432 := by omega
                      have hbx : bx < w.heap.size := cell_lt (HC.out w (Below.refl _ _)).1
                      have hnx : bx ≠ g := by have := HB1.out.size; omega
                      have hnz : bz ≠ g := by have := HB1.out.size; omega
                      have hwi : IntKind.i64.wrap ((p : Int) + (k : Int)) = (p : Int) + (k : Int) := by simp [IntKind.wrap, IntKind.signed, IntKind.bits]; omega
                      clear hrow hown hKP hst' hy hy0 hng hvv hN hzl hst hNb hA hyw gzw hbz hbx
                      go_wp2
                      go_region_held3 (fun V => V.cell? ⟨bx, ox + 1, none⟩ = some (.int .i64 (p : Int)) ∧ V.cell? ⟨bx, ox + 2, none⟩ = some (.slice da dl dc) ∧ V.cell? ⟨bz, oz, none⟩ = some (.int .u8 y)) (first | exact ⟨c4', c5', gz⟩ | exact ⟨(World.cell?_of_block (Below.heap_setCell _ _ _ _ hnx)).trans c4', (World.cell?_of_block (Below.heap_setCell _ _ _ _ hnx)).trans c5', (World.cell?_of_block (Below.heap_setCell _ _ _ _ hnz)).trans gz⟩) (fail)
                      go_wp2
                      go_roundw
                      case rel => exact ⟨k + 1, N, by omega, HNX.out.2.2, by go_num, HNX.out.1, HNX.out.2.1.below (Below.refl _ _).drew⟩
                      case measure => simp [intOf]; omega
                  · as_aux_lemma =>
                      have h3 : ¬ (p : Int) + (k : Int) < (N : Int) := by omega
                      have HO3 : Hid (wr.ownsRow (w1.heap.size + 1) 5 1 (.slice vb N vd) N ((wl t d p N k).map (Value.int .u8)) ∧ N = p + k ∧ KP w1 W5 g0 wr (.slice vb N vd) ∧ w1.heap.size + 1 ≤ wr.heap.size ∧ d[k]? = some y ∧ K ≤ N) := ⟨hrow, by omega, hKP, by have := hKP.2.1; have := HF5.out.2.2.2.2; have := HR.out.2.2.2.2.2; omega, hy, by omega⟩
                      have hpb : p ≤ 2432 ∧ k ≤ 2432 := by omega
                      clear hrow hown hKP hy hN hzl hst hA hyw
                      go_wp2_with (at_builtin; refine wpList_append_lies _ (by rfl) _ _ 25 (by rfl) (w1.heap.size + 1) 5 i0 _ 1 1 Try.underlying25 hi0 hz0 hz1 hz2 rfl (by omega) _ N _ (by rfl) (HO3.out.1.alloc _) ⟨wr.heap.size, 0, none⟩ 1 1 [.int .u8 y] (by rfl) (by rfl) (World.news_of_block (cs := #[.int .u8 y]) (t := 5) (fr := (0, 0)) (heap_alloc_new wr _)) (by simp [Value.oneCell']) (by omega) (by unfold maxLen; omega) (by omega) (by have := HO3.out.2.2.2.1; simp; omega) (wr.heap.size + 1) (by simp) ?_; intro gg cap3 w6 hown3 hgrow3 hat hltg)
                      go_roundw
                      case rel =>
                        obtain ⟨h2, h4, h5, h6, h7, h8⟩ := HO3.out
                        have e1 : wl t d p N k ++ [y] = wl t d p (N + 1) (k + 1) := by rw [h4, ← oc_some h7, wl_snoc]
                        refine ⟨k + 1, N + 1, by omega, by have := HL1.out; omega, by go_num, .mk ?_ (wl_oct HOC.out.1 HOC.out.2 _ _ _), ?_⟩
                        · rw [wl_length, ← e1, List.map_append]
                          exact hown3
                        · refine (h5.alloc _).grown hgrow3 (fun b hb => by have := (h2.lt b hb).1; omega) ?_
                          rcases hat with h | h
                          · exact .inl h.symm
                          · exact .inr ⟨gg, rfl, by have := h5.2.1; omega⟩
                      case measure => simp [intOf]; omega
                · as_aux_lemma =>
                    obtain rfl : k = dl := by omega
                    have hki : ¬ (k : Int) < (k : Int) := by omega
                    have hwd : wl t d p N k = T := by rw [HT.out.1, hN, ← wl_done (by rw [← HDL.out]; exact hd0), ← HDL.out, ← HTL.out]; congr 1; omega
                    rw [hwd] at hown
                    have HZ : Hid (T.length ≤ 2432 ∧ Own1 (w1.heap.size + 1) wr (.slice vb N vd) T ∧ KP w1 W5 g0 wr (.slice vb N vd)) := ⟨by rw [← hwd, wl_length]; exact hNb, hown, hKP⟩
                    clear hwd hown hKP hA hzl hN hNb
                    go_wp2
                    go_roundw
                    case rel =>
                      obtain ⟨h1, h2, h3⟩ := HZ.out
                      obtain ⟨b1, b2, b3, b4, b5⟩ := HF5.out
                      have hsz := HR.out.2.2.2.2.2
                      refine ⟨j + 1, T, s3, a3, l3, c3, by omega, by go_num, h1, h2, h3.box b2 (fun g hg => by have := (HG0.out g hg).1; omega), flN.weaken (flN.keep b3 (h3.same fun g hg => by have := (HG0.out g hg).2; omega)) (by omega), h3.1, ?_⟩
                      have := h3.2.1
                      omega
                    case measure => simp [intOf]; omega
      · obtain ⟨er, her⟩ : ∃ x, x = trE (mk t) o := ⟨_, rfl⟩
        obtain ⟨fr, hfr⟩ : ∃ x, x = trF (mk t) o := ⟨_, rfl⟩
        have HE : Hid (er = (if o < 0 then 4 else if 2432 < o then 107 else 0) ∧ fr = (if er = 0 then mk (cutT t o.toNat) else (0, []))) := by
          obtain ⟨h1, h2⟩ := tr_mk (n := o) (t := t) (by rw [← HTL.out]; exact htl)
          exact ⟨her.trans h1, by rw [hfr, h2, ← her]⟩
        have HW : Hid (∀ V, Below wo.heap.size wo V → Calls Try.prog 14 #[.agg #[.int .i64 s, .slice a m c], .int .i64 o] V fun e w' => (∃ us', e = .returned (.tuple #[.agg us'.toArray, .int .i64 er]) ∧ flN.lies V.heap.size w' us' fr) ∧ Below V.heap.size V w') := fun V hV => by
          obtain ⟨h1, h2, h3, h4, h5, h6⟩ := HR.out
          rw [her, hfr]
          exact trunc_any _ [.int .i64 s, .slice a m c] (mk t) o V (flN.below h4 hV) HO.out
        clear her hfr
        rw [hV0] at c0 c1 c2 k0 k1 v0 v1 v2 v3
        go_wp2
        rw [← hV0] at c0 c1 c2 k0 k1 v0 v1 v2 v3 ⊢
        clear hV0
        go_region_held3 (fun V => V.cell? ⟨w1.heap.size, 0, none⟩ = some (.int .i64 s) ∧ V.cell? ⟨w1.heap.size, 1, none⟩ = some (.slice a m c) ∧ V.cell? ⟨bx, ox, none⟩ = some (.int .i64 wh) ∧ V.cell? ⟨bx, ox + 1, none⟩ = some (.int .i64 o) ∧ V.cell? ⟨bx, ox + 2, none⟩ = some (.slice da dl dc))
          (first | exact ⟨k0, k1, c0, c1, c2⟩ | exact y3 | exact HS.out _ (below_set2 HB3.out.1 (Nat.le_refl _) _ _))
          ((go_at_call 14; go_simp; refine Calls.mono (HW.out V0.drew HV0.out.1.drew) ?_; rintro e w3 ⟨⟨u3, rfl, hu3⟩, hb3⟩; obtain ⟨s3, a3, l3, c3, rfl, hu3', -⟩ := var_new hu3; clear hu3; have hb3' : Below V0.heap.size V0 w3 := ((Below.refl _ V0).drew).trans hb3; have HB3 : Hid (Below wo.heap.size wo w3 ∧ Box w3 wo.heap.size 28 #[.int .i64 s, .slice a m c] ∧ flN.lies (wo.heap.size + 1) w3 [.int .i64 s3, .slice a3 l3 c3] fr) := ⟨below_any HV0.out.1 hb3', HV0.out.2.1.below hb3' HV0.out.2.1.lt, by have e3 : V0.drew.heap.size = wo.heap.size + 1 := HV0.out.2.2; rw [e3] at hu3'; exact hu3'⟩; clear hb3 hb3' hu3'; have y3 := HS.out w3 HB3.out.1; obtain ⟨v4, v5, v6, v7⟩ := HB3.out.2.1.two))
        obtain ⟨W4, hW4⟩ : ∃ W, W = (w3.setCell ⟨wo.heap.size, 0, none⟩ (.int .i64 s3)).setCell ⟨wo.heap.size, 1, none⟩ (.slice a3 l3 c3) := ⟨_, rfl⟩
        rw [← hW4]
        have HG : Hid (Below wo.heap.size wo W4 ∧ Box W4 wo.heap.size 28 #[.int .i64 s3, .slice a3 l3 c3] ∧ flN.lies (wo.heap.size + 1) W4 [.int .i64 s3, .slice a3 l3 c3] fr) := by
          rw [hW4]
          exact ⟨below_set2 HB3.out.1 (Nat.le_refl _) _ _, Box.pair HB3.out.2.1, flN.keep HB3.out.2.2 (.set2 (by omega))⟩
        clear k0 k1 c0 c1 c2 v0 v1 v2 v3 v4 v5 v6 v7 y3 hW4 HW
        obtain ⟨k0, k1, c0, c1, c2⟩ := HS.out W4 HG.out.1
        obtain ⟨v0, v1, _, _⟩ := HG.out.2.1.two
        by_cases ho : o < 0
        · as_aux_lemma =>
            obtain rfl : er = 4 := by rw [HE.out.1, if_pos ho]
            have b1 : decide ((0 : Int) ≤ o) = false := decide_eq_false (by omega)
            go_wp2_with (go_at_call 19; refine (HN _ _).mono ?_; rintro e t0 ⟨rfl, rfl⟩)
            go_quiet (fail)
            go_wp2
            go_roundw
            case rel => exact HKEEP.out _ (below_drewN HG.out.1 _)
            case measure => simp [intOf]; omega
        by_cases hbig : 2432 < o
        · as_aux_lemma =>
            obtain rfl : er = 107 := by rw [HE.out.1, if_neg ho, if_pos hbig]
            have b1 : decide ((0 : Int) ≤ o) = true := decide_eq_true (by omega)
            have b2 : decide (o ≤ (2432 : Int)) = false := decide_eq_false (by omega)
            go_wp2_with (go_at_call 19; refine (HN _ _).mono ?_; rintro e t0 ⟨rfl, rfl⟩)
            go_quiet (fail)
            go_wp2
            go_roundw
            case rel => exact HKEEP.out _ (below_drewN HG.out.1 _)
            case measure => simp [intOf]; omega
        as_aux_lemma =>
          obtain rfl : er = 0 := by rw [HE.out.1, if_neg ho, if_neg hbig]
          obtain ⟨p, rfl⟩ : ∃ p : Nat, o = p := ⟨o.toNat, by omega⟩
          obtain ⟨T, hT⟩ : ∃ T, T = cutT t p := ⟨_, rfl⟩
          obtain rfl : fr = mk T := by rw [HE.out.2, if_pos rfl, Int.toNat_natCast, hT]
          have hpd : p ≤ 2432 := by omega
          have HT : Hid (T = cutT t p ∧ p ≤ 2432) := ⟨hT, hpd⟩
          clear hT k0 k1 ho hbig
          obtain ⟨h1, h2, h3, h4, h5, h6⟩ := HR.out
          have hB4 := h3.below HG.out.1 h3.lt
          obtain ⟨k0, k1, k2, k3⟩ := hB4.two
          have hne1 : bx ≠ w1.heap.size := by have := cell_lt c0'; have := (HC.out w (Below.refl _ _)).1; have := cell_lt this; have := HB1.out.size; simp at *; omega
          have hne2 : wo.heap.size ≠ w1.heap.size := by omega
          have hne3 := hne1.symm
          have hne4 := hne2.symm
          have HB4 : Hid (Box W4 w1.heap.size 28 #[.int .i64 s, .slice a m c]) := hB4
          clear h1 h2 h3 h4 h5 h6 hB4
          go_wp2_with (go_at_call 19; refine (HN _ _).mono ?_; rintro e t0 ⟨rfl, rfl⟩)
          obtain ⟨W5, hW5⟩ : ∃ W, W = (W4.setCell ⟨w1.heap.size, 0, none⟩ (.int .i64 s3)).setCell ⟨w1.heap.size, 1, none⟩ (.slice a3 l3 c3) := ⟨_, rfl⟩
          have HF5 : Hid (Below w1.heap.size w1 W5 ∧ Box W5 w1.heap.size 28 #[.int .i64 s3, .slice a3 l3 c3] ∧ flN.lies (wo.heap.size + 1) W5 [.int .i64 s3, .slice a3 l3 c3] (mk T) ∧ Own1 (w1.heap.size + 1) W5 (.slice xa tl xc) t ∧ wo.heap.size + 1 ≤ W5.heap.size) := by
            obtain ⟨h1, h2, h3, h4, h5, h6⟩ := HR.out
            have hz : wo.heap.size + 1 ≤ W4.heap.size := HG.out.2.1.lt
            rw [hW5]
            refine ⟨below_set2 (below_any h5 HG.out.1) (Nat.le_refl _) _ _, Box.pair HB4.out, flN.keep HG.out.2.2 (.set2 (by omega)), bytesS.osame h2 (Same.trans (.of_below HG.out.1) HG.out.1.size (.set2 (by omega))), by simpa [World.setCell] using hz⟩
          rw [← hW5]
          obtain ⟨g0, hg0⟩ : ∃ g, g = (Value.slice xa tl xc).ownBlock := ⟨_, rfl⟩
          have HG0 : Hid (∀ g, g0 = some g → w1.heap.size + 1 ≤ g ∧ g < wo.heap.size) := fun g hg => by
            rw [hg0] at hg
            exact HR.out.2.1.row.lt g hg
          have HK5 : Hid (KP w1 W5 g0 W5 (.slice xa tl xc)) := by rw [hg0]; exact KP.start _ HF5.out.1
          obtain ⟨L1, hL1⟩ : ∃ L, L = max tl p := ⟨_, rfl⟩
          have HL1 : Hid (L1 = max tl p ∧ L1 ≤ 2432 ∧ tl ≤ L1 ∧ p ≤ L1) := ⟨hL1, by omega, by omega, by omega⟩
          obtain ⟨i0, hi0, hz0, hz1, hz2⟩ := info_parts Try.info5
          clear hg0 hW5 hL1 k0 k1 k2 k3 c0 c1 c2 v0 v1 hne2 hne4 c0' c1' c2' f0 f1 q0 q1
          go_loopw [8] (fun x wq => ∃ z : Nat, tl + z ≤ L1 ∧ Own1 (w1.heap.size + 1) wq x (t ++ List.replicate z 0) ∧ KP w1 W5 g0 wq x) (fun x _ => L1 - lenOf x)
          case atStart => exact ⟨0, by have := HL1.out; omega, by simpa using HF5.out.2.2.2.1, HK5.out⟩
          case round =>
            obtain ⟨wq, rfl⟩ : ∃ wq, wq = wr := ⟨_, rfl⟩
            obtain ⟨z, hz, hown, hKP⟩ := hrel
            obtain ⟨va, vc, rfl⟩ := hown.shape
            have hlen : (t ++ List.replicate z 0).length = tl + z := by rw [List.length_append, List.length_replicate, ← HTL.out]
            rw [hlen] at hown hKP ⊢
            obtain ⟨c0, c1, c2, hA⟩ := HC.out wq (below_any HB1.out hKP.1)
            obtain ⟨K, hK⟩ : ∃ K, K = tl + z := ⟨_, rfl⟩
            rw [← hK] at hown hKP ⊢
            have hl1 := run_len Try.underlying25 va K vc
            have hzl := HL1.out
            by_cases hlt : K < p
            · have h1 : (K : Int) < (p : Int) := by omega
              have hrow := hown.row
              rw [hlen, ← hK] at hrow
              have HO2 : Hid (wq.ownsRow (w1.heap.size + 1) 5 1 (.slice va K vc) K ((t ++ List.replicate z 0).map (Value.int .u8)) ∧ Oct (t ++ List.replicate z 0) ∧ K = tl + z ∧ KP w1 W5 g0 wq (.slice va K vc) ∧ w1.heap.size + 1 ≤ wq.heap.size) := ⟨hrow, hown.oct, hK, hKP, by have := hKP.2.1; have := HF5.out.2.2.2.2; have := HR.out.2.2.2.2.2; omega⟩
              have hKb : K ≤ 2432 := by omega
              clear hown hrow hlen hK hzl hz hKP hA
              go_wp2_with (at_builtin; refine wpList_append_lies _ (by rfl) _ _ 25 (by rfl) (w1.heap.size + 1) 5 i0 _ 1 1 Try.underlying25 hi0 hz0 hz1 hz2 rfl (by omega) _ K _ (by rfl) (HO2.out.1.alloc _) ⟨wq.heap.size, 0, none⟩ 1 1 [.int .u8 0] (by rfl) (by rfl) (World.news_of_block (cs := #[.int .u8 0]) (t := 5) (fr := (0, 0)) (heap_alloc_new wq _)) (by simp [Value.oneCell']) (by omega) (by unfold maxLen; omega) (by omega) (by have := HO2.out.2.2.2.2; simp; omega) (wq.heap.size + 1) (by simp) ?_; intro gg cap3 w6 hown3 hgrow3 hat hltg)
              go_roundw
              case rel =>
                obtain ⟨h2, h3, h4, h5, h6⟩ := HO2.out
                refine ⟨z + 1, by have := HL1.out; omega, ?_, ?_⟩
                · rw [snoc_zeros]
                  refine .mk ?_ ?_
                  · rw [List.length_append, List.length_append, List.length_replicate, ← HTL.out, ← h4, List.map_append]
                    exact hown3
                  · intro y hy
                    rcases List.mem_append.1 hy with hy | hy
                    · exact h3 y hy
                    · rw [List.mem_singleton.1 hy]; decide
                · refine (h5.alloc _).grown hgrow3 (fun k hk => by have := (h2.lt k hk).1; omega) ?_
                  rcases hat with h | h
                  · exact .inl h.symm
                  · exact .inr ⟨gg, rfl, by have := h5.2.1; omega⟩
              case measure =>
                have := HL1.out
                simp only [lenOf]
                omega
            · have hKe : K = L1 := by omega
              subst hKe
              have h1 : ¬ (K : Int) < (p : Int) := by omega
              obtain ⟨vp, hvp, hcp⟩ := hown.arg.ahead p (by omega)
              have hT2 : (t ++ List.replicate z 0).take p = T := by rw [HT.out.1]; exact zeros_cut t z p (by rw [← HTL.out]; omega)
              rw [hT2] at hvp
              have HTN : Hid (T.length = p) := by show T.length = p; rw [HT.out.1, cutT_length]
              have HCP := copy_any _ vp T wq hvp (by rw [HTN.out]; omega)
              have HZ : Hid (KP w1 W5 g0 wq (.slice va K vc) ∧ w1.heap.size + 1 ≤ wq.heap.size) := ⟨hKP, by have := hKP.2.1; have := HF5.out.2.2.2.2; have := HR.out.2.2.2.2.2; omega⟩
              clear hown hKP hA hlen hK hz hzl hlt hvp hT2
              go_wp2_with fail
              refine HCP.mono ?_
              rintro e w6 ⟨⟨v6, rfl, hv6⟩, hb6⟩
              clear HCP
              go_wp2
              go_roundw
              case rel =>
                obtain ⟨h3, h7⟩ := HZ.out
                have h3 := h3.below hb6
                obtain ⟨b1, b2, b3, b4, b5⟩ := HF5.out
                have hsz := HR.out.2.2.2.2.2
                refine ⟨j + 1, T, s3, a3, l3, c3, by omega, by go_num, by rw [HTN.out]; exact HT.out.2, bytesS.oweaken hv6 h7, h3.box b2 (fun g hg => by have := (HG0.out g hg).1; omega), flN.weaken (flN.keep b3 (h3.same fun g hg => by have := (HG0.out g hg).2; omega)) (by omega), h3.1, ?_⟩
                have := hb6.size
                omega
              case measure => simp [intOf]; omega
    · as_aux_lemma =>
        have hend : j = ll ∨ (j < ll ∧ ¬ j < 60) := by omega
        have hs : s = (tl : Int) := by
          obtain ⟨_, _, h, _⟩ := fl_viewN hlf
          rw [HTL.out, ← mk_size (t := t) (by rw [← HTL.out]; exact htl)]
          simp at h
          exact h.1
        have HK : Hid (∀ V, Below wo.heap.size wo V → V.cell? ⟨w1.heap.size, 0, none⟩ = some (.int .i64 s) ∧ V.cell? ⟨w1.heap.size, 1, none⟩ = some (.slice a m c) ∧ flN.lies 0 V [.int .i64 s, .slice a m c] (mk t) ∧ Arg 0 V (.slice xa tl xc) t ∧ Below w.heap.size w V) := fun V hV => by
          obtain ⟨h1, h2, h3, h4, h5, h6⟩ := HR.out
          have hB := h3.below hV h3.lt
          exact ⟨hB.two.1, hB.two.2.1, flN.weaken (flN.below h4 hV) (Nat.zero_le _), (h2.arg.below hV).weaken (Nat.zero_le _), below_any (below_any HB1.out h5) hV⟩
        have HR1 := read_any 0 _ (mk t) 0 5000 wo (HK.out wo (Below.refl _ _)).2.2.1 (by unfold I64; omega) (by unfold I64; omega)
        have htl2 : t.length ≤ 2432 := by rw [← HTL.out]; exact htl
        obtain ⟨e1, e2⟩ := rd_mk (off := 0) (n := 5000) htl2
        rw [if_neg (by omega)] at e1
        rw [e1, if_pos rfl, show (0 : Int).toNat = 0 from rfl, show (5000 : Int).toNat = 5000 from rfl, rdL_all htl2] at e2
        rw [e1, e2] at HR1
        obtain ⟨e3, e4⟩ := rd_mk (off := off) (n := n) htl2
        obtain ⟨er, her⟩ : ∃ x, x = rdE (mk t) off n := ⟨_, rfl⟩
        obtain ⟨ou, hou⟩ : ∃ x, x = rdO (mk t) off n := ⟨_, rfl⟩
        have HR2 : Hid (∀ V, Below wo.heap.size wo V → Calls Try.prog 10 #[.agg #[.int .i64 s, .slice a m c], .int .i64 off, .int .i64 n] V fun e w' => (∃ v, e = .returned (.tuple #[v, .int .i64 er]) ∧ Arg V.heap.size w' v ou) ∧ Below V.heap.size V w') := fun V hV => by
          rw [her, hou]
          exact read_any 0 [.int .i64 s, .slice a m c] (mk t) off n V (HK.out V hV).2.2.1 HI.out.1 HI.out.2
        have HE : Hid (er = (if off < 0 ∨ n < 0 then 4 else 0) ∧ ou = (if er = 0 then rdL t off.toNat n.toNat else [])) := ⟨her.trans e3, by rw [hou, e4, ← her]⟩
        clear e1 e2 e3 e4 her hou hown hBf hlf hbel hsz hbw hlt htl' htl2
        subst hs
        rcases hend with rfl | ⟨hjl, hj6⟩
        all_goals
          try have hji : (j : Int) < (ll : Int) := by omega
          try have hjk : ¬ (j : Int) < 60 := by omega
          go_wp2_with fail
          refine HR1.mono ?_
          rintro e w3 ⟨⟨v3, rfl, hv3⟩, hb3⟩
          obtain ⟨a3, c3, rfl, _⟩ := hv3.shape
          rw [← HTL.out] at hv3 ⊢
          have HV3 : Hid (Below wo.heap.size wo w3 ∧ Arg 0 w3 (.slice a3 tl c3) t) := ⟨hb3, hv3.weaken (Nat.zero_le _)⟩
          clear hb3 hv3 HR1 q0 q1 f0 f1
          obtain ⟨q0, q1, _⟩ := HK.out w3 HV3.out.1
          go_wp2_with fail
          refine (HR2.out w3 HV3.out.1).mono ?_
          rintro e w4 ⟨⟨v4, rfl, hv4⟩, hb4⟩
          obtain ⟨a4, c4, rfl, _⟩ := hv4.shape
          have HV4 : Hid (Below wo.heap.size wo w4 ∧ Arg 0 w4 (.slice a3 tl c3) t ∧ Arg 0 w4 (.slice a4 ou.length c4) ou) := ⟨below_any HV3.out.1 hb4, HV3.out.2.below hb4, hv4.weaken (Nat.zero_le _)⟩
          obtain ⟨ol, hol⟩ : ∃ x, x = ou.length := ⟨_, rfl⟩
          have HOL : Hid (ol = ou.length) := hol
          rw [← hol] at HV4 ⊢
          clear hb4 hv4 q0 q1 HR2 hol
          obtain ⟨q0, q1, _⟩ := HK.out w4 HV4.out.1
          have HSM := same_any 0 0 _ _ t t w4 HV4.out.2.1 (HK.out w4 HV4.out.1).2.2.2.1
          rw [decide_eq_true rfl] at HSM
          have hlo := run_len Try.underlying25 a4 ol c4
          go_wp2_with (go_at_call 19; refine (HN _ _).mono ?_; rintro e t0 ⟨rfl, rfl⟩)
          refine HSM.mono ?_
          rintro e w5 ⟨rfl, q, rfl⟩
          obtain ⟨W5, hW5⟩ : ∃ W, W = w4.drewN q := ⟨_, rfl⟩
          have HW5 : Hid (Below wo.heap.size wo W5 ∧ Arg 0 W5 (.slice a4 ol c4) ou) := by
            rw [hW5]
            exact ⟨below_drewN HV4.out.1 q, HV4.out.2.2.below (below_drewN (Below.refl _ _) q)⟩
          rw [← hW5]
          clear hW5 q0 q1 HSM
          by_cases hneg : off < 0 ∨ n < 0
          · obtain rfl : er = 4 := by rw [HE.out.1, if_pos hneg]
            obtain rfl : ou = [] := by rw [HE.out.2, if_neg (by omega)]
            obtain rfl : ol = 0 := HOL.out
            rcases (show off < 0 ∨ (¬ off < 0 ∧ n < 0) by omega) with h1 | ⟨h1, h2⟩
            all_goals
              clear hneg
              go_wp2_with (go_at_call 19; refine (HN _ _).mono ?_; rintro e t0 ⟨rfl, rfl⟩)
              go_ret
              exact ⟨rfl, (HK.out _ HW5.out.1).2.2.2.2⟩
          · obtain rfl : er = 0 := by rw [HE.out.1, if_neg hneg]
            obtain ⟨A, hA⟩ : ∃ A, A = min off.toNat tl := ⟨_, rfl⟩
            obtain ⟨M, hM⟩ : ∃ M, M = min n.toNat (tl - A) := ⟨_, rfl⟩
            obtain rfl : ou = (t.take (A + M)).drop A := by
              rw [HE.out.2, if_pos rfl]
              exact rdL_part t _ _ A M (by rw [hA, HTL.out]) (by rw [hM, HTL.out])
            have h1 : ¬ off < 0 := by omega
            have h2 : ¬ n < 0 := by omega
            have hm1 : min off (tl : Int) = (A : Int) := by omega
            have hm2 : min n ((tl : Int) - (A : Int)) = (M : Int) := by omega
            have hAb : A + M ≤ tl := by omega
            obtain ⟨vp, hvp, hcp⟩ := (HK.out W5 HW5.out.1).2.2.2.1.cut A (A + M) (by omega) (by rw [← HTL.out]; omega)
            rw [show (((A + M : Nat)) : Int) = (A : Int) + (M : Int) by omega] at hcp
            have HSM := same_any 0 0 _ _ _ _ W5 HW5.out.2 hvp
            rw [decide_eq_true rfl] at HSM
            clear hneg hA hM hvp
            go_wp2_with (go_at_call 19; refine (HN _ _).mono ?_; rintro e t0 ⟨rfl, rfl⟩)
            refine HSM.mono ?_
            rintro e w6 ⟨rfl, q, rfl⟩
            have HQ : Hid (Below w.heap.size w (W5.drewN q)) := (HK.out _ (below_drewN HW5.out.1 q)).2.2.2.2
            clear HSM
            go_wp2
            go_ret
            exact ⟨rfl, HQ.out⟩

end Go.Proofs.Ytgflfmpoeamnnaa.fileText
