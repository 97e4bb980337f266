/-
  Whether blocks, and segments, of the program's are the document's.
-/
import Derived.Test.YtkpckadicjdieabSmall
import Derived.Test.YtkpckadicjdieabRTake
namespace Go.Proofs.Ytkpckadicjdieab
open Go.RowKit

theorem alike_b {a b : List Bk} (hl : a.length = b.length) (h : ∀ i : Nat, i < a.length → a[i]? = b[i]?) : a = b := by
  refine List.ext_getElem? fun i => ?_
  by_cases hi : i < a.length
  · exact h i hi
  · rw [List.getElem?_eq_none (by omega), List.getElem?_eq_none (by omega)]

set_option maxRecDepth 100000 in
set_option maxHeartbeats 8000000 in
theorem alikeBlocks_any (n1 n2 : Nat) (v1 v2 : Value) (l1 l2 : List Bk) (w : World) (h1 : bksN.lies n1 w [v1] l1) (h2 : bksR.lies n2 w [v2] l2) :
    Calls Try.prog 52 #[v1, v2] w fun e w' => e = .returned (.int .i64 (if l1 = l2 then 0 else 1)) ∧ Below w.heap.size w w' := by
  obtain ⟨a1, c1, e1, _, hm1, _⟩ := Shape.list_len (S := bkN) (ht := Try.underlying29) (hc := cells29) h1
  obtain rfl : v1 = _ := by simpa using e1
  obtain ⟨a2, c2, e2, _, hm2, _⟩ := Shape.list_len (S := bkR) (ht := Try.underlying24) (hc := cells24) h2
  obtain rfl : v2 = _ := by simpa using e2
  unfold maxLen at hm1 hm2
  have hr1 := run_len Try.underlying29 a1 l1.length c1
  have hr2 := run_len Try.underlying24 a2 l2.length c2
  by_cases hlen : l1.length = l2.length
  case neg =>
    rw [if_neg (fun e => hlen (by rw [e]))]
    have hne : ¬ (l1.length : Int) = (l2.length : Int) := by omega
    clear h1 h2 e1 e2
    go_enter Try.func52, Try.ntmps52
    go_wp2
    go_ret
    exact ⟨rfl, Below.refl _ _⟩
  have HW : Hid (bksN.lies n1 w [.slice a1 l1.length c1] l1 ∧ bksR.lies n2 w [.slice a2 l2.length c2] l2) := ⟨h1, h2⟩
  obtain ⟨n, hn⟩ : ∃ n, n = l1.length := ⟨_, rfl⟩
  have HN : Hid (n = l1.length ∧ n = l2.length) := ⟨hn, by omega⟩
  rw [← hlen] at HW hr2 ⊢
  rw [← hn] at HW hr1 hr2 hm1 ⊢
  obtain ⟨d, hd⟩ : ∃ d : Int, d = if l1 = l2 then 0 else 1 := ⟨_, rfl⟩
  rw [← hd]
  have HD0 : Hid (l1 = l2 → d = 0) := fun h => by rw [hd, if_pos h]
  have HD1 : Hid (l1 ≠ l2 → d = 1) := fun h => by rw [hd, if_neg h]
  clear hn hlen hd hm2 h1 h2 e1 e2
  go_enter Try.func52, Try.ntmps52
  go_wp2
  go_loopw [5] (fun i wr => ∃ k : Nat, k ≤ n ∧ i = .int .i64 k ∧ Hid (∀ (i : Nat), i < k → l1[i]? = l2[i]?) ∧ Hid (Below w.heap.size w wr)) (fun i _ => n - (intOf i).toNat)
  case atStart => exact ⟨0, Nat.zero_le _, rfl, fun i hi => by omega, Below.refl _ _⟩
  case round =>
    obtain ⟨k, hk, rfl, HK, HB⟩ := hrel
    by_cases hlt : k < n
    case neg =>
      obtain rfl : k = n := by omega
      obtain rfl : d = 0 := HD0.out (alike_b (by have := HN.out; omega) fun i hi => HK.out i (by have := HN.out; omega))
      clear HK
      go_wp2
      go_ret
      exact ⟨rfl, HB.out⟩
    obtain ⟨x, hx⟩ := get_lt (l := l1) (k := k) (by rw [← HN.out.1]; exact hlt)
    obtain ⟨y, hy⟩ := get_lt (l := l2) (k := k) (by rw [← HN.out.2]; exact hlt)
    obtain ⟨b1, o1, x1, z1, hix1, p0, p1, p2, hA1, _⟩ := bks_atN (bksN.below HW.out.1 HB.out) k x hx
    obtain ⟨b2, o2, x2, z2, hix2, q0, q1, q2, hA2, _⟩ := bks_atR (bksR.below HW.out.2 HB.out) k y hy
    have hkn : (k : Int) < (n : Int) := by omega
    have HXY : Hid (l1[k]? = some x ∧ l2[k]? = some y) := ⟨hx, hy⟩
    have HS : Hid (Calls Try.prog 14 #[.slice x1 x.2.2.length z1, .slice x2 y.2.2.length z2] wr.drew fun e w' => e = .returned (.bool (decide (x.2.2 = y.2.2))) ∧ ∃ q, w' = wr.drew.drewN q) := same_any n1 n2 _ _ _ _ _ (hA1.below (Below.refl _ wr).drew) (hA2.below (Below.refl _ wr).drew)
    have HNE : Hid (x ≠ y → d = 1) := fun h => HD1.out fun e => h (by have h1 := HXY.out; rw [e] at h1; exact Option.some.inj (h1.1.symm.trans h1.2))
    obtain ⟨xo, xi, xd⟩ := x
    obtain ⟨yo, yi, yd⟩ := y
    simp only at p0 p1 p2 q0 q1 q2 HS
    obtain ⟨sb, hsb⟩ : ∃ sb, sb = decide (xd = yd) := ⟨_, rfl⟩
    have HSB : Hid (sb = decide (xd = yd)) := hsb
    rw [← hsb] at HS
    obtain ⟨xl, hxl⟩ : ∃ m, m = xd.length := ⟨_, rfl⟩
    obtain ⟨yl, hyl⟩ : ∃ m, m = yd.length := ⟨_, rfl⟩
    rw [← hxl, ← hyl] at HS
    rw [← hxl] at p2
    rw [← hyl] at q2
    have HC : Hid (∀ V, Below wr.heap.size wr V → V.cell? ⟨b1, o1, none⟩ = some (.int .i64 xo) ∧ V.cell? ⟨b1, o1 + 1, none⟩ = some (.int .i64 xi) ∧ V.cell? ⟨b1, o1 + 2, none⟩ = some (.slice x1 xl z1) ∧ V.cell? ⟨b2, o2, none⟩ = some (.int .i64 yo) ∧ V.cell? ⟨b2, o2 + 1, none⟩ = some (.int .i64 yi) ∧ V.cell? ⟨b2, o2 + 2, none⟩ = some (.slice x2 yl z2)) := fun V hV => ⟨by rw [hV.cell (cell_lt p0)]; exact p0, by rw [hV.cell (cell_lt p1)]; exact p1, by rw [hV.cell (cell_lt p2)]; exact p2, by rw [hV.cell (cell_lt q0)]; exact q0, by rw [hV.cell (cell_lt q1)]; exact q1, by rw [hV.cell (cell_lt q2)]; exact q2⟩
    clear hx hy hA1 hA2 hsb hxl hyl p0 p1 p2 q0 q1 q2
    go_wp2
    refine AnyBut.begin (fun V => V.cell? ⟨b1, o1, none⟩ = some (.int .i64 xo) ∧ V.cell? ⟨b1, o1 + 1, none⟩ = some (.int .i64 xi) ∧ V.cell? ⟨b1, o1 + 2, none⟩ = some (.slice x1 xl z1) ∧ V.cell? ⟨b2, o2, none⟩ = some (.int .i64 yo) ∧ V.cell? ⟨b2, o2 + 1, none⟩ = some (.int .i64 yi) ∧ V.cell? ⟨b2, o2 + 2, none⟩ = some (.slice x2 yl z2)) 1000 (by kernel_rfl) ?_
    have hSS := HC.out wr.drew (Below.refl _ wr).drew
    refine tx 0 17 hSS ?_
    simp only [ua, ub, uc, ud]
    refine tx 1 18 hSS ?_
    simp only [ua, ub, uc, ud]
    refine tx 2 19 hSS ?_
    simp only [ua, ub, uc, ud]
    refine tx 3 20 hSS ?_
    simp only [ua, ub, uc, ud]
    refine tx 4 21 hSS ?_
    simp only [ua, ub, uc, ud]
    refine tx 5 22 hSS ?_
    simp only [ua, ub, uc, ud]
    refine tx 6 23 hSS ?_
    simp only [ua, ub, uc, ud]
    refine tx 7 24 hSS ?_
    simp only [ua, ub, uc, ud]
    refine tx 8 25 hSS ?_
    simp only [ua, ub, uc, ud]
    refine tx 9 26 hSS ?_
    simp only [ua, ub, uc, ud]
    by_cases g1 : xo = yo
    case neg =>
      obtain rfl : d = 1 := HNE.out fun h => g1 (congrArg Prod.fst h)
      have g1b : (xo == yo) = false := by simpa using g1
      have g1c : (xo != yo) = true := by simpa using g1
      refine tx 10 27 hSS ?_
      simp only [ua, ub, uc, ud]
      refine tx 11 28 hSS ?_
      simp only [ua, ub, uc, ud]
      refine tus 11 [(12, 29), (13, 30), (14, 31), (15, 32), (16, 33), (17, 34), (18, 35), (19, 36), (20, 37), (21, 38), (22, 39)] hSS ?_
      simp only [skA, skL, ua, ub, uc, ud]
      refine tx 23 40 hSS ?_
      simp only [ua, ub, uc, ud]
      refine tx 24 41 hSS ?_
      simp only [ua, ub, uc, ud]
      refine tus 12 [(25, 42), (26, 43), (27, 44), (28, 45), (29, 46), (30, 47), (31, 48), (32, 49), (33, 50), (34, 51), (35, 52), (36, 53)] hSS ?_
      simp only [skA, skL, ua, ub, uc, ud]
      refine tx 37 54 hSS ?_
      simp only [ua, ub, uc, ud]
      refine AnyBut.done (by kernel_rfl) ?_
      have HZ : Hid (Below w.heap.size w wr.drew) := HB.out.drew
      clear hSS
      go_wp2
      go_ret
      exact ⟨rfl, HZ.out⟩
    subst g1
    have g1c : (xo != xo) = false := by simp
    refine tx 10 27 hSS ?_
    simp only [ua, ub, uc, ud]
    refine tx 11 28 hSS ?_
    simp only [ua, ub, uc, ud]
    refine tx 12 29 hSS ?_
    simp only [ua, ub, uc, ud]
    refine tx 13 30 hSS ?_
    simp only [ua, ub, uc, ud]
    refine tx 14 31 hSS ?_
    simp only [ua, ub, uc, ud]
    refine tx 15 32 hSS ?_
    simp only [ua, ub, uc, ud]
    refine tx 16 33 hSS ?_
    simp only [ua, ub, uc, ud]
    refine tx 17 34 hSS ?_
    simp only [ua, ub, uc, ud]
    refine tx 18 35 hSS ?_
    simp only [ua, ub, uc, ud]
    refine tx 19 36 hSS ?_
    simp only [ua, ub, uc, ud]
    refine tx 20 37 hSS ?_
    simp only [ua, ub, uc, ud]
    refine tx 21 38 hSS ?_
    simp only [ua, ub, uc, ud]
    by_cases g2 : xi = yi
    case neg =>
      obtain rfl : d = 1 := HNE.out fun h => g2 (congrArg (fun z => z.2.1) h)
      have g2b : (xi == yi) = false := by simpa using g2
      have g2c : (xi != yi) = true := by simpa using g2
      refine tx 22 39 hSS ?_
      simp only [ua, ub, uc, ud]
      refine tx 23 40 hSS ?_
      simp only [ua, ub, uc, ud]
      refine tx 24 41 hSS ?_
      simp only [ua, ub, uc, ud]
      refine tus 12 [(25, 42), (26, 43), (27, 44), (28, 45), (29, 46), (30, 47), (31, 48), (32, 49), (33, 50), (34, 51), (35, 52), (36, 53)] hSS ?_
      simp only [skA, skL, ua, ub, uc, ud]
      refine tx 37 54 hSS ?_
      simp only [ua, ub, uc, ud]
      refine AnyBut.done (by kernel_rfl) ?_
      have HZ : Hid (Below w.heap.size w wr.drew) := HB.out.drew
      clear hSS
      go_wp2
      go_ret
      exact ⟨rfl, HZ.out⟩
    subst g2
    have g2c : (xi != xi) = false := by simp
    refine tx 22 39 hSS ?_
    simp only [ua, ub, uc, ud]
    refine tx 23 40 hSS ?_
    simp only [ua, ub, uc, ud]
    refine tx 24 41 hSS ?_
    simp only [ua, ub, uc, ud]
    refine tx 25 42 hSS ?_
    simp only [ua, ub, uc, ud]
    refine tx 26 43 hSS ?_
    simp only [ua, ub, uc, ud]
    refine tx 27 44 hSS ?_
    simp only [ua, ub, uc, ud]
    refine tx 28 45 hSS ?_
    simp only [ua, ub, uc, ud]
    refine tx 29 46 hSS ?_
    simp only [ua, ub, uc, ud]
    refine tx 30 47 hSS ?_
    simp only [ua, ub, uc, ud]
    refine tx 31 48 hSS ?_
    simp only [ua, ub, uc, ud]
    refine tx 32 49 hSS ?_
    simp only [ua, ub, uc, ud]
    refine tx 33 50 hSS ?_
    simp only [ua, ub, uc, ud]
    refine tx 34 51 hSS ?_
    simp only [ua, ub, uc, ud]
    refine AnyBut.step (i := 35) (by kernel_rfl) rfl (fun K hK => ?_)
    go_simp
    refine Calls.mono HS.out ?_
    rintro e w2 ⟨rfl, q, rfl⟩
    have HV : Hid (Below wr.heap.size wr (wr.drewN (1 + q))) := below_drewN (Below.refl _ wr) _
    have HV' : Hid (Below wr.heap.size wr (wr.drew.drewN q)) := below_drewN (Below.refl _ wr).drew q
    dsimp only
    refine hK.out _ _ (HC.out _ HV'.out) ?_
    clear hK hSS
    have hSS := HC.out _ HV'.out
    cases sb
    case false =>
      obtain rfl : d = 1 := HNE.out fun h => by
        have h1 := HSB.out
        rw [show xd = yd from congrArg (fun z => z.2.2) h] at h1
        simp at h1
      refine tx 36 53 hSS ?_
      simp only [ua, ub, uc, ud]
      refine tx 37 54 hSS ?_
      simp only [ua, ub, uc, ud]
      refine AnyBut.done (by kernel_rfl) ?_
      have HZ : Hid (Below w.heap.size w (wr.drewN (1 + q))) := below_any HB.out HV.out
      clear hSS
      go_wp2
      go_ret
      exact ⟨rfl, HZ.out⟩
    refine tx 36 53 hSS ?_
    simp only [ua, ub, uc, ud]
    refine tx 37 54 hSS ?_
    simp only [ua, ub, uc, ud]
    refine AnyBut.done (by kernel_rfl) ?_
    have HZ : Hid (Below w.heap.size w (wr.drewN (1 + q))) := below_any HB.out HV.out
    have HK2 : Hid (∀ (i : Nat), i < k + 1 → l1[i]? = l2[i]?) := fun i hi => by
      by_cases h9 : i < k
      · exact HK.out i h9
      · obtain rfl : i = k := by omega
        have h1 : xd = yd := of_decide_eq_true HSB.out.symm
        rw [HXY.out.1, HXY.out.2, h1]
    clear hSS g1c g2c
    go_wp2
    go_roundw
    case rel => exact ⟨k + 1, by omega, by go_num, HK2, HZ⟩
    case measure => simp [intOf]; omega

set_option maxRecDepth 100000 in
set_option maxHeartbeats 4000000 in
theorem alike_any (n1 n2 : Nat) (u1 u2 : List Value) (s1 s2 : Sg) (w : World) (h1 : sgN.lies n1 w u1 s1) (h2 : sgR.lies n2 w u2 s2) :
    Calls Try.prog 53 #[.agg u1.toArray, .agg u2.toArray] w fun e w' => e = .returned (.int .i64 (if s1 = s2 then 0 else 1)) ∧ Below w.heap.size w w' := by
  obtain ⟨a1, c1, rfl, hL1, hi1, hm1⟩ := sg_viewN h1
  obtain ⟨a2, c2, rfl, hL2, hi2, hm2⟩ := sg_viewR h2
  obtain ⟨q1, l1⟩ := s1
  obtain ⟨q2, l2⟩ := s2
  simp only at hL1 hL2 hm1 hm2 ⊢
  obtain ⟨W, hW⟩ : ∃ W, W = (w.alloc (.cells #[.int .i64 q1, .slice a1 l1.length c1] 45)).alloc (.cells #[.int .i64 q2, .slice a2 l2.length c2] 36) := ⟨_, rfl⟩
  have hb : Below w.heap.size w W := by rw [hW]; exact ((Below.refl _ w).alloc (Nat.le_refl _) _).alloc (by simp) _
  have hB1 : Box W w.heap.size 45 #[.int .i64 q1, .slice a1 l1.length c1] := by rw [hW]; exact (Box.new _ _ _).alloc _
  have hB2 : Box W (w.heap.size + 1) 36 #[.int .i64 q2, .slice a2 l2.length c2] := by
    rw [hW]
    have := Box.new (w.alloc (.cells #[.int .i64 q1, .slice a1 l1.length c1] 45)) 36 #[.int .i64 q2, .slice a2 l2.length c2]
    rwa [World.size_alloc] at this
  have HW : Hid (Below w.heap.size w W) := hb
  have HC := alikeBlocks_any n1 n2 _ _ l1 l2 W (bksN.below hL1 hb) (bksR.below hL2 hb)
  obtain ⟨p0, p1, _, _⟩ := hB1.two
  obtain ⟨r0, r1, _, _⟩ := hB2.two
  rw [hW] at p0 p1 r0 r1
  clear h1 h2 hL1 hL2 hi1 hi2 hb hB1 hB2 hm1 hm2
  by_cases hs : q1 = q2
  case neg =>
    rw [if_neg (fun e => hs (congrArg Prod.fst e))]
    rw [hW] at HW
    clear HC p0 p1 r0 r1 hW
    go_enter Try.func53, Try.ntmps53
    go_wp2
    go_ret
    exact ⟨rfl, HW.out⟩
  subst hs
  obtain ⟨d, hd⟩ : ∃ d : Int, d = if l1 = l2 then 0 else 1 := ⟨_, rfl⟩
  rw [← hd] at HC
  have hde : (if (q1, l1) = (q1, l2) then (0 : Int) else 1) = d := by
    rw [hd]
    by_cases h : l1 = l2
    · rw [if_pos h, if_pos (by rw [h])]
    · rw [if_neg h, if_neg (fun e => h (Prod.mk.inj e).2)]
  rw [hde]
  clear hd hde
  go_enter Try.func53, Try.ntmps53
  go_wp2_with fail
  rw [← hW]
  clear hW p0 p1 r0 r1
  refine HC.mono ?_
  rintro e w1 ⟨rfl, hb1⟩
  have HZ : Hid (Below w.heap.size w w1) := below_any HW.out hb1
  clear hb1 HC
  go_wp2
  go_ret
  exact ⟨rfl, HZ.out⟩

end Go.Proofs.Ytkpckadicjdieab
