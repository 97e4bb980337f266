/-
  A store of the document's for the program, in memory of its own.
-/
import Derived.Test.YtkpckadicjdieabLLaw1
namespace Go.Proofs.Ytkpckadicjdieab
open Go.RowKit

set_option maxRecDepth 100000 in
set_option maxHeartbeats 8000000 in
theorem ofL_any (n0 : Nat) (us : List Value) (s : St) (w : World) (h : stR.lies n0 w us s) (hf : FitsL s) :
    Calls Try.prog 9 #[.agg us.toArray] w fun e w' => (∃ us', e = .returned (.agg us'.toArray) ∧ stN.owns w.heap.size w' us' s) ∧ Below w.heap.size w w' := by
  obtain ⟨a, c, b, d, e, f, rfl, hS, hH, hO, hN, m1, m2, m3⟩ := st_viewR h
  obtain ⟨l, hd, op, nx⟩ := s
  simp only at hS hH hO hN m1 m2 m3 hf ⊢
  obtain ⟨⟨f1, f2⟩, f3, f4, f5⟩ := hf
  simp only at f1 f2 f3 f4 f5
  obtain ⟨post, hpost⟩ : ∃ post : Ending → World → Prop, post = fun e w' => (∃ us', e = .returned (.agg us'.toArray) ∧ stN.owns w.heap.size w' us' (l, hd, op, nx)) ∧ Below w.heap.size w w' := ⟨_, rfl⟩
  have HPo : Hid (∀ us' w', stN.owns w.heap.size w' us' (l, hd, op, nx) → Below w.heap.size w w' → post (.returned (.agg us'.toArray)) w') := fun v' w' h1 h2 => by rw [hpost]; exact ⟨⟨v', rfl, h1⟩, h2⟩
  rw [← hpost]
  clear hpost
  obtain ⟨n, hn⟩ : ∃ n, n = l.length := ⟨_, rfl⟩
  obtain ⟨nh, hnh⟩ : ∃ n, n = hd.length := ⟨_, rfl⟩
  obtain ⟨no, hno⟩ : ∃ n, n = op.length := ⟨_, rfl⟩
  rw [← hn, ← hnh, ← hno]
  have hnb : n * 32 ≤ 140737488351232 := by rw [hn]; exact f1
  obtain ⟨W, hW⟩ : ∃ W, W = (w.alloc (.cells #[.slice a n c, .slice b nh d, .slice e no f, .int .i64 nx] 26)).alloc (.cells #[.slice none 0 0, .slice none 0 0, .slice none 0 0, .int .i64 0] 31) := ⟨_, rfl⟩
  have hbW : Below w.heap.size w W := by rw [hW]; exact ((Below.refl _ w).alloc (Nat.le_refl _) _).alloc (by simp) _
  have hB1 : Box W w.heap.size 26 #[.slice a n c, .slice b nh d, .slice e no f, .int .i64 nx] := by rw [hW]; exact (Box.new _ _ _).alloc _
  have hB2 : Box W (w.heap.size + 1) 31 #[.slice none 0 0, .slice none 0 0, .slice none 0 0, .int .i64 0] := by
    rw [hW]
    have := Box.new (w.alloc (.cells #[.slice a n c, .slice b nh d, .slice e no f, .int .i64 nx] 26)) 31 #[.slice none 0 0, .slice none 0 0, .slice none 0 0, .int .i64 0]
    rwa [World.size_alloc] at this
  have HN : Hid (n = l.length ∧ nh = hd.length ∧ no = op.length) := ⟨hn, hnh, hno⟩
  have HW : Hid (Below w.heap.size w W ∧ W.heap.size = w.heap.size + 2 ∧ ∀ V, Below W.heap.size W V → Box V w.heap.size 26 #[.slice a n c, .slice b nh d, .slice e no f, .int .i64 nx] ∧ Box V (w.heap.size + 1) 31 #[.slice none 0 0, .slice none 0 0, .slice none 0 0, .int .i64 0]) := ⟨hbW, by rw [hW]; simp, fun V hV => ⟨hB1.below hV hB1.lt, hB2.below hV hB2.lt⟩⟩
  have HA : Hid (sgsR.lies n0 w [.slice a n c] l ∧ (∀ p ∈ l, Fits p) ∧ I64 nx) := ⟨by rw [hn]; exact hS, f2, hN⟩
  have HC1 : Hid (∀ V, Below W.heap.size W V → Calls Try.prog 26 #[.slice b nh d] V fun e w' => (∃ v', e = .returned v' ∧ boolsS.owns V.heap.size w' [v'] hd) ∧ Below V.heap.size V w') := fun V hV => cbools_any n0 (.slice b nh d) hd V (boolsS.below (by rw [hnh]; exact hH) (below_any hbW hV)) (by omega)
  have HC2 : Hid (∀ V, Below W.heap.size W V → Calls Try.prog 27 #[.slice e no f] V fun e w' => (∃ v', e = .returned v' ∧ bksN.owns V.heap.size w' [v'] op) ∧ Below V.heap.size V w') := fun V hV => ofBlocks_any n0 (.slice e no f) op V (bksR.below (by rw [hno]; exact hO) (below_any hbW hV)) ⟨f4, f5⟩
  have HS : Hid (∀ V, Below W.heap.size W V → V.cell? ⟨w.heap.size, 1, none⟩ = some (.slice b nh d) ∧ V.cell? ⟨w.heap.size, 2, none⟩ = some (.slice e no f) ∧ V.cell? ⟨w.heap.size, 3, none⟩ = some (.int .i64 nx)) := fun V hV => by
    have h1 := (hB1.below hV hB1.lt).four
    exact ⟨h1.2.1, h1.2.2.1, h1.2.2.2.1⟩
  clear h hS hH hO hN m1 m2 m3 hbW hB1 hB2 hn hnh hno f1 f2 f3 f4 f5
  go_enter Try.func9, Try.ntmps9
  go_upto_region 1 with fail
  rw [← hW]
  clear hW
  go_cut [3] (fun u wx => ∃ dd, u = .pointer (some ⟨dd, 0, none⟩) ∧ Hid (W.heap.size ≤ dd ∧ Below W.heap.size W wx ∧ ∃ a2 c2 a3 c3, Box wx dd 31 #[.slice none 0 0, .slice a2 nh c2, .slice a3 no c3, .int .i64 nx] ∧ boolsS.owns W.heap.size wx [.slice a2 nh c2] hd ∧ bksN.owns W.heap.size wx [.slice a3 no c3] op))
  case first =>
    rename_i J K1 hJ hMt
    have HREL : Hid (∀ dd a2 c2 a3 c3 (w2 : World), Below W.heap.size W w2 → W.heap.size ≤ dd → Box w2 dd 31 #[.slice none 0 0, .slice none 0 0, .slice none 0 0, .int .i64 0] → boolsS.owns W.heap.size w2 [.slice a2 nh c2] hd → bksN.owns W.heap.size w2 [.slice a3 no c3] op → Below W.heap.size W ((((w2.setCell ⟨dd, 0, none⟩ (.slice none 0 0)).setCell ⟨dd, 1, none⟩ (.slice a2 nh c2)).setCell ⟨dd, 2, none⟩ (.slice a3 no c3)).setCell ⟨dd, 3, none⟩ (.int .i64 nx)) ∧ Hid (W.heap.size ≤ dd ∧ Below W.heap.size W ((((w2.setCell ⟨dd, 0, none⟩ (.slice none 0 0)).setCell ⟨dd, 1, none⟩ (.slice a2 nh c2)).setCell ⟨dd, 2, none⟩ (.slice a3 no c3)).setCell ⟨dd, 3, none⟩ (.int .i64 nx)) ∧ ∃ a2' c2' a3' c3', Box ((((w2.setCell ⟨dd, 0, none⟩ (.slice none 0 0)).setCell ⟨dd, 1, none⟩ (.slice a2 nh c2)).setCell ⟨dd, 2, none⟩ (.slice a3 no c3)).setCell ⟨dd, 3, none⟩ (.int .i64 nx)) dd 31 #[.slice none 0 0, .slice a2' nh c2', .slice a3' no c3', .int .i64 nx] ∧ boolsS.owns W.heap.size ((((w2.setCell ⟨dd, 0, none⟩ (.slice none 0 0)).setCell ⟨dd, 1, none⟩ (.slice a2 nh c2)).setCell ⟨dd, 2, none⟩ (.slice a3 no c3)).setCell ⟨dd, 3, none⟩ (.int .i64 nx)) [.slice a2' nh c2'] hd ∧ bksN.owns W.heap.size ((((w2.setCell ⟨dd, 0, none⟩ (.slice none 0 0)).setCell ⟨dd, 1, none⟩ (.slice a2 nh c2)).setCell ⟨dd, 2, none⟩ (.slice a3 no c3)).setCell ⟨dd, 3, none⟩ (.int .i64 nx)) [.slice a3' no c3'] op)) := fun dd a2 c2 a3 c3 w2 h1 h2 h3 h4 h5 => ⟨below_set4 h1 h2 _ _ _ _, h2, below_set4 h1 h2 _ _ _ _, a2, c2, a3, c3, (((h3.set 0 _).set 1 _).set 2 _).set 3 _, own_set4 boolsS (by decide) h4 h3 _ _ _ _, own_set4 bksN (by decide) h5 h3 _ _ _ _⟩
    refine AnyBut.begin (fun V => V.cell? ⟨w.heap.size, 1, none⟩ = some (.slice b nh d) ∧ V.cell? ⟨w.heap.size, 2, none⟩ = some (.slice e no f) ∧ V.cell? ⟨w.heap.size, 3, none⟩ = some (.int .i64 nx)) 1000 (by kernel_rfl) ?_
    have hSS := HS.out W.drew (Below.refl _ W).drew
    refine tx 0 5 hSS ?_
    simp only [ua, ub, uc, ud]
    refine tx 1 6 hSS ?_
    simp only [ua, ub, uc, ud]
    refine tx 3 8 hSS ?_
    simp only [ua, ub, uc, ud]
    refine tx 4 9 hSS ?_
    simp only [ua, ub, uc, ud]
    refine tx 6 11 hSS ?_
    simp only [ua, ub, uc, ud]
    refine tx 7 12 hSS ?_
    simp only [ua, ub, uc, ud]
    clear hSS
    refine AnyBut.two (i := 2) (j := 9) (by kernel_rfl) rfl rfl (fun K hK => ?_) (fun K hK => ?_)
    · go_simp
      refine Calls.mono (HC1.out W.drew (Below.refl _ W).drew) ?_
      rintro e1 w1 ⟨⟨v1, rfl, ho1⟩, hb1⟩
      dsimp only
      have hb1o := hb1
      have hb1 : Below W.heap.size W w1 := ((Below.refl W.heap.size W).drew).trans (hb1.mono (Nat.le_refl _))
      refine hK.out _ _ (HS.out w1 hb1) ?_
      clear hK
      obtain ⟨a2, c2, hv1, -⟩ := Leaf.row_len (L := bL) (ht := Try.underlying23) (hc := cells23) (boolsS.olies ho1)
      obtain rfl : v1 = _ := by simpa using hv1
      rw [← HN.out.2.1] at ho1 ⊢
      refine AnyBut.two (i := 5) (j := 9) (by kernel_rfl) rfl rfl (fun K hK => ?_) (fun K hK => ?_)
      · go_simp
        refine Calls.mono (HC2.out w1 hb1) ?_
        rintro e2 w2 ⟨⟨v2, rfl, ho2⟩, hb2⟩
        dsimp only
        have hb2o := hb2
        have hb2 : Below W.heap.size W w2 := (hb1).trans (hb2.mono (hb1).size)
        refine hK.out _ _ (HS.out w2 hb2) ?_
        clear hK
        obtain ⟨a3, c3, _, hv2, -⟩ := Shape.list_own (S := bkN) (ht := Try.underlying29) (hc := cells29) ho2
        obtain rfl : v2 = _ := by simpa using hv2
        rw [← HN.out.2.2] at ho2 ⊢
        refine tx 8 13 (HS.out w2 hb2) ?_
        simp only [ua, ub, uc, ud]
        refine AnyBut.step (i := 9) (by kernel_rfl) rfl (fun K hK => ?_)
        go_simp
        refine hK.out _ _ (HS.out _ (hb2.alloc hb2.size _)) ?_
        clear hK
        refine AnyBut.step (i := 10) (by kernel_rfl) rfl (fun K hK => ?_)
        go_simp
        refine hK.out _ _ (HS.out _ (hb2.alloc hb2.size _)) ?_
        clear hK
        refine AnyBut.done (by kernel_rfl) ?_
        refine hMt _ _ (Go.Met.intro (hJ _ _ ?_))
        (repeat (refine Exists.intro ?_ ?_; rotate_left 1))
        refine ⟨?rel1, ?fr1⟩
        case fr1 => rfl
        case rel1 => exact ⟨_, rfl, hb2.size, hb2.alloc hb2.size _, _, _, _, _, Box.new _ _ _, boolsS.obelow (boolsS.obelow ho1 hb2o) ((Below.refl _ _).alloc (Nat.le_refl _) _), bksN.obelow (bksN.oweaken ho2 hb1.size) ((Below.refl _ _).alloc (Nat.le_refl _) _)⟩
      · go_simp
        obtain ⟨Z, hZ⟩ : ∃ Z, Z = w1.alloc (.cells #[.slice none 0 0, .slice none 0 0, .slice none 0 0, .int .i64 0] 31) := ⟨_, rfl⟩
        have hbz : Below W.heap.size W Z := by rw [hZ]; exact hb1.alloc hb1.size _
        have hBz : Box Z w1.heap.size 31 #[.slice none 0 0, .slice none 0 0, .slice none 0 0, .int .i64 0] := by rw [hZ]; exact Box.new _ _ _
        rw [← hZ]
        refine hK.out _ _ (HS.out Z hbz) ?_
        clear hK
        have hoz := boolsS.obelow ho1 (show Below w1.heap.size w1 Z by rw [hZ]; exact (Below.refl _ _).alloc (Nat.le_refl _) _)
        clear hZ
        refine AnyBut.step (i := 5) (by kernel_rfl) rfl (fun K hK => ?_)
        go_simp
        refine Calls.mono (HC2.out Z hbz) ?_
        rintro e2 w2 ⟨⟨v2, rfl, ho2⟩, hb2⟩
        dsimp only
        have hb2o := hb2
        have hb2 : Below W.heap.size W w2 := (hbz).trans (hb2.mono (hbz).size)
        refine hK.out _ _ (HS.out w2 hb2) ?_
        clear hK
        obtain ⟨a3, c3, _, hv2, -⟩ := Shape.list_own (S := bkN) (ht := Try.underlying29) (hc := cells29) ho2
        obtain rfl : v2 = _ := by simpa using hv2
        rw [← HN.out.2.2] at ho2 ⊢
        have hSS := HS.out w2 hb2
        refine tx 8 13 hSS ?_
        simp only [ua, ub, uc, ud]
        obtain ⟨z0, z1, z2, z3, y0, y1, y2, y3⟩ := (hBz.below hb2o hBz.lt).four
        have HQ : Hid _ := HREL.out w1.heap.size a2 c2 a3 c3 w2 hb2 (hb1.size) (hBz.below hb2o hBz.lt) (boolsS.obelow hoz hb2o) (bksN.oweaken ho2 hbz.size)
        refine AnyBut.step (i := 10) (by kernel_rfl) rfl (fun K hK => ?_)
        go_simp
        refine hK.out _ _ (HS.out _ HQ.out.1) ?_
        clear hK
        refine AnyBut.done (by kernel_rfl) ?_
        refine hMt _ _ (Go.Met.intro (hJ _ _ ?_))
        (repeat (refine Exists.intro ?_ ?_; rotate_left 1))
        refine ⟨?rel11, ?fr11⟩
        case fr11 => rfl
        case rel11 => exact ⟨_, rfl, HQ.out.2⟩
    · go_simp
      obtain ⟨Z, hZ⟩ : ∃ Z, Z = (W.alloc (.cells #[.slice none 0 0, .slice none 0 0, .slice none 0 0, .int .i64 0] 31)).drew := ⟨_, rfl⟩
      have hbz : Below W.heap.size W Z := by rw [hZ]; exact ((Below.refl _ W).alloc (Nat.le_refl _) _).drew
      have hBz : Box Z W.heap.size 31 #[.slice none 0 0, .slice none 0 0, .slice none 0 0, .int .i64 0] := by rw [hZ]; exact Box.drew (Box.new _ _ _)
      rw [← hZ]
      refine hK.out _ _ (HS.out Z hbz) ?_
      clear hK
      clear hZ
      refine AnyBut.step (i := 2) (by kernel_rfl) rfl (fun K hK => ?_)
      go_simp
      refine Calls.mono (HC1.out Z hbz) ?_
      rintro e1 w1 ⟨⟨v1, rfl, ho1⟩, hb1⟩
      dsimp only
      have hb1o := hb1
      have hb1 : Below W.heap.size W w1 := (hbz).trans (hb1.mono (hbz).size)
      refine hK.out _ _ (HS.out w1 hb1) ?_
      clear hK
      obtain ⟨a2, c2, hv1, -⟩ := Leaf.row_len (L := bL) (ht := Try.underlying23) (hc := cells23) (boolsS.olies ho1)
      obtain rfl : v1 = _ := by simpa using hv1
      rw [← HN.out.2.1] at ho1 ⊢
      refine AnyBut.step (i := 5) (by kernel_rfl) rfl (fun K hK => ?_)
      go_simp
      refine Calls.mono (HC2.out w1 hb1) ?_
      rintro e2 w2 ⟨⟨v2, rfl, ho2⟩, hb2⟩
      dsimp only
      have hb2o := hb2
      have hb2 : Below W.heap.size W w2 := (hb1).trans (hb2.mono (hb1).size)
      refine hK.out _ _ (HS.out w2 hb2) ?_
      clear hK
      obtain ⟨a3, c3, _, hv2, -⟩ := Shape.list_own (S := bkN) (ht := Try.underlying29) (hc := cells29) ho2
      obtain rfl : v2 = _ := by simpa using hv2
      rw [← HN.out.2.2] at ho2 ⊢
      have hSS := HS.out w2 hb2
      refine tx 8 13 hSS ?_
      simp only [ua, ub, uc, ud]
      obtain ⟨z0, z1, z2, z3, y0, y1, y2, y3⟩ := ((hBz.below hb1o hBz.lt).below hb2o (by have := hBz.lt; have := hb1o.size; omega)).four
      have HQ : Hid _ := HREL.out W.heap.size a2 c2 a3 c3 w2 hb2 (Nat.le_refl _) ((hBz.below hb1o hBz.lt).below hb2o (by have := hBz.lt; have := hb1o.size; omega)) (boolsS.oweaken (boolsS.obelow ho1 hb2o) hbz.size) (bksN.oweaken ho2 hb1.size)
      refine AnyBut.step (i := 10) (by kernel_rfl) rfl (fun K hK => ?_)
      go_simp
      refine hK.out _ _ (HS.out _ HQ.out.1) ?_
      clear hK
      refine AnyBut.done (by kernel_rfl) ?_
      refine hMt _ _ (Go.Met.intro (hJ _ _ ?_))
      (repeat (refine Exists.intro ?_ ?_; rotate_left 1))
      refine ⟨?rel12, ?fr12⟩
      case fr12 => rfl
      case rel12 => exact ⟨_, rfl, HQ.out.2⟩
  case rest =>
    obtain ⟨dd, rfl, HXX⟩ := hcut
    obtain ⟨wx, hwx⟩ : ∃ U, U = wc := ⟨_, rfl⟩
    rw [← hwx] at HXX ⊢
    clear hwx
    obtain ⟨hdd, hbx, a2, c2, a3, c3, hBx, ho1, ho2⟩ := HXX.out
    have HDD : Hid (W.heap.size ≤ dd) := hdd
    have HJ0 : Hid (Below W.heap.size W wx ∧ Box wx dd 31 #[.slice none 0 0, .slice a2 nh c2, .slice a3 no c3, .int .i64 nx] ∧ boolsS.owns W.heap.size wx [.slice a2 nh c2] hd ∧ bksN.owns W.heap.size wx [.slice a3 no c3] op) := ⟨hbx, hBx, ho1, ho2⟩
    clear HXX hdd hbx hBx ho1 ho2 HC1 HC2 HS
    have hl1 := run_len Try.underlying22 a n c
    go_wp2
    go_loopw [4] (fun i wr => ∃ k : Nat, k ≤ n ∧ i = .int .i64 k ∧ Hid (Below W.heap.size W wr ∧ ∃ v, sgsN.owns W.heap.size wr [v] (l.take k) ∧ Box wr dd 31 #[v, .slice a2 nh c2, .slice a3 no c3, .int .i64 nx] ∧ boolsS.owns W.heap.size wr [.slice a2 nh c2] hd ∧ bksN.owns W.heap.size wr [.slice a3 no c3] op)) (fun i _ => n - (intOf i).toNat)
    case atStart => exact ⟨0, Nat.zero_le _, rfl, HJ0.out.1, _, Shape.list_nil sgN 28 Try.underlying28 cells28 _ _, HJ0.out.2⟩
    case round =>
      obtain ⟨k, hk, rfl, HJ⟩ := hrel
      obtain ⟨hbr, v, hv, hBr, hb1, hb2⟩ := HJ.out
      obtain ⟨av, cv, _, hvv, -⟩ := Shape.list_own (S := sgN) (ht := Try.underlying28) (hc := cells28) hv
      obtain rfl : v = .slice av (l.take k).length cv := (List.cons.inj hvv).1
      have hW2 := HW.out.2.1
      have hTL : (l.take k).length = k := by have := HN.out.1; rw [List.length_take]; omega
      rw [hTL] at hv hBr
      by_cases hlt : k < n
      · obtain ⟨p, hp⟩ := get_lt (l := l) (k := k) (by rw [← HN.out.1]; exact hlt)
        have HTK : Hid (l.take (k + 1) = l.take k ++ [p] ∧ (l.take k).length = k) := ⟨take_snoc hp, hTL⟩
        obtain ⟨pb, po, x, cap, hix, c0, c1, hL, _⟩ := sgs_atR HA.out.1 k p hp
        have HS : Hid (∀ V, Below wr.heap.size wr V → V.cell? ⟨dd, 0, none⟩ = some (.slice av k cv) ∧ V.cell? ⟨w.heap.size, 0, none⟩ = some (.slice a n c) ∧ V.cell? ⟨pb, po, none⟩ = some (.int .i64 p.1) ∧ V.cell? ⟨pb, po + 1, none⟩ = some (.slice x p.2.length cap)) := fun V hV => by
          have h1 := below_any hbr hV
          have h2 := below_any HW.out.1 h1
          exact ⟨(hBr.below hV hBr.lt).four.1, ((HW.out.2.2 V h1).1).four.1, by rw [h2.cell (cell_lt c0)]; exact c0, by rw [h2.cell (cell_lt c1)]; exact c1⟩
        have HC : Hid (Calls Try.prog 28 #[.agg #[.int .i64 p.1, .slice x p.2.length cap]] wr.drew fun e w' => (∃ us', e = .returned (.agg us'.toArray) ∧ sgN.owns wr.heap.size w' us' p) ∧ Below wr.heap.size wr w') := (of_any n0 [.int .i64 p.1, .slice x p.2.length cap] p wr.drew (sgR.below (sgR.below hL (below_any HW.out.1 hbr)) (Below.refl _ _).drew) (HA.out.2.1 p (List.mem_of_getElem? hp))).mono fun e w' h => ⟨h.1, ((Below.refl _ wr).drew).trans h.2⟩
        have HJ2 : Hid (Below W.heap.size W wr ∧ sgsN.owns W.heap.size wr [.slice av k cv] (l.take k) ∧ Box wr dd 31 #[.slice av k cv, .slice a2 nh c2, .slice a3 no c3, .int .i64 nx] ∧ boolsS.owns W.heap.size wr [.slice a2 nh c2] hd ∧ bksN.owns W.heap.size wr [.slice a3 no c3] op) := ⟨hbr, hv, hBr, hb1, hb2⟩
        obtain ⟨m, hm⟩ : ∃ m, m = p.2.length := ⟨_, rfl⟩
        rw [← hm] at HS HC
        have hki : (k : Int) < (n : Int) := by omega
        obtain ⟨t0, -⟩ := ((HW.out.2.2 wr hbr).1).four
        have HSW : Hid (∀ V, Below w.heap.size w V → V.cell? ⟨pb, po, none⟩ = some (.int .i64 p.1) ∧ V.cell? ⟨pb, po + 1, none⟩ = some (.slice x m cap)) := fun V h2 => ⟨by rw [h2.cell (cell_lt c0)]; exact c0, by rw [h2.cell (cell_lt c1)]; rw [hm]; exact c1⟩
        clear hp c0 c1 hL hbr hv hBr hb1 hb2 HJ hm hTL
        go_upto_region 5 with fail
        clear t0
        refine AnyBut.begin (fun V => V.cell? ⟨dd, 0, none⟩ = some (.slice av k cv) ∧ V.cell? ⟨w.heap.size, 0, none⟩ = some (.slice a n c) ∧ V.cell? ⟨pb, po, none⟩ = some (.int .i64 p.1) ∧ V.cell? ⟨pb, po + 1, none⟩ = some (.slice x m cap)) 11 (by kernel_rfl) ?_
        have hSS := HS.out wr.drew (Below.refl _ wr).drew
        refine tt 0 21 ?_ hSS ?_ ?_; rotate_left
        · intro W9 hSW; (try dsimp only at hSW); go_simp; try with_reducible rfl
        simp only [ua, ub, uc, ud]
        refine tt 1 22 ?_ hSS ?_ ?_; rotate_left
        · intro W9 hSW; (try dsimp only at hSW); go_simp; try with_reducible rfl
        simp only [ua, ub, uc, ud]
        refine tt 2 23 ?_ hSS ?_ ?_; rotate_left
        · intro W9 hSW; (try dsimp only at hSW); go_simp; try with_reducible rfl
        simp only [ua, ub, uc, ud]
        refine tt 3 24 ?_ hSS ?_ ?_; rotate_left
        · intro W9 hSW; (try dsimp only at hSW); go_simp; try with_reducible rfl
        simp only [ua, ub, uc, ud]
        refine tt 4 25 ?_ hSS ?_ ?_; rotate_left
        · intro W9 hSW; (try dsimp only at hSW); go_simp; try with_reducible rfl
        simp only [ua, ub, uc, ud]
        refine tt 5 26 ?_ hSS ?_ ?_; rotate_left
        · intro W9 hSW; (try dsimp only at hSW); go_simp; try with_reducible rfl
        simp only [ua, ub, uc, ud]
        refine tt 6 27 ?_ hSS ?_ ?_; rotate_left
        · intro W9 hSW; (try dsimp only at hSW); go_simp; try with_reducible rfl
        simp only [ua, ub, uc, ud]
        refine AnyBut.step (i := 7) (by kernel_rfl) rfl (fun K hK => ?_)
        go_simp
        refine Calls.mono HC.out ?_
        rintro e5 w5 ⟨⟨us5, rfl, ho5⟩, hb5⟩
        dsimp only
        refine hK.out _ _ (HS.out w5 hb5) ?_
        clear hK hSS
        obtain ⟨a5, c5, rfl, ho5b, hI5⟩ := sg_ownN ho5
        refine AnyBut.step (i := 8) (by kernel_rfl) rfl (fun K hK => ?_)
        go_simp
        have hb6 : Below wr.heap.size wr (w5.alloc (.cells #[.int .i64 p.1, .slice a5 p.2.length c5] 45)) := hb5.alloc hb5.size _
        refine hK.out _ _ (HS.out _ hb6) ?_
        clear hK
        obtain ⟨i3, hi3, hz30, hz31, hz32⟩ := info_parts Try.info45
        have hbw5 := HJ2.out.1.trans (hb5.mono HJ2.out.1.size)
        obtain ⟨g7, c7, w7, hrun, ho7, hg7, hs7⟩ := list_append sgN 28 Try.underlying28 cells28 hi3 hz30 hz31 hz32 rfl (by decide) (by decide) (sgsN.obelow HJ2.out.2.1 hb5) (sgN.oweaken ho5 HJ2.out.1.size) hbw5.size (by rw [HTK.out.2]; omega) (by rw [HTK.out.2]; unfold maxLen; omega)
        rw [HTK.out.2] at hrun ho7
        rw [← HTK.out.1] at ho7
        obtain ⟨_, hrow⟩ : ∃ xs, w5.ownsRow W.heap.size 45 2 (.slice av k cv) (l.take k).length xs := by
          obtain ⟨v9, vss, hv9, hown, _⟩ := sgsN.obelow HJ2.out.2.1 hb5
          obtain rfl : Value.slice av k cv = v9 := by simpa using hv9
          exact ⟨_, hown⟩
        have hx7 : Box w7 dd 31 #[.slice av k cv, .slice a2 nh c2, .slice a3 no c3, .int .i64 nx] := (HJ2.out.2.2.1.below hb5 HJ2.out.2.2.1.lt).grown hg7 ((HJ2.out.2.2.1.below hb5 HJ2.out.2.2.1.lt).apart hrow (by decide))
        have hbw7 : Below W.heap.size W w7 := below_row hbw5 hrow hg7 hbw5.size
        have hb17 := boolsS.ogrown (boolsS.obelow HJ2.out.2.2.2.1 hb5) hg7 (.own hrow (by decide))
        have hb27 := bksN.ogrown (bksN.obelow HJ2.out.2.2.2.2 hb5) hg7 (.own hrow (by decide))
        have hS7 : w7.cell? ⟨dd, 0, none⟩ = some (.slice av k cv) ∧ w7.cell? ⟨w.heap.size, 0, none⟩ = some (.slice a n c) ∧ w7.cell? ⟨pb, po, none⟩ = some (.int .i64 p.1) ∧ w7.cell? ⟨pb, po + 1, none⟩ = some (.slice x m cap) := by
          exact ⟨hx7.four.1, ((HW.out.2.2 w7 hbw7).1).four.1, (HSW.out w7 (below_any HW.out.1 hbw7)).1, (HSW.out w7 (below_any HW.out.1 hbw7)).2⟩
        refine AnyBut.step (i := 9) (by kernel_rfl) rfl (fun K hK => ?_)
        refine step_app rfl _ _ 28 rfl rfl rfl rfl hrun ?_
        refine hK.out _ _ hS7 ?_
        clear hK
        have hSS := hS7
        refine tt 10 31 ?_ hSS ?_ ?_; rotate_left
        · intro W9 hSW; (try dsimp only at hSW); go_simp; try with_reducible rfl
        obtain ⟨z0, z1, z2, z3, j0, j1, j2, j3⟩ := hx7.four
        obtain ⟨Y, hY⟩ : ∃ Y, Y = w7.setCell ⟨dd, 0, none⟩ (.slice (some ⟨g7, 0, none⟩) (k + 1) c7) := ⟨_, rfl⟩
        have HF : Hid (Below W.heap.size W Y ∧ ∃ v, sgsN.owns W.heap.size Y [v] (l.take (k + 1)) ∧ Box Y dd 31 #[v, .slice a2 nh c2, .slice a3 no c3, .int .i64 nx] ∧ boolsS.owns W.heap.size Y [.slice a2 nh c2] hd ∧ bksN.owns W.heap.size Y [.slice a3 no c3] op) := by
          rw [hY]
          exact ⟨hbw7.setCell (p := ⟨dd, 0, none⟩) HDD.out _, _, sgsN.ogrown ho7 (grown_set _ _ _ _) (hx7.clear (by decide)), hx7.set 0 _, boolsS.ogrown hb17 (grown_set _ _ _ _) (hx7.clear (by decide)), bksN.ogrown hb27 (grown_set _ _ _ _) (hx7.clear (by decide))⟩
        refine AnyBut.last (by kernel_rfl) (by kernel_rfl) rfl (fun K hK => ?_)
        go_simp
        rw [← hY]
        refine hK.out _ _ ?_
        clear hK hSS hS7 hx7 hbw7 hb17 hb27 hrow ho7 hg7 hs7 hrun hbw5 hi3 hz30 hz31 hz32 hb6 ho5 ho5b hI5 hb5 hY z0 z1 z2 z3 j0 j1 j2 j3 hix
        go_wp2
        go_roundw
        case rel => exact ⟨k + 1, by omega, by go_num, HF.out⟩
        case measure => simp [intOf]; omega
      · obtain rfl : k = n := by omega
        have hT : l.take k = l := by rw [HN.out.1]; simp
        rw [hT] at hv
        have HE : Hid (stN.owns W.heap.size wr [.slice av k cv, .slice a2 nh c2, .slice a3 no c3, .int .i64 nx] (l, hd, op, nx) ∧ Below w.heap.size w wr) := ⟨st_omkN (s := (l, hd, op, nx)) hv hb1 hb2 HA.out.2.2, below_any HW.out.1 hbr⟩
        obtain ⟨t0, -⟩ := ((HW.out.2.2 wr hbr).1).four
        obtain ⟨y0, y1, y2, y3, j0, j1, j2, j3⟩ := ((HW.out.2.2 wr hbr).2).four
        obtain ⟨z0, z1, z2, z3, -⟩ := hBr.four
        have HSZ : Hid (W.heap.size = w.heap.size + 2) := hW2
        clear hv hBr hb1 hb2 HJ hbr hW2 hT hTL
        go_wp2
        refine bodyPost_ret (v := .agg #[.slice av k cv, .slice a2 nh c2, .slice a3 no c3, .int .i64 nx]) (by simp [results, Try.results9, go_sem, *]) rfl ?_
        exact HPo.out [_, _, _, _] _ (stN.oweaken (n := W.heap.size) (stN.osame HE.out.1 (.set4 (by have := HSZ.out; omega))) HW.out.1.size) (below_set4 HE.out.2 (by omega) _ _ _ _)

end Go.Proofs.Ytkpckadicjdieab
