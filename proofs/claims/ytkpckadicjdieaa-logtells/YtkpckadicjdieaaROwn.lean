/-
  The document's store in memory of its own.
-/
import Derived.Test.YtkpckadicjdieaaROwnB
import Derived.Test.YtkpckadicjdieaaRLCheck
import Derived.Test.YtkpckadicjdieaaLLaw1
namespace Go.Proofs.Ytkpckadicjdieaa
open Go.RowKit

theorem rown_set4 {α : Type} (S : Shape α) (hid : 26 ∉ S.ids) {n B : Nat} {w : World} {us : List Value} {x : α} {cs : Array Value} (h : S.owns n w us x) (hB : Box w B 26 cs) (u v y z : Value) : S.owns n ((((w.setCell ⟨B, 0, none⟩ u).setCell ⟨B, 1, none⟩ v).setCell ⟨B, 2, none⟩ y).setCell ⟨B, 3, none⟩ z) us x :=
  S.ogrown (S.ogrown (S.ogrown (S.ogrown h (grown_set w B 0 u) (hB.clear hid)) (grown_set _ B 1 v) ((hB.set 0 u).clear hid)) (grown_set _ B 2 y) (((hB.set 0 u).set 1 v).clear hid)) (grown_set _ B 3 z) ((((hB.set 0 u).set 1 v).set 2 y).clear hid)
/-- The document's store in memory of its own, its open blocks ahead of all else. -/
def SepR (n : Nat) (w : World) (us : List Value) (s : St) : Prop := ∃ v1 v2 v3 B, us = [v1, v2, v3, .int .i64 s.2.2.2] ∧ n ≤ B ∧ B ≤ w.heap.size ∧ sgsR.owns B w [v1] s.1 ∧ boolsS.owns B w [v2] s.2.1 ∧ bksR.owns n w [v3] s.2.2.1 ∧ (∀ g, v3.ownBlock = some g → g < B) ∧ I64 s.2.2.2
theorem SepR.owns {n : Nat} {w : World} {us : List Value} {s : St} (h : SepR n w us s) : stR.owns n w us s := by
  obtain ⟨v1, v2, v3, B, rfl, h1, _, h2, h3, h4, _, h5⟩ := h
  exact st_omkR (sgsR.oweaken h2 h1) (boolsS.oweaken h3 h1) h4 h5

theorem bools_app (n0 : Nat) (v : Value) (l : List Bool) (w : World) (h : boolsS.lies n0 w [v] l) (hs : l.length ≤ 140737488355328) :
    ∃ v' w', (Builtin.append_ #[23, 23] 23 #[.slice none 0 0, v]).run Try.prog w = .ok v' w' ∧ boolsS.owns w.heap.size w' [v'] l ∧ Below w.heap.size w w' := by
  obtain ⟨i0, hi, hz0, hz1, hz2⟩ := info_parts Try.info4
  obtain ⟨v', hv, hC, _⟩ := h
  obtain rfl : v = v' := by simpa using hv
  obtain ⟨hl, h | ⟨x, cap, rfl, hcap, hm, _, hc⟩⟩ := hC
  · obtain ⟨rfl, h0⟩ := h
    obtain rfl := List.eq_nil_of_length_eq_zero h0
    exact ⟨_, w, run_append_owned_none (P := Try.prog) (w := w) w.heap.size 23 23 4 i0 1 Try.underlying23 hi (.slice none 0 0) 0 [] (World.ownsRow_nil _ _ _ _), ⟨_, rfl, World.ownsRow_nil _ _ _ _, fun _ _ => trivial⟩, Below.refl _ _⟩
  · have hone : ∀ u ∈ l.map bL.val, u.oneCell' = true := fun u hu => by
      obtain ⟨y, _, rfl⟩ := List.mem_map.1 hu
      rfl
    obtain ⟨v', w', h1, h2, h3, _⟩ := run_append_own (P := Try.prog) w w.heap.size 23 23 4 i0 (.bool false) 1 1 Try.underlying23 hi hz0 hz1 hz2 rfl (by decide) (.slice none 0 0) 0 [] (World.ownsRow_nil _ _ _ _) x l.length cap (l.map bL.val) (by simp) hc hone (by omega) (by omega) (Nat.le_refl _)
    exact ⟨v', w', h1, ⟨_, rfl, (show w'.ownsRow w.heap.size 4 1 v' l.length (l.map bL.val) by simpa using h2), fun _ _ => trivial⟩, (Below.refl _ _).grown h3 (Nat.le_refl _) (fun _ h => by cases h)⟩

set_option maxRecDepth 100000 in
set_option maxHeartbeats 8000000 in
theorem rownL_any (n0 : Nat) (us : List Value) (s : St) (w : World) (h : stR.lies n0 w us s) (hf : FitsL s) :
    Calls Try.prog 45 #[.agg us.toArray] w fun e w' => (∃ us', e = .returned (.agg us'.toArray) ∧ SepR (w.heap.size + 2) w' us' s) ∧ Below w.heap.size w w' := by
  obtain ⟨a, c, b, d, e, f, rfl, hS, hH, hO, hN, m1, m2, m3⟩ := st_viewR h
  obtain ⟨l, hd, op, nx⟩ := s
  simp only at hS hH hO hN m1 m2 m3 hf ⊢
  obtain ⟨⟨f1, f2⟩, f3, f4, f5⟩ := hf
  simp only at f1 f2 f3 f4 f5
  obtain ⟨post, hpost⟩ : ∃ post : Ending → World → Prop, post = fun e w' => (∃ us', e = .returned (.agg us'.toArray) ∧ SepR (w.heap.size + 2) w' us' (l, hd, op, nx)) ∧ Below w.heap.size w w' := ⟨_, rfl⟩
  have HPo : Hid (∀ us' w', SepR (w.heap.size + 2) w' us' (l, hd, op, nx) → Below w.heap.size w w' → post (.returned (.agg us'.toArray)) w') := fun v' w' h1 h2 => by rw [hpost]; exact ⟨⟨v', rfl, h1⟩, h2⟩
  rw [← hpost]
  clear hpost
  obtain ⟨n, hn⟩ : ∃ n, n = l.length := ⟨_, rfl⟩
  obtain ⟨nh, hnh⟩ : ∃ n, n = hd.length := ⟨_, rfl⟩
  obtain ⟨no, hno⟩ : ∃ n, n = op.length := ⟨_, rfl⟩
  rw [← hn, ← hnh, ← hno]
  have hnb : n * 32 ≤ 140737488351232 := by rw [hn]; exact f1
  obtain ⟨W, hW⟩ : ∃ W, W = (w.alloc (.cells #[.slice a n c, .slice b nh d, .slice e no f, .int .i64 nx] 26)).alloc (.cells #[.slice none 0 0, .slice none 0 0, .slice none 0 0, .int .i64 0] 26) := ⟨_, rfl⟩
  have hbW : Below w.heap.size w W := by rw [hW]; exact ((Below.refl _ w).alloc (Nat.le_refl _) _).alloc (by simp) _
  have hB1 : Box W w.heap.size 26 #[.slice a n c, .slice b nh d, .slice e no f, .int .i64 nx] := by rw [hW]; exact (Box.new _ _ _).alloc _
  have hB2 : Box W (w.heap.size + 1) 26 #[.slice none 0 0, .slice none 0 0, .slice none 0 0, .int .i64 0] := by
    rw [hW]
    have := Box.new (w.alloc (.cells #[.slice a n c, .slice b nh d, .slice e no f, .int .i64 nx] 26)) 26 #[.slice none 0 0, .slice none 0 0, .slice none 0 0, .int .i64 0]
    rwa [World.size_alloc] at this
  have HN : Hid (n = l.length ∧ nh = hd.length ∧ no = op.length) := ⟨hn, hnh, hno⟩
  have HW : Hid (Below w.heap.size w W ∧ W.heap.size = w.heap.size + 2 ∧ ∀ V, Below W.heap.size W V → Box V w.heap.size 26 #[.slice a n c, .slice b nh d, .slice e no f, .int .i64 nx] ∧ Box V (w.heap.size + 1) 26 #[.slice none 0 0, .slice none 0 0, .slice none 0 0, .int .i64 0]) := ⟨hbW, by rw [hW]; simp, fun V hV => ⟨hB1.below hV hB1.lt, hB2.below hV hB2.lt⟩⟩
  have HA : Hid (sgsR.lies n0 w [.slice a n c] l ∧ (∀ p ∈ l, Fits p) ∧ I64 nx ∧ boolsS.lies n0 w [.slice b nh d] hd ∧ nh ≤ 140737488351232) := ⟨by rw [hn]; exact hS, f2, hN, by rw [hnh]; exact hH, by omega⟩
  have HC2 : Hid (∀ V, Below W.heap.size W V → Calls Try.prog 73 #[.slice e no f] V fun e w' => (∃ v', e = .returned v' ∧ bksR.owns V.heap.size w' [v'] op) ∧ Below V.heap.size V w') := fun V hV => rown_any n0 (.slice e no f) op V (bksR.below (by rw [hno]; exact hO) (below_any hbW hV)) ⟨f4, f5⟩
  have HS : Hid (∀ V, Below W.heap.size W V → V.cell? ⟨w.heap.size, 2, none⟩ = some (.slice e no f) ∧ V.cell? ⟨w.heap.size, 3, none⟩ = some (.int .i64 nx)) := fun V hV => by
    have h1 := (hB1.below hV hB1.lt).four
    exact ⟨h1.2.2.1, h1.2.2.2.1⟩
  clear h hS hH hO hN m1 m2 m3 hbW hB1 hB2 hn hnh hno f1 f2 f3 f4 f5
  go_enter Try.func45, Try.ntmps45
  go_upto_region 1 with fail
  rw [← hW]
  clear hW
  go_cut [3] (fun u wx => ∃ dd, u = .pointer (some ⟨dd, 0, none⟩) ∧ Hid (W.heap.size ≤ dd ∧ Below W.heap.size W wx ∧ ∃ a3 c3, Box wx dd 26 #[.slice none 0 0, .slice none 0 0, .slice a3 no c3, .int .i64 nx] ∧ bksR.owns W.heap.size wx [.slice a3 no c3] op))
  case first =>
    rename_i J K1 hJ hMt
    have HREL : Hid (∀ dd a3 c3 (w1 : World), Below W.heap.size W w1 → W.heap.size ≤ dd → Box w1 dd 26 #[.slice none 0 0, .slice none 0 0, .slice none 0 0, .int .i64 0] → bksR.owns W.heap.size w1 [.slice a3 no c3] op → Below W.heap.size W ((((w1.setCell ⟨dd, 0, none⟩ (.slice none 0 0)).setCell ⟨dd, 1, none⟩ (.slice none 0 0)).setCell ⟨dd, 2, none⟩ (.slice a3 no c3)).setCell ⟨dd, 3, none⟩ (.int .i64 nx)) ∧ Hid (W.heap.size ≤ dd ∧ Below W.heap.size W ((((w1.setCell ⟨dd, 0, none⟩ (.slice none 0 0)).setCell ⟨dd, 1, none⟩ (.slice none 0 0)).setCell ⟨dd, 2, none⟩ (.slice a3 no c3)).setCell ⟨dd, 3, none⟩ (.int .i64 nx)) ∧ ∃ a3' c3', Box ((((w1.setCell ⟨dd, 0, none⟩ (.slice none 0 0)).setCell ⟨dd, 1, none⟩ (.slice none 0 0)).setCell ⟨dd, 2, none⟩ (.slice a3 no c3)).setCell ⟨dd, 3, none⟩ (.int .i64 nx)) dd 26 #[.slice none 0 0, .slice none 0 0, .slice a3' no c3', .int .i64 nx] ∧ bksR.owns W.heap.size ((((w1.setCell ⟨dd, 0, none⟩ (.slice none 0 0)).setCell ⟨dd, 1, none⟩ (.slice none 0 0)).setCell ⟨dd, 2, none⟩ (.slice a3 no c3)).setCell ⟨dd, 3, none⟩ (.int .i64 nx)) [.slice a3' no c3'] op)) := fun dd a3 c3 w1 h1 h2 h3 h5 => ⟨below_set4 h1 h2 _ _ _ _, h2, below_set4 h1 h2 _ _ _ _, a3, c3, (((h3.set 0 _).set 1 _).set 2 _).set 3 _, rown_set4 bksR (by decide) h5 h3 _ _ _ _⟩
    refine AnyBut.begin (fun V => V.cell? ⟨w.heap.size, 2, none⟩ = some (.slice e no f) ∧ V.cell? ⟨w.heap.size, 3, none⟩ = some (.int .i64 nx)) 1000 (by kernel_rfl) ?_
    have hSS := HS.out W.drew (Below.refl _ W).drew
    refine tx 0 5 hSS ?_
    simp only [ua, ub, uc, ud]
    refine tx 1 6 hSS ?_
    simp only [ua, ub, uc, ud]
    refine tx 2 7 hSS ?_
    simp only [ua, ub, uc, ud]
    refine tx 3 8 hSS ?_
    simp only [ua, ub, uc, ud]
    clear hSS
    refine AnyBut.two (i := 4) (j := 6) (by kernel_rfl) rfl rfl (fun K hK => ?_) (fun K hK => ?_)
    · go_simp
      refine Calls.mono (HC2.out W.drew (Below.refl _ W).drew) ?_
      rintro e2 w2 ⟨⟨v2, rfl, ho2⟩, hb2⟩
      dsimp only
      have hb2 : Below W.heap.size W w2 := ((Below.refl W.heap.size W).drew).trans (hb2.mono (Nat.le_refl _))
      refine hK.out _ _ (HS.out w2 hb2) ?_
      clear hK
      obtain ⟨a3, c3, _, hv2, -⟩ := Shape.list_own (S := bkR) (ht := Try.underlying24) (hc := cells24) ho2
      obtain rfl : v2 = _ := by simpa using hv2
      rw [← HN.out.2.2] at ho2 ⊢
      have hSS := HS.out w2 hb2
      refine tx 5 10 hSS ?_
      simp only [ua, ub, uc, ud]
      refine AnyBut.step (i := 6) (by kernel_rfl) rfl (fun K hK => ?_)
      go_simp
      refine hK.out _ _ (HS.out _ (hb2.alloc hb2.size _)) ?_
      clear hK
      refine AnyBut.step (i := 7) (by kernel_rfl) rfl (fun K hK => ?_)
      go_simp
      refine hK.out _ _ (HS.out _ (hb2.alloc hb2.size _)) ?_
      clear hK
      refine AnyBut.done (by kernel_rfl) ?_
      refine hMt _ _ (Go.Met.intro (hJ _ _ ?_))
      (repeat (refine Exists.intro ?_ ?_; rotate_left 1))
      refine ⟨?rel1, ?fr1⟩
      case fr1 => rfl
      case rel1 => exact ⟨_, rfl, hb2.size, hb2.alloc hb2.size _, _, _, Box.new _ _ _, bksR.obelow ho2 ((Below.refl _ _).alloc (Nat.le_refl _) _)⟩
    · go_simp
      obtain ⟨Z, hZ⟩ : ∃ Z, Z = (W.alloc (.cells #[.slice none 0 0, .slice none 0 0, .slice none 0 0, .int .i64 0] 26)).drew := ⟨_, rfl⟩
      have hbz : Below W.heap.size W Z := by rw [hZ]; exact ((Below.refl _ W).alloc (Nat.le_refl _) _).drew
      have hBz : Box Z W.heap.size 26 #[.slice none 0 0, .slice none 0 0, .slice none 0 0, .int .i64 0] := by rw [hZ]; exact Box.drew (Box.new _ _ _)
      rw [← hZ]
      refine hK.out _ _ (HS.out Z hbz) ?_
      clear hK hZ
      refine AnyBut.step (i := 4) (by kernel_rfl) rfl (fun K hK => ?_)
      go_simp
      refine Calls.mono (HC2.out Z hbz) ?_
      rintro e2 w2 ⟨⟨v2, rfl, ho2⟩, hb2⟩
      dsimp only
      have hb2o := hb2
      have hb2 : Below W.heap.size W w2 := hbz.trans (hb2.mono hbz.size)
      refine hK.out _ _ (HS.out w2 hb2) ?_
      clear hK
      obtain ⟨a3, c3, _, hv2, -⟩ := Shape.list_own (S := bkR) (ht := Try.underlying24) (hc := cells24) ho2
      obtain rfl : v2 = _ := by simpa using hv2
      rw [← HN.out.2.2] at ho2 ⊢
      have hSS := HS.out w2 hb2
      refine tx 5 10 hSS ?_
      simp only [ua, ub, uc, ud]
      have hBz2 := hBz.below hb2o hBz.lt
      obtain ⟨z0, z1, z2, z3, y0, y1, y2, y3⟩ := hBz2.four
      have HQ : Hid _ := HREL.out W.heap.size a3 c3 w2 hb2 (Nat.le_refl _) hBz2 (bksR.oweaken ho2 hbz.size)
      refine AnyBut.step (i := 7) (by kernel_rfl) rfl (fun K hK => ?_)
      go_simp
      refine hK.out _ _ (HS.out _ HQ.out.1) ?_
      clear hK
      refine AnyBut.done (by kernel_rfl) ?_
      refine hMt _ _ (Go.Met.intro (hJ _ _ ?_))
      (repeat (refine Exists.intro ?_ ?_; rotate_left 1))
      refine ⟨?rel2, ?fr2⟩
      case fr2 => rfl
      case rel2 => exact ⟨_, rfl, HQ.out.2⟩
  case rest =>
    obtain ⟨dd, rfl, HXX⟩ := hcut
    obtain ⟨wx, hwx⟩ : ∃ U, U = wc := ⟨_, rfl⟩
    rw [← hwx] at HXX ⊢
    clear hwx
    obtain ⟨hdd, hbx, a3, c3, hBx, ho3⟩ := HXX.out
    have HDD : Hid (W.heap.size ≤ dd ∧ dd < wx.heap.size) := ⟨hdd, hBx.lt⟩
    have HOB : Hid (∀ g, (Value.slice a3 no c3).ownBlock = some g → g < wx.heap.size) := fun g hg => by
      obtain ⟨v9, vss, hv9, hown, _⟩ := ho3
      obtain rfl : Value.slice a3 no c3 = v9 := by simpa using hv9
      exact (hown.lt g hg).2
    have HXB : Hid (Below W.heap.size W wx ∧ Box wx dd 26 #[.slice none 0 0, .slice none 0 0, .slice a3 no c3, .int .i64 nx] ∧ bksR.owns W.heap.size wx [.slice a3 no c3] op) := ⟨hbx, hBx, ho3⟩
    obtain ⟨t0, t1, t2, t3, u0, u1, u2, u3⟩ := hBx.four
    obtain ⟨x0, x1, x2, x3, -⟩ := (HW.out.2.2 wx hbx).1.four
    clear HXX hdd hbx hBx ho3 HC2 HS
    have hl1 := run_len Try.underlying22 a n c
    obtain ⟨vb, w2, hrunb, hob, hbb⟩ := bools_app n0 (.slice b nh d) hd wx (boolsS.below HA.out.2.2.2.1 (below_any HW.out.1 HXB.out.1)) (by have := HA.out.2.2.2.2; have := HN.out.2.1; omega)
    obtain ⟨a2, c2, hvb, -⟩ := Leaf.row_len (L := bL) (ht := Try.underlying23) (hc := cells23) (boolsS.olies hob)
    obtain rfl : vb = .slice a2 hd.length c2 := (List.cons.inj hvb).1
    rw [← HN.out.2.1] at hrunb hob
    have hx2 := HXB.out.2.1.below hbb HXB.out.2.1.lt
    obtain ⟨s0', s1', s2', s3', j0, j1, j2, j3⟩ := hx2.four
    obtain ⟨Y, hY⟩ : ∃ Y, Y = w2.setCell ⟨dd, 1, none⟩ (.slice a2 nh c2) := ⟨_, rfl⟩
    have HJ0 : Hid (Below W.heap.size W Y ∧ wx.heap.size ≤ Y.heap.size ∧ Box Y dd 26 #[.slice none 0 0, .slice a2 nh c2, .slice a3 no c3, .int .i64 nx] ∧ boolsS.owns wx.heap.size Y [.slice a2 nh c2] hd ∧ bksR.owns W.heap.size Y [.slice a3 no c3] op) := by
      rw [hY]
      exact ⟨(HXB.out.1.trans (hbb.mono HXB.out.1.size)).setCell (p := ⟨dd, 1, none⟩) HDD.out.1 _, by simp [World.setCell]; exact hbb.size, hx2.set 1 _, boolsS.osame hob (.set HDD.out.2), bksR.ogrown (bksR.obelow HXB.out.2.2 hbb) (grown_set _ _ _ _) (hx2.clear (by decide))⟩
    clear hob hbb hx2 hvb
    go_upto_region 3 with (at_builtin; refine list_app rfl _ _ 23 rfl rfl rfl rfl hrunb ?_)
    rw [← hY]
    clear hY t0 t1 t2 t3 u0 u1 u2 u3 x0 x1 x2 x3 s0' s1' s2' s3' j0 j1 j2 j3 hrunb HXB
    go_wp2
    go_loopw [4] (fun i wr => ∃ k : Nat, k ≤ n ∧ i = .int .i64 k ∧ Hid (Below W.heap.size W wr ∧ wx.heap.size ≤ wr.heap.size ∧ ∃ v, sgsR.owns wx.heap.size wr [v] (l.take k) ∧ Box wr dd 26 #[v, .slice a2 nh c2, .slice a3 no c3, .int .i64 nx] ∧ boolsS.owns wx.heap.size wr [.slice a2 nh c2] hd ∧ bksR.owns W.heap.size wr [.slice a3 no c3] op)) (fun i _ => n - (intOf i).toNat)
    case atStart => exact ⟨0, Nat.zero_le _, rfl, HJ0.out.1, HJ0.out.2.1, _, Shape.list_nil sgR 22 Try.underlying22 cells22 _ _, HJ0.out.2.2⟩
    case round =>
      obtain ⟨k, hk, rfl, HJ⟩ := hrel
      obtain ⟨hbr, hwz, v, hv, hBr, hb1, hb2⟩ := HJ.out
      obtain ⟨av, cv, _, hvv, -⟩ := Shape.list_own (S := sgR) (ht := Try.underlying22) (hc := cells22) hv
      obtain rfl : v = .slice av (l.take k).length cv := (List.cons.inj hvv).1
      have hW2 := HW.out.2.1
      have hTL : (l.take k).length = k := by have := HN.out.1; rw [List.length_take]; omega
      rw [hTL] at hv hBr
      by_cases hlt : k < n
      · obtain ⟨p, hp⟩ := get_lt (l := l) (k := k) (by rw [← HN.out.1]; exact hlt)
        have HTK : Hid (l.take (k + 1) = l.take k ++ [p] ∧ (l.take k).length = k) := ⟨take_snoc hp, hTL⟩
        obtain ⟨pb, po, x, cap, hix, c0, c1, hL, _⟩ := sgs_atR HA.out.1 k p hp
        obtain ⟨_, _, e0, hLb, hI, _⟩ := sg_viewR hL
        obtain ⟨m, hm⟩ : ∃ m, m = p.2.length := ⟨_, rfl⟩
        have HSW : Hid (∀ V, Below w.heap.size w V → V.cell? ⟨pb, po, none⟩ = some (.int .i64 p.1) ∧ V.cell? ⟨pb, po + 1, none⟩ = some (.slice x m cap)) := fun V h2 => ⟨by rw [h2.cell (cell_lt c0)]; exact c0, by rw [h2.cell (cell_lt c1)]; rw [hm]; exact c1⟩
        have HS : Hid (∀ V, Below wr.heap.size wr V → V.cell? ⟨dd, 0, none⟩ = some (.slice av k cv) ∧ V.cell? ⟨w.heap.size, 0, none⟩ = some (.slice a n c) ∧ V.cell? ⟨pb, po, none⟩ = some (.int .i64 p.1) ∧ V.cell? ⟨pb, po + 1, none⟩ = some (.slice x m cap)) := fun V hV => by
          have h1 := below_any hbr hV
          have h2 := HSW.out V (below_any HW.out.1 h1)
          exact ⟨(hBr.below hV hBr.lt).four.1, ((HW.out.2.2 V h1).1).four.1, h2.1, h2.2⟩
        have HC : Hid (Calls Try.prog 73 #[.slice x m cap] wr.drew fun e w' => (∃ v', e = .returned v' ∧ bksR.owns wr.heap.size w' [v'] p.2) ∧ Below wr.heap.size wr w') := (rown_any n0 (.slice x m cap) p.2 wr.drew (bksR.below (bksR.below (by rw [hm]; simp at e0; obtain ⟨rfl, rfl⟩ := e0; exact hLb) (below_any HW.out.1 hbr)) (Below.refl _ _).drew) (HA.out.2.1 p (List.mem_of_getElem? hp))).mono fun e w' h => ⟨h.1, ((Below.refl _ wr).drew).trans h.2⟩
        have HJ2 : Hid (Below W.heap.size W wr ∧ wx.heap.size ≤ wr.heap.size ∧ sgsR.owns wx.heap.size wr [.slice av k cv] (l.take k) ∧ Box wr dd 26 #[.slice av k cv, .slice a2 nh c2, .slice a3 no c3, .int .i64 nx] ∧ boolsS.owns wx.heap.size wr [.slice a2 nh c2] hd ∧ bksR.owns W.heap.size wr [.slice a3 no c3] op ∧ I64 p.1) := ⟨hbr, hwz, hv, hBr, hb1, hb2, hI⟩
        have hki : (k : Int) < (n : Int) := by omega
        obtain ⟨t0, -⟩ := ((HW.out.2.2 wr hbr).1).four
        clear hp c0 c1 hL hbr hv hBr hb1 hb2 HJ hm hTL hLb hI e0 hwz
        go_upto_region 6 with fail
        clear t0
        refine AnyBut.begin (fun V => V.cell? ⟨dd, 0, none⟩ = some (.slice av k cv) ∧ V.cell? ⟨w.heap.size, 0, none⟩ = some (.slice a n c) ∧ V.cell? ⟨pb, po, none⟩ = some (.int .i64 p.1) ∧ V.cell? ⟨pb, po + 1, none⟩ = some (.slice x m cap)) 19 (by kernel_rfl) ?_
        have hSS := HS.out wr.drew (Below.refl _ wr).drew
        refine tt 0 24 ?_ hSS ?_ ?_; rotate_left
        · intro W9 hSW; (try dsimp only at hSW); go_simp; try with_reducible rfl
        simp only [ua, ub, uc, ud]
        refine tt 1 25 ?_ hSS ?_ ?_; rotate_left
        · intro W9 hSW; (try dsimp only at hSW); go_simp; try with_reducible rfl
        simp only [ua, ub, uc, ud]
        refine tt 2 26 ?_ hSS ?_ ?_; rotate_left
        · intro W9 hSW; (try dsimp only at hSW); go_simp; try with_reducible rfl
        simp only [ua, ub, uc, ud]
        refine tt 3 27 ?_ hSS ?_ ?_; rotate_left
        · intro W9 hSW; (try dsimp only at hSW); go_simp; try with_reducible rfl
        simp only [ua, ub, uc, ud]
        refine tt 4 28 ?_ hSS ?_ ?_; rotate_left
        · intro W9 hSW; (try dsimp only at hSW); go_simp; try with_reducible rfl
        simp only [ua, ub, uc, ud]
        refine tt 5 29 ?_ hSS ?_ ?_; rotate_left
        · intro W9 hSW; (try dsimp only at hSW); go_simp; try with_reducible rfl
        simp only [ua, ub, uc, ud]
        refine tt 6 30 ?_ hSS ?_ ?_; rotate_left
        · intro W9 hSW; (try dsimp only at hSW); go_simp; try with_reducible rfl
        simp only [ua, ub, uc, ud]
        refine tt 7 31 ?_ hSS ?_ ?_; rotate_left
        · intro W9 hSW; (try dsimp only at hSW); go_simp; try with_reducible rfl
        simp only [ua, ub, uc, ud]
        refine tt 8 32 ?_ hSS ?_ ?_; rotate_left
        · intro W9 hSW; (try dsimp only at hSW); go_simp; try with_reducible rfl
        simp only [ua, ub, uc, ud]
        refine tt 9 33 ?_ hSS ?_ ?_; rotate_left
        · intro W9 hSW; (try dsimp only at hSW); go_simp; try with_reducible rfl
        simp only [ua, ub, uc, ud]
        refine tt 10 34 ?_ hSS ?_ ?_; rotate_left
        · intro W9 hSW; (try dsimp only at hSW); go_simp; try with_reducible rfl
        simp only [ua, ub, uc, ud]
        refine tt 11 35 ?_ hSS ?_ ?_; rotate_left
        · intro W9 hSW; (try dsimp only at hSW); go_simp; try with_reducible rfl
        simp only [ua, ub, uc, ud]
        refine tt 12 36 ?_ hSS ?_ ?_; rotate_left
        · intro W9 hSW; (try dsimp only at hSW); go_simp; try with_reducible rfl
        simp only [ua, ub, uc, ud]
        refine tt 13 37 ?_ hSS ?_ ?_; rotate_left
        · intro W9 hSW; (try dsimp only at hSW); go_simp; try with_reducible rfl
        simp only [ua, ub, uc, ud]
        refine AnyBut.step (i := 14) (by kernel_rfl) rfl (fun K hK => ?_)
        go_simp
        refine Calls.mono HC.out ?_
        rintro e5 w5 ⟨⟨v5, rfl, ho5⟩, hb5⟩
        dsimp only
        refine hK.out _ _ (HS.out w5 hb5) ?_
        clear hK hSS
        have hSS := HS.out w5 hb5
        obtain ⟨a5, c5, _, hv5, -⟩ := Shape.list_own (S := bkR) (ht := Try.underlying24) (hc := cells24) ho5
        obtain rfl : v5 = .slice a5 p.2.length c5 := (List.cons.inj hv5).1
        refine tt 15 39 ?_ hSS ?_ ?_; rotate_left
        · intro W9 hSW; (try dsimp only at hSW); go_simp; try with_reducible rfl
        simp only [ua, ub, uc, ud]
        clear hSS
        refine AnyBut.step (i := 16) (by kernel_rfl) rfl (fun K hK => ?_)
        go_simp
        have hb6 : Below wr.heap.size wr (w5.alloc (.cells #[.int .i64 p.1, .slice a5 p.2.length c5] 91)) := hb5.alloc hb5.size _
        refine hK.out _ _ (HS.out _ hb6) ?_
        clear hK
        obtain ⟨i3, hi3, hz30, hz31, hz32⟩ := info_parts Try.info91
        have hbw5 := HJ2.out.1.trans (hb5.mono HJ2.out.1.size)
        have hws5 : wx.heap.size ≤ w5.heap.size := Nat.le_trans HJ2.out.2.1 hb5.size
        obtain ⟨g7, c7, w7, hrun, ho7, hg7, hs7⟩ := list_append sgR 22 Try.underlying22 cells22 hi3 hz30 hz31 hz32 rfl (by decide) (by decide) (sgsR.obelow HJ2.out.2.2.1 hb5) (sg_omkR (s := p) (bksR.oweaken ho5 HJ2.out.2.1) HJ2.out.2.2.2.2.2.2) hws5 (by rw [HTK.out.2]; omega) (by rw [HTK.out.2]; unfold maxLen; omega)
        rw [HTK.out.2] at hrun ho7
        rw [← HTK.out.1] at ho7
        obtain ⟨_, hrow⟩ : ∃ xs, w5.ownsRow wx.heap.size 91 2 (.slice av k cv) (l.take k).length xs := by
          obtain ⟨v9, vss, hv9, hown, _⟩ := sgsR.obelow HJ2.out.2.2.1 hb5
          obtain rfl : Value.slice av k cv = v9 := by simpa using hv9
          exact ⟨_, hown⟩
        have hx7 : Box w7 dd 26 #[.slice av k cv, .slice a2 nh c2, .slice a3 no c3, .int .i64 nx] := (HJ2.out.2.2.2.1.below hb5 HJ2.out.2.2.2.1.lt).grown hg7 ((HJ2.out.2.2.2.1.below hb5 HJ2.out.2.2.2.1.lt).apart hrow (by decide))
        have hbw7 : Below W.heap.size W w7 := below_row hbw5 (own_weaken hrow (by have := HDD.out; omega)) hg7 hbw5.size
        have hb17 := boolsS.ogrown (boolsS.obelow HJ2.out.2.2.2.2.1 hb5) hg7 (.own hrow (by decide))
        have hb27 := bksR.ogrown (bksR.obelow HJ2.out.2.2.2.2.2.1 hb5) hg7 (.own hrow (by decide))
        have hS7 : w7.cell? ⟨dd, 0, none⟩ = some (.slice av k cv) ∧ w7.cell? ⟨w.heap.size, 0, none⟩ = some (.slice a n c) ∧ w7.cell? ⟨pb, po, none⟩ = some (.int .i64 p.1) ∧ w7.cell? ⟨pb, po + 1, none⟩ = some (.slice x m cap) := ⟨hx7.four.1, ((HW.out.2.2 w7 hbw7).1).four.1, (HSW.out w7 (below_any HW.out.1 hbw7)).1, (HSW.out w7 (below_any HW.out.1 hbw7)).2⟩
        refine AnyBut.step (i := 17) (by kernel_rfl) rfl (fun K hK => ?_)
        refine step_app rfl _ _ 22 rfl rfl rfl rfl hrun ?_
        refine hK.out _ _ hS7 ?_
        clear hK
        have hSS := hS7
        refine tt 18 42 ?_ hSS ?_ ?_; rotate_left
        · intro W9 hSW; (try dsimp only at hSW); go_simp; try with_reducible rfl
        obtain ⟨z0, z1, z2, z3, j0, j1, j2, j3⟩ := hx7.four
        obtain ⟨Y, hY⟩ : ∃ Y, Y = w7.setCell ⟨dd, 0, none⟩ (.slice (some ⟨g7, 0, none⟩) (k + 1) c7) := ⟨_, rfl⟩
        have HF : Hid (Below W.heap.size W Y ∧ wx.heap.size ≤ Y.heap.size ∧ ∃ v, sgsR.owns wx.heap.size Y [v] (l.take (k + 1)) ∧ Box Y dd 26 #[v, .slice a2 nh c2, .slice a3 no c3, .int .i64 nx] ∧ boolsS.owns wx.heap.size Y [.slice a2 nh c2] hd ∧ bksR.owns W.heap.size Y [.slice a3 no c3] op) := by
          rw [hY]
          exact ⟨hbw7.setCell (p := ⟨dd, 0, none⟩) HDD.out.1 _, by simp [World.setCell]; omega, _, sgsR.ogrown ho7 (grown_set _ _ _ _) (hx7.clear (by decide)), hx7.set 0 _, boolsS.ogrown hb17 (grown_set _ _ _ _) (hx7.clear (by decide)), bksR.ogrown hb27 (grown_set _ _ _ _) (hx7.clear (by decide))⟩
        refine AnyBut.last (by kernel_rfl) (by kernel_rfl) rfl (fun K hK => ?_)
        go_simp
        rw [← hY]
        refine hK.out _ _ ?_
        clear hK hSS hS7 hx7 hbw7 hb17 hb27 hrow ho7 hg7 hs7 hrun hbw5 hi3 hz30 hz31 hz32 hb6 ho5 hb5 hY z0 z1 z2 z3 j0 j1 j2 j3 hix hws5
        go_wp2
        go_roundw
        case rel => exact ⟨k + 1, by omega, by go_num, HF.out⟩
        case measure => simp [intOf]; omega
      · obtain rfl : k = n := by omega
        have hT : l.take k = l := by rw [HN.out.1]; simp
        rw [hT] at hv
        have HE : Hid (Below w.heap.size w wr ∧ ∀ U, Same W.heap.size wr U → wr.heap.size ≤ U.heap.size → SepR (w.heap.size + 2) U [.slice av k cv, .slice a2 nh c2, .slice a3 no c3, .int .i64 nx] (l, hd, op, nx)) := ⟨below_any HW.out.1 hbr, fun U hU hUs => ⟨_, _, _, wx.heap.size, rfl, by have := HDD.out; omega, by omega, sgsR.osame hv (fun k h1 h2 => hU k (by have := HDD.out; omega) h2), boolsS.osame hb1 (fun k h1 h2 => hU k (by have := HDD.out; omega) h2), by rw [← hW2]; exact bksR.osame hb2 hU, HOB.out, HA.out.2.2.1⟩⟩
        obtain ⟨t0, -⟩ := ((HW.out.2.2 wr hbr).1).four
        obtain ⟨y0, y1, y2, y3, j0, j1, j2, j3⟩ := ((HW.out.2.2 wr hbr).2).four
        obtain ⟨z0, z1, z2, z3, -⟩ := hBr.four
        have HSZ : Hid (W.heap.size = w.heap.size + 2) := hW2
        clear hv hBr hb1 hb2 HJ hbr hW2 hT hTL
        go_wp2
        refine bodyPost_ret (v := .agg #[.slice av k cv, .slice a2 nh c2, .slice a3 no c3, .int .i64 nx]) (by simp [results, Try.results45, go_sem, *]) rfl ?_
        exact HPo.out [_, _, _, _] _ (HE.out.2 _ (.set4 (by have := HSZ.out; omega)) (by simp [World.setCell])) (below_set4 HE.out.1 (by omega) _ _ _ _)

end Go.Proofs.Ytkpckadicjdieaa
