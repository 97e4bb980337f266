import Derived.Test.YtkpckadicjdieabZ16
import Derived.Test.YtkpckadicjdieabZ19
import Derived.Test.YtkpckadicjdieabZ15
/-
  The last version of each kind, noted in a map.
-/
namespace Go.Proofs.Ytkpckadicjdieab
open Go.RowKit

set_option maxHeartbeats 400000 in
theorem kindOf_any (o i : Int) (a : Option Addr) (n c : Nat) (w : World) : Calls Try.prog 67 #[.agg #[.int .i64 o, .int .i64 i, .slice a n c]] w fun e w' => e = .returned (.agg #[.int .i64 o, .int .i64 i]) ∧ Below w.heap.size w w' := by
  have HB : Hid (Below w.heap.size w ((w.alloc (.cells #[.int .i64 o, .int .i64 i, .slice a n c] 48)).alloc (.cells #[.int .i64 0, .int .i64 0] 80))) := ((Below.refl _ w).alloc (Nat.le_refl _) _).alloc (by simp) _
  obtain ⟨W, hW⟩ : ∃ W, W = (w.alloc (.cells #[.int .i64 o, .int .i64 i, .slice a n c] 48)).alloc (.cells #[.int .i64 0, .int .i64 0] 80) := ⟨_, rfl⟩
  have hB1 : Box W w.heap.size 48 #[.int .i64 o, .int .i64 i, .slice a n c] := by rw [hW]; exact (Box.new _ _ _).alloc _
  have hB2 : Box W (w.heap.size + 1) 80 #[.int .i64 0, .int .i64 0] := by
    rw [hW]
    have := Box.new (w.alloc (.cells #[.int .i64 o, .int .i64 i, .slice a n c] 48)) 80 #[.int .i64 0, .int .i64 0]
    rwa [World.size_alloc] at this
  rw [← hW] at HB
  obtain ⟨x0, x1, x2, -⟩ := hB1.three
  obtain ⟨y0, y1, f0, f1⟩ := hB2.two
  clear hB1 hB2
  go_enter Try.func67, Try.ntmps67
  go_upto_region 1 with fail
  rw [← hW]
  clear hW
  go_wp2
  refine bodyPost_ret (v := .agg #[.int .i64 o, .int .i64 i]) (by simp [results, Try.results67, go_sem, *]) rfl ⟨rfl, below_set2 HB.out (by omega) _ _⟩

set_option maxHeartbeats 400000 in
theorem isGone_any (o i : Int) (a : Option Addr) (n c : Nat) (w : World) : Calls Try.prog 33 #[.agg #[.int .i64 o, .int .i64 i, .slice a n c]] w fun e w' => e = .returned (.bool (decide (n = 0))) ∧ Below w.heap.size w w' := by
  have hl1 := run_len Try.underlying46 a n c
  have HB : Hid (Below w.heap.size w (w.alloc (.cells #[.int .i64 o, .int .i64 i, .slice a n c] 48))) := (Below.refl _ w).alloc (Nat.le_refl _) _
  by_cases h2 : n = 0
  · subst h2
    go_enter Try.func33, Try.ntmps33
    go_wp2
    go_ret
    exact ⟨rfl, HB.out⟩
  · have h2i : ((n : Int) == 0) = false := by simp; omega
    have e2 : decide (n = 0) = false := decide_eq_false h2
    rw [e2]
    clear h2 e2
    go_enter Try.func33, Try.ntmps33
    go_wp2
    go_ret
    exact ⟨by simp, HB.out⟩

theorem Box.six {w : World} {B : Nat} {t : TypeId} {a b c d e f : Value} (h : Box w B t #[a, b, c, d, e, f]) : w.cell? ⟨B, 0, none⟩ = some a ∧ w.cell? ⟨B, 1, none⟩ = some b ∧ w.cell? ⟨B, 2, none⟩ = some c ∧ w.cell? ⟨B, 3, none⟩ = some d ∧ w.cell? ⟨B, 4, none⟩ = some e ∧ w.cell? ⟨B, 5, none⟩ = some f := ⟨h.cell 0 rfl, h.cell 1 rfl, h.cell 2 rfl, h.cell 3 rfl, h.cell 4 rfl, h.cell 5 rfl⟩
theorem kn_count (l : List Ver) (o i : Int) : (kn l o i).2.2.2 = (l.filter (isK o i)).length := by
  unfold kn
  have : ∀ (m : List Ver) (x : Kn), (m.foldl knStep x).2.2.2 = x.2.2.2 + m.length := by
    intro m
    induction m with
    | nil => intro x; rfl
    | cons y m ih =>
      intro x
      rw [List.foldl_cons, ih]
      unfold knStep
      split <;> simp only [List.length_cons] <;> omega
  rw [this]
  simp [kn0]
theorem kn_le (l : List Ver) (o i : Int) : (kn l o i).2.2.2 ≤ l.length := by rw [kn_count]; exact List.length_filter_le _ _
theorem AnyBut.two {P : Program} {ops : Array Oper} {Q : Exit → Act → World → Prop} {md : Region.Mode} {S : World → Prop} {t : Nat} {i j : Nat} {oi oj : Oper} {f : Nat} {listed : Array Bool} {a : Act} {w : World} (hr : Region.ready md ops listed = [i, j]) (ho : ops[i]? = some oi) (ho2 : ops[j]? = some oj)
    (h : ∀ K : Act → World → Prop, Shut (∀ a w, S w → AnyBut P md ops Q S t f (listed.setIfInBounds i true) a w → K a w) → if Region.wanted oi (yielded ops a.tmps) = true then Oper.wp P oi a w K Q else K (a.put oi.dst undef) w)
    (h2 : ∀ K : Act → World → Prop, Shut (∀ a w, S w → AnyBut P md ops Q S t f (listed.setIfInBounds j true) a w → K a w) → if Region.wanted oj (yielded ops a.tmps) = true then Oper.wp P oj a w K Q else K (a.put oj.dst undef) w) : AnyBut P md ops Q S t (f + 1) listed a w := by
  refine ⟨fun h0 => (by rw [hr] at h0; cases h0), fun k hk => ?_⟩
  rw [hr] at hk
  rcases List.mem_cons.1 hk with rfl | hk
  · exact wpOp_step ho fun K hK => h K fun a w hS hA => hK a w ⟨fun _ => hS, hA⟩
  · obtain rfl := List.mem_singleton.1 hk
    exact wpOp_step ho2 fun K hK => h2 K fun a w hS hA => hK a w ⟨fun _ => hS, hA⟩

theorem plc_length (q : Int) (l : List Bk) : (plc q l).length = l.length := by simp [plc]

set_option maxRecDepth 100000 in
set_option maxHeartbeats 8000000 in
theorem note_any (n0 : Nat) (q : Int) (v : Value) (l : List Bk) (b Bm : Nat) (L : List Ver) (w0 w : World) (hS : bksN.lies n0 w0 [v] l) (hb : Below w0.heap.size w0 w) (hb0 : w0.heap.size ≤ b) (hL : LV w0 w b L) (hM : Box w Bm 77 #[.map (some b)]) (hne : Bm ≠ b) (hq : I64 q) (hlen : L.length + l.length ≤ 10000) :
    Calls Try.prog 66 #[.int .i64 q, v, .pointer (some ⟨Bm, 0, none⟩)] w fun e w' => (∃ u, e = .returned u) ∧ LV w0 w' b (L ++ plc q l) ∧ w.grownBy w' (some b) := by
  obtain ⟨a, c, e0, _, hm, _⟩ := Shape.list_len (S := bkN) (ht := Try.underlying29) (hc := cells29) hS
  obtain rfl : v = _ := by simpa using e0
  obtain ⟨n, hn⟩ : ∃ n, n = l.length := ⟨_, rfl⟩
  rw [← hn] at hS hlen ⊢
  have hl1 := run_len Try.underlying29 a n c
  have HH : Hid (bksN.lies n0 w0 [.slice a n c] l ∧ n = l.length ∧ Below w0.heap.size w0 w ∧ w0.heap.size ≤ b) := ⟨hS, hn, hb, hb0⟩
  have HLN : Hid (L.length + n ≤ 10000) := hlen
  have HBM : Hid (Box w Bm 77 #[.map (some b)] ∧ Bm ≠ b) := ⟨hM, hne⟩
  have HQ : Hid (I64 q) := hq
  have HL0 : Hid (LV w0 w b L) := hL
  obtain ⟨post, hpost⟩ : ∃ post : Ending → World → Prop, post = fun e w' => (∃ u, e = .returned u) ∧ LV w0 w' b (L ++ plc q l) ∧ w.grownBy w' (some b) := ⟨_, rfl⟩
  have HPo : Hid (∀ u w', LV w0 w' b (L ++ plc q l) → w.grownBy w' (some b) → post (.returned u) w') := fun u w' h1 h2 => by rw [hpost]; exact ⟨⟨u, rfl⟩, h1, h2⟩
  rw [← hpost]
  clear hpost hS hn hb hb0 hL hM hne hq e0 hm
  have hn9 : n ≤ 10000 := by omega
  go_enter Try.func66, Try.ntmps66
  go_wp2
  go_loopw [10] (fun i wr => ∃ k : Nat, k ≤ n ∧ i = .int .i64 k ∧ Hid (LV w0 wr b (L ++ plc q (l.take k)) ∧ w.grownBy wr (some b))) (fun i _ => n - (intOf i).toNat)
  case atStart => exact ⟨0, Nat.zero_le _, rfl, by simpa [plc] using HL0.out, grown_below (Below.refl _ _) _⟩
  case round =>
    obtain ⟨k, hk, rfl, HJ⟩ := hrel
    by_cases hlt : k < n
    · obtain ⟨p, hp⟩ := get_lt (l := l) (k := k) (by rw [← HH.out.2.1]; exact hlt)
      obtain ⟨bb, o, x, cap, hix, hc0, hc1, hc2, hA, hpo, hpi, _⟩ := bks_atN HH.out.1 k p hp
      have hbr := below_grow HH.out.2.2.1 HJ.out.2 HH.out.2.2.2
      have g0 : wr.cell? ⟨bb, o, none⟩ = some (.int .i64 p.1) := by rw [hbr.cell (cell_lt hc0)]; exact hc0
      have g1 : wr.cell? ⟨bb, o + 1, none⟩ = some (.int .i64 p.2.1) := by rw [hbr.cell (cell_lt hc1)]; exact hc1
      have g2 : wr.cell? ⟨bb, o + 2, none⟩ = some (.slice x p.2.2.length cap) := by rw [hbr.cell (cell_lt hc2)]; exact hc2
      have HPL : Hid (plc q (l.take (k + 1)) = plc q (l.take k) ++ [(q, k, p)]) := plc_take hp
      obtain ⟨m, hm⟩ : ∃ m, m = p.2.2.length := ⟨_, rfl⟩
      have HM : Hid (m = p.2.2.length) := hm
      rw [← hm] at g2 hA
      have HPO : Hid (I64 p.1 ∧ I64 p.2.1 ∧ Arg 0 w0 (.slice x m cap) p.2.2) := ⟨hpo, hpi, hA.weaken (Nat.zero_le _)⟩
      have hbm : Box wr Bm 77 #[.map (some b)] := HBM.out.1.grown HJ.out.2 (by simpa using HBM.out.2)
      obtain ⟨V, hV⟩ : ∃ V, V = wr.alloc (.cells #[.int .i64 p.1, .int .i64 p.2.1, .slice x m cap] 48) := ⟨_, rfl⟩
      have hbV : Below wr.heap.size wr V := by rw [hV]; exact (Below.refl _ _).alloc (Nat.le_refl _) _
      have hxV : Box V wr.heap.size 48 #[.int .i64 p.1, .int .i64 p.2.1, .slice x m cap] := by rw [hV]; exact Box.new _ _ _
      have HV : Hid (Below wr.heap.size wr V ∧ ∀ U, Below V.heap.size V U → U.cell? ⟨Bm, 0, none⟩ = some (.map (some b)) ∧ U.cell? ⟨wr.heap.size, 0, none⟩ = some (.int .i64 p.1) ∧ U.cell? ⟨wr.heap.size, 1, none⟩ = some (.int .i64 p.2.1) ∧ U.cell? ⟨wr.heap.size, 2, none⟩ = some (.slice x m cap) ∧ U.heap[b]? = wr.heap[b]?) := ⟨hbV, fun U hU => by
        have h1 := (hxV.below hU hxV.lt).three
        exact ⟨(hbm.below (hbV.trans (hU.mono hbV.size)) hbm.lt).cell 0 rfl, h1.1, h1.2.1, h1.2.2.1, (hU.block b (by have := HJ.out.1.lt; have := hbV.size; omega)).trans (hbV.block b HJ.out.1.lt)⟩⟩
      obtain ⟨kvv, hlk, hkv⟩ := HJ.out.1.look HPO.out.1 HPO.out.2.1
      obtain ⟨ka, kc, hkv0, hKA, hK1, hK2, hK3⟩ := hkv
      have HKL : Hid ((kn (L ++ plc q (l.take k)) p.1 p.2.1).2.2.2 ≤ 10000) := Nat.le_trans (kn_le _ _ _) (by have := HLN.out; rw [List.length_append, plc_length, List.length_take]; omega)
      obtain ⟨⟨kb, sq, pl, ct⟩, hkk⟩ : ∃ y, y = kn (L ++ plc q (l.take k)) p.1 p.2.1 := ⟨_, rfl⟩
      rw [← hkk] at hkv0 hKA hK1 hK2 hK3 HKL
      simp only at hkv0 hKA hK1 hK2 hK3 HKL
      subst hkv0
      have hki : (k : Int) < (n : Int) := by omega
      have hct : ct ≤ 10000 := HKL.out
      clear hp hA hpo hpi hc0 hc1 hc2 hbr hm hbm hbV hxV HKL
      go_upto_region 3 with fail
      rw [← hV]
      clear hV hix g0 g1 g2
      go_cut [7] (fun u wx => ∃ dd, u = .pointer (some ⟨dd, 0, none⟩) ∧ Hid (V.heap.size ≤ dd) ∧ Hid (Below V.heap.size V wx ∧ Box wx dd 82 #[.int .i64 kb.1, .int .i64 kb.2.1, .slice ka kb.2.2.length kc, .int .i64 sq, .int .i64 (pl : Nat), .int .i64 (ct : Nat)]))
      case first =>
        rename_i J K1 hJ hMt
        refine AnyBut.begin (fun U => U.cell? ⟨Bm, 0, none⟩ = some (.map (some b)) ∧ (U.cell? ⟨wr.heap.size, 0, none⟩ = some (.int .i64 p.1) ∧ U.cell? ⟨wr.heap.size, 1, none⟩ = some (.int .i64 p.2.1) ∧ U.cell? ⟨wr.heap.size, 2, none⟩ = some (.slice x m cap)) ∧ U.heap[b]? = wr.heap[b]?) 1000 (by kernel_rfl) ?_
        have HS : Hid (∀ U, Below V.heap.size V U → U.cell? ⟨Bm, 0, none⟩ = some (.map (some b)) ∧ (U.cell? ⟨wr.heap.size, 0, none⟩ = some (.int .i64 p.1) ∧ U.cell? ⟨wr.heap.size, 1, none⟩ = some (.int .i64 p.2.1) ∧ U.cell? ⟨wr.heap.size, 2, none⟩ = some (.slice x m cap)) ∧ U.heap[b]? = wr.heap[b]?) := fun U hU => by
          have h1 := HV.out.2 U hU
          exact ⟨h1.1, ⟨h1.2.1, h1.2.2.1, h1.2.2.2.1⟩, h1.2.2.2.2⟩
        have hSS := HS.out V.drew (Below.refl _ V).drew
        refine tx 0 15 hSS ?_
        simp only [ua, ub, uc, ud]
        refine tx 1 16 hSS ?_
        simp only [ua, ub, uc, ud]
        refine AnyBut.two (i := 2) (j := 4) (by kernel_rfl) rfl rfl (fun K hK => ?_) (fun K hK => ?_)
        · go_simp
          refine Calls.mono (kindOf_any p.1 p.2.1 x m cap V.drew) ?_
          rintro e1 w1 ⟨rfl, hb1⟩
          dsimp only
          have hb1 : Below V.heap.size V w1 := ((Below.refl _ V).drew).trans hb1
          refine hK.out _ _ (HS.out w1 hb1) ?_
          clear hK hSS
          have hSS := HS.out w1 hb1
          refine tx 3 18 hSS ?_ (hy := by intro W hSW; have := hlk W hSW.2.2; go_simp; try with_reducible rfl)
          simp only [ua, ub, uc, ud]
          refine AnyBut.step (i := 4) (by kernel_rfl) rfl (fun K hK => ?_)
          go_simp
          refine hK.out _ _ (HS.out _ (hb1.alloc hb1.size _)) ?_
          clear hK hSS
          refine AnyBut.step (i := 5) (by kernel_rfl) rfl (fun K hK => ?_)
          go_simp
          refine hK.out _ _ (HS.out _ (hb1.alloc hb1.size _)) ?_
          clear hK
          refine AnyBut.done (by kernel_rfl) ?_
          refine hMt _ _ (Go.Met.intro (hJ _ _ ?_))
          (repeat (refine Exists.intro ?_ ?_; rotate_left 1))
          refine ⟨?rel1, ?fr1⟩
          case fr1 => rfl
          case rel1 => exact ⟨_, rfl, hb1.size, hb1.alloc hb1.size _, Box.new _ _ _⟩
        · go_simp
          obtain ⟨Z, hZ⟩ : ∃ Z, Z = (V.alloc (.cells #[.int .i64 0, .int .i64 0, .slice none 0 0, .int .i64 0, .int .i64 0, .int .i64 0] 82)).drew := ⟨_, rfl⟩
          have hbz : Below V.heap.size V Z := by rw [hZ]; exact ((Below.refl _ V).alloc (Nat.le_refl _) _).drew
          have hBz : Box Z V.heap.size 82 #[.int .i64 0, .int .i64 0, .slice none 0 0, .int .i64 0, .int .i64 0, .int .i64 0] := by rw [hZ]; exact Box.drew (Box.new _ _ _)
          rw [← hZ]
          refine hK.out _ _ (HS.out Z hbz) ?_
          clear hK hSS hZ
          refine AnyBut.step (i := 2) (by kernel_rfl) rfl (fun K hK => ?_)
          go_simp
          refine Calls.mono (kindOf_any p.1 p.2.1 x m cap Z) ?_
          rintro e1 w1 ⟨rfl, hb1⟩
          dsimp only
          have hBp := hBz.below hb1 hBz.lt
          have hb1 : Below V.heap.size V w1 := hbz.trans (hb1.mono hbz.size)
          refine hK.out _ _ (HS.out w1 hb1) ?_
          clear hK
          have hSS := HS.out w1 hb1
          refine tx 3 18 hSS ?_ (hy := by intro W hSW; have := hlk W hSW.2.2; go_simp; try with_reducible rfl)
          simp only [ua, ub, uc, ud]
          obtain ⟨z0, z1, z2, z3, z4, z5⟩ := hBp.six
          have y0 := hBp.frozen 0
          have y1 := hBp.frozen 1
          have y2 := hBp.frozen 2
          have y3 := hBp.frozen 3
          have y4 := hBp.frozen 4
          have y5 := hBp.frozen 5
          have hbQ : ∀ u0 u1 u2 u3 u4 u5, Below V.heap.size V ((((((w1.setCell ⟨V.heap.size, 0, none⟩ u0).setCell ⟨V.heap.size, 1, none⟩ u1).setCell ⟨V.heap.size, 2, none⟩ u2).setCell ⟨V.heap.size, 3, none⟩ u3).setCell ⟨V.heap.size, 4, none⟩ u4).setCell ⟨V.heap.size, 5, none⟩ u5) := fun u0 u1 u2 u3 u4 u5 => (((((hb1.setCell (p := ⟨V.heap.size, 0, none⟩) (Nat.le_refl _) _).setCell (p := ⟨V.heap.size, 1, none⟩) (Nat.le_refl _) _).setCell (p := ⟨V.heap.size, 2, none⟩) (Nat.le_refl _) _).setCell (p := ⟨V.heap.size, 3, none⟩) (Nat.le_refl _) _).setCell (p := ⟨V.heap.size, 4, none⟩) (Nat.le_refl _) _).setCell (p := ⟨V.heap.size, 5, none⟩) (Nat.le_refl _) _
          have HbQ : Hid _ := hbQ
          have HBp : Hid (Box w1 V.heap.size 82 #[.int .i64 0, .int .i64 0, .slice none 0 0, .int .i64 0, .int .i64 0, .int .i64 0]) := hBp
          clear hbQ hBp hBz hbz
          refine AnyBut.step (i := 5) (by kernel_rfl) rfl (fun K hK => ?_)
          go_simp
          refine hK.out _ _ (HS.out _ (HbQ.out _ _ _ _ _ _)) ?_
          clear hK
          refine AnyBut.done (by kernel_rfl) ?_
          refine hMt _ _ (Go.Met.intro (hJ _ _ ?_))
          (repeat (refine Exists.intro ?_ ?_; rotate_left 1))
          refine ⟨?rel2, ?fr2⟩
          case fr2 => rfl
          case rel2 => exact ⟨_, rfl, Nat.le_refl _, HbQ.out _ _ _ _ _ _, (((((HBp.out.set 0 _).set 1 _).set 2 _).set 3 _).set 4 _).set 5 _⟩
      case rest =>
        obtain ⟨dd, rfl, HDD, HX⟩ := hcut
        obtain ⟨wx, hwx⟩ : ∃ U, U = wc := ⟨_, rfl⟩
        rw [← hwx] at HX ⊢
        clear hwx hlk
        have HKK : Hid (((kb, sq, pl, ct) : Kn) = kn (L ++ plc q (l.take k)) p.1 p.2.1) := hkk
        obtain ⟨x0, x1, x2, x3, x4, x5⟩ := HX.out.2.six
        have y0 := HX.out.2.frozen 0
        have y1 := HX.out.2.frozen 1
        have y2 := HX.out.2.frozen 2
        have y3 := HX.out.2.frozen 3
        have y4 := HX.out.2.frozen 4
        have y5 := HX.out.2.frozen 5
        obtain ⟨wy, hwy⟩ : ∃ U, U = wx.setCell ⟨dd, 5, none⟩ (.int .i64 ((ct : Int) + 1)) := ⟨_, rfl⟩
        have HY : Hid (Below V.heap.size V wy ∧ Box wy dd 82 #[.int .i64 kb.1, .int .i64 kb.2.1, .slice ka kb.2.2.length kc, .int .i64 sq, .int .i64 (pl : Nat), .int .i64 ((ct : Int) + 1)]) := ⟨by rw [hwy]; exact HX.out.1.setCell (p := ⟨dd, 5, none⟩) HDD.out _, by rw [hwy]; exact HX.out.2.set 5 _⟩
        go_upto_region 5 with fail
        rw [← hwy]
        clear hwy x0 x1 x2 x3 x4 x5 y0 y1 y2 y3 y4 y5 HX
        have HX := HY
        clear HY
        obtain ⟨x0, x1, x2, x3, x4, x5⟩ := HX.out.2.six
        have y0 := HX.out.2.frozen 0
        have y1 := HX.out.2.frozen 1
        have y2 := HX.out.2.frozen 2
        have y3 := HX.out.2.frozen 3
        have y4 := HX.out.2.frozen 4
        have y5 := HX.out.2.frozen 5
        obtain ⟨-, u0, u1, u2, -⟩ := HV.out.2 wy HX.out.1
        have ect : ((ct + 1 : Nat) : Int) = (ct : Int) + 1 := by omega
        by_cases hge : sq ≤ q
        · have HKV : Hid (KvAt w0 (.agg #[.int .i64 p.1, .int .i64 p.2.1, .slice x m cap, .int .i64 q, .int .i64 (k : Nat), .int .i64 ((ct : Int) + 1)]) (knStep (kn (L ++ plc q (l.take k)) p.1 p.2.1) (q, k, p))) := by
            show KvAt _ _ _
            rw [← ect]
            unfold knStep
            rw [if_pos (by rw [← hkk]; exact hge), ← hkk]
            exact ⟨x, cap, by rw [HM.out], by rw [← HM.out]; exact HPO.out.2.2, HPO.out.1, HPO.out.2.1, HQ.out⟩
          obtain ⟨Y, hY⟩ : ∃ Y, Y = (((((wy.setCell ⟨dd, 0, none⟩ (.int .i64 p.1)).setCell ⟨dd, 1, none⟩ (.int .i64 p.2.1)).setCell ⟨dd, 2, none⟩ (.slice x m cap)).setCell ⟨dd, 3, none⟩ (.int .i64 q)).setCell ⟨dd, 4, none⟩ (.int .i64 (k : Nat))) := ⟨_, rfl⟩
          have hbY : Below V.heap.size V Y := by
            rw [hY]
            exact ((((HX.out.1.setCell (p := ⟨dd, 0, none⟩) HDD.out _).setCell (p := ⟨dd, 1, none⟩) HDD.out _).setCell (p := ⟨dd, 2, none⟩) HDD.out _).setCell (p := ⟨dd, 3, none⟩) HDD.out _).setCell (p := ⟨dd, 4, none⟩) HDD.out _
          have hxY : Box Y dd 82 #[.int .i64 p.1, .int .i64 p.2.1, .slice x m cap, .int .i64 q, .int .i64 (k : Nat), .int .i64 ((ct : Int) + 1)] := by rw [hY]; exact ((((HX.out.2.set 0 _).set 1 _).set 2 _).set 3 _).set 4 _
          have hoY : Y.heap[b]? = wr.heap[b]? := (hbY.block b (by have := HJ.out.1.lt; have := HV.out.1.size; omega)).trans (HV.out.1.block b HJ.out.1.lt)
          have HYS : Hid (∀ U, Below Y.heap.size Y U → U.cell? ⟨Bm, 0, none⟩ = some (.map (some b)) ∧ (U.cell? ⟨wr.heap.size, 0, none⟩ = some (.int .i64 p.1) ∧ U.cell? ⟨wr.heap.size, 1, none⟩ = some (.int .i64 p.2.1) ∧ U.cell? ⟨wr.heap.size, 2, none⟩ = some (.slice x m cap)) ∧ U.cell? ⟨dd, 0, none⟩ = some (.int .i64 p.1) ∧ U.cell? ⟨dd, 1, none⟩ = some (.int .i64 p.2.1) ∧ U.cell? ⟨dd, 2, none⟩ = some (.slice x m cap) ∧ U.cell? ⟨dd, 3, none⟩ = some (.int .i64 q) ∧ U.cell? ⟨dd, 4, none⟩ = some (.int .i64 (k : Nat)) ∧ U.cell? ⟨dd, 5, none⟩ = some (.int .i64 ((ct : Int) + 1))) := fun U hU => by
            have h1 := HV.out.2 U (hbY.trans (hU.mono hbY.size))
            exact ⟨h1.1, ⟨h1.2.1, h1.2.2.1, h1.2.2.2.1⟩, (hxY.below hU hxY.lt).six⟩
          have HYB : Hid (Below V.heap.size V Y ∧ Y.heap[b]? = wr.heap[b]?) := ⟨hbY, hoY⟩
          go_upto_region 7 with fail
          rw [← hY]
          clear hY hbY hxY hoY hge
          refine AnyBut.begin (fun U => U.cell? ⟨Bm, 0, none⟩ = some (.map (some b)) ∧ (U.cell? ⟨wr.heap.size, 0, none⟩ = some (.int .i64 p.1) ∧ U.cell? ⟨wr.heap.size, 1, none⟩ = some (.int .i64 p.2.1) ∧ U.cell? ⟨wr.heap.size, 2, none⟩ = some (.slice x m cap)) ∧ U.cell? ⟨dd, 0, none⟩ = some (.int .i64 p.1) ∧ U.cell? ⟨dd, 1, none⟩ = some (.int .i64 p.2.1) ∧ U.cell? ⟨dd, 2, none⟩ = some (.slice x m cap) ∧ U.cell? ⟨dd, 3, none⟩ = some (.int .i64 q) ∧ U.cell? ⟨dd, 4, none⟩ = some (.int .i64 (k : Nat)) ∧ U.cell? ⟨dd, 5, none⟩ = some (.int .i64 ((ct : Int) + 1))) 1000 (by kernel_rfl) ?_
          have hSS := HYS.out Y.drew (Below.refl _ Y).drew
          refine tx 0 33 hSS ?_
          simp only [ua, ub, uc, ud]
          refine tx 1 34 hSS ?_
          simp only [ua, ub, uc, ud]
          refine tx 3 36 hSS ?_
          simp only [ua, ub, uc, ud]
          refine AnyBut.step (i := 2) (by kernel_rfl) rfl (fun K hK => ?_)
          go_simp
          refine Calls.mono (kindOf_any p.1 p.2.1 x m cap Y.drew) ?_
          rintro e3 w3 ⟨rfl, hb3⟩
          have hb3 : Below Y.heap.size Y w3 := ((Below.refl _ Y).drew).trans hb3
          dsimp only
          refine hK.out _ _ (HYS.out w3 hb3) ?_
          clear hK hSS
          have hbl : b < Y.heap.size := by have := HJ.out.1.lt; have := HV.out.1.size; have := HYB.out.1.size; omega
          have hw3 : w3.heap[b]? = wr.heap[b]? := (hb3.block b hbl).trans HYB.out.2
          obtain ⟨w4, hup, hL4, hg4⟩ := (HJ.out.1.kept hw3).put (q := q) (k := k) (p := p) HPO.out.1 HPO.out.2.1 HKV.out (by have := HLN.out; rw [List.length_append, plc_length, List.length_take]; omega)
          have hgw : w.grownBy w4 (some b) := grown_trans (grown_trans HJ.out.2 (grown_below (HV.out.1.trans ((HYB.out.1.trans (hb3.mono HYB.out.1.size)).mono HV.out.1.size)) _)) hg4
          have HF : Hid (LV w0 w4 b (L ++ plc q (l.take (k + 1))) ∧ w.grownBy w4 (some b)) := ⟨by rw [HPL.out, ← List.append_assoc]; exact hL4, hgw⟩
          have hS4 : w4.cell? ⟨Bm, 0, none⟩ = some (.map (some b)) ∧ (w4.cell? ⟨wr.heap.size, 0, none⟩ = some (.int .i64 p.1) ∧ w4.cell? ⟨wr.heap.size, 1, none⟩ = some (.int .i64 p.2.1) ∧ w4.cell? ⟨wr.heap.size, 2, none⟩ = some (.slice x m cap)) ∧ w4.cell? ⟨dd, 0, none⟩ = some (.int .i64 p.1) ∧ w4.cell? ⟨dd, 1, none⟩ = some (.int .i64 p.2.1) ∧ w4.cell? ⟨dd, 2, none⟩ = some (.slice x m cap) ∧ w4.cell? ⟨dd, 3, none⟩ = some (.int .i64 q) ∧ w4.cell? ⟨dd, 4, none⟩ = some (.int .i64 (k : Nat)) ∧ w4.cell? ⟨dd, 5, none⟩ = some (.int .i64 ((ct : Int) + 1)) := by
            have h1 := HYS.out w3 hb3
            have hc : ∀ (B i : Nat) u, B ≠ b → w3.cell? ⟨B, i, none⟩ = some u → w4.cell? ⟨B, i, none⟩ = some u := fun B i u hB hu => by
              unfold World.cell? at hu ⊢
              rw [hg4.block B (by have := cell_lt (w := w3) (a := ⟨B, i, none⟩) hu; exact this) (by simpa using hB)]
              exact hu
            have hr : wr.heap.size ≠ b := by have := HJ.out.1.lt; omega
            have hd : dd ≠ b := by have := HJ.out.1.lt; have := HDD.out; have := HV.out.1.size; omega
            exact ⟨hc _ _ _ HBM.out.2 h1.1, ⟨hc _ _ _ hr h1.2.1.1, hc _ _ _ hr h1.2.1.2.1, hc _ _ _ hr h1.2.1.2.2⟩, hc _ _ _ hd h1.2.2.1, hc _ _ _ hd h1.2.2.2.1, hc _ _ _ hd h1.2.2.2.2.1, hc _ _ _ hd h1.2.2.2.2.2.1, hc _ _ _ hd h1.2.2.2.2.2.2.1, hc _ _ _ hd h1.2.2.2.2.2.2.2⟩
          refine AnyBut.step (i := 4) (by kernel_rfl) rfl (fun K hK => ?_)
          go_simp
          refine hK.out _ _ hS4 ?_
          clear hK hS4 hup hL4 hg4 hgw hw3 hb3 hbl
          refine AnyBut.done (by kernel_rfl) ?_
          go_wp2
          go_roundw
          case rel => exact ⟨k + 1, by omega, by go_num, HF.out⟩
          case measure => simp [intOf]; omega
        · have HKV : Hid (KvAt w0 (.agg #[.int .i64 kb.1, .int .i64 kb.2.1, .slice ka kb.2.2.length kc, .int .i64 sq, .int .i64 (pl : Nat), .int .i64 ((ct : Int) + 1)]) (knStep (kn (L ++ plc q (l.take k)) p.1 p.2.1) (q, k, p))) := by
            show KvAt _ _ _
            rw [← ect]
            unfold knStep
            rw [if_neg (by rw [← hkk]; exact hge), ← hkk]
            exact ⟨ka, kc, rfl, hKA, hK1, hK2, hK3⟩
          obtain ⟨Y, hY⟩ : ∃ Y, Y = wy := ⟨_, rfl⟩
          have hbY : Below V.heap.size V Y := by
            rw [hY]
            exact HX.out.1
          have hxY : Box Y dd 82 #[.int .i64 kb.1, .int .i64 kb.2.1, .slice ka kb.2.2.length kc, .int .i64 sq, .int .i64 (pl : Nat), .int .i64 ((ct : Int) + 1)] := by rw [hY]; exact HX.out.2
          have hoY : Y.heap[b]? = wr.heap[b]? := (hbY.block b (by have := HJ.out.1.lt; have := HV.out.1.size; omega)).trans (HV.out.1.block b HJ.out.1.lt)
          have HYS : Hid (∀ U, Below Y.heap.size Y U → U.cell? ⟨Bm, 0, none⟩ = some (.map (some b)) ∧ (U.cell? ⟨wr.heap.size, 0, none⟩ = some (.int .i64 p.1) ∧ U.cell? ⟨wr.heap.size, 1, none⟩ = some (.int .i64 p.2.1) ∧ U.cell? ⟨wr.heap.size, 2, none⟩ = some (.slice x m cap)) ∧ U.cell? ⟨dd, 0, none⟩ = some (.int .i64 kb.1) ∧ U.cell? ⟨dd, 1, none⟩ = some (.int .i64 kb.2.1) ∧ U.cell? ⟨dd, 2, none⟩ = some (.slice ka kb.2.2.length kc) ∧ U.cell? ⟨dd, 3, none⟩ = some (.int .i64 sq) ∧ U.cell? ⟨dd, 4, none⟩ = some (.int .i64 (pl : Nat)) ∧ U.cell? ⟨dd, 5, none⟩ = some (.int .i64 ((ct : Int) + 1))) := fun U hU => by
            have h1 := HV.out.2 U (hbY.trans (hU.mono hbY.size))
            exact ⟨h1.1, ⟨h1.2.1, h1.2.2.1, h1.2.2.2.1⟩, (hxY.below hU hxY.lt).six⟩
          have HYB : Hid (Below V.heap.size V Y ∧ Y.heap[b]? = wr.heap[b]?) := ⟨hbY, hoY⟩
          go_upto_region 7 with fail
          rw [← hY]
          clear hY hbY hxY hoY hge
          refine AnyBut.begin (fun U => U.cell? ⟨Bm, 0, none⟩ = some (.map (some b)) ∧ (U.cell? ⟨wr.heap.size, 0, none⟩ = some (.int .i64 p.1) ∧ U.cell? ⟨wr.heap.size, 1, none⟩ = some (.int .i64 p.2.1) ∧ U.cell? ⟨wr.heap.size, 2, none⟩ = some (.slice x m cap)) ∧ U.cell? ⟨dd, 0, none⟩ = some (.int .i64 kb.1) ∧ U.cell? ⟨dd, 1, none⟩ = some (.int .i64 kb.2.1) ∧ U.cell? ⟨dd, 2, none⟩ = some (.slice ka kb.2.2.length kc) ∧ U.cell? ⟨dd, 3, none⟩ = some (.int .i64 sq) ∧ U.cell? ⟨dd, 4, none⟩ = some (.int .i64 (pl : Nat)) ∧ U.cell? ⟨dd, 5, none⟩ = some (.int .i64 ((ct : Int) + 1))) 1000 (by kernel_rfl) ?_
          have hSS := HYS.out Y.drew (Below.refl _ Y).drew
          refine tx 0 33 hSS ?_
          simp only [ua, ub, uc, ud]
          refine tx 1 34 hSS ?_
          simp only [ua, ub, uc, ud]
          refine tx 3 36 hSS ?_
          simp only [ua, ub, uc, ud]
          refine AnyBut.step (i := 2) (by kernel_rfl) rfl (fun K hK => ?_)
          go_simp
          refine Calls.mono (kindOf_any p.1 p.2.1 x m cap Y.drew) ?_
          rintro e3 w3 ⟨rfl, hb3⟩
          have hb3 : Below Y.heap.size Y w3 := ((Below.refl _ Y).drew).trans hb3
          dsimp only
          refine hK.out _ _ (HYS.out w3 hb3) ?_
          clear hK hSS
          have hbl : b < Y.heap.size := by have := HJ.out.1.lt; have := HV.out.1.size; have := HYB.out.1.size; omega
          have hw3 : w3.heap[b]? = wr.heap[b]? := (hb3.block b hbl).trans HYB.out.2
          obtain ⟨w4, hup, hL4, hg4⟩ := (HJ.out.1.kept hw3).put (q := q) (k := k) (p := p) HPO.out.1 HPO.out.2.1 HKV.out (by have := HLN.out; rw [List.length_append, plc_length, List.length_take]; omega)
          have hgw : w.grownBy w4 (some b) := grown_trans (grown_trans HJ.out.2 (grown_below (HV.out.1.trans ((HYB.out.1.trans (hb3.mono HYB.out.1.size)).mono HV.out.1.size)) _)) hg4
          have HF : Hid (LV w0 w4 b (L ++ plc q (l.take (k + 1))) ∧ w.grownBy w4 (some b)) := ⟨by rw [HPL.out, ← List.append_assoc]; exact hL4, hgw⟩
          have hS4 : w4.cell? ⟨Bm, 0, none⟩ = some (.map (some b)) ∧ (w4.cell? ⟨wr.heap.size, 0, none⟩ = some (.int .i64 p.1) ∧ w4.cell? ⟨wr.heap.size, 1, none⟩ = some (.int .i64 p.2.1) ∧ w4.cell? ⟨wr.heap.size, 2, none⟩ = some (.slice x m cap)) ∧ w4.cell? ⟨dd, 0, none⟩ = some (.int .i64 kb.1) ∧ w4.cell? ⟨dd, 1, none⟩ = some (.int .i64 kb.2.1) ∧ w4.cell? ⟨dd, 2, none⟩ = some (.slice ka kb.2.2.length kc) ∧ w4.cell? ⟨dd, 3, none⟩ = some (.int .i64 sq) ∧ w4.cell? ⟨dd, 4, none⟩ = some (.int .i64 (pl : Nat)) ∧ w4.cell? ⟨dd, 5, none⟩ = some (.int .i64 ((ct : Int) + 1)) := by
            have h1 := HYS.out w3 hb3
            have hc : ∀ (B i : Nat) u, B ≠ b → w3.cell? ⟨B, i, none⟩ = some u → w4.cell? ⟨B, i, none⟩ = some u := fun B i u hB hu => by
              unfold World.cell? at hu ⊢
              rw [hg4.block B (by have := cell_lt (w := w3) (a := ⟨B, i, none⟩) hu; exact this) (by simpa using hB)]
              exact hu
            have hr : wr.heap.size ≠ b := by have := HJ.out.1.lt; omega
            have hd : dd ≠ b := by have := HJ.out.1.lt; have := HDD.out; have := HV.out.1.size; omega
            exact ⟨hc _ _ _ HBM.out.2 h1.1, ⟨hc _ _ _ hr h1.2.1.1, hc _ _ _ hr h1.2.1.2.1, hc _ _ _ hr h1.2.1.2.2⟩, hc _ _ _ hd h1.2.2.1, hc _ _ _ hd h1.2.2.2.1, hc _ _ _ hd h1.2.2.2.2.1, hc _ _ _ hd h1.2.2.2.2.2.1, hc _ _ _ hd h1.2.2.2.2.2.2.1, hc _ _ _ hd h1.2.2.2.2.2.2.2⟩
          refine AnyBut.step (i := 4) (by kernel_rfl) rfl (fun K hK => ?_)
          go_simp
          refine hK.out _ _ hS4 ?_
          clear hK hS4 hup hL4 hg4 hgw hw3 hb3 hbl
          refine AnyBut.done (by kernel_rfl) ?_
          go_wp2
          go_roundw
          case rel => exact ⟨k + 1, by omega, by go_num, HF.out⟩
          case measure => simp [intOf]; omega
    · obtain rfl : k = n := by omega
      have HE : Hid (LV w0 wr b (L ++ plc q l) ∧ w.grownBy wr (some b)) := by
        show _ ∧ _
        have := HJ.out
        rwa [HH.out.2.1, List.take_length] at this
      go_wp2
      refine bodyPost_end (v := .tuple #[]) (by simp [results, Try.results66, go_sem, *]) rfl (HPo.out _ _ HE.out.1 HE.out.2)

end Go.Proofs.Ytkpckadicjdieab

/-
  What lastVersions answers: a map that tells the last version of each kind.
-/
namespace Go.Proofs.Ytkpckadicjdieab
open Go.RowKit

theorem Ok.small {s : St} (h : Ok s) : ∀ p ∈ s.1, p.2.length ≤ 8 := fun p hp => by
  cases hf : freeB p
  · exact (h.each p hp hf).1.2.1.2
  · have := (free_iff.1 hf).2
    omega
theorem segv_length {l : List Sg} (h : ∀ p ∈ l, p.2.length ≤ 8) : (segv l).length ≤ 8 * l.length := by
  unfold segv
  induction l with
  | nil => simp
  | cons p l ih =>
    simp only [List.map_cons, List.flatten_cons, List.length_append, plc_length, List.length_cons]
    have h1 := h p (List.mem_cons_self ..)
    have h2 := ih fun q hq => h q (List.mem_cons_of_mem _ hq)
    omega

set_option maxRecDepth 100000 in
set_option maxHeartbeats 4000000 in
theorem last_any (n0 : Nat) (us : List Value) (s : St) (w : World) (h : stN.lies n0 w us s) (hok : Ok s) :
    Calls Try.prog 32 #[.agg us.toArray] w fun e w' => (∃ b, e = .returned (.map (some b)) ∧ LV w w' b (vers s) ∧ w.heap.size ≤ b) ∧ Below w.heap.size w w' := by
  obtain ⟨a, c, b, d, e, f, rfl, hS, hH, hO, hN, m1, m2, m3⟩ := st_viewN h
  have HOK : Hid (s.1.length ≤ 64 ∧ s.2.2.1.length ≤ 8 ∧ ∀ p ∈ s.1, p.2.length ≤ 8) := ⟨hok.slots.2, hok.few, hok.small⟩
  obtain ⟨l, hd, op, nx⟩ := s
  simp only at hS hH hO hN m1 m2 m3 HOK ⊢
  unfold maxLen at m1 m2 m3
  obtain ⟨post, hpost⟩ : ∃ post : Ending → World → Prop, post = fun e w' => (∃ b, e = .returned (.map (some b)) ∧ LV w w' b (vers (l, hd, op, nx)) ∧ w.heap.size ≤ b) ∧ Below w.heap.size w w' := ⟨_, rfl⟩
  have HPo : Hid (∀ b w', LV w w' b (vers (l, hd, op, nx)) → w.heap.size ≤ b → Below w.heap.size w w' → post (.returned (.map (some b))) w') := fun b w' h1 h2 h3 => by rw [hpost]; exact ⟨⟨b, rfl, h1, h2⟩, h3⟩
  rw [← hpost]
  clear hpost
  obtain ⟨n, hn⟩ : ∃ n, n = l.length := ⟨_, rfl⟩
  obtain ⟨nh, hnh⟩ : ∃ n, n = hd.length := ⟨_, rfl⟩
  obtain ⟨no, hno⟩ : ∃ n, n = op.length := ⟨_, rfl⟩
  have hl1 := run_len Try.underlying28 a n c
  rw [← hn] at hS m1 HOK ⊢
  rw [← hnh] at m2 ⊢
  rw [← hno] at hO m3 HOK ⊢
  have HN : Hid (n = l.length ∧ no = op.length ∧ I64 nx) := ⟨hn, hno, hN⟩
  have HA : Hid (sgsN.lies n0 w [.slice a n c] l ∧ bksN.lies n0 w [.slice e no f] op) := ⟨hS, hO⟩
  obtain ⟨W, hW⟩ : ∃ W, W = w.alloc (.cells #[.slice a n c, .slice b nh d, .slice e no f, .int .i64 nx] 31) := ⟨_, rfl⟩
  have hbW : Below w.heap.size w W := by rw [hW]; exact (Below.refl _ w).alloc (Nat.le_refl _) _
  have hB1 : Box W w.heap.size 31 #[.slice a n c, .slice b nh d, .slice e no f, .int .i64 nx] := by rw [hW]; exact Box.new _ _ _
  have hsz : W.heap.size = w.heap.size + 1 := by rw [hW]; simp
  obtain ⟨X, hX⟩ : ∃ X, X = (W.alloc (.map #[] 0)).alloc (.cells #[.map (some W.heap.size)] 77) := ⟨_, rfl⟩
  have hbX : Below W.heap.size W X := by rw [hX]; exact ((Below.refl _ _).alloc (Nat.le_refl _) _).alloc (by simp) _
  have hmX : Box X (W.heap.size + 1) 77 #[.map (some W.heap.size)] := by
    rw [hX]
    have := Box.new (W.alloc (.map #[] 0)) 77 #[.map (some W.heap.size)]
    rwa [World.size_alloc] at this
  have hLX : LV w X W.heap.size [] := by
    rw [hX]
    exact (LV.made w W).below ((Below.refl _ _).alloc (Nat.le_refl _) _)
  have HX : Hid (Below w.heap.size w X ∧ Box X (W.heap.size + 1) 77 #[.map (some W.heap.size)] ∧ LV w X W.heap.size [] ∧ Box X w.heap.size 31 #[.slice a n c, .slice b nh d, .slice e no f, .int .i64 nx] ∧ W.heap.size = w.heap.size + 1) := ⟨below_any hbW hbX, hmX, hLX, hB1.below hbX hB1.lt, hsz⟩
  obtain ⟨bm, hbm⟩ : ∃ m, m = W.heap.size := ⟨_, rfl⟩
  rw [← hbm] at HX hX
  have HBM : Hid (bm = W.heap.size) := hbm
  obtain ⟨z0, z1, z2, z3, -⟩ := HX.out.2.2.2.1.four
  have hmm := @run_makeMap Try.prog
  clear h hS hH hO hN hbW hB1 hsz hbX hmX hLX hn hnh hno hok
  go_enter Try.func32, Try.ntmps32
  go_upto_region 1 with fail
  rw [← hW]
  clear hW hbm
  go_upto_region 2 with fail
  rw [← HBM.out, ← hX]
  clear hX hmm
  go_wp2
  clear z0 z1 z2 z3
  go_loopw [12] (fun i wr => ∃ k : Nat, k ≤ n ∧ i = .int .i64 k ∧ Hid (LV w wr bm (segv (l.take k)) ∧ X.grownBy wr (some bm))) (fun i _ => n - (intOf i).toNat)
  case atStart => exact ⟨0, Nat.zero_le _, rfl, by simpa [segv] using HX.out.2.2.1, grown_below (Below.refl _ _) _⟩
  case round =>
    obtain ⟨k, hk, rfl, HJ⟩ := hrel
    by_cases hlt : k < n
    · obtain ⟨p, hp⟩ := get_lt (l := l) (k := k) (by rw [← HN.out.1]; exact hlt)
      obtain ⟨pb, po, x, cap, hix, c0, c1, hL, _⟩ := sgs_atN HA.out.1 k p hp
      have hki : (k : Int) < (n : Int) := by omega
      have hb0 : w.heap.size ≤ bm := by have := HX.out.2.2.2.2; have := HBM.out; omega
      have hbr := below_grow HX.out.1 HJ.out.2 hb0
      have g0 : wr.cell? ⟨pb, po, none⟩ = some (.int .i64 p.1) := by rw [hbr.cell (cell_lt c0)]; exact c0
      have g1 : wr.cell? ⟨pb, po + 1, none⟩ = some (.slice x p.2.length cap) := by rw [hbr.cell (cell_lt c1)]; exact c1
      obtain ⟨V, hV⟩ : ∃ V, V = wr.alloc (.cells #[.int .i64 p.1, .slice x p.2.length cap] 45) := ⟨_, rfl⟩
      have hbV : Below wr.heap.size wr V := by rw [hV]; exact (Below.refl _ _).alloc (Nat.le_refl _) _
      have hxV : Box V wr.heap.size 45 #[.int .i64 p.1, .slice x p.2.length cap] := by rw [hV]; exact Box.new _ _ _
      have hgV : X.grownBy V (some bm) := grown_trans HJ.out.2 (grown_below hbV _)
      obtain ⟨_, _, e0, hLb, hI, _⟩ := sg_viewN hL
      have HC := note_any n0 p.1 (.slice x p.2.length cap) p.2 bm (bm + 1) (segv (l.take k)) w V (by simp at e0; obtain ⟨rfl, rfl⟩ := e0; exact hLb) (below_grow HX.out.1 hgV hb0) hb0 (HJ.out.1.below hbV) (HX.out.2.1.grown hgV (by have := HBM.out; simp)) (by omega) hI (by
        have h1 := segv_length (l := l.take k) fun q hq => HOK.out.2.2 q (List.mem_of_mem_take hq)
        have h2 := HOK.out.2.2 p (List.mem_of_getElem? hp)
        have h3 := HOK.out.1
        rw [List.length_take] at h1
        omega)
      have HG : Hid (X.grownBy V (some bm)) := hgV
      have HSV : Hid (segv (l.take (k + 1)) = segv (l.take k) ++ plc p.1 p.2) := segv_take hp
      obtain ⟨v0, v1, -⟩ := hxV.two
      obtain ⟨m, hm⟩ : ∃ m, m = p.2.length := ⟨_, rfl⟩
      rw [← hm] at g1 HC hV v1
      clear hp hL c0 c1 hbr hm hbV hxV hgV hLb hI e0 hb0
      go_upto_region 6 with fail
      rw [← hV]
      clear hV hix g0 g1
      go_wp2_with fail
      refine HC.mono ?_
      rintro e2 w2 ⟨⟨u2, rfl⟩, hL2, hg2⟩
      have HJ2 : Hid (LV w w2 bm (segv (l.take (k + 1))) ∧ X.grownBy w2 (some bm)) := ⟨by rw [HSV.out]; exact hL2, grown_trans HG.out hg2⟩
      clear hL2 hg2 HC v0 v1
      go_wp2
      go_roundw
      case rel => exact ⟨k + 1, by omega, by go_num, HJ2.out⟩
      case measure => simp [intOf]; omega
    · obtain rfl : k = n := by omega
      have hb0 : w.heap.size ≤ bm := by have := HX.out.2.2.2.2; have := HBM.out; omega
      have hxr := HX.out.2.2.2.1.grown HJ.out.2 (by have := HX.out.2.2.2.2; have := HBM.out; simp; omega)
      have hmr : Box wr (bm + 1) 77 #[.map (some bm)] := HX.out.2.1.grown HJ.out.2 (by have := HBM.out; simp)
      have HC := note_any n0 nx (.slice e no f) op bm (bm + 1) (segv l) w wr HA.out.2 (below_grow HX.out.1 HJ.out.2 hb0) hb0 (by have := HJ.out.1; rwa [HN.out.1, List.take_length] at this) hmr (by omega) HN.out.2.2 (by
        have h1 := segv_length (l := l) fun q hq => HOK.out.2.2 q hq
        have h2 := HOK.out.2.1
        have h3 := HOK.out.1
        have := HN.out
        omega)
      have HMR : Hid (Box wr (bm + 1) 77 #[.map (some bm)] ∧ Below w.heap.size w wr ∧ w.heap.size ≤ bm) := ⟨hmr, below_grow HX.out.1 HJ.out.2 hb0, hb0⟩
      obtain ⟨z0, z1, z2, z3, -⟩ := hxr.four
      clear hxr hmr hb0
      go_wp2_with fail
      refine HC.mono ?_
      rintro e2 w2 ⟨⟨u2, rfl⟩, hL2, hg2⟩
      have hm2 := (HMR.out.1.grown hg2 (by simp)).cell 0 rfl
      have HE : Hid (post (.returned (.map (some bm))) w2) := HPo.out _ _ hL2 HMR.out.2.2 (below_grow HMR.out.2.1 hg2 HMR.out.2.2)
      clear hL2 hg2
      go_wp2
      exact HE.out

end Go.Proofs.Ytkpckadicjdieab
