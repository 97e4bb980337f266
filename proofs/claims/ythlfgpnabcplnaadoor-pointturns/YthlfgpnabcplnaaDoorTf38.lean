/-
  PointTurns: the walk of the law.
-/
import Derived.Test.YthlfgpnabcplnaaDoorTf37
import Derived.Test.YthlfgpnabcplnaaDoorTf36
namespace Go.Proofs.YthlfgpnabcplnaaDoor.W.pointTurns
open Go.RowKit
set_option linter.unusedVariables false

set_option maxRecDepth 100000 in
set_option maxHeartbeats 64000000 in
theorem walk (xl : Option Addr) (nl cl : Nat) (ls : List Pt) (at0 bt : Int) (w : World) (hL : ptsR.lies 0 w [.slice xl nl cl] ls) (hf : ∀ q ∈ ls, q.2.2.2.2.length ≤ 140737488351232) (hat : I64 at0) (hbt : 0 ≤ bt ∧ bt ≤ 255) (hg : Glob w) :
    Calls Tryd.prog 4 #[.slice xl nl cl, .int .i64 at0, .int .u8 bt] w fun e w' => e = .returned (.bool true) ∧ Below w.heap.size w w' := by
  have HL : Hid (nl = ls.length ∧ nl ≤ maxLen) := by
    obtain ⟨x, y, h, h1, h2, _⟩ := pts_len hL
    simp only [List.cons.injEq, and_true] at h
    obtain ⟨_, rfl, _⟩ := Value.slice.inj h
    exact ⟨rfl, h2⟩
  have HLs : Hid (ptsR.lies 0 w [.slice xl nl cl] ls ∧ ∀ q ∈ ls, q.2.2.2.2.length ≤ 140737488351232) := ⟨hL, hf⟩
  have H0 : Hid (I64 at0 ∧ (0 ≤ bt ∧ bt ≤ 255) ∧ ∀ V, Below w.heap.size w V → Glob V) := ⟨hat, hbt, fun V hV => hg.below hV hg.lt⟩
  have HA := alive17 w hg
  have hll := run_len Tryd.underlying36 xl nl cl
  have hmx : nl ≤ maxLen := HL.out.2
  clear hL hf hat hg hmx
  go_enter Tryd.func4, Tryd.ntmps4
  go_wp2_with fail
  refine HA.mono ?_
  rintro r w1 ⟨rfl, hb1⟩
  have H1 : Hid (Below w.heap.size w w1) := hb1
  clear HA hb1
  go_wp2_with fail
  refine (Dk.new_any 16 w1 (by omega) (by omega)).mono ?_
  rintro r w7 ⟨v1, rfl, hG, hb⟩
  have hG : Dk.Grid w1.heap.size w7 v1 zrows := hG
  obtain ⟨x1, y1, x2, y2, heq, -, -⟩ := (Dk.Grid.disk hG).shape
  simp only [Value.agg.injEq, Array.mk.injEq, List.cons.injEq, and_true] at heq
  obtain ⟨rfl, -⟩ := heq
  have h16 : zrows.length = 16 := by simp [zrows]
  rw [h16] at hG ⊢
  obtain ⟨V7, hV7⟩ : ∃ V, V = w7.alloc (.cells #[.slice x1 16 y1, .slice none 0 0] 40) := ⟨_, rfl⟩
  have hbV : Below w7.heap.size w7 V7 := by rw [hV7]; exact (Below.refl _ w7).alloc (Nat.le_refl _) _
  have hBV : Box V7 w7.heap.size 40 #[.slice x1 16 y1, .slice none 0 0] := by rw [hV7]; exact Box.new _ _ _
  obtain ⟨N, hN⟩ : ∃ N, N = w7.heap.size := ⟨_, rfl⟩
  rw [← hN] at hBV
  have H7 : Hid (Below w.heap.size w V7 ∧ Box V7 N 40 #[.slice x1 16 y1, .slice none 0 0] ∧ Dk.Grid w.heap.size V7 (.slice x1 16 y1) zrows ∧ w.heap.size ≤ N) := ⟨below_any (below_any H1.out hb) hbV, hBV, grid_below (hG.weaken H1.out.size) hbV, by rw [hN]; exact Nat.le_trans H1.out.size hb.size⟩
  clear hG hb hbV hBV h16 H1
  go_upto_region 4 with fail
  rw [← hV7, ← hN]
  clear hV7 hN
  obtain ⟨M, hM⟩ : ∃ M, M = V7.heap.size := ⟨_, rfl⟩
  obtain ⟨V9, hV9⟩ : ∃ V, V = (V7.alloc (.cells #[.int .i64 0, .int .i64 0, .int .i64 0, .int .i64 0, .slice none 0 0] 24)).alloc (.cells #[.int .i64 0, .int .i64 0, .int .i64 0, .int .i64 0, .slice none 0 0] 24) := ⟨_, rfl⟩
  have HI0 : Hid (TI w N M 0 zrows x1 y1 zP none 0 0 zP none 0 0 V9) := by
    have hb9 : Below V7.heap.size V7 V9 := by rw [hV9]; exact ((Below.refl _ V7).alloc (Nat.le_refl _) _).alloc (by simp) _
    refine ⟨below_any H7.out.1 hb9, ⟨H7.out.2.2.2, by rw [hM]; exact H7.out.2.1.lt, by rw [hM, hV9]; simp⟩, H7.out.2.1.below hb9 H7.out.2.1.lt, grid_below H7.out.2.2.1 hb9, ?_, ?_, ⟨rfl, (Own1.nil 0 w).arg⟩, ⟨rfl, (Own1.nil 0 w).arg⟩, inv0⟩
    · rw [hV9, hM]; exact (Box.new _ _ _).alloc _
    · have := Box.new (V7.alloc (.cells #[.int .i64 0, .int .i64 0, .int .i64 0, .int .i64 0, .slice none 0 0] 24)) 24 #[.int .i64 0, .int .i64 0, .int .i64 0, .int .i64 0, .slice none 0 0]
      rw [World.size_alloc, ← hV9, ← hM] at this
      exact this
  clear H7
  go_wp2_with (first | (with_reducible refine Calls.mono (num17 _ _) ?_; rintro _ _ ⟨rfl, rfl⟩))
  rw [← hV9]
  try rw [← hM]
  clear hV9 hM
  go_loopw [11, 12] (fun vn vi wr => ∃ (n k : Nat) (T : List (List Int)) (a1 : Option Addr) (c1 : Nat) (s v c : Int) (pa : Option Addr) (pl pc : Nat) (d : List Int) (e' s' v' c' : Int) (qa : Option Addr) (ql qc : Nat) (d' : List Int), n ≤ k ∧ k ≤ nl ∧ k ≤ 20 ∧ vn = .int .i64 (n : Int) ∧ vi = .int .i64 (k : Int) ∧ Hid (TI w N M n T a1 c1 ((n : Int), s, v, c, d) pa pl pc (e', s', v', c', d') qa ql qc wr)) (fun _ i _ => 20 - (intOf i).toNat)
  case atStart => exact ⟨0, 0, zrows, x1, y1, 0, 0, 0, none, 0, 0, [], 0, 0, 0, 0, none, 0, 0, [], Nat.le_refl _, Nat.zero_le _, Nat.zero_le _, rfl, rfl, HI0.out⟩
  case round =>
    clear HI0
    obtain ⟨n, k, T, a1, c1, s, v, c, pa, pl, pc, d, e', s', v', c', qa, ql, qc, d', hnk, hk, hk2, rfl, rfl, HI⟩ := hrel
    by_cases hlt : k < nl
    case neg =>
      obtain rfl : k = nl := by omega
      go_upto_region 19 with fail
      clear hll hlt hk
      have HP := load_any w.heap.size _ _ wr (Dk.Grid.disk HI.out.g) (H0.out.2.2 wr HI.out.bel)
      have hBd := HI.out.d
      obtain ⟨d0, d1, -, -⟩ := hBd.two
      clear hBd
      by_cases hn0 : n = 0
      · subst hn0
        obtain ⟨l1, l2⟩ := inv_load0 HI.out.inv
        rw [l1, l2] at HP
        clear l1 l2
        go_wp2_with fail
        clear d0 d1
        refine HP.mono ?_
        rintro r w19 ⟨u, rfl, ⟨ga, gc, rfl, hag⟩, hb⟩
        simp only [zP, List.length_nil] at hag ⊢
        clear hag
        obtain ⟨Z, hZ⟩ : ∃ V, V = w19.alloc (.cells #[.int .i64 0, .int .i64 0, .int .i64 0, .int .i64 0, .slice ga 0 gc] 29) := ⟨_, rfl⟩
        have hbV : Below w19.heap.size w19 Z := by rw [hZ]; exact (Below.refl _ w19).alloc (Nat.le_refl _) _
        have hBp : Box Z w19.heap.size 29 #[.int .i64 0, .int .i64 0, .int .i64 0, .int .i64 0, .slice ga 0 gc] := by rw [hZ]; exact Box.new _ _ _
        have HZ : Hid (Below w.heap.size w Z) := below_any (below_any HI.out.bel hb) hbV
        obtain ⟨⟨g0, g1, g2, g3, g4⟩, -⟩ := box5 hBp
        clear hb hbV hBp HP
        go_upto_region 20 with fail
        rw [← hZ]
        clear hZ
        go_wp2_with (first | (with_reducible refine Calls.mono (num17 _ _) ?_; rintro _ _ ⟨rfl, rfl⟩))
        go_ret
        exact ⟨rfl, HZ.out⟩
      have hn1 : 1 ≤ n := by omega
      obtain ⟨l1, l2⟩ := inv_load HI.out.inv hn1
      rw [l1, l2] at HP
      clear l1 l2
      go_wp2_with fail
      clear d0 d1
      refine HP.mono ?_
      rintro r w19 ⟨u, rfl, ⟨ga, gc, rfl, hag⟩, hb⟩
      simp only at hag ⊢
      rw [← HI.out.la.1] at hag ⊢
      obtain ⟨Z, hZ⟩ : ∃ V, V = w19.alloc (.cells #[.int .i64 (n : Int), .int .i64 s, .int .i64 v, .int .i64 c, .slice ga pl gc] 29) := ⟨_, rfl⟩
      have hbV : Below w19.heap.size w19 Z := by rw [hZ]; exact (Below.refl _ w19).alloc (Nat.le_refl _) _
      have hBp : Box Z w19.heap.size 29 #[.int .i64 (n : Int), .int .i64 s, .int .i64 v, .int .i64 c, .slice ga pl gc] := by rw [hZ]; exact Box.new _ _ _
      have HZ : Hid (TI w N M n T a1 c1 ((n : Int), s, v, c, d) pa pl pc (e', s', v', c', d') qa ql qc Z ∧ Box Z w19.heap.size 29 #[.int .i64 (n : Int), .int .i64 s, .int .i64 v, .int .i64 c, .slice ga pl gc] ∧ Arg 0 Z (.slice ga pl gc) d) := ⟨HI.out.below (below_any hb hbV), hBp, (hag.below hbV).weaken (Nat.zero_le _)⟩
      clear hb hbV hBp hag HP HI
      go_upto_region 20 with fail
      rw [← hZ]
      clear hZ
      have hnz : ¬ (n : Int) = 0 := by omega
      have hnb : ((n : Int) == 0) = false := by simpa using hn0
      have hLb : Box Z M 24 #[.int .i64 (n : Int), .int .i64 s, .int .i64 v, .int .i64 c, .slice pa pl pc] := HZ.out.1.l
      obtain ⟨⟨g0, g1, g2, g3, g4⟩, -⟩ := box5 HZ.out.2.1
      obtain ⟨⟨d0, d1, d2, d3, d4⟩, -⟩ := box5 hLb
      have HC := same17 (e := (n : Int)) (s := s) (v := v) (c := c) HZ.out.2.2 (HZ.out.1.la.2.below HZ.out.1.bel)
      clear hLb
      go_wp2_with (first | (with_reducible refine Calls.mono (num17 _ _) ?_; rintro _ _ ⟨rfl, rfl⟩))
      clear g0 g1 g2 g3 g4 d0 d1 d2 d3 d4
      refine HC.mono ?_
      rintro r w22 ⟨rfl, hb⟩
      have H22 : Hid (TI w N M n T a1 c1 ((n : Int), s, v, c, d) pa pl pc (e', s', v', c', d') qa ql qc w22) := HZ.out.1.below hb
      clear HC hb HZ
      by_cases h1 : n = 1
      · subst h1
        have HQ : Hid (Below w.heap.size w w22) := H22.out.bel
        go_wp2
        go_ret
        exact ⟨rfl, HQ.out⟩
      have hn1i : ¬ (n : Int) = 1 := by omega
      have hn1b : ((n : Int) == 1) = false := by simpa using hn1i
      by_cases hb0 : bt = 0
      · subst hb0
        have HQ : Hid (Below w.heap.size w w22) := H22.out.bel
        go_wp2
        go_ret
        exact ⟨rfl, HQ.out⟩
      have hbb : (bt == 0) = false := by simpa using hb0
      have hn2 : 2 ≤ n := by omega
      obtain ⟨t, j0, ht, ht1, ht2, hj, hj2⟩ := spot at0 510 (by decide) (by decide)
      have ht : at0.tmod 510 = t := ht
      have hj : (t + 510).tmod 510 = (j0 : Int) := hj
      have ht1 : -510 < t := ht1
      have ht2 : t < 510 := ht2
      obtain ⟨kk, hkk⟩ : ∃ z, z = 2 + j0 := ⟨_, rfl⟩
      have HW : Hid (wrap64 (2 + (j0 : Int)) = (kk : Int)) := (wrap_small _ (by clear ht hj; omega) (by clear ht hj; omega)).trans (by clear ht hj; omega)
      have hkj : 2 + (j0 : Int) = (kk : Int) := by clear ht hj; omega
      have hK : Hid (2 ≤ kk ∧ kk < 512) := ⟨by clear ht hj; omega, by clear ht hj; omega⟩
      have hat : -9223372036854775808 ≤ at0 ∧ at0 ≤ 9223372036854775807 := H0.out.1
      clear hkk
      go_upto_region 27 with fail
      try rw [HW.out]
      clear HW ht hj ht1 ht2 hkj hj2 hat
      obtain ⟨b, hbd⟩ : ∃ z, z = n % 2 := ⟨_, rfl⟩
      obtain ⟨b8, hb8⟩ : ∃ z, z = 8 * b := ⟨_, rfl⟩
      obtain ⟨kq, hkq⟩ : ∃ z, z = kk / 64 := ⟨_, rfl⟩
      obtain ⟨kr, hkr⟩ : ∃ z, z = kk % 64 := ⟨_, rfl⟩
      obtain ⟨ix, hix⟩ : ∃ z, z = b8 + kq := ⟨_, rfl⟩
      have hb2 : b < 2 := by omega
      have e1 : (n : Int).tmod 2 = (b : Int) := by rw [Int.tmod_eq_emod_of_nonneg (by omega)]; omega
      have e2 : 8 * (b : Int) = (b8 : Int) := by omega
      have e3 : (kk : Int).tdiv 64 = (kq : Int) := by rw [Int.tdiv_eq_ediv_of_nonneg (by omega)]; omega
      have e4 : (b8 : Int) + (kq : Int) = (ix : Int) := by omega
      have e5 : (kk : Int).tmod 64 = (kr : Int) := by rw [Int.tmod_eq_emod_of_nonneg (by omega)]; omega
      have i16 : ix < 16 := by have := hK.out; omega
      have i16' : (ix : Int) < 16 := by omega
      have k64 : kr < 64 := by omega
      have k64' : (kr : Int) < 64 := by omega
      have kq8 : kq < 8 := by have := hK.out; omega
      have hreg : (reg (n : Int)).toNat = b8 := by have := reg_mod2 n; have := to_reg (n : Int); omega
      have hT16 := H22.out.inv.2.1
      have hSv := H22.out.inv.1
      obtain ⟨l, hl⟩ := get_at (l := T) (k := ix) (by omega)
      have hl64 := hSv.2.2.1 l (List.mem_of_getElem? hl)
      have hlo := hSv.2.2.2 l (List.mem_of_getElem? hl)
      obtain ⟨g0, g, rfl, -, hrow, hge, hcl, hfz, ht5, hput⟩ := grid_cell H22.out.g hT16 ix l hl
      have hxl : l[kr]? = some (l.getD kr 0) := by rw [List.getElem?_eq_getElem (by omega)]; simp [List.getD, List.getElem?_eq_getElem (show kr < l.length by omega)]
      have hcell := hcl kr _ hxl
      have hfr := hfz kr
      have hx : 0 ≤ l.getD kr 0 ∧ l.getD kr 0 ≤ 255 := hlo _ (List.mem_of_getElem? hxl)
      obtain ⟨x, hxd⟩ : ∃ x, x = l.getD kr 0 := ⟨_, rfl⟩
      rw [← hxd] at hcell hx
      have hxy := xor_ne ⟨x.toNat, by omega⟩ ⟨bt.toNat, by have := H0.out.2.1; omega⟩ (by have := H0.out.2.1; simp; omega)
      simp only [Int.toNat_of_nonneg hx.1, Int.toNat_of_nonneg H0.out.2.1.1] at hxy
      obtain ⟨y, hy⟩ : ∃ y, y = bits .xor .u8 x bt := ⟨_, rfl⟩
      rw [← hy] at hxy
      have hik : (reg (n : Int)).toNat + kk / 64 = ix := by omega
      have hkk64 : kk % 64 = kr := hkr.symm
      have hsp := inv_spoil H22.out.inv hn2 kk hK.out.1 hK.out.2 (l := l) (by rw [hik]; exact hl) y hxy.2 (by rw [hkk64, ← hxd]; exact hxy.1)
      rw [hik, hkk64] at hsp
      obtain ⟨V6, hV6⟩ : ∃ V, V = w22.setCell ⟨g, kr, none⟩ (.int .u8 y) := ⟨_, rfl⟩
      have HVY : Hid (V6 = w22.setCell ⟨g, kr, none⟩ (.int .u8 y) ∧ y = bits .xor .u8 x bt) := ⟨hV6, hy⟩
      have HT : Hid (ldE ⟨T.set ix (l.set kr y), []⟩ = 0 ∧ ldV ⟨T.set ix (l.set kr y), []⟩ = (e', s', v', c', d')) := hsp
      have hty : ∀ (B : Nat) (t' : TypeId) (cs : Array Value), t' ≠ 5 → Box w22 B t' cs → Box V6 B t' cs := fun B t' cs hne hB => by
        rw [hV6]
        exact hB.other (fun e => hne (ht5 t' cs (e ▸ hB)))
      have HB6 : Hid (Below w.heap.size w V6 ∧ Box V6 N 40 #[.slice (some ⟨g0, 0, none⟩) 16 c1, .slice none 0 0] ∧ Dk.Grid w.heap.size V6 (.slice (some ⟨g0, 0, none⟩) 16 c1) (T.set ix (l.set kr y)) ∧ Box V6 (M + 1) 24 #[.int .i64 e', .int .i64 s', .int .i64 v', .int .i64 c', .slice qa ql qc] ∧ ql = d'.length ∧ Arg 0 w (.slice qa ql qc) d') := by
        refine ⟨?_, hty _ _ _ (by decide) H22.out.d, ?_, hty _ _ _ (by decide) H22.out.o, H22.out.oa.1, H22.out.oa.2⟩
        · rw [hV6]; exact H22.out.bel.setCell (p := ⟨g, kr, none⟩) hge _
        · rw [hV6]; exact hput kr y hxy.2
      have hBd := H22.out.d
      obtain ⟨d0, d1, -, -⟩ := hBd.two
      have hLb : Box w22 M 24 #[.int .i64 (n : Int), .int .i64 s, .int .i64 v, .int .i64 c, .slice pa pl pc] := H22.out.l
      have f0 := hLb.cell 0 rfl
      have f0 : w22.cell? ⟨M, 0, none⟩ = some (.int .i64 (n : Int)) := f0
      clear hbd hb8 hkq hkr hix hreg hT16 hSv hl hl64 hlo hge hcl hfz ht5 hput hxl hx hxd hxy hik hkk64 hsp hty hBd hLb hV6 hy
      go_upto_region 30 with fail
      rw [← HVY.out.2]
      rw [← HVY.out.1]
      clear HVY d0 d1 f0 hrow hcell hfr e1 e2 e3 e4 e5 H22
      have HP := load_any w.heap.size _ _ V6 (Dk.Grid.disk HB6.out.2.2.1) (H0.out.2.2 V6 HB6.out.1)
      rw [HT.out.1, HT.out.2] at HP
      obtain ⟨d0, d1, -, -⟩ := HB6.out.2.1.two
      go_wp2_with fail
      clear d0 d1
      refine HP.mono ?_
      rintro r w30 ⟨u, rfl, ⟨ga, gc, rfl, hag⟩, hb⟩
      simp only at hag ⊢
      rw [← HB6.out.2.2.2.2.1] at hag ⊢
      obtain ⟨Y, hY⟩ : ∃ V, V = w30.alloc (.cells #[.int .i64 e', .int .i64 s', .int .i64 v', .int .i64 c', .slice ga ql gc] 29) := ⟨_, rfl⟩
      have hbV : Below w30.heap.size w30 Y := by rw [hY]; exact (Below.refl _ w30).alloc (Nat.le_refl _) _
      have hBp : Box Y w30.heap.size 29 #[.int .i64 e', .int .i64 s', .int .i64 v', .int .i64 c', .slice ga ql gc] := by rw [hY]; exact Box.new _ _ _
      have b6Y := below_any hb hbV
      have HY : Hid (Below w.heap.size w Y) := below_any HB6.out.1 b6Y
      obtain ⟨⟨g0', g1, g2, g3, g4⟩, -⟩ := box5 hBp
      obtain ⟨⟨d0, d1, d2, d3, d4⟩, -⟩ := box5 (HB6.out.2.2.2.1.below b6Y HB6.out.2.2.2.1.lt)
      have HC := same17 (e := e') (s := s') (v := v') (c := c') ((hag.below hbV).weaken (Nat.zero_le _)) (HB6.out.2.2.2.2.2.below HY.out)
      clear hb hbV hBp b6Y hag HP HB6
      go_upto_region 31 with fail
      rw [← hY]
      clear hY
      go_wp2_with (first | (with_reducible refine Calls.mono (num17 _ _) ?_; rintro _ _ ⟨rfl, rfl⟩))
      clear g0' g1 g2 g3 g4 d0 d1 d2 d3 d4
      refine HC.mono ?_
      rintro r w31 ⟨rfl, hb⟩
      have HQ : Hid (Below w.heap.size w w31) := below_any HY.out hb
      clear HC hb
      go_wp2
      go_ret
      exact ⟨rfl, HQ.out⟩
    have hki : (k : Int) < (nl : Int) := by omega
    by_cases hlt2 : k < 20
    case neg =>
      obtain rfl : k = 20 := by omega
      go_upto_region 19 with fail
      clear hll hlt hk hki
      have HP := load_any w.heap.size _ _ wr (Dk.Grid.disk HI.out.g) (H0.out.2.2 wr HI.out.bel)
      have hBd := HI.out.d
      obtain ⟨d0, d1, -, -⟩ := hBd.two
      clear hBd
      by_cases hn0 : n = 0
      · subst hn0
        obtain ⟨l1, l2⟩ := inv_load0 HI.out.inv
        rw [l1, l2] at HP
        clear l1 l2
        go_wp2_with fail
        clear d0 d1
        refine HP.mono ?_
        rintro r w19 ⟨u, rfl, ⟨ga, gc, rfl, hag⟩, hb⟩
        simp only [zP, List.length_nil] at hag ⊢
        clear hag
        obtain ⟨Z, hZ⟩ : ∃ V, V = w19.alloc (.cells #[.int .i64 0, .int .i64 0, .int .i64 0, .int .i64 0, .slice ga 0 gc] 29) := ⟨_, rfl⟩
        have hbV : Below w19.heap.size w19 Z := by rw [hZ]; exact (Below.refl _ w19).alloc (Nat.le_refl _) _
        have hBp : Box Z w19.heap.size 29 #[.int .i64 0, .int .i64 0, .int .i64 0, .int .i64 0, .slice ga 0 gc] := by rw [hZ]; exact Box.new _ _ _
        have HZ : Hid (Below w.heap.size w Z) := below_any (below_any HI.out.bel hb) hbV
        obtain ⟨⟨g0, g1, g2, g3, g4⟩, -⟩ := box5 hBp
        clear hb hbV hBp HP
        go_upto_region 20 with fail
        rw [← hZ]
        clear hZ
        go_wp2_with (first | (with_reducible refine Calls.mono (num17 _ _) ?_; rintro _ _ ⟨rfl, rfl⟩))
        go_ret
        exact ⟨rfl, HZ.out⟩
      have hn1 : 1 ≤ n := by omega
      obtain ⟨l1, l2⟩ := inv_load HI.out.inv hn1
      rw [l1, l2] at HP
      clear l1 l2
      go_wp2_with fail
      clear d0 d1
      refine HP.mono ?_
      rintro r w19 ⟨u, rfl, ⟨ga, gc, rfl, hag⟩, hb⟩
      simp only at hag ⊢
      rw [← HI.out.la.1] at hag ⊢
      obtain ⟨Z, hZ⟩ : ∃ V, V = w19.alloc (.cells #[.int .i64 (n : Int), .int .i64 s, .int .i64 v, .int .i64 c, .slice ga pl gc] 29) := ⟨_, rfl⟩
      have hbV : Below w19.heap.size w19 Z := by rw [hZ]; exact (Below.refl _ w19).alloc (Nat.le_refl _) _
      have hBp : Box Z w19.heap.size 29 #[.int .i64 (n : Int), .int .i64 s, .int .i64 v, .int .i64 c, .slice ga pl gc] := by rw [hZ]; exact Box.new _ _ _
      have HZ : Hid (TI w N M n T a1 c1 ((n : Int), s, v, c, d) pa pl pc (e', s', v', c', d') qa ql qc Z ∧ Box Z w19.heap.size 29 #[.int .i64 (n : Int), .int .i64 s, .int .i64 v, .int .i64 c, .slice ga pl gc] ∧ Arg 0 Z (.slice ga pl gc) d) := ⟨HI.out.below (below_any hb hbV), hBp, (hag.below hbV).weaken (Nat.zero_le _)⟩
      clear hb hbV hBp hag HP HI
      go_upto_region 20 with fail
      rw [← hZ]
      clear hZ
      have hnz : ¬ (n : Int) = 0 := by omega
      have hnb : ((n : Int) == 0) = false := by simpa using hn0
      have hLb : Box Z M 24 #[.int .i64 (n : Int), .int .i64 s, .int .i64 v, .int .i64 c, .slice pa pl pc] := HZ.out.1.l
      obtain ⟨⟨g0, g1, g2, g3, g4⟩, -⟩ := box5 HZ.out.2.1
      obtain ⟨⟨d0, d1, d2, d3, d4⟩, -⟩ := box5 hLb
      have HC := same17 (e := (n : Int)) (s := s) (v := v) (c := c) HZ.out.2.2 (HZ.out.1.la.2.below HZ.out.1.bel)
      clear hLb
      go_wp2_with (first | (with_reducible refine Calls.mono (num17 _ _) ?_; rintro _ _ ⟨rfl, rfl⟩))
      clear g0 g1 g2 g3 g4 d0 d1 d2 d3 d4
      refine HC.mono ?_
      rintro r w22 ⟨rfl, hb⟩
      have H22 : Hid (TI w N M n T a1 c1 ((n : Int), s, v, c, d) pa pl pc (e', s', v', c', d') qa ql qc w22) := HZ.out.1.below hb
      clear HC hb HZ
      by_cases h1 : n = 1
      · subst h1
        have HQ : Hid (Below w.heap.size w w22) := H22.out.bel
        go_wp2
        go_ret
        exact ⟨rfl, HQ.out⟩
      have hn1i : ¬ (n : Int) = 1 := by omega
      have hn1b : ((n : Int) == 1) = false := by simpa using hn1i
      by_cases hb0 : bt = 0
      · subst hb0
        have HQ : Hid (Below w.heap.size w w22) := H22.out.bel
        go_wp2
        go_ret
        exact ⟨rfl, HQ.out⟩
      have hbb : (bt == 0) = false := by simpa using hb0
      have hn2 : 2 ≤ n := by omega
      obtain ⟨t, j0, ht, ht1, ht2, hj, hj2⟩ := spot at0 510 (by decide) (by decide)
      have ht : at0.tmod 510 = t := ht
      have hj : (t + 510).tmod 510 = (j0 : Int) := hj
      have ht1 : -510 < t := ht1
      have ht2 : t < 510 := ht2
      obtain ⟨kk, hkk⟩ : ∃ z, z = 2 + j0 := ⟨_, rfl⟩
      have HW : Hid (wrap64 (2 + (j0 : Int)) = (kk : Int)) := (wrap_small _ (by clear ht hj; omega) (by clear ht hj; omega)).trans (by clear ht hj; omega)
      have hkj : 2 + (j0 : Int) = (kk : Int) := by clear ht hj; omega
      have hK : Hid (2 ≤ kk ∧ kk < 512) := ⟨by clear ht hj; omega, by clear ht hj; omega⟩
      have hat : -9223372036854775808 ≤ at0 ∧ at0 ≤ 9223372036854775807 := H0.out.1
      clear hkk
      go_upto_region 27 with fail
      try rw [HW.out]
      clear HW ht hj ht1 ht2 hkj hj2 hat
      obtain ⟨b, hbd⟩ : ∃ z, z = n % 2 := ⟨_, rfl⟩
      obtain ⟨b8, hb8⟩ : ∃ z, z = 8 * b := ⟨_, rfl⟩
      obtain ⟨kq, hkq⟩ : ∃ z, z = kk / 64 := ⟨_, rfl⟩
      obtain ⟨kr, hkr⟩ : ∃ z, z = kk % 64 := ⟨_, rfl⟩
      obtain ⟨ix, hix⟩ : ∃ z, z = b8 + kq := ⟨_, rfl⟩
      have hb2 : b < 2 := by omega
      have e1 : (n : Int).tmod 2 = (b : Int) := by rw [Int.tmod_eq_emod_of_nonneg (by omega)]; omega
      have e2 : 8 * (b : Int) = (b8 : Int) := by omega
      have e3 : (kk : Int).tdiv 64 = (kq : Int) := by rw [Int.tdiv_eq_ediv_of_nonneg (by omega)]; omega
      have e4 : (b8 : Int) + (kq : Int) = (ix : Int) := by omega
      have e5 : (kk : Int).tmod 64 = (kr : Int) := by rw [Int.tmod_eq_emod_of_nonneg (by omega)]; omega
      have i16 : ix < 16 := by have := hK.out; omega
      have i16' : (ix : Int) < 16 := by omega
      have k64 : kr < 64 := by omega
      have k64' : (kr : Int) < 64 := by omega
      have kq8 : kq < 8 := by have := hK.out; omega
      have hreg : (reg (n : Int)).toNat = b8 := by have := reg_mod2 n; have := to_reg (n : Int); omega
      have hT16 := H22.out.inv.2.1
      have hSv := H22.out.inv.1
      obtain ⟨l, hl⟩ := get_at (l := T) (k := ix) (by omega)
      have hl64 := hSv.2.2.1 l (List.mem_of_getElem? hl)
      have hlo := hSv.2.2.2 l (List.mem_of_getElem? hl)
      obtain ⟨g0, g, rfl, -, hrow, hge, hcl, hfz, ht5, hput⟩ := grid_cell H22.out.g hT16 ix l hl
      have hxl : l[kr]? = some (l.getD kr 0) := by rw [List.getElem?_eq_getElem (by omega)]; simp [List.getD, List.getElem?_eq_getElem (show kr < l.length by omega)]
      have hcell := hcl kr _ hxl
      have hfr := hfz kr
      have hx : 0 ≤ l.getD kr 0 ∧ l.getD kr 0 ≤ 255 := hlo _ (List.mem_of_getElem? hxl)
      obtain ⟨x, hxd⟩ : ∃ x, x = l.getD kr 0 := ⟨_, rfl⟩
      rw [← hxd] at hcell hx
      have hxy := xor_ne ⟨x.toNat, by omega⟩ ⟨bt.toNat, by have := H0.out.2.1; omega⟩ (by have := H0.out.2.1; simp; omega)
      simp only [Int.toNat_of_nonneg hx.1, Int.toNat_of_nonneg H0.out.2.1.1] at hxy
      obtain ⟨y, hy⟩ : ∃ y, y = bits .xor .u8 x bt := ⟨_, rfl⟩
      rw [← hy] at hxy
      have hik : (reg (n : Int)).toNat + kk / 64 = ix := by omega
      have hkk64 : kk % 64 = kr := hkr.symm
      have hsp := inv_spoil H22.out.inv hn2 kk hK.out.1 hK.out.2 (l := l) (by rw [hik]; exact hl) y hxy.2 (by rw [hkk64, ← hxd]; exact hxy.1)
      rw [hik, hkk64] at hsp
      obtain ⟨V6, hV6⟩ : ∃ V, V = w22.setCell ⟨g, kr, none⟩ (.int .u8 y) := ⟨_, rfl⟩
      have HVY : Hid (V6 = w22.setCell ⟨g, kr, none⟩ (.int .u8 y) ∧ y = bits .xor .u8 x bt) := ⟨hV6, hy⟩
      have HT : Hid (ldE ⟨T.set ix (l.set kr y), []⟩ = 0 ∧ ldV ⟨T.set ix (l.set kr y), []⟩ = (e', s', v', c', d')) := hsp
      have hty : ∀ (B : Nat) (t' : TypeId) (cs : Array Value), t' ≠ 5 → Box w22 B t' cs → Box V6 B t' cs := fun B t' cs hne hB => by
        rw [hV6]
        exact hB.other (fun e => hne (ht5 t' cs (e ▸ hB)))
      have HB6 : Hid (Below w.heap.size w V6 ∧ Box V6 N 40 #[.slice (some ⟨g0, 0, none⟩) 16 c1, .slice none 0 0] ∧ Dk.Grid w.heap.size V6 (.slice (some ⟨g0, 0, none⟩) 16 c1) (T.set ix (l.set kr y)) ∧ Box V6 (M + 1) 24 #[.int .i64 e', .int .i64 s', .int .i64 v', .int .i64 c', .slice qa ql qc] ∧ ql = d'.length ∧ Arg 0 w (.slice qa ql qc) d') := by
        refine ⟨?_, hty _ _ _ (by decide) H22.out.d, ?_, hty _ _ _ (by decide) H22.out.o, H22.out.oa.1, H22.out.oa.2⟩
        · rw [hV6]; exact H22.out.bel.setCell (p := ⟨g, kr, none⟩) hge _
        · rw [hV6]; exact hput kr y hxy.2
      have hBd := H22.out.d
      obtain ⟨d0, d1, -, -⟩ := hBd.two
      have hLb : Box w22 M 24 #[.int .i64 (n : Int), .int .i64 s, .int .i64 v, .int .i64 c, .slice pa pl pc] := H22.out.l
      have f0 := hLb.cell 0 rfl
      have f0 : w22.cell? ⟨M, 0, none⟩ = some (.int .i64 (n : Int)) := f0
      clear hbd hb8 hkq hkr hix hreg hT16 hSv hl hl64 hlo hge hcl hfz ht5 hput hxl hx hxd hxy hik hkk64 hsp hty hBd hLb hV6 hy
      go_upto_region 30 with fail
      rw [← HVY.out.2]
      rw [← HVY.out.1]
      clear HVY d0 d1 f0 hrow hcell hfr e1 e2 e3 e4 e5 H22
      have HP := load_any w.heap.size _ _ V6 (Dk.Grid.disk HB6.out.2.2.1) (H0.out.2.2 V6 HB6.out.1)
      rw [HT.out.1, HT.out.2] at HP
      obtain ⟨d0, d1, -, -⟩ := HB6.out.2.1.two
      go_wp2_with fail
      clear d0 d1
      refine HP.mono ?_
      rintro r w30 ⟨u, rfl, ⟨ga, gc, rfl, hag⟩, hb⟩
      simp only at hag ⊢
      rw [← HB6.out.2.2.2.2.1] at hag ⊢
      obtain ⟨Y, hY⟩ : ∃ V, V = w30.alloc (.cells #[.int .i64 e', .int .i64 s', .int .i64 v', .int .i64 c', .slice ga ql gc] 29) := ⟨_, rfl⟩
      have hbV : Below w30.heap.size w30 Y := by rw [hY]; exact (Below.refl _ w30).alloc (Nat.le_refl _) _
      have hBp : Box Y w30.heap.size 29 #[.int .i64 e', .int .i64 s', .int .i64 v', .int .i64 c', .slice ga ql gc] := by rw [hY]; exact Box.new _ _ _
      have b6Y := below_any hb hbV
      have HY : Hid (Below w.heap.size w Y) := below_any HB6.out.1 b6Y
      obtain ⟨⟨g0', g1, g2, g3, g4⟩, -⟩ := box5 hBp
      obtain ⟨⟨d0, d1, d2, d3, d4⟩, -⟩ := box5 (HB6.out.2.2.2.1.below b6Y HB6.out.2.2.2.1.lt)
      have HC := same17 (e := e') (s := s') (v := v') (c := c') ((hag.below hbV).weaken (Nat.zero_le _)) (HB6.out.2.2.2.2.2.below HY.out)
      clear hb hbV hBp b6Y hag HP HB6
      go_upto_region 31 with fail
      rw [← hY]
      clear hY
      go_wp2_with (first | (with_reducible refine Calls.mono (num17 _ _) ?_; rintro _ _ ⟨rfl, rfl⟩))
      clear g0' g1 g2 g3 g4 d0 d1 d2 d3 d4
      refine HC.mono ?_
      rintro r w31 ⟨rfl, hb⟩
      have HQ : Hid (Below w.heap.size w w31) := below_any HY.out hb
      clear HC hb
      go_wp2
      go_ret
      exact ⟨rfl, HQ.out⟩
    have hk20 : (k : Int) < 20 := by omega
    obtain ⟨p, hp⟩ := get_at (l := ls) (k := k) (by rw [← HL.out.1]; exact hlt)
    obtain ⟨pb, po, da, dc, hix, k0, k1, k2, k3, k4, hA⟩ := pts_at HLs.out.1 k p hp
    obtain ⟨pe, ps, pv, pcm, pd⟩ := p
    simp only at k0 k1 k2 k3 k4 hA
    have hpf : pd.length ≤ 140737488351232 := HLs.out.2 _ (List.mem_of_getElem? hp)
    obtain ⟨dm, hdm⟩ : ∃ z, z = pd.length := ⟨_, rfl⟩
    rw [← hdm] at k4 hA
    have g0 := cell_under HI.out.bel k0
    have g1 := cell_under HI.out.bel k1
    have g2 := cell_under HI.out.bel k2
    have g3 := cell_under HI.out.bel k3
    have g4 := cell_under HI.out.bel k4
    have HD : Hid (dm = pd.length ∧ pd.length ≤ 140737488351232 ∧ Arg 0 w (.slice da dm dc) pd) := ⟨hdm, hpf, hA⟩
    obtain ⟨V, hV⟩ : ∃ V, V = wr.alloc (.cells #[.int .i64 pe, .int .i64 ps, .int .i64 pv, .int .i64 pcm, .slice da dm dc] 24) := ⟨_, rfl⟩
    obtain ⟨B, hB⟩ : ∃ B, B = wr.heap.size := ⟨_, rfl⟩
    have hbV : Below wr.heap.size wr V := by rw [hV]; exact (Below.refl _ _).alloc (Nat.le_refl _) _
    have HV : Hid (TI w N M n T a1 c1 ((n : Int), s, v, c, d) pa pl pc (e', s', v', c', d') qa ql qc V ∧ Box V B 24 #[.int .i64 pe, .int .i64 ps, .int .i64 pv, .int .i64 pcm, .slice da dm dc] ∧ M + 1 < B) := ⟨HI.out.below hbV, by rw [hV, hB]; exact Box.new _ _ _, by rw [hB]; exact HI.out.hN.2.2⟩
    have HBne : Hid (M + 1 < B) := HV.out.2.2
    clear hp k0 k1 k2 k3 k4 hA hpf hdm hbV HI
    go_upto_region 12 with fail
    rw [← hV, ← hB]
    clear hV hB hix g0 g1 g2 g3 g4
    obtain ⟨e1, he1⟩ : ∃ e : Int, e = ((n + 1 : Nat) : Int) := ⟨_, rfl⟩
    have hs1 : wrap64 ((n : Int) + 1) = e1 := by rw [he1]; unfold wrap64; omega
    have hs2 : IntKind.i64.wrap ((n : Int) + 1) = e1 := by rw [he1, IntKind.wrap_i64]; omega
    have HE : Hid (e1 = ((n + 1 : Nat) : Int)) := he1
    obtain ⟨⟨d0, d1, d2, d3, d4⟩, f0, f1, f2, f3, f4⟩ := box5 HV.out.2.1
    obtain ⟨V1, hV1⟩ : ∃ U, U = V.setCell ⟨B, 0, none⟩ (.int .i64 e1) := ⟨_, rfl⟩
    have HV1 : Hid (TI w N M n T a1 c1 ((n : Int), s, v, c, d) pa pl pc (e', s', v', c', d') qa ql qc V1 ∧ Box V1 B 24 #[.int .i64 e1, .int .i64 ps, .int .i64 pv, .int .i64 pcm, .slice da dm dc]) := by
      have hne := HV.out.2.2
      have hNM := HV.out.1.hN
      refine ⟨?_, by rw [hV1]; exact HV.out.2.1.set 0 _⟩
      rw [hV1]
      refine ⟨HV.out.1.bel.setCell (p := ⟨B, 0, none⟩) (by simp; omega) _, ⟨hNM.1, hNM.2.1, by simp [World.setCell]; exact hNM.2.2⟩, HV.out.1.d.other (by omega), grid_beside HV.out.1.g HV.out.1.inv.2.1 HV.out.2.1 (by decide) (by decide) _ _, HV.out.1.l.other (by omega), HV.out.1.o.other (by omega), HV.out.1.la, HV.out.1.oa, HV.out.1.inv⟩
    clear he1
    go_upto_region 13 with fail
    rw [← hV1]
    clear hV1 HV d0 d1 d2 d3 d4 f0 f1 f2 f3 f4 hs1 hs2
    obtain ⟨se, hse⟩ : ∃ z, z = ptQ (e1, ps, pv, pcm, pd) := ⟨_, rfl⟩
    have HSE : Hid (se = ptQ (e1, ps, pv, pcm, pd)) := hse
    have HS : Hid (∀ V, Below V1.heap.size V1 V → (V.cell? ⟨N, 0, none⟩ = some (.slice a1 16 c1) ∧ V.cell? ⟨N, 1, none⟩ = some (.slice none 0 0) ∧ V.cell? ⟨B, 0, none⟩ = some (.int .i64 e1) ∧ V.cell? ⟨B, 1, none⟩ = some (.int .i64 ps) ∧ V.cell? ⟨B, 2, none⟩ = some (.int .i64 pv) ∧ V.cell? ⟨B, 3, none⟩ = some (.int .i64 pcm) ∧ V.cell? ⟨B, 4, none⟩ = some (.slice da dm dc))) := fun V hV => by
      have h1 := HV1.out.1.d.below hV HV1.out.1.d.lt
      have h2 := HV1.out.2.below hV HV1.out.2.lt
      exact ⟨h1.cell 0 rfl, h1.cell 1 rfl, h2.cell 0 rfl, h2.cell 1 rfl, h2.cell 2 rfl, h2.cell 3 rfl, h2.cell 4 rfl⟩
    have HCO : Hid (∀ V, Below V1.heap.size V1 V → Calls Tryd.prog 8 #[.agg #[.int .i64 e1, .int .i64 ps, .int .i64 pv, .int .i64 pcm, .slice da dm dc]] V fun r w' => (∃ a z, r = .returned (.agg #[.int .i64 e1, .int .i64 ps, .int .i64 pv, .int .i64 pcm, .slice a dm z]) ∧ Own1 V.heap.size w' (.slice a dm z) pd) ∧ Below V.heap.size V w') := fun V hV => of17 HD.out.1 (by have := HD.out.2.1; omega) (HD.out.2.2.below (below_any HV1.out.1.bel hV))
    have HCS : Hid (∀ V a5 c5, Below V1.heap.size V1 V → Arg 0 V (.slice a5 dm c5) pd → Calls Tryd.prog 13 #[.agg #[.slice a1 16 c1, .slice none 0 0], .agg #[.int .i64 e1, .int .i64 ps, .int .i64 pv, .int .i64 pcm, .slice a5 dm c5]] V fun r w' => ∃ z1 k1 z2 z3 k2 z4, r = .returned (.tuple #[.agg #[.slice z1 k1 z2, .slice z3 k2 z4], .int .i64 se]) ∧ (se = 0 → k1 = 16 ∧ z3 = none ∧ k2 = 0 ∧ z4 = 0 ∧ Dk.Grid V.heap.size w' (.slice z1 16 z2) (stT T (e1, ps, pv, pcm, pd))) ∧ Below V.heap.size V w') := fun V a5 c5 hV hA => by
      rw [hse]
      exact store_turn (grid_below HV1.out.1.g hV) HV1.out.1.inv.1 HV1.out.1.inv.2.1 HD.out.1 hA
    clear hse
    go_cut [14, 15] (fun u14 u15 wx => ∃ (b6 : Nat), u14 = .pointer (some ⟨b6, 0, none⟩) ∧ u15 = .int .i64 se ∧ Hid (∃ k1 k2 z1 z2 z3 z4, Below V1.heap.size V1 wx ∧ Box wx b6 40 #[.slice z1 k1 z2, .slice z3 k2 z4] ∧ V1.heap.size ≤ b6 ∧ (se = 0 → k1 = 16 ∧ z3 = none ∧ k2 = 0 ∧ z4 = 0 ∧ Dk.Grid w.heap.size wx (.slice z1 16 z2) (stT T (e1, ps, pv, pcm, pd)))))
    case first =>
      rename_i J K1 hJ hMt
      refine AnyBut.begin (fun V => V.cell? ⟨N, 0, none⟩ = some (.slice a1 16 c1) ∧ V.cell? ⟨N, 1, none⟩ = some (.slice none 0 0) ∧ V.cell? ⟨B, 0, none⟩ = some (.int .i64 e1) ∧ V.cell? ⟨B, 1, none⟩ = some (.int .i64 ps) ∧ V.cell? ⟨B, 2, none⟩ = some (.int .i64 pv) ∧ V.cell? ⟨B, 3, none⟩ = some (.int .i64 pcm) ∧ V.cell? ⟨B, 4, none⟩ = some (.slice da dm dc)) 1000 (by kernel_rfl) ?_
      obtain ⟨X0, hX0⟩ : ∃ Z, Z = V1.drew := ⟨_, rfl⟩
      have hbV : Below V1.heap.size V1 X0 := by rw [hX0]; exact (Below.refl _ V1).drew
      rw [← hX0]
      clear hX0
      have hSS := HS.out X0 hbV
      refine tx 0 48 hSS ?_
      simp only [ua, ub, uc, ud]
      refine tx 1 49 hSS ?_
      simp only [ua, ub, uc, ud]
      clear hSS
      refine AnyBut.two (i := 2) (j := 7) (by kernel_rfl) rfl rfl (fun K hK => ?_) (fun K hK => ?_)
      · skip
        go_simp
        refine Calls.mono (HCO.out X0 hbV) ?_
        rintro r Y1 ⟨⟨a5, c5, rfl, ho5⟩, hb9⟩
        dsimp only
        have HA5 : Arg 0 Y1 (.slice a5 dm c5) pd := ho5.arg.weaken (Nat.zero_le _)
        clear ho5
        replace hbV : Below V1.heap.size V1 Y1 := below_any hbV hb9
        refine hK.out _ _ (HS.out Y1 hbV) ?_
        clear hK hb9
        refine AnyBut.two (i := 3) (j := 7) (by kernel_rfl) rfl rfl (fun K hK => ?_) (fun K hK => ?_)
        · skip
          go_simp
          refine Calls.mono (HCS.out Y1 a5 c5 hbV HA5) ?_
          rintro r Y2 ⟨z1, k1, z2, z3, k2, z4, rfl, hd4, hb9⟩
          dsimp only
          have HDK : Hid (se = 0 → k1 = 16 ∧ z3 = none ∧ k2 = 0 ∧ z4 = 0 ∧ Dk.Grid Y1.heap.size Y2 (.slice z1 16 z2) (stT T (e1, ps, pv, pcm, pd))) := hd4
          have hwV : w.heap.size ≤ Y1.heap.size := Nat.le_trans HV1.out.1.bel.size hbV.size
          have HBW : Below Y2.heap.size Y2 Y2 := Below.refl _ _
          clear hd4
          replace hbV : Below V1.heap.size V1 Y2 := below_any hbV hb9
          refine hK.out _ _ (HS.out Y2 hbV) ?_
          clear hK hb9
          have hSS := HS.out Y2 hbV
          refine tx 4 47 hSS ?_
          simp only [ua, ub, uc, ud]
          refine tx 5 52 hSS ?_
          simp only [ua, ub, uc, ud]
          refine tx 6 53 hSS ?_
          simp only [ua, ub, uc, ud]
          clear hSS
          refine AnyBut.step (i := 7) (by kernel_rfl) rfl (fun K hK => ?_)
          go_simp
          obtain ⟨Y3, hY3⟩ : ∃ Z, Z = Y2.alloc (.cells #[.slice none 0 0, .slice none 0 0] 40) := ⟨_, rfl⟩
          have hb9 : Below Y2.heap.size Y2 Y3 := by rw [hY3]; exact (Below.refl _ _).alloc (Nat.le_refl _) _
          have B6 : Box Y3 Y2.heap.size 40 #[.slice none 0 0, .slice none 0 0] := by rw [hY3]; exact Box.new _ _ _
          obtain ⟨b6, hb6⟩ : ∃ b, b = Y2.heap.size := ⟨_, rfl⟩
          have hb6' : V1.heap.size ≤ b6 := by rw [hb6]; exact hbV.size
          have hge6 : Y2.heap.size ≤ b6 := by rw [hb6]; exact HBW.size
          rw [← hb6] at B6 ⊢
          rw [← hY3]
          clear hY3 hb6
          replace HBW := below_any HBW hb9
          replace hbV : Below V1.heap.size V1 Y3 := below_any hbV hb9
          refine hK.out _ _ (HS.out Y3 hbV) ?_
          clear hK hb9
          obtain ⟨d0, d1, e0, e1'⟩ := B6.two
          refine AnyBut.step (i := 8) (by kernel_rfl) rfl (fun K hK => ?_)
          go_simp
          have C6 : Box ((Y3.setCell ⟨b6, 0, none⟩ (.slice z1 k1 z2)).setCell ⟨b6, 1, none⟩ (.slice z3 k2 z4)) b6 40 #[.slice z1 k1 z2, .slice z3 k2 z4] := (B6.set 0 _).set 1 _
          have hbW : Below V1.heap.size V1 ((Y3.setCell ⟨b6, 0, none⟩ (.slice z1 k1 z2)).setCell ⟨b6, 1, none⟩ (.slice z3 k2 z4)) := below_set2 hbV hb6' _ _
          have CD : Hid (se = 0 → k1 = 16 ∧ z3 = none ∧ k2 = 0 ∧ z4 = 0 ∧ Dk.Grid w.heap.size ((Y3.setCell ⟨b6, 0, none⟩ (.slice z1 k1 z2)).setCell ⟨b6, 1, none⟩ (.slice z3 k2 z4)) (.slice z1 16 z2) (stT T (e1, ps, pv, pcm, pd))) := fun h0 => by
            obtain ⟨h1, h2, h3, h4, h5⟩ := HDK.out h0
            exact ⟨h1, h2, h3, h4, (grid_below h5 (below_set2 HBW hge6 _ _)).weaken hwV⟩
          obtain ⟨Z, hZ⟩ : ∃ Z, Z = (Y3.setCell ⟨b6, 0, none⟩ (.slice z1 k1 z2)).setCell ⟨b6, 1, none⟩ (.slice z3 k2 z4) := ⟨_, rfl⟩
          rw [← hZ] at C6 hbW CD ⊢
          refine hK.out _ _ (HS.out Z hbW) ?_
          clear hK hZ d0 d1 e0 e1'
          refine AnyBut.step (i := 9) (by kernel_rfl) rfl (fun K hK => ?_)
          go_simp
          refine hK.out _ _ (HS.out Z hbW) ?_
          clear hK
          refine AnyBut.done (by kernel_rfl) ?_
          refine hMt _ _ (Go.Met.intro (hJ _ _ ?_))
          (repeat (refine Exists.intro ?_ ?_; rotate_left 1))
          refine ⟨?rel, ?fr⟩
          case fr => rfl
          case rel => exact ⟨b6, rfl, rfl, k1, k2, z1, z2, z3, z4, hbW, C6, hb6', CD.out⟩
        · skip
          go_simp
          obtain ⟨Y4, hY4⟩ : ∃ Z, Z = Y1.alloc (.cells #[.slice none 0 0, .slice none 0 0] 40) := ⟨_, rfl⟩
          have hb9 : Below Y1.heap.size Y1 Y4 := by rw [hY4]; exact (Below.refl _ _).alloc (Nat.le_refl _) _
          have B6 : Box Y4 Y1.heap.size 40 #[.slice none 0 0, .slice none 0 0] := by rw [hY4]; exact Box.new _ _ _
          obtain ⟨b6, hb6⟩ : ∃ b, b = Y1.heap.size := ⟨_, rfl⟩
          have hb6' : V1.heap.size ≤ b6 := by rw [hb6]; exact hbV.size
          rw [← hb6] at B6 ⊢
          rw [← hY4]
          clear hY4 hb6
          replace HA5 := HA5.below hb9
          replace hbV : Below V1.heap.size V1 Y4 := below_any hbV hb9
          refine hK.out _ _ (HS.out Y4 hbV) ?_
          clear hK hb9
          refine AnyBut.step (i := 3) (by kernel_rfl) rfl (fun K hK => ?_)
          go_simp
          refine Calls.mono (HCS.out Y4 a5 c5 hbV HA5) ?_
          rintro r Y5 ⟨z1, k1, z2, z3, k2, z4, rfl, hd4, hb9⟩
          dsimp only
          have hlt6 : b6 < Y4.heap.size := B6.lt
          have HDK : Hid (se = 0 → k1 = 16 ∧ z3 = none ∧ k2 = 0 ∧ z4 = 0 ∧ Dk.Grid Y4.heap.size Y5 (.slice z1 16 z2) (stT T (e1, ps, pv, pcm, pd))) := hd4
          have hwV : w.heap.size ≤ Y4.heap.size := Nat.le_trans HV1.out.1.bel.size hbV.size
          have HBW : Below Y5.heap.size Y5 Y5 := Below.refl _ _
          clear hd4
          replace B6 := B6.below hb9 B6.lt
          replace hbV : Below V1.heap.size V1 Y5 := below_any hbV hb9
          refine hK.out _ _ (HS.out Y5 hbV) ?_
          clear hK hb9
          have hSS := HS.out Y5 hbV
          refine tx 4 47 hSS ?_
          simp only [ua, ub, uc, ud]
          refine tx 5 52 hSS ?_
          simp only [ua, ub, uc, ud]
          refine tx 6 53 hSS ?_
          simp only [ua, ub, uc, ud]
          clear hSS
          obtain ⟨d0, d1, e0, e1'⟩ := B6.two
          refine AnyBut.step (i := 8) (by kernel_rfl) rfl (fun K hK => ?_)
          go_simp
          have C6 : Box ((Y5.setCell ⟨b6, 0, none⟩ (.slice z1 k1 z2)).setCell ⟨b6, 1, none⟩ (.slice z3 k2 z4)) b6 40 #[.slice z1 k1 z2, .slice z3 k2 z4] := (B6.set 0 _).set 1 _
          have hbW : Below V1.heap.size V1 ((Y5.setCell ⟨b6, 0, none⟩ (.slice z1 k1 z2)).setCell ⟨b6, 1, none⟩ (.slice z3 k2 z4)) := below_set2 hbV hb6' _ _
          have CD : Hid (se = 0 → k1 = 16 ∧ z3 = none ∧ k2 = 0 ∧ z4 = 0 ∧ Dk.Grid w.heap.size ((Y5.setCell ⟨b6, 0, none⟩ (.slice z1 k1 z2)).setCell ⟨b6, 1, none⟩ (.slice z3 k2 z4)) (.slice z1 16 z2) (stT T (e1, ps, pv, pcm, pd))) := fun h0 => by
            obtain ⟨h1, h2, h3, h4, h5⟩ := HDK.out h0
            exact ⟨h1, h2, h3, h4, (Dk.Grid.set (Dk.Grid.set (grid_below h5 HBW) hlt6) hlt6).weaken hwV⟩
          obtain ⟨Z, hZ⟩ : ∃ Z, Z = (Y5.setCell ⟨b6, 0, none⟩ (.slice z1 k1 z2)).setCell ⟨b6, 1, none⟩ (.slice z3 k2 z4) := ⟨_, rfl⟩
          rw [← hZ] at C6 hbW CD ⊢
          refine hK.out _ _ (HS.out Z hbW) ?_
          clear hK hZ d0 d1 e0 e1'
          refine AnyBut.step (i := 9) (by kernel_rfl) rfl (fun K hK => ?_)
          go_simp
          refine hK.out _ _ (HS.out Z hbW) ?_
          clear hK
          refine AnyBut.done (by kernel_rfl) ?_
          refine hMt _ _ (Go.Met.intro (hJ _ _ ?_))
          (repeat (refine Exists.intro ?_ ?_; rotate_left 1))
          refine ⟨?rel, ?fr⟩
          case fr => rfl
          case rel => exact ⟨b6, rfl, rfl, k1, k2, z1, z2, z3, z4, hbW, C6, hb6', CD.out⟩
      · skip
        go_simp
        obtain ⟨Y6, hY6⟩ : ∃ Z, Z = X0.alloc (.cells #[.slice none 0 0, .slice none 0 0] 40) := ⟨_, rfl⟩
        have hb9 : Below X0.heap.size X0 Y6 := by rw [hY6]; exact (Below.refl _ _).alloc (Nat.le_refl _) _
        have B6 : Box Y6 X0.heap.size 40 #[.slice none 0 0, .slice none 0 0] := by rw [hY6]; exact Box.new _ _ _
        obtain ⟨b6, hb6⟩ : ∃ b, b = X0.heap.size := ⟨_, rfl⟩
        have hb6' : V1.heap.size ≤ b6 := by rw [hb6]; exact hbV.size
        rw [← hb6] at B6 ⊢
        rw [← hY6]
        clear hY6 hb6
        replace hbV : Below V1.heap.size V1 Y6 := below_any hbV hb9
        refine hK.out _ _ (HS.out Y6 hbV) ?_
        clear hK hb9
        refine AnyBut.step (i := 2) (by kernel_rfl) rfl (fun K hK => ?_)
        go_simp
        refine Calls.mono (HCO.out Y6 hbV) ?_
        rintro r Y7 ⟨⟨a5, c5, rfl, ho5⟩, hb9⟩
        dsimp only
        have HA5 : Arg 0 Y7 (.slice a5 dm c5) pd := ho5.arg.weaken (Nat.zero_le _)
        clear ho5
        replace B6 := B6.below hb9 B6.lt
        replace hbV : Below V1.heap.size V1 Y7 := below_any hbV hb9
        refine hK.out _ _ (HS.out Y7 hbV) ?_
        clear hK hb9
        refine AnyBut.step (i := 3) (by kernel_rfl) rfl (fun K hK => ?_)
        go_simp
        refine Calls.mono (HCS.out Y7 a5 c5 hbV HA5) ?_
        rintro r Y8 ⟨z1, k1, z2, z3, k2, z4, rfl, hd4, hb9⟩
        dsimp only
        have hlt6 : b6 < Y7.heap.size := B6.lt
        have HDK : Hid (se = 0 → k1 = 16 ∧ z3 = none ∧ k2 = 0 ∧ z4 = 0 ∧ Dk.Grid Y7.heap.size Y8 (.slice z1 16 z2) (stT T (e1, ps, pv, pcm, pd))) := hd4
        have hwV : w.heap.size ≤ Y7.heap.size := Nat.le_trans HV1.out.1.bel.size hbV.size
        have HBW : Below Y8.heap.size Y8 Y8 := Below.refl _ _
        clear hd4
        replace B6 := B6.below hb9 B6.lt
        replace hbV : Below V1.heap.size V1 Y8 := below_any hbV hb9
        refine hK.out _ _ (HS.out Y8 hbV) ?_
        clear hK hb9
        have hSS := HS.out Y8 hbV
        refine tx 4 47 hSS ?_
        simp only [ua, ub, uc, ud]
        refine tx 5 52 hSS ?_
        simp only [ua, ub, uc, ud]
        refine tx 6 53 hSS ?_
        simp only [ua, ub, uc, ud]
        clear hSS
        obtain ⟨d0, d1, e0, e1'⟩ := B6.two
        refine AnyBut.step (i := 8) (by kernel_rfl) rfl (fun K hK => ?_)
        go_simp
        have C6 : Box ((Y8.setCell ⟨b6, 0, none⟩ (.slice z1 k1 z2)).setCell ⟨b6, 1, none⟩ (.slice z3 k2 z4)) b6 40 #[.slice z1 k1 z2, .slice z3 k2 z4] := (B6.set 0 _).set 1 _
        have hbW : Below V1.heap.size V1 ((Y8.setCell ⟨b6, 0, none⟩ (.slice z1 k1 z2)).setCell ⟨b6, 1, none⟩ (.slice z3 k2 z4)) := below_set2 hbV hb6' _ _
        have CD : Hid (se = 0 → k1 = 16 ∧ z3 = none ∧ k2 = 0 ∧ z4 = 0 ∧ Dk.Grid w.heap.size ((Y8.setCell ⟨b6, 0, none⟩ (.slice z1 k1 z2)).setCell ⟨b6, 1, none⟩ (.slice z3 k2 z4)) (.slice z1 16 z2) (stT T (e1, ps, pv, pcm, pd))) := fun h0 => by
          obtain ⟨h1, h2, h3, h4, h5⟩ := HDK.out h0
          exact ⟨h1, h2, h3, h4, (Dk.Grid.set (Dk.Grid.set (grid_below h5 HBW) hlt6) hlt6).weaken hwV⟩
        obtain ⟨Z, hZ⟩ : ∃ Z, Z = (Y8.setCell ⟨b6, 0, none⟩ (.slice z1 k1 z2)).setCell ⟨b6, 1, none⟩ (.slice z3 k2 z4) := ⟨_, rfl⟩
        rw [← hZ] at C6 hbW CD ⊢
        refine hK.out _ _ (HS.out Z hbW) ?_
        clear hK hZ d0 d1 e0 e1'
        refine AnyBut.step (i := 9) (by kernel_rfl) rfl (fun K hK => ?_)
        go_simp
        refine hK.out _ _ (HS.out Z hbW) ?_
        clear hK
        refine AnyBut.done (by kernel_rfl) ?_
        refine hMt _ _ (Go.Met.intro (hJ _ _ ?_))
        (repeat (refine Exists.intro ?_ ?_; rotate_left 1))
        refine ⟨?rel, ?fr⟩
        case fr => rfl
        case rel => exact ⟨b6, rfl, rfl, k1, k2, z1, z2, z3, z4, hbW, C6, hb6', CD.out⟩
    case rest =>
      obtain ⟨b6, rfl, rfl, HR⟩ := hcut
      obtain ⟨wx, hwx⟩ : ∃ U, U = wc := ⟨_, rfl⟩
      rw [← hwx] at HR ⊢
      clear hwx HCO HCS
      obtain ⟨k1, k2, z1, z2, z3, z4, hbx, hB6, hle6, hCD⟩ := HR.out
      by_cases hz : se = 0
      case neg =>
        have HX : Hid (TI w N M n T a1 c1 ((n : Int), s, v, c, d) pa pl pc (e', s', v', c', d') qa ql qc wx) := HV1.out.1.below hbx
        obtain ⟨-, -, d0, d1, d2, d3, d4⟩ := HS.out wx hbx
        have hzb : (se != 0) = true := by simpa using hz
        have HC := rpcheck_any e1 ps pv pcm da dm dc (by rw [HD.out.1]; have := HD.out.2.1; unfold maxLen; omega) wx
        obtain ⟨oe, hoe⟩ : ∃ z, z = ptE e1 ps pv pcm dm := ⟨_, rfl⟩
        rw [← hoe] at HC
        have hoz : ¬ oe = 0 := by rw [hoe, HD.out.1]; intro h; exact hz (HSE.out.trans h)
        have hob : (oe == 0) = false := by simpa using hoz
        clear hoe HR hbx hB6 hle6 hCD HS
        go_wp2_with (first | (with_reducible refine Calls.mono (num17 _ _) ?_; rintro _ _ ⟨rfl, rfl⟩))
        clear d0 d1 d2 d3 d4
        refine HC.mono ?_
        rintro r wy ⟨rfl, hb⟩
        have HY : Hid (TI w N M n T a1 c1 ((n : Int), s, v, c, d) pa pl pc (e', s', v', c', d') qa ql qc wy) := HX.out.below hb
        clear HC hb HX
        go_wp2
        go_roundw
        case rel => exact ⟨n, k + 1, T, a1, c1, s, v, c, pa, pl, pc, d, e', s', v', c', qa, ql, qc, d', by omega, by omega, by omega, rfl, by go_num, HY.out⟩
        case measure => simp [intOf]; omega
      subst hz
      obtain ⟨rfl, rfl, rfl, rfl, hG6⟩ := hCD rfl
      have hQ : ptQ (e1, ps, pv, pcm, pd) = 0 := HSE.out.symm
      have hB13 := HV1.out.2.below hbx HV1.out.2.lt
      have HX : Hid (TI w N M n T a1 c1 ((n : Int), s, v, c, d) pa pl pc (e', s', v', c', d') qa ql qc wx ∧ Box wx b6 40 #[.slice z1 16 z2, .slice none 0 0] ∧ Box wx B 24 #[.int .i64 e1, .int .i64 ps, .int .i64 pv, .int .i64 pcm, .slice da dm dc] ∧ Dk.Grid w.heap.size wx (.slice z1 16 z2) (stT T (e1, ps, pv, pcm, pd)) ∧ Inv (n + 1) (stT T (e1, ps, pv, pcm, pd)) (e1, ps, pv, pcm, pd) ((n : Int), s, v, c, d) ∧ (B ≠ N ∧ B ≠ M ∧ B ≠ M + 1 ∧ b6 ≠ N ∧ b6 ≠ M ∧ b6 ≠ M + 1)) := by
        refine ⟨HV1.out.1.below hbx, hB6, hB13, hG6, inv_step HV1.out.1.inv HE.out hQ HD.out.2.2.oct, ?_⟩
        have h1 := HV1.out.1.hN
        have h2 := HV1.out.1.d.lt
        have h3 := HBne.out
        omega
      clear hG6 hQ hbx hB6 hB13 hCD HR HS HV1 hle6
      go_upto_region 17 with (first | (with_reducible refine Calls.mono (num17 _ _) ?_; rintro _ _ ⟨rfl, rfl⟩))
      obtain ⟨X0, hX0⟩ : ∃ Z, Z = wx.drew := ⟨_, rfl⟩
      have hbX : Below wx.heap.size wx X0 := by rw [hX0]; exact (Below.refl _ wx).drew
      have HX0 : Hid (TI w N M n T a1 c1 ((n : Int), s, v, c, d) pa pl pc (e', s', v', c', d') qa ql qc X0 ∧ Box X0 b6 40 #[.slice z1 16 z2, .slice none 0 0] ∧ Box X0 B 24 #[.int .i64 e1, .int .i64 ps, .int .i64 pv, .int .i64 pcm, .slice da dm dc] ∧ Dk.Grid w.heap.size X0 (.slice z1 16 z2) (stT T (e1, ps, pv, pcm, pd))) := ⟨HX.out.1.below hbX, HX.out.2.1.below hbX HX.out.2.1.lt, HX.out.2.2.1.below hbX HX.out.2.2.1.lt, grid_below HX.out.2.2.2.1 hbX⟩
      refine AnyBut.begin (fun U => U.cell? ⟨b6, 0, none⟩ = some (.slice z1 16 z2) ∧ U.cell? ⟨b6, 1, none⟩ = some (.slice none 0 0) ∧ U.cell? ⟨B, 0, none⟩ = some (.int .i64 e1) ∧ U.cell? ⟨B, 1, none⟩ = some (.int .i64 ps) ∧ U.cell? ⟨B, 2, none⟩ = some (.int .i64 pv) ∧ U.cell? ⟨B, 3, none⟩ = some (.int .i64 pcm) ∧ U.cell? ⟨B, 4, none⟩ = some (.slice da dm dc)) 1000 (by kernel_rfl) ?_
      rw [← hX0]
      clear hX0 hbX
      obtain ⟨Z1, hZ1⟩ : ∃ Z, Z = (X0.setCell ⟨N, 0, none⟩ (.slice z1 16 z2)).setCell ⟨N, 1, none⟩ (.slice none 0 0) := ⟨_, rfl⟩
      obtain ⟨Z2, hZ2⟩ : ∃ Z, Z = ((((Z1.setCell ⟨(M + 1), 0, none⟩ (.int .i64 (n : Int))).setCell ⟨(M + 1), 1, none⟩ (.int .i64 s)).setCell ⟨(M + 1), 2, none⟩ (.int .i64 v)).setCell ⟨(M + 1), 3, none⟩ (.int .i64 c)).setCell ⟨(M + 1), 4, none⟩ (.slice pa pl pc) := ⟨_, rfl⟩
      obtain ⟨Z3, hZ3⟩ : ∃ Z, Z = ((((Z2.setCell ⟨M, 0, none⟩ (.int .i64 e1)).setCell ⟨M, 1, none⟩ (.int .i64 ps)).setCell ⟨M, 2, none⟩ (.int .i64 pv)).setCell ⟨M, 3, none⟩ (.int .i64 pcm)).setCell ⟨M, 4, none⟩ (.slice da dm dc) := ⟨_, rfl⟩
      have c6 := HX0.out.2.1
      have c13 := HX0.out.2.2.1
      have cM : Box X0 M 24 #[.int .i64 (n : Int), .int .i64 s, .int .i64 v, .int .i64 c, .slice pa pl pc] := HX0.out.1.l
      have cO : Box X0 (M + 1) 24 #[.int .i64 e', .int .i64 s', .int .i64 v', .int .i64 c', .slice qa ql qc] := HX0.out.1.o
      have hne := HX.out.2.2.2.2.2
      have hNM := HX0.out.1.hN
      have c6a : Box Z1 b6 40 #[.slice z1 16 z2, .slice none 0 0] := by rw [hZ1]; exact (c6.other hne.2.2.2.1).other hne.2.2.2.1
      have c13a : Box Z1 B 24 #[.int .i64 e1, .int .i64 ps, .int .i64 pv, .int .i64 pcm, .slice da dm dc] := by rw [hZ1]; exact (c13.other hne.1).other hne.1
      have cMa : Box Z1 M 24 #[.int .i64 (n : Int), .int .i64 s, .int .i64 v, .int .i64 c, .slice pa pl pc] := by rw [hZ1]; exact (cM.other (by omega)).other (by omega)
      have cOa : Box Z1 (M + 1) 24 #[.int .i64 e', .int .i64 s', .int .i64 v', .int .i64 c', .slice qa ql qc] := by rw [hZ1]; exact (cO.other (by omega)).other (by omega)
      have c6b : Box Z2 b6 40 #[.slice z1 16 z2, .slice none 0 0] := by rw [hZ2]; exact box_oth5 c6a hne.2.2.2.2.2 _ _ _ _ _
      have c13b : Box Z2 B 24 #[.int .i64 e1, .int .i64 ps, .int .i64 pv, .int .i64 pcm, .slice da dm dc] := by rw [hZ2]; exact box_oth5 c13a hne.2.2.1 _ _ _ _ _
      have cMb : Box Z2 M 24 #[.int .i64 (n : Int), .int .i64 s, .int .i64 v, .int .i64 c, .slice pa pl pc] := by rw [hZ2]; exact box_oth5 cMa (by omega) _ _ _ _ _
      have cOb : Box Z2 (M + 1) 24 #[.int .i64 (n : Int), .int .i64 s, .int .i64 v, .int .i64 c, .slice pa pl pc] := by rw [hZ2]; exact box_set5 cOa _ _ _ _ _
      have c6c : Box Z3 b6 40 #[.slice z1 16 z2, .slice none 0 0] := by rw [hZ3]; exact box_oth5 c6b hne.2.2.2.2.1 _ _ _ _ _
      have c13c : Box Z3 B 24 #[.int .i64 e1, .int .i64 ps, .int .i64 pv, .int .i64 pcm, .slice da dm dc] := by rw [hZ3]; exact box_oth5 c13b hne.2.1 _ _ _ _ _
      have HT : Hid (TI w N M (n + 1) (stT T (e1, ps, pv, pcm, pd)) z1 z2 (e1, ps, pv, pcm, pd) da dm dc ((n : Int), s, v, c, d) pa pl pc Z3) := by
        have hl16 : (stT T (e1, ps, pv, pcm, pd)).length = 16 := HX.out.2.2.2.2.1.2.1
        have b1 : Below w.heap.size w Z1 := by rw [hZ1]; exact below_set2 HX0.out.1.bel hNM.1 _ _
        have b2 : Below w.heap.size w Z2 := by rw [hZ2]; exact below_set5 b1 (by omega) _ _ _ _ _
        have b3 : Below w.heap.size w Z3 := by rw [hZ3]; exact below_set5 b2 (by omega) _ _ _ _ _
        have k1 : Dk.Grid w.heap.size Z1 (.slice z1 16 z2) (stT T (e1, ps, pv, pcm, pd)) := by rw [hZ1]; exact grid_beside (grid_beside HX0.out.2.2.2 hl16 HX0.out.1.d (by decide) (by decide) _ _) hl16 (HX0.out.1.d.set 0 _) (by decide) (by decide) _ _
        have k2 : Dk.Grid w.heap.size Z2 (.slice z1 16 z2) (stT T (e1, ps, pv, pcm, pd)) := by rw [hZ2]; exact grid_set5 k1 hl16 cOa (by decide) (by decide) _ _ _ _ _
        have k3 : Dk.Grid w.heap.size Z3 (.slice z1 16 z2) (stT T (e1, ps, pv, pcm, pd)) := by rw [hZ3]; exact grid_set5 k2 hl16 cMb (by decide) (by decide) _ _ _ _ _
        have s3 : Z3.heap.size = X0.heap.size := by rw [hZ3, hZ2, hZ1]; simp [World.setCell]
        refine ⟨b3, ⟨hNM.1, hNM.2.1, by rw [s3]; exact hNM.2.2⟩, ?_, k3, ?_, ?_, ⟨HD.out.1, HD.out.2.2⟩, HX0.out.1.la, HX.out.2.2.2.2.1⟩
        · have q1 : Box Z1 N 40 #[.slice z1 16 z2, .slice none 0 0] := by rw [hZ1]; exact (HX0.out.1.d.set 0 _).set 1 _
          have q2 : Box Z2 N 40 #[.slice z1 16 z2, .slice none 0 0] := by rw [hZ2]; exact box_oth5 q1 (by omega) _ _ _ _ _
          rw [hZ3]; exact box_oth5 q2 (by omega) _ _ _ _ _
        · rw [hZ3]; exact box_set5 cMb _ _ _ _ _
        · have q3 : Box Z3 (M + 1) 24 #[.int .i64 (n : Int), .int .i64 s, .int .i64 v, .int .i64 c, .slice pa pl pc] := by rw [hZ3]; exact box_oth5 cOb (by omega) _ _ _ _ _
          exact q3
      have hS : ∀ U, Box U b6 40 #[.slice z1 16 z2, .slice none 0 0] → Box U B 24 #[.int .i64 e1, .int .i64 ps, .int .i64 pv, .int .i64 pcm, .slice da dm dc] → (U.cell? ⟨b6, 0, none⟩ = some (.slice z1 16 z2) ∧ U.cell? ⟨b6, 1, none⟩ = some (.slice none 0 0) ∧ U.cell? ⟨B, 0, none⟩ = some (.int .i64 e1) ∧ U.cell? ⟨B, 1, none⟩ = some (.int .i64 ps) ∧ U.cell? ⟨B, 2, none⟩ = some (.int .i64 pv) ∧ U.cell? ⟨B, 3, none⟩ = some (.int .i64 pcm) ∧ U.cell? ⟨B, 4, none⟩ = some (.slice da dm dc)) := fun U h1 h2 => ⟨h1.cell 0 rfl, h1.cell 1 rfl, h2.cell 0 rfl, h2.cell 1 rfl, h2.cell 2 rfl, h2.cell 3 rfl, h2.cell 4 rfl⟩
      have HSx : Hid ((X0.cell? ⟨b6, 0, none⟩ = some (.slice z1 16 z2) ∧ X0.cell? ⟨b6, 1, none⟩ = some (.slice none 0 0) ∧ X0.cell? ⟨B, 0, none⟩ = some (.int .i64 e1) ∧ X0.cell? ⟨B, 1, none⟩ = some (.int .i64 ps) ∧ X0.cell? ⟨B, 2, none⟩ = some (.int .i64 pv) ∧ X0.cell? ⟨B, 3, none⟩ = some (.int .i64 pcm) ∧ X0.cell? ⟨B, 4, none⟩ = some (.slice da dm dc)) ∧ (Z1.cell? ⟨b6, 0, none⟩ = some (.slice z1 16 z2) ∧ Z1.cell? ⟨b6, 1, none⟩ = some (.slice none 0 0) ∧ Z1.cell? ⟨B, 0, none⟩ = some (.int .i64 e1) ∧ Z1.cell? ⟨B, 1, none⟩ = some (.int .i64 ps) ∧ Z1.cell? ⟨B, 2, none⟩ = some (.int .i64 pv) ∧ Z1.cell? ⟨B, 3, none⟩ = some (.int .i64 pcm) ∧ Z1.cell? ⟨B, 4, none⟩ = some (.slice da dm dc)) ∧ (Z2.cell? ⟨b6, 0, none⟩ = some (.slice z1 16 z2) ∧ Z2.cell? ⟨b6, 1, none⟩ = some (.slice none 0 0) ∧ Z2.cell? ⟨B, 0, none⟩ = some (.int .i64 e1) ∧ Z2.cell? ⟨B, 1, none⟩ = some (.int .i64 ps) ∧ Z2.cell? ⟨B, 2, none⟩ = some (.int .i64 pv) ∧ Z2.cell? ⟨B, 3, none⟩ = some (.int .i64 pcm) ∧ Z2.cell? ⟨B, 4, none⟩ = some (.slice da dm dc)) ∧ (Z3.cell? ⟨b6, 0, none⟩ = some (.slice z1 16 z2) ∧ Z3.cell? ⟨b6, 1, none⟩ = some (.slice none 0 0) ∧ Z3.cell? ⟨B, 0, none⟩ = some (.int .i64 e1) ∧ Z3.cell? ⟨B, 1, none⟩ = some (.int .i64 ps) ∧ Z3.cell? ⟨B, 2, none⟩ = some (.int .i64 pv) ∧ Z3.cell? ⟨B, 3, none⟩ = some (.int .i64 pcm) ∧ Z3.cell? ⟨B, 4, none⟩ = some (.slice da dm dc))) := ⟨hS _ c6 c13, hS _ c6a c13a, hS _ c6b c13b, hS _ c6c c13c⟩
      have HM0 : Hid (Box X0 M 24 #[.int .i64 (n : Int), .int .i64 s, .int .i64 v, .int .i64 c, .slice pa pl pc] ∧ Box Z1 M 24 #[.int .i64 (n : Int), .int .i64 s, .int .i64 v, .int .i64 c, .slice pa pl pc] ∧ Box Z2 M 24 #[.int .i64 (n : Int), .int .i64 s, .int .i64 v, .int .i64 c, .slice pa pl pc] ∧ Box Z1 (M + 1) 24 #[.int .i64 e', .int .i64 s', .int .i64 v', .int .i64 c', .slice qa ql qc] ∧ Box X0 N 40 #[.slice a1 16 c1, .slice none 0 0]) := ⟨cM, cMa, cMb, cOa, HX0.out.1.d⟩
      have HZE : Hid ((Z1 = (X0.setCell ⟨N, 0, none⟩ (.slice z1 16 z2)).setCell ⟨N, 1, none⟩ (.slice none 0 0)) ∧ (Z2 = ((((Z1.setCell ⟨(M + 1), 0, none⟩ (.int .i64 (n : Int))).setCell ⟨(M + 1), 1, none⟩ (.int .i64 s)).setCell ⟨(M + 1), 2, none⟩ (.int .i64 v)).setCell ⟨(M + 1), 3, none⟩ (.int .i64 c)).setCell ⟨(M + 1), 4, none⟩ (.slice pa pl pc)) ∧ (Z3 = ((((Z2.setCell ⟨M, 0, none⟩ (.int .i64 e1)).setCell ⟨M, 1, none⟩ (.int .i64 ps)).setCell ⟨M, 2, none⟩ (.int .i64 pv)).setCell ⟨M, 3, none⟩ (.int .i64 pcm)).setCell ⟨M, 4, none⟩ (.slice da dm dc))) := ⟨hZ1, hZ2, hZ3⟩
      clear hZ1 hZ2 hZ3 c6 c13 cM cO hne hNM c6a c13a cMa cOa c6b c13b cMb cOb c6c c13c hS HX HX0
      have hSS := HSx.out.1
      refine tx 0 60 hSS ?_
      simp only [ua, ub, uc, ud]
      refine tx 2 62 hSS ?_
      simp only [ua, ub, uc, ud]
      clear hSS
      refine AnyBut.two (i := 1) (j := 3) (by kernel_rfl) rfl rfl (fun K hK => ?_) (fun K hK => ?_)
      · skip
        obtain ⟨⟨d0, d1, d2, d3, d4⟩, -⟩ := box5 HM0.out.1
        go_simp
        refine hK.out _ _ HSx.out.1 ?_
        clear hK d0 d1 d2 d3 d4
        refine AnyBut.step (i := 3) (by kernel_rfl) rfl (fun K hK => ?_)
        obtain ⟨d0, d1, f0, f1⟩ := HM0.out.2.2.2.2.two
        go_simp
        rw [← HZE.out.1]
        refine hK.out _ _ HSx.out.2.1 ?_
        clear hK d0 d1 f0 f1
        refine AnyBut.step (i := 4) (by kernel_rfl) rfl (fun K hK => ?_)
        obtain ⟨⟨d0, d1, d2, d3, d4⟩, f0, f1, f2, f3, f4⟩ := box5 HM0.out.2.2.2.1
        go_simp
        rw [← HZE.out.2.1]
        refine hK.out _ _ HSx.out.2.2.1 ?_
        clear hK d0 d1 d2 d3 d4 f0 f1 f2 f3 f4
        refine AnyBut.step (i := 5) (by kernel_rfl) rfl (fun K hK => ?_)
        obtain ⟨⟨d0, d1, d2, d3, d4⟩, f0, f1, f2, f3, f4⟩ := box5 HM0.out.2.2.1
        go_simp
        rw [← HZE.out.2.2]
        refine hK.out _ _ HSx.out.2.2.2 ?_
        clear hK d0 d1 d2 d3 d4 f0 f1 f2 f3 f4
        refine AnyBut.done (by kernel_rfl) ?_
        clear HZE HSx HM0
        go_wp2
        go_roundw
        case rel => exact ⟨n + 1, k + 1, stT T (e1, ps, pv, pcm, pd), z1, z2, ps, pv, pcm, da, dm, dc, pd, (n : Int), s, v, c, pa, pl, pc, d, by omega, by omega, by omega, by go_num, by go_num, by rw [← HE.out]; exact HT.out⟩
        case measure => simp [intOf]; omega
      · skip
        obtain ⟨d0, d1, f0, f1⟩ := HM0.out.2.2.2.2.two
        go_simp
        rw [← HZE.out.1]
        refine hK.out _ _ HSx.out.2.1 ?_
        clear hK d0 d1 f0 f1
        refine AnyBut.step (i := 1) (by kernel_rfl) rfl (fun K hK => ?_)
        obtain ⟨⟨d0, d1, d2, d3, d4⟩, -⟩ := box5 HM0.out.2.1
        go_simp
        refine hK.out _ _ HSx.out.2.1 ?_
        clear hK d0 d1 d2 d3 d4
        refine AnyBut.step (i := 4) (by kernel_rfl) rfl (fun K hK => ?_)
        obtain ⟨⟨d0, d1, d2, d3, d4⟩, f0, f1, f2, f3, f4⟩ := box5 HM0.out.2.2.2.1
        go_simp
        rw [← HZE.out.2.1]
        refine hK.out _ _ HSx.out.2.2.1 ?_
        clear hK d0 d1 d2 d3 d4 f0 f1 f2 f3 f4
        refine AnyBut.step (i := 5) (by kernel_rfl) rfl (fun K hK => ?_)
        obtain ⟨⟨d0, d1, d2, d3, d4⟩, f0, f1, f2, f3, f4⟩ := box5 HM0.out.2.2.1
        go_simp
        rw [← HZE.out.2.2]
        refine hK.out _ _ HSx.out.2.2.2 ?_
        clear hK d0 d1 d2 d3 d4 f0 f1 f2 f3 f4
        refine AnyBut.done (by kernel_rfl) ?_
        clear HZE HSx HM0
        go_wp2
        go_roundw
        case rel => exact ⟨n + 1, k + 1, stT T (e1, ps, pv, pcm, pd), z1, z2, ps, pv, pcm, da, dm, dc, pd, (n : Int), s, v, c, pa, pl, pc, d, by omega, by omega, by omega, by go_num, by go_num, by rw [← HE.out]; exact HT.out⟩
        case measure => simp [intOf]; omega

end Go.Proofs.YthlfgpnabcplnaaDoor.W.pointTurns
