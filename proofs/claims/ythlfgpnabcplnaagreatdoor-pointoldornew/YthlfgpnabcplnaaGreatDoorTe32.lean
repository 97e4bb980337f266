import Derived.Test.YthlfgpnabcplnaaGreatDoorTe29
import Derived.Test.YthlfgpnabcplnaaGreatDoorTe17
import Derived.Test.YthlfgpnabcplnaaGreatDoorTe7
/-
  What the document's Crash tells: the sectors with the writes that are kept, in memory of their own.
-/
namespace Go.Proofs.YthlfgpnabcplnaaGreatDoor.Dk
open Go.RowKit
set_option maxRecDepth 100000

attribute [local go_sem ↓] Go.wp_at_zero Go.wp_at_succ

set_option maxHeartbeats 4000000 in
theorem rcrash_any (n0 n1 : Nat) (v kv : Value) (S : St) (bl : List Bool) (w : World) (h : Disk n0 w v S) (hk : Bools n1 w kv bl) :
    Calls Tryz.prog 29 #[v, kv] w fun e w' => ∃ v', e = .returned (.tuple #[v', .int .i64 (cerr S)]) ∧ OwnDisk w.heap.size w' 87 v' (stand S (kept bl)) ∧ Below w.heap.size w w' := by
  obtain ⟨a1, c1, a2, c2, rfl, hL, hW⟩ := h.shape
  obtain ⟨ka, kc, rfl, _, hkm, _⟩ := Cells.shape hk
  obtain ⟨i6, hi6, hz60, hz61, hz62⟩ := info_parts Tryz.info87
  have hlk := run_len Tryz.underlying60 ka bl.length kc
  have HD : Hid (Disk n0 w (.agg #[.slice a1 S.secs.length c1, .slice a2 S.cache.length c2]) S ∧ Bools n1 w (.slice ka bl.length kc) bl) := ⟨h, hk⟩
  obtain ⟨n, hn⟩ : ∃ n, n = S.secs.length := ⟨_, rfl⟩
  obtain ⟨m, hm⟩ : ∃ n, n = S.cache.length := ⟨_, rfl⟩
  obtain ⟨kl, hkl⟩ : ∃ n, n = bl.length := ⟨_, rfl⟩
  have HN : Hid (n = S.secs.length) := hn
  have HM : Hid (m = S.cache.length) := hm
  have HKL : Hid (kl = bl.length) := hkl
  rw [← hn, ← hm, ← hkl] at HD
  rw [← hn, ← hm, ← hkl]
  rw [← hkl] at hlk hkm
  unfold maxLen at hkm
  obtain ⟨PS, hPS⟩ : ∃ x, x = stand S (kept bl) := ⟨_, rfl⟩
  have HPS : Hid (PS = stand S (kept bl)) := hPS
  obtain ⟨ce, hce⟩ : ∃ x, x = cerr S := ⟨_, rfl⟩
  have HCE : Hid (ce = cerr S) := hce
  rw [← hPS, ← hce]
  clear h hk hL hW hn hm hkl hPS hce
  go_enter Tryz.func29, Tryz.ntmps29
  go_wp2_with fail
  refine (rcheck_any n0 _ S _ (HD.out.1.below (((Below.refl _ w).alloc (Nat.le_refl _) _).alloc (by simp) _))).mono ?_
  rintro e w1 ⟨rfl, hb1⟩
  have hP1 : Box w1 w.heap.size 47 (.slice a1 n c1) (.slice a2 m c2) := ((Box.new w 47 _ _).alloc _).below hb1 (by simp; omega)
  have hR1 : Box w1 (w.heap.size + 1) 47 (.slice none 0 0) (.slice none 0 0) := by
    have := Box.new (w.alloc (.cells #[.slice a1 n c1, .slice a2 m c2] 47)) 47 (.slice none 0 0) (.slice none 0 0)
    rw [World.size_alloc] at this
    exact this.below hb1 (by simp)
  have hbe1 : Below w.heap.size w w1 := below_any (((Below.refl _ w).alloc (Nat.le_refl _) _).alloc (by simp) _) hb1
  have HB1 : Hid (Box w1 w.heap.size 47 (.slice a1 n c1) (.slice a2 m c2) ∧ Box w1 (w.heap.size + 1) 47 (.slice none 0 0) (.slice none 0 0) ∧ Below w.heap.size w w1) := ⟨hP1, hR1, hbe1⟩
  have g0 := hP1.cell0
  have g1 := hP1.cell1
  have g2 := hR1.cell0
  have g3 := hR1.cell1
  have g4 := hR1.frozen0
  have g5 := hR1.frozen1
  clear hb1 hbe1 hP1 hR1
  unfold cerr
  cases hchk : chk S
  · have e2 : PS = none0 := by rw [HPS.out, stand_bad hchk]
    have e1 : ce = 9 := by rw [HCE.out]; simp [cerr, hchk]
    subst e1 e2
    go_wp2
    refine bodyPost_ret (v := .tuple #[.agg #[.slice none 0 0, .slice none 0 0], .int .i64 9]) (by simp [results, Tryz.results29, go_sem, *]) rfl ⟨_, rfl, own_zero _ _ _, ?_⟩
    exact below_set2 HB1.out.2.2 (Nat.le_succ _) _ _
  obtain ⟨k1, k2, k3, k4, k5, k6⟩ := chk_facts hchk
  have hk3 : m ≤ 4096 := by rw [HM.out]; exact k3
  have e2 : PS = ⟨fill S.secs (landed S (kept bl) m), []⟩ := by rw [HPS.out, stand_good hchk, fill_all, HM.out]
  have HK6 : Hid ((∀ q ∈ S.cache, 0 ≤ q.1 ∧ q.1 < n) ∧ ∀ q ∈ S.cache, q.2.length = 64) := ⟨by rw [HN.out]; exact k6, k5⟩
  have HOWN := rown_any n0 _ S w1 (HD.out.1.below HB1.out.2.2) k2 k3 k4 k5
  have e1 : ce = 0 := by rw [HCE.out]; simp [cerr, hchk]
  subst e1 e2
  clear k1 k2 k3 k4 k5 k6 hchk
  go_wp2_with fail
  refine HOWN.mono ?_
  rintro e w3 ⟨v3, rfl, ⟨vs, vc, rfl, hOL, hOW⟩, hb3⟩
  clear HOWN
  obtain ⟨us, hus, hEs⟩ := id hOL
  obtain ⟨ps, hown, hE⟩ := id hOW
  rw [← HN.out] at hus
  rw [← HM.out] at hown
  obtain ⟨ax, cs, rfl⟩ := own_shape hus
  obtain ⟨ac, cc, rfl⟩ := own_shape hown
  have hR3 := HB1.out.2.1.below hb3 HB1.out.2.1.lt
  obtain ⟨W, hW⟩ : ∃ W, W = w3.alloc (.cells #[.slice ax n cs, .slice ac m cc] 47) := ⟨_, rfl⟩
  have hXW : Box W w3.heap.size 47 (.slice ax n cs) (.slice ac m cc) := by rw [hW]; exact Box.new _ _ _ _
  have hbW : Below w3.heap.size w3 W := by rw [hW]; exact (Below.refl _ _).alloc (Nat.le_refl _) _
  have HLT : Hid (w.heap.size + 1 < w1.heap.size ∧ w1.heap.size ≤ w3.heap.size) := ⟨HB1.out.2.1.lt, hb3.size⟩
  have HST : Hid (Box W w3.heap.size 47 (.slice ax n cs) (.slice ac m cc) ∧ Box W (w.heap.size + 1) 47 (.slice none 0 0) (.slice none 0 0) ∧ OwnLists w1.heap.size W (.slice ax n cs) S.secs ∧ OwnWrites w1.heap.size W 87 (.slice ac m cc) S.cache ∧ Below w.heap.size w W) :=
    ⟨hXW, hR3.below hbW hR3.lt, hOL.same (.of_below hbW), hOW.same (.of_below hbW), below_any (below_any HB1.out.2.2 hb3) hbW⟩
  have hlc := run_len Tryz.underlying45 ac m cc
  clear hown hE hOL hOW hEs hus hR3 hb3 g0 g1 g2 g3 g4 g5 hbW hXW
  go_wp2
  rw [← hW]
  clear hW
  go_loopw [7] (fun i wr => ∃ k : Nat, k ≤ m ∧ k ≤ kl ∧ i = .int .i64 k ∧ Box wr w3.heap.size 47 (.slice ax n cs) (.slice ac m cc) ∧ Box wr (w.heap.size + 1) 47 (.slice none 0 0) (.slice none 0 0) ∧ OwnLists w1.heap.size wr (.slice ax n cs) (fill S.secs (landed S (kept bl) k)) ∧
    OwnWrites w1.heap.size wr 87 (.slice ac m cc) S.cache ∧ Below w.heap.size w wr) (fun i _ => m - (intOf i).toNat)
  case atStart => exact ⟨0, Nat.zero_le _, Nat.zero_le _, rfl, HST.out.1, HST.out.2.1, HST.out.2.2.1, HST.out.2.2.2.1, HST.out.2.2.2.2⟩
  case round =>
    clear HST
    obtain ⟨k, hk, hkk, rfl, hBX, hBR, hOL, hOW, hbel⟩ := hrel
    have q0 := hBX.cell1
    by_cases hlt : k < m
    · by_cases hlt2 : k < kl
      · obtain ⟨bb, hbb⟩ := get_lt (l := bl) (k := k) (by rw [← HKL.out]; exact hlt2)
        obtain ⟨kg, ko, hkix, hkc⟩ := bools_at (HD.out.2.below hbel) k bb hbb
        have HKB : Hid (kept bl k = bb) := kept_get hbb
        obtain ⟨q, hq⟩ := get_lt (l := S.cache) (k := k) (by rw [← HM.out]; exact hlt)
        have hki : (k : Int) < (m : Int) := by omega
        have hki2 : (k : Int) < (kl : Int) := by omega
        have HX : Hid (Box wr w3.heap.size 47 (.slice ax n cs) (.slice ac m cc) ∧ Box wr (w.heap.size + 1) 47 (.slice none 0 0) (.slice none 0 0) ∧ OwnLists w1.heap.size wr (.slice ax n cs) (fill S.secs (landed S (kept bl) k)) ∧ OwnWrites w1.heap.size wr 87 (.slice ac m cc) S.cache ∧ Below w.heap.size w wr) := ⟨hBX, hBR, hOL, hOW, hbel⟩
        cases bb with
        | false =>
          clear hBX hBR hOL hOW hbel hq hbb
          go_wp2
          go_roundw
          case rel =>
            refine ⟨k + 1, by omega, by omega, by go_num, HX.out.1, HX.out.2.1, ?_, HX.out.2.2.2⟩
            rw [landed, HKB.out]
            simpa using HX.out.2.2.1
          case measure => simp [intOf]; omega
        | true =>
          obtain ⟨b, o, a, cap, hix, _, hc0, hc1, hA, hr⟩ := hOW.writes.at Tryz.underlying45 hi6 hz61 k q hq
          have hl64 := HK6.out.2 q (List.mem_of_getElem? hq)
          have hq6 := HK6.out.1 q (List.mem_of_getElem? hq)
          rw [hl64] at hc1 hA
          have HWR : Hid (write S k = (q.1.toNat, q.2)) := by
            show _ = _
            simp [write, List.getD, hq]
          obtain ⟨s, l⟩ := q
          simp only at hc0 hc1 hA hr hl64 hq6 HWR
          obtain ⟨sq, rfl⟩ : ∃ sq : Nat, s = (sq : Int) := ⟨s.toNat, by omega⟩
          rw [Int.toNat_natCast] at HWR
          have hln : (fill S.secs (landed S (kept bl) k)).length = n := by rw [fill_length, HN.out]
          obtain ⟨g, sc, hv, hgb, hgs, hsix, ⟨sx, hsc⟩, hsf, hob⟩ := hOL.at sq (by rw [hln]; omega)
          rw [hln] at hv hob
          obtain ⟨rfl, _, rfl⟩ := Value.slice.inj hv
          have HA : Hid (Arg w1.heap.size wr (.slice a 64 cap) l ∧ l.length = 64) := ⟨hA, hl64⟩
          have HC : Hid (Calls Tryz.prog 59 #[.slice a 64 cap] wr.drew fun e w' => (∃ v', e = .returned v' ∧ w'.ownsRow wr.heap.size 5 1 v' 64 (l.map (Value.int .u8))) ∧ Below wr.heap.size wr w') := by
            have := copied_any w1.heap.size (.slice a 64 cap) l wr.drew (HA.out.1.below (Below.refl _ _).drew) (by have := HA.out.2; omega)
            rw [HA.out.2] at this
            exact this.mono fun e w' h => ⟨h.1, ((Below.refl _ wr).drew).trans h.2⟩
          have HS : Hid (∀ V, Below wr.heap.size wr V → V.cell? ⟨w3.heap.size, 0, none⟩ = some (.slice (some ⟨g, 0, none⟩) n cs) ∧ V.cell? ⟨w3.heap.size, 1, none⟩ = some (.slice ac m cc) ∧ V.cell? ⟨b, o, none⟩ = some (.int .i64 (sq : Int)) ∧ V.cell? ⟨b, o + 1, none⟩ = some (.slice a 64 cap)) := fun V hb => ⟨(HX.out.1.below hb HX.out.1.lt).cell0, (HX.out.1.below hb HX.out.1.lt).cell1, by rw [hb.cell (cell_lt hc0)]; exact hc0, by rw [hb.cell (cell_lt hc1)]; exact hc1⟩
          have HG : Hid (w1.heap.size ≤ g ∧ g < wr.heap.size ∧ wr.cell? ⟨g, sq, none⟩ = some sx ∧ wr.frozen? ⟨g, sq, none⟩ = false ∧ sq < n ∧ (fill S.secs (landed S (kept bl) k)).length = n) := ⟨hgb, hgs, hsc, hsf, by omega, hln⟩
          clear hBX hBR hOL hOW hbel hq hbb hA hl64 hv hob hc0 hc1 hr hln hgb hgs hsc hsf
          go_wp2
          refine AnyBut.begin (fun W => W.cell? ⟨w3.heap.size, 0, none⟩ = some (.slice (some ⟨g, 0, none⟩) n cs) ∧ W.cell? ⟨w3.heap.size, 1, none⟩ = some (.slice ac m cc) ∧ W.cell? ⟨b, o, none⟩ = some (.int .i64 (sq : Int)) ∧ W.cell? ⟨b, o + 1, none⟩ = some (.slice a 64 cap)) 16 (by kernel_rfl) ?_
          have hSS := HS.out wr.drew (Below.refl _ _).drew
          refine AnyBut.take (i := 0) (some 31) (v := ?_) rfl rfl (by kernel_rfl) rfl (by kernel_rfl) (by kernel_rfl) (by kernel_rfl) (fun _ _ _ h => h) (.inl ⟨by rfl, ?_⟩) hSS ?_
          rotate_left
          · (intro W hSW; (try dsimp only at hSW); go_simp; try with_reducible rfl)
          simp only [Act.put, List.setIfInBounds_toArray, List.set_cons_zero, List.set_cons_succ]
          refine AnyBut.take (i := 1) (some 32) (v := ?_) rfl rfl (by kernel_rfl) rfl (by kernel_rfl) (by kernel_rfl) (by kernel_rfl) (fun _ _ _ h => h) (.inl ⟨by rfl, ?_⟩) hSS ?_
          rotate_left
          · (intro W hSW; (try dsimp only at hSW); go_simp; try with_reducible rfl)
          simp only [Act.put, List.setIfInBounds_toArray, List.set_cons_zero, List.set_cons_succ]
          refine AnyBut.take (i := 2) (some 33) (v := ?_) rfl rfl (by kernel_rfl) rfl (by kernel_rfl) (by kernel_rfl) (by kernel_rfl) (fun _ _ _ h => h) (.inl ⟨by rfl, ?_⟩) hSS ?_
          rotate_left
          · (intro W hSW; (try dsimp only at hSW); go_simp; try with_reducible rfl)
          simp only [Act.put, List.setIfInBounds_toArray, List.set_cons_zero, List.set_cons_succ]
          refine AnyBut.take (i := 3) (some 34) (v := ?_) rfl rfl (by kernel_rfl) rfl (by kernel_rfl) (by kernel_rfl) (by kernel_rfl) (fun _ _ _ h => h) (.inl ⟨by rfl, ?_⟩) hSS ?_
          rotate_left
          · (intro W hSW; (try dsimp only at hSW); go_simp; try with_reducible rfl)
          simp only [Act.put, List.setIfInBounds_toArray, List.set_cons_zero, List.set_cons_succ]
          refine AnyBut.take (i := 4) (some 35) (v := ?_) rfl rfl (by kernel_rfl) rfl (by kernel_rfl) (by kernel_rfl) (by kernel_rfl) (fun _ _ _ h => h) (.inl ⟨by rfl, ?_⟩) hSS ?_
          rotate_left
          · (intro W hSW; (try dsimp only at hSW); go_simp; try with_reducible rfl)
          simp only [Act.put, List.setIfInBounds_toArray, List.set_cons_zero, List.set_cons_succ]
          refine AnyBut.take (i := 5) (some 36) (v := ?_) rfl rfl (by kernel_rfl) rfl (by kernel_rfl) (by kernel_rfl) (by kernel_rfl) (fun _ _ _ h => h) (.inl ⟨by rfl, ?_⟩) hSS ?_
          rotate_left
          · (intro W hSW; (try dsimp only at hSW); go_simp; try with_reducible rfl)
          simp only [Act.put, List.setIfInBounds_toArray, List.set_cons_zero, List.set_cons_succ]
          refine AnyBut.take (i := 6) (some 37) (v := ?_) rfl rfl (by kernel_rfl) rfl (by kernel_rfl) (by kernel_rfl) (by kernel_rfl) (fun _ _ _ h => h) (.inl ⟨by rfl, ?_⟩) hSS ?_
          rotate_left
          · (intro W hSW; (try dsimp only at hSW); go_simp; try with_reducible rfl)
          simp only [Act.put, List.setIfInBounds_toArray, List.set_cons_zero, List.set_cons_succ]
          refine AnyBut.take (i := 7) (some 38) (v := ?_) rfl rfl (by kernel_rfl) rfl (by kernel_rfl) (by kernel_rfl) (by kernel_rfl) (fun _ _ _ h => h) (.inl ⟨by rfl, ?_⟩) hSS ?_
          rotate_left
          · (intro W hSW; (try dsimp only at hSW); go_simp; try with_reducible rfl)
          simp only [Act.put, List.setIfInBounds_toArray, List.set_cons_zero, List.set_cons_succ]
          refine AnyBut.take (i := 8) (some 39) (v := ?_) rfl rfl (by kernel_rfl) rfl (by kernel_rfl) (by kernel_rfl) (by kernel_rfl) (fun _ _ _ h => h) (.inl ⟨by rfl, ?_⟩) hSS ?_
          rotate_left
          · (intro W hSW; (try dsimp only at hSW); go_simp; try with_reducible rfl)
          simp only [Act.put, List.setIfInBounds_toArray, List.set_cons_zero, List.set_cons_succ]
          refine AnyBut.take (i := 9) (some 40) (v := ?_) rfl rfl (by kernel_rfl) rfl (by kernel_rfl) (by kernel_rfl) (by kernel_rfl) (fun _ _ _ h => h) (.inl ⟨by rfl, ?_⟩) hSS ?_
          rotate_left
          · (intro W hSW; (try dsimp only at hSW); go_simp; try with_reducible rfl)
          simp only [Act.put, List.setIfInBounds_toArray, List.set_cons_zero, List.set_cons_succ]
          refine AnyBut.take (i := 10) (some 41) (v := ?_) rfl rfl (by kernel_rfl) rfl (by kernel_rfl) (by kernel_rfl) (by kernel_rfl) (fun _ _ _ h => h) (.inl ⟨by rfl, ?_⟩) hSS ?_
          rotate_left
          · (intro W hSW; (try dsimp only at hSW); go_simp; try with_reducible rfl)
          simp only [Act.put, List.setIfInBounds_toArray, List.set_cons_zero, List.set_cons_succ]
          refine AnyBut.take (i := 11) (some 42) (v := ?_) rfl rfl (by kernel_rfl) rfl (by kernel_rfl) (by kernel_rfl) (by kernel_rfl) (fun _ _ _ h => h) (.inl ⟨by rfl, ?_⟩) hSS ?_
          rotate_left
          · (intro W hSW; (try dsimp only at hSW); go_simp; try with_reducible rfl)
          simp only [Act.put, List.setIfInBounds_toArray, List.set_cons_zero, List.set_cons_succ]
          refine AnyBut.take (i := 12) (some 43) (v := ?_) rfl rfl (by kernel_rfl) rfl (by kernel_rfl) (by kernel_rfl) (by kernel_rfl) (fun _ _ _ h => h) (.inl ⟨by rfl, ?_⟩) hSS ?_
          rotate_left
          · (intro W hSW; (try dsimp only at hSW); go_simp; try with_reducible rfl)
          simp only [Act.put, List.setIfInBounds_toArray, List.set_cons_zero, List.set_cons_succ]
          refine AnyBut.take (i := 13) (some 44) (v := ?_) rfl rfl (by kernel_rfl) rfl (by kernel_rfl) (by kernel_rfl) (by kernel_rfl) (fun _ _ _ h => h) (.inl ⟨by rfl, ?_⟩) hSS ?_
          rotate_left
          · (intro W hSW; (try dsimp only at hSW); go_simp; try with_reducible rfl)
          simp only [Act.put, List.setIfInBounds_toArray, List.set_cons_zero, List.set_cons_succ]
          refine AnyBut.step (i := 14) (by kernel_rfl) rfl (fun K hK => ?_)
          go_simp
          refine Calls.mono HC.out ?_
          rintro e w4 ⟨⟨u2, rfl, hu2⟩, hb4⟩
          obtain ⟨ux, uc, rfl⟩ := own_shape hu2
          dsimp only
          refine hK.out _ _ (HS.out w4 hb4) ?_
          clear hK hSS
          have hSS := (HS.out w4 hb4)
          refine AnyBut.take (i := 15) (some 46) (v := ?_) rfl rfl (by kernel_rfl) rfl (by kernel_rfl) (by kernel_rfl) (by kernel_rfl) (fun _ _ _ h => h) (.inl ⟨by rfl, ?_⟩) hSS ?_
          rotate_left
          · (intro W hSW; (try dsimp only at hSW); go_simp; try with_reducible rfl)
          simp only [Act.put, List.setIfInBounds_toArray, List.set_cons_zero, List.set_cons_succ]
          have hsc4 : w4.cell? ⟨g, sq, none⟩ = some sx := by rw [hb4.cell HG.out.2.1]; exact HG.out.2.2.1
          have hsf4 : w4.frozen? ⟨g, sq, none⟩ = false := by rw [World.frozen?_of_block (hb4.block g HG.out.2.1)]; exact HG.out.2.2.2.1
          refine AnyBut.last (by kernel_rfl) (by kernel_rfl) rfl (fun K hK => ?_)
          go_simp
          refine hK.out _ _ ?_
          clear hK hSS
          have HO4 : Hid (OwnLists w1.heap.size w4 (.slice (some ⟨g, 0, none⟩) n cs) (fill S.secs (landed S (kept bl) k)) ∧ OwnWrites w1.heap.size w4 87 (.slice ac m cc) S.cache ∧ Box w4 w3.heap.size 47 (.slice (some ⟨g, 0, none⟩) n cs) (.slice ac m cc) ∧ Box w4 (w.heap.size + 1) 47 (.slice none 0 0) (.slice none 0 0) ∧ Below w.heap.size w w4) := ⟨HX.out.2.2.1.same (.of_below hb4), HX.out.2.2.2.1.same (.of_below hb4), HX.out.1.below hb4 HX.out.1.lt, HX.out.2.1.below hb4 HX.out.2.1.lt, below_any HX.out.2.2.2.2 hb4⟩
          have HU4 : Hid (Own1 w1.heap.size w4 (.slice ux 64 uc) l) := ⟨own_weaken (by rw [HA.out.2]; exact hu2) (by have := HG.out; omega), HA.out.1.2⟩
          clear hsc4 hsf4 hu2 hb4 hix hsix hkix hkc q0
          go_wp2
          go_roundw
          case rel =>
            obtain ⟨us4, ho4, _⟩ := id HO4.out.1
            have hp := HO4.out.1.put (k := sq) HG.out.2.2.2.2.2.symm HU4.out
            refine ⟨k + 1, by omega, by omega, by go_num, HO4.out.2.2.1.grown hp.2 (box_apart' ho4 HO4.out.2.2.1 (by decide)), HO4.out.2.2.2.1.grown hp.2 (row_ne ho4 (by have := HLT.out; omega)), ?_, HO4.out.2.1.beside ho4 hp.2, HO4.out.2.2.2.2.setCell (p := ⟨g, sq, none⟩) (by have := HG.out; have := HLT.out; simp; omega) _⟩
            rw [landed, HKB.out, if_pos rfl, HWR.out, fill_snoc]
            exact hp.1
          case measure => simp [intOf]; omega
      · obtain rfl : k = kl := by omega
        have HX : Hid (Box wr w3.heap.size 47 (.slice ax n cs) (.slice ac m cc) ∧ Box wr (w.heap.size + 1) 47 (.slice none 0 0) (.slice none 0 0) ∧ OwnLists w1.heap.size wr (.slice ax n cs) (fill S.secs (landed S (kept bl) m)) ∧ Below w.heap.size w wr) := by
          refine ⟨hBX, hBR, ?_, hbel⟩
          have := landed_past S bl k (m - k) (by rw [HKL.out]; omega)
          rw [show k + (m - k) = m by omega] at this
          rw [this]
          exact hOL
        have q1 := hBX.frozen1
        have q2 := hBX.cell0
        have q3 := hBR.cell0
        have q4 := hBR.cell1
        have q5 := hBR.frozen0
        have q6 := hBR.frozen1
        have hki : (k : Int) < (m : Int) := by omega
        have hne : w3.heap.size ≠ w.heap.size + 1 := by have := HLT.out; omega
        clear hBX hBR hOL hOW hbel
        go_wp2
        refine bodyPost_ret (v := .tuple #[.agg #[.slice ax n cs, .slice none 0 0], .int .i64 0]) (by simp [results, Tryz.results29, go_sem, *]) rfl ⟨_, rfl, ⟨_, _, rfl, ?_, ?_⟩, ?_⟩
        · exact OwnLists.weaken (base := w1.heap.size) (((HX.out.2.2.1.boxed HX.out.1 (by decide) (by decide)).same (same_set (by have := HLT.out; omega))).same (same_set (by have := HLT.out; omega))) (by have := HLT.out; omega)
        · exact ⟨[], World.ownsRow_nil _ _ _ _, trivial⟩
        · exact below_set2 (HX.out.2.2.2.setCell (p := ⟨w3.heap.size, 1, none⟩) (by have := HLT.out; simp; omega) _) (Nat.le_succ _) _ _
    · obtain rfl : k = m := by omega
      have HX : Hid (Box wr w3.heap.size 47 (.slice ax n cs) (.slice ac k cc) ∧ Box wr (w.heap.size + 1) 47 (.slice none 0 0) (.slice none 0 0) ∧ OwnLists w1.heap.size wr (.slice ax n cs) (fill S.secs (landed S (kept bl) k)) ∧ Below w.heap.size w wr) := ⟨hBX, hBR, hOL, hbel⟩
      have q1 := hBX.frozen1
      have q2 := hBX.cell0
      have q3 := hBR.cell0
      have q4 := hBR.cell1
      have q5 := hBR.frozen0
      have q6 := hBR.frozen1
      have hki : ¬ (k : Int) < (k : Int) := by omega
      have hne : w3.heap.size ≠ w.heap.size + 1 := by have := HLT.out; omega
      clear hBX hBR hOL hOW hbel
      go_wp2
      refine bodyPost_ret (v := .tuple #[.agg #[.slice ax n cs, .slice none 0 0], .int .i64 0]) (by simp [results, Tryz.results29, go_sem, *]) rfl ⟨_, rfl, ⟨_, _, rfl, ?_, ?_⟩, ?_⟩
      · exact OwnLists.weaken (base := w1.heap.size) (((HX.out.2.2.1.boxed HX.out.1 (by decide) (by decide)).same (same_set (by have := HLT.out; omega))).same (same_set (by have := HLT.out; omega))) (by have := HLT.out; omega)
      · exact ⟨[], World.ownsRow_nil _ _ _ _, trivial⟩
      · exact below_set2 (HX.out.2.2.2.setCell (p := ⟨w3.heap.size, 1, none⟩) (by have := HLT.out; simp; omega) _) (Nat.le_succ _) _ _

end Go.Proofs.YthlfgpnabcplnaaGreatDoor.Dk

/-
  What the document's Flush tells: the sectors with all writes, in memory of their own.
-/
namespace Go.Proofs.YthlfgpnabcplnaaGreatDoor.Dk
open Go.RowKit Go.Shelf
set_option maxRecDepth 100000

theorem made_bools (A : Nat) : madeCells #[Value.bool false] A = ((List.replicate A false).map Value.bool).toArray := by
  apply Array.ext'
  rw [toList_madeCells_one, List.map_replicate]
theorem make_bools (A : Nat) (h : A ≤ 281474976710656) (W : World) : (Instr.makeSlice 60 (.int .i64 (A : Int)) (.int .i64 (A : Int))).run Tryz.prog W = .ok (.slice (some ⟨W.heap.size, 0, none⟩) A A) (W.alloc (.cells ((List.replicate A false).map Value.bool).toArray 4)) := by
  have := run_make_row' (P := Tryz.prog) 60 4 (.bool false) 1 Tryz.underlying60 Tryz.info4 rfl .i64 .i64 A (by omega) (by omega) W
  rw [made_bools] at this
  exact this

set_option maxHeartbeats 4000000 in
theorem rflush_any (n0 : Nat) (v : Value) (S : St) (w : World) (h : Disk n0 w v S) (hf : S.cache.length ≤ 4398046511104) :
    Calls Tryz.prog 45 #[v] w fun e w' => ∃ v', e = .returned (.tuple #[v', .int .i64 (cerr S)]) ∧ OwnDisk w.heap.size w' 87 v' (stand S fun _ => true) ∧ Below w.heap.size w w' := by
  obtain ⟨a1, c1, a2, c2, rfl, hL, hW⟩ := h.shape
  obtain ⟨i4, hi4, _, hz4, _⟩ := info_parts Tryz.info4
  have HD : Hid (Disk n0 w (.agg #[.slice a1 S.secs.length c1, .slice a2 S.cache.length c2]) S) := h
  have hl2 := run_len Tryz.underlying45 a2 S.cache.length c2
  have hmk := make_bools S.cache.length (by omega)
  obtain ⟨n, hn⟩ : ∃ n, n = S.secs.length := ⟨_, rfl⟩
  obtain ⟨m, hm⟩ : ∃ n, n = S.cache.length := ⟨_, rfl⟩
  have HM : Hid (m = S.cache.length) := hm
  rw [← hn, ← hm] at HD ⊢
  rw [← hm] at hl2 hmk hf
  obtain ⟨row, hrow⟩ : ∃ r, r = ((List.replicate m false).map Value.bool).toArray := ⟨_, rfl⟩
  rw [← hrow] at hmk
  obtain ⟨PS, hPS⟩ : ∃ x, x = stand S fun _ => true := ⟨_, rfl⟩
  obtain ⟨ce, hce⟩ : ∃ x, x = cerr S := ⟨_, rfl⟩
  have HPS : Hid (PS = (stand S fun _ => true) ∧ ce = cerr S) := ⟨hPS, hce⟩
  rw [← hPS, ← hce]
  clear h hL hW hn hm hPS hce
  obtain ⟨W0, hW0⟩ : ∃ W, W = (w.alloc (.cells #[.slice a1 n c1, .slice a2 m c2] 47)).alloc (.cells #[.slice none 0 0, .slice none 0 0] 47) := ⟨_, rfl⟩
  obtain ⟨W, hW⟩ : ∃ W, W = W0.alloc (.cells row 4) := ⟨_, rfl⟩
  obtain ⟨B, hB⟩ : ∃ B, B = w.heap.size + 1 + 1 := ⟨_, rfl⟩
  have hsz0 : W0.heap.size = w.heap.size + 2 := by rw [hW0]; simp
  have hB0 : Box W0 w.heap.size 47 (.slice a1 n c1) (.slice a2 m c2) := by rw [hW0]; exact (Box.new w 47 _ _).alloc _
  have hR0 : Box W0 (w.heap.size + 1) 47 (.slice none 0 0) (.slice none 0 0) := by
    rw [hW0]
    have := Box.new (w.alloc (.cells #[.slice a1 n c1, .slice a2 m c2] 47)) 47 (.slice none 0 0) (.slice none 0 0)
    rwa [World.size_alloc] at this
  have hb0 : Below w.heap.size w W0 := by rw [hW0]; exact ((Below.refl _ w).alloc (Nat.le_refl _) _).alloc (by simp) _
  have HST : Hid (Box W w.heap.size 47 (.slice a1 n c1) (.slice a2 m c2) ∧ Box W (w.heap.size + 1) 47 (.slice none 0 0) (.slice none 0 0) ∧ W.ownsRow (w.heap.size + 2) 4 1 (.slice (some ⟨B, 0, none⟩) m m) m ((List.replicate m false).map Value.bool) ∧ Below w.heap.size w W) := by
    rw [hW]
    refine ⟨hB0.alloc _, hR0.alloc _, ?_, hb0.alloc (by omega) _⟩
    have := World.ownsRow_lit W0 (base := w.heap.size + 2) (e := 4) (size := 1) ((List.replicate m false).map Value.bool).toArray m (by omega) (by unfold maxLen; omega) (by simp)
    rw [hsz0] at this
    rw [hrow, hB]
    simpa using this
  have q0 := hB0.cell1
  rw [hW0] at q0
  rw [hW0] at hW
  have HB : Hid (B = w.heap.size + 2) := hB
  clear hB0 hR0 hb0 hrow hsz0
  go_enter Tryz.func45, Tryz.ntmps45
  go_wp2
  rw [← hW, ← hB]
  clear hW hB hW0 q0 hmk
  have hlk := run_len Tryz.underlying60 (some ⟨B, 0, none⟩) m m
  go_loopw [5] (fun i wr => ∃ (k : Nat) (bl : List Bool), k ≤ m ∧ i = .int .i64 k ∧ Hid (bl.length = m ∧ ∀ j, j < k → bl[j]? = some true) ∧ wr.ownsRow (w.heap.size + 2) 4 1 (.slice (some ⟨B, 0, none⟩) m m) m (bl.map Value.bool) ∧ Box wr w.heap.size 47 (.slice a1 n c1) (.slice a2 m c2) ∧ Box wr (w.heap.size + 1) 47 (.slice none 0 0) (.slice none 0 0) ∧ Below w.heap.size w wr) (fun i _ => m - (intOf i).toNat)
  case atStart => exact ⟨0, _, Nat.zero_le _, rfl, ⟨by simp, fun j hj => by omega⟩, HST.out.2.2.1, HST.out.1, HST.out.2.1, HST.out.2.2.2⟩
  case round =>
    clear HST
    obtain ⟨k, bl, hk, rfl, HL, hown, hBX, hBR, hbel⟩ := hrel
    by_cases hlt : k < m
    · have hix := run_index Tryz.underlying60 hi4 hz4 B 0 m m k hlt
      rw [Nat.mul_one, Nat.zero_add] at hix
      have hkl : k < bl.length := by rw [HL.out.1]; exact hlt
      have hc : wr.cell? ⟨B, k, none⟩ = some (.bool bl[k]) := by
        rw [hown.cellAt k (by omega)]
        simp [hkl]
      have hfr := hown.frozenAt k
      have hst := hown.stored k (.bool true)
      rw [← List.map_set] at hst
      have HN : Hid ((wr.setCell ⟨B, k, none⟩ (.bool true)).ownsRow (w.heap.size + 2) 4 1 (.slice (some ⟨B, 0, none⟩) m m) m ((bl.set k true).map Value.bool) ∧ Box (wr.setCell ⟨B, k, none⟩ (.bool true)) w.heap.size 47 (.slice a1 n c1) (.slice a2 m c2) ∧ Box (wr.setCell ⟨B, k, none⟩ (.bool true)) (w.heap.size + 1) 47 (.slice none 0 0) (.slice none 0 0) ∧ Below w.heap.size w (wr.setCell ⟨B, k, none⟩ (.bool true))) :=
        ⟨hst.1, hBX.other (by have := HB.out; omega), hBR.other (by have := HB.out; omega), hbel.setCell (p := ⟨B, k, none⟩) (by have := HB.out; simp; omega) _⟩
      have hki : (k : Int) < (m : Int) := by omega
      obtain ⟨bx, hbx⟩ : ∃ x, x = bl[k] := ⟨_, rfl⟩
      rw [← hbx] at hc
      have HKL : Hid (k < bl.length) := hkl
      clear hown hBX hBR hbel hst hbx hkl
      go_wp2
      go_roundw
      case rel =>
        refine ⟨k + 1, bl.set k true, by omega, by go_num, ⟨by rw [List.length_set]; exact HL.out.1, fun j hj => ?_⟩, HN.out.1, HN.out.2.1, HN.out.2.2.1, HN.out.2.2.2⟩
        by_cases e : j = k
        · subst e; simp [HKL.out]
        · rw [List.getElem?_set_ne (by omega)]
          exact HL.out.2 j (by omega)
      case measure => simp [intOf]; omega
    · obtain rfl : k = m := by omega
      have HC := rcrash_any n0 (w.heap.size + 2) (.agg #[.slice a1 n c1, .slice a2 k c2]) (.slice (some ⟨B, 0, none⟩) k k) S bl wr (HD.out.below hbel) (by have := Cells.own hown; unfold Bools; rw [HL.out.1]; exact this)
      rw [show stand S (kept bl) = PS by
        rw [HPS.out.1]
        exact stand_congr fun i hi => kept_get (HL.out.2 i (by rw [HM.out]; exact hi)), ← HPS.out.2] at HC
      have q0 := hBX.cell0
      have q1 := hBX.cell1
      have HBR : Hid (Box wr (w.heap.size + 1) 47 (.slice none 0 0) (.slice none 0 0) ∧ Below w.heap.size w wr) := ⟨hBR, hbel⟩
      clear hown hBX hBR hbel
      go_wp2_with fail
      refine HC.mono ?_
      rintro e w2 ⟨v2, rfl, ho2, hb2⟩
      clear HC q0 q1
      obtain ⟨x1, y1, x2, y2, rfl, _, _⟩ := ho2.disk.shape
      have hR2 := HBR.out.1.below hb2 HBR.out.1.lt
      have q2 := hR2.cell0
      have q3 := hR2.cell1
      have q4 := hR2.frozen0
      have q5 := hR2.frozen1
      have HO2 : Hid (OwnDisk wr.heap.size w2 87 (.agg #[.slice x1 PS.secs.length y1, .slice x2 PS.cache.length y2]) PS ∧ Below w.heap.size w w2 ∧ w.heap.size + 1 < wr.heap.size) := ⟨ho2, below_any HBR.out.2 hb2, HBR.out.1.lt⟩
      obtain ⟨sl, hsl⟩ : ∃ x, x = PS.secs.length := ⟨_, rfl⟩
      obtain ⟨cl, hcl⟩ : ∃ x, x = PS.cache.length := ⟨_, rfl⟩
      rw [← hsl, ← hcl] at HO2
      rw [← hsl, ← hcl]
      clear ho2 hb2 hR2 hsl hcl
      go_wp2
      refine bodyPost_ret (v := .tuple #[.agg #[.slice x1 sl y1, .slice x2 cl y2], .int .i64 ce]) (by simp [results, Tryz.results45, go_sem, *]) rfl ⟨_, rfl, ?_, ?_⟩
      · exact OwnDisk.weaken (base := wr.heap.size) ((HO2.out.1.same (same_set (by have := HO2.out.2.2; omega))).same (same_set (by have := HO2.out.2.2; omega))) (by have := HO2.out.2.2; omega)
      · exact below_set2 HO2.out.2.1 (Nat.le_succ _) _ _

end Go.Proofs.YthlfgpnabcplnaaGreatDoor.Dk
