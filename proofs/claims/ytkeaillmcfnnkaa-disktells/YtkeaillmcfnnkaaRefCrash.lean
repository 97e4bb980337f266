/-
  What the document's Crash tells: the sectors with the writes that are kept, in memory of their own.
-/
import Derived.Test.YtkeaillmcfnnkaaCrashMath
import Derived.Test.YtkeaillmcfnnkaaRefOwn
import Derived.Test.YtkeaillmcfnnkaaRefCheck
namespace Go.Proofs.Ytkeaillmcfnnkaa
open Go.RowKit

attribute [local go_sem ↓] Go.wp_at_zero Go.wp_at_succ

set_option maxRecDepth 100000 in
set_option maxHeartbeats 4000000 in
theorem rcrash_any (n0 n1 : Nat) (v kv : Value) (S : St) (bl : List Bool) (w : World) (h : Disk n0 w v S) (hk : Bools n1 w kv bl) :
    Calls Try.prog 18 #[v, kv] w fun e w' => ∃ v', e = .returned (.tuple #[v', .int .i64 (cerr S)]) ∧ OwnDisk w.heap.size w' 60 v' (stand S (kept bl)) ∧ Below w.heap.size w w' := by
  obtain ⟨a1, c1, a2, c2, rfl, hL, hW⟩ := h.shape
  obtain ⟨ka, kc, rfl, _, hkm, _⟩ := Cells.shape hk
  obtain ⟨i6, hi6, hz60, hz61, hz62⟩ := info_parts Try.info60
  have hlk := run_len Try.underlying27 ka bl.length kc
  have HD : Hid (Disk n0 w (.agg #[.slice a1 S.secs.length c1, .slice a2 S.cache.length c2]) S ∧ Bools n1 w (.slice ka bl.length kc) bl) := ⟨h, hk⟩
  obtain ⟨n, hn⟩ : ∃ n, n = S.secs.length := ⟨_, rfl⟩
  obtain ⟨m, hm⟩ : ∃ n, n = S.cache.length := ⟨_, rfl⟩
  obtain ⟨kl, hkl⟩ : ∃ n, n = bl.length := ⟨_, rfl⟩
  have HN : Hid (n = S.secs.length) := hn
  have HM : Hid (m = S.cache.length) := hm
  have HKL : Hid (kl = bl.length) := hkl
  rw [← hn, ← hm, ← hkl] at HD
  rw [← hn, ← hm, ← hkl]
  rw [← hkl] at hlk hkm
  unfold maxLen at hkm
  obtain ⟨PS, hPS⟩ : ∃ x, x = stand S (kept bl) := ⟨_, rfl⟩
  have HPS : Hid (PS = stand S (kept bl)) := hPS
  obtain ⟨ce, hce⟩ : ∃ x, x = cerr S := ⟨_, rfl⟩
  have HCE : Hid (ce = cerr S) := hce
  rw [← hPS, ← hce]
  clear h hk hL hW hn hm hkl hPS hce
  go_enter Try.func18, Try.ntmps18
  go_wp2_with fail
  refine (rcheck_any n0 _ S _ (HD.out.1.below (((Below.refl _ w).alloc (Nat.le_refl _) _).alloc (by simp) _))).mono ?_
  rintro e w1 ⟨rfl, hb1⟩
  have hP1 : Box w1 w.heap.size 25 (.slice a1 n c1) (.slice a2 m c2) := ((Box.new w 25 _ _).alloc _).below hb1 (by simp; omega)
  have hR1 : Box w1 (w.heap.size + 1) 25 (.slice none 0 0) (.slice none 0 0) := by
    have := Box.new (w.alloc (.cells #[.slice a1 n c1, .slice a2 m c2] 25)) 25 (.slice none 0 0) (.slice none 0 0)
    rw [World.size_alloc] at this
    exact this.below hb1 (by simp)
  have hbe1 : Below w.heap.size w w1 := below_any (((Below.refl _ w).alloc (Nat.le_refl _) _).alloc (by simp) _) hb1
  have HB1 : Hid (Box w1 w.heap.size 25 (.slice a1 n c1) (.slice a2 m c2) ∧ Box w1 (w.heap.size + 1) 25 (.slice none 0 0) (.slice none 0 0) ∧ Below w.heap.size w w1) := ⟨hP1, hR1, hbe1⟩
  have g0 := hP1.cell0
  have g1 := hP1.cell1
  have g2 := hR1.cell0
  have g3 := hR1.cell1
  have g4 := hR1.frozen0
  have g5 := hR1.frozen1
  clear hb1 hbe1 hP1 hR1
  unfold cerr
  cases hchk : chk S
  · have e2 : PS = none0 := by rw [HPS.out, stand_bad hchk]
    have e1 : ce = 9 := by rw [HCE.out]; simp [cerr, hchk]
    subst e1 e2
    go_wp2
    refine bodyPost_ret (v := .tuple #[.agg #[.slice none 0 0, .slice none 0 0], .int .i64 9]) (by simp [results, Try.results18, go_sem, *]) rfl ⟨_, rfl, own_zero _ _ _, ?_⟩
    exact below_set2 HB1.out.2.2 (Nat.le_succ _) _ _
  obtain ⟨k1, k2, k3, k4, k5, k6⟩ := chk_facts hchk
  have hk3 : m ≤ 4096 := by rw [HM.out]; exact k3
  have e2 : PS = ⟨fill S.secs (landed S (kept bl) m), []⟩ := by rw [HPS.out, stand_good hchk, fill_all, HM.out]
  have HK6 : Hid ((∀ q ∈ S.cache, 0 ≤ q.1 ∧ q.1 < n) ∧ ∀ q ∈ S.cache, q.2.length = 64) := ⟨by rw [HN.out]; exact k6, k5⟩
  have HOWN := rown_any n0 _ S w1 (HD.out.1.below HB1.out.2.2) k2 k3 k4 k5
  have e1 : ce = 0 := by rw [HCE.out]; simp [cerr, hchk]
  subst e1 e2
  clear k1 k2 k3 k4 k5 k6 hchk
  go_wp2_with fail
  refine HOWN.mono ?_
  rintro e w3 ⟨v3, rfl, ⟨vs, vc, rfl, hOL, hOW⟩, hb3⟩
  clear HOWN
  obtain ⟨us, hus, hEs⟩ := id hOL
  obtain ⟨ps, hown, hE⟩ := id hOW
  rw [← HN.out] at hus
  rw [← HM.out] at hown
  obtain ⟨ax, cs, rfl⟩ := own_shape hus
  obtain ⟨ac, cc, rfl⟩ := own_shape hown
  have hR3 := HB1.out.2.1.below hb3 HB1.out.2.1.lt
  obtain ⟨W, hW⟩ : ∃ W, W = w3.alloc (.cells #[.slice ax n cs, .slice ac m cc] 25) := ⟨_, rfl⟩
  have hXW : Box W w3.heap.size 25 (.slice ax n cs) (.slice ac m cc) := by rw [hW]; exact Box.new _ _ _ _
  have hbW : Below w3.heap.size w3 W := by rw [hW]; exact (Below.refl _ _).alloc (Nat.le_refl _) _
  have HLT : Hid (w.heap.size + 1 < w1.heap.size ∧ w1.heap.size ≤ w3.heap.size) := ⟨HB1.out.2.1.lt, hb3.size⟩
  have HST : Hid (Box W w3.heap.size 25 (.slice ax n cs) (.slice ac m cc) ∧ Box W (w.heap.size + 1) 25 (.slice none 0 0) (.slice none 0 0) ∧ OwnLists w1.heap.size W (.slice ax n cs) S.secs ∧ OwnWrites w1.heap.size W 60 (.slice ac m cc) S.cache ∧ Below w.heap.size w W) :=
    ⟨hXW, hR3.below hbW hR3.lt, hOL.same (.of_below hbW), hOW.same (.of_below hbW), below_any (below_any HB1.out.2.2 hb3) hbW⟩
  have hlc := run_len Try.underlying23 ac m cc
  clear hown hE hOL hOW hEs hus hR3 hb3 g0 g1 g2 g3 g4 g5 hbW hXW
  go_wp2
  rw [← hW]
  clear hW
  go_loopw [7] (fun i wr => ∃ k : Nat, k ≤ m ∧ k ≤ kl ∧ i = .int .i64 k ∧ Box wr w3.heap.size 25 (.slice ax n cs) (.slice ac m cc) ∧ Box wr (w.heap.size + 1) 25 (.slice none 0 0) (.slice none 0 0) ∧ OwnLists w1.heap.size wr (.slice ax n cs) (fill S.secs (landed S (kept bl) k)) ∧
    OwnWrites w1.heap.size wr 60 (.slice ac m cc) S.cache ∧ Below w.heap.size w wr) (fun i _ => m - (intOf i).toNat)
  case atStart => exact ⟨0, Nat.zero_le _, Nat.zero_le _, rfl, HST.out.1, HST.out.2.1, HST.out.2.2.1, HST.out.2.2.2.1, HST.out.2.2.2.2⟩
  case round =>
    clear HST
    obtain ⟨k, hk, hkk, rfl, hBX, hBR, hOL, hOW, hbel⟩ := hrel
    have q0 := hBX.cell1
    by_cases hlt : k < m
    · by_cases hlt2 : k < kl
      · obtain ⟨bb, hbb⟩ := get_lt (l := bl) (k := k) (by rw [← HKL.out]; exact hlt2)
        obtain ⟨kg, ko, hkix, hkc⟩ := bools_at (HD.out.2.below hbel) k bb hbb
        have HKB : Hid (kept bl k = bb) := kept_get hbb
        obtain ⟨q, hq⟩ := get_lt (l := S.cache) (k := k) (by rw [← HM.out]; exact hlt)
        have hki : (k : Int) < (m : Int) := by omega
        have hki2 : (k : Int) < (kl : Int) := by omega
        have HX : Hid (Box wr w3.heap.size 25 (.slice ax n cs) (.slice ac m cc) ∧ Box wr (w.heap.size + 1) 25 (.slice none 0 0) (.slice none 0 0) ∧ OwnLists w1.heap.size wr (.slice ax n cs) (fill S.secs (landed S (kept bl) k)) ∧ OwnWrites w1.heap.size wr 60 (.slice ac m cc) S.cache ∧ Below w.heap.size w wr) := ⟨hBX, hBR, hOL, hOW, hbel⟩
        cases bb with
        | false =>
          clear hBX hBR hOL hOW hbel hq hbb
          go_wp2
          go_roundw
          case rel =>
            refine ⟨k + 1, by omega, by omega, by go_num, HX.out.1, HX.out.2.1, ?_, HX.out.2.2.2⟩
            rw [landed, HKB.out]
            simpa using HX.out.2.2.1
          case measure => simp [intOf]; omega
        | true =>
          obtain ⟨b, o, a, cap, hix, _, hc0, hc1, hA, hr⟩ := hOW.writes.at Try.underlying23 hi6 hz61 k q hq
          have hl64 := HK6.out.2 q (List.mem_of_getElem? hq)
          have hq6 := HK6.out.1 q (List.mem_of_getElem? hq)
          rw [hl64] at hc1 hA
          have HWR : Hid (write S k = (q.1.toNat, q.2)) := by
            show _ = _
            simp [write, List.getD, hq]
          obtain ⟨s, l⟩ := q
          simp only at hc0 hc1 hA hr hl64 hq6 HWR
          obtain ⟨sq, rfl⟩ : ∃ sq : Nat, s = (sq : Int) := ⟨s.toNat, by omega⟩
          rw [Int.toNat_natCast] at HWR
          have hln : (fill S.secs (landed S (kept bl) k)).length = n := by rw [fill_length, HN.out]
          obtain ⟨g, sc, hv, hgb, hgs, hsix, ⟨sx, hsc⟩, hsf, hob⟩ := hOL.at sq (by rw [hln]; omega)
          rw [hln] at hv hob
          obtain ⟨rfl, _, rfl⟩ := Value.slice.inj hv
          have HA : Hid (Arg w1.heap.size wr (.slice a 64 cap) l ∧ l.length = 64) := ⟨hA, hl64⟩
          have HC : Hid (Calls Try.prog 41 #[.slice a 64 cap] wr.drew fun e w' => (∃ v', e = .returned v' ∧ w'.ownsRow wr.heap.size 5 1 v' 64 (l.map (Value.int .u8))) ∧ Below wr.heap.size wr w') := by
            have := copied_any w1.heap.size (.slice a 64 cap) l wr.drew (HA.out.1.below (Below.refl _ _).drew) (by have := HA.out.2; omega)
            rw [HA.out.2] at this
            exact this.mono fun e w' h => ⟨h.1, ((Below.refl _ wr).drew).trans h.2⟩
          have HS : Hid (∀ V, Below wr.heap.size wr V → V.cell? ⟨w3.heap.size, 0, none⟩ = some (.slice (some ⟨g, 0, none⟩) n cs) ∧ V.cell? ⟨w3.heap.size, 1, none⟩ = some (.slice ac m cc) ∧ V.cell? ⟨b, o, none⟩ = some (.int .i64 (sq : Int)) ∧ V.cell? ⟨b, o + 1, none⟩ = some (.slice a 64 cap)) := fun V hb => ⟨(HX.out.1.below hb HX.out.1.lt).cell0, (HX.out.1.below hb HX.out.1.lt).cell1, by rw [hb.cell (cell_lt hc0)]; exact hc0, by rw [hb.cell (cell_lt hc1)]; exact hc1⟩
          have HG : Hid (w1.heap.size ≤ g ∧ g < wr.heap.size ∧ wr.cell? ⟨g, sq, none⟩ = some sx ∧ wr.frozen? ⟨g, sq, none⟩ = false ∧ sq < n ∧ (fill S.secs (landed S (kept bl) k)).length = n) := ⟨hgb, hgs, hsc, hsf, by omega, hln⟩
          clear hBX hBR hOL hOW hbel hq hbb hA hl64 hv hob hc0 hc1 hr hln hgb hgs hsc hsf
          go_wp2
          refine AnyBut.begin (fun W => W.cell? ⟨w3.heap.size, 0, none⟩ = some (.slice (some ⟨g, 0, none⟩) n cs) ∧ W.cell? ⟨w3.heap.size, 1, none⟩ = some (.slice ac m cc) ∧ W.cell? ⟨b, o, none⟩ = some (.int .i64 (sq : Int)) ∧ W.cell? ⟨b, o + 1, none⟩ = some (.slice a 64 cap)) 16 (by kernel_rfl) ?_
          have hSS := HS.out wr.drew (Below.refl _ _).drew
          refine AnyBut.take (i := 0) (some 31) (v := ?_) rfl rfl (by kernel_rfl) rfl (by kernel_rfl) (by kernel_rfl) (by kernel_rfl) (fun _ _ _ h => h) (.inl ⟨by rfl, ?_⟩) hSS ?_
          rotate_left
          · (intro W hSW; (try dsimp only at hSW); go_simp; try with_reducible rfl)
          simp only [Act.put, List.setIfInBounds_toArray, List.set_cons_zero, List.set_cons_succ]
          refine AnyBut.take (i := 1) (some 32) (v := ?_) rfl rfl (by kernel_rfl) rfl (by kernel_rfl) (by kernel_rfl) (by kernel_rfl) (fun _ _ _ h => h) (.inl ⟨by rfl, ?_⟩) hSS ?_
          rotate_left
          · (intro W hSW; (try dsimp only at hSW); go_simp; try with_reducible rfl)
          simp only [Act.put, List.setIfInBounds_toArray, List.set_cons_zero, List.set_cons_succ]
          refine AnyBut.take (i := 2) (some 33) (v := ?_) rfl rfl (by kernel_rfl) rfl (by kernel_rfl) (by kernel_rfl) (by kernel_rfl) (fun _ _ _ h => h) (.inl ⟨by rfl, ?_⟩) hSS ?_
          rotate_left
          · (intro W hSW; (try dsimp only at hSW); go_simp; try with_reducible rfl)
          simp only [Act.put, List.setIfInBounds_toArray, List.set_cons_zero, List.set_cons_succ]
          refine AnyBut.take (i := 3) (some 34) (v := ?_) rfl rfl (by kernel_rfl) rfl (by kernel_rfl) (by kernel_rfl) (by kernel_rfl) (fun _ _ _ h => h) (.inl ⟨by rfl, ?_⟩) hSS ?_
          rotate_left
          · (intro W hSW; (try dsimp only at hSW); go_simp; try with_reducible rfl)
          simp only [Act.put, List.setIfInBounds_toArray, List.set_cons_zero, List.set_cons_succ]
          refine AnyBut.take (i := 4) (some 35) (v := ?_) rfl rfl (by kernel_rfl) rfl (by kernel_rfl) (by kernel_rfl) (by kernel_rfl) (fun _ _ _ h => h) (.inl ⟨by rfl, ?_⟩) hSS ?_
          rotate_left
          · (intro W hSW; (try dsimp only at hSW); go_simp; try with_reducible rfl)
          simp only [Act.put, List.setIfInBounds_toArray, List.set_cons_zero, List.set_cons_succ]
          refine AnyBut.take (i := 5) (some 36) (v := ?_) rfl rfl (by kernel_rfl) rfl (by kernel_rfl) (by kernel_rfl) (by kernel_rfl) (fun _ _ _ h => h) (.inl ⟨by rfl, ?_⟩) hSS ?_
          rotate_left
          · (intro W hSW; (try dsimp only at hSW); go_simp; try with_reducible rfl)
          simp only [Act.put, List.setIfInBounds_toArray, List.set_cons_zero, List.set_cons_succ]
          refine AnyBut.take (i := 6) (some 37) (v := ?_) rfl rfl (by kernel_rfl) rfl (by kernel_rfl) (by kernel_rfl) (by kernel_rfl) (fun _ _ _ h => h) (.inl ⟨by rfl, ?_⟩) hSS ?_
          rotate_left
          · (intro W hSW; (try dsimp only at hSW); go_simp; try with_reducible rfl)
          simp only [Act.put, List.setIfInBounds_toArray, List.set_cons_zero, List.set_cons_succ]
          refine AnyBut.take (i := 7) (some 38) (v := ?_) rfl rfl (by kernel_rfl) rfl (by kernel_rfl) (by kernel_rfl) (by kernel_rfl) (fun _ _ _ h => h) (.inl ⟨by rfl, ?_⟩) hSS ?_
          rotate_left
          · (intro W hSW; (try dsimp only at hSW); go_simp; try with_reducible rfl)
          simp only [Act.put, List.setIfInBounds_toArray, List.set_cons_zero, List.set_cons_succ]
          refine AnyBut.take (i := 8) (some 39) (v := ?_) rfl rfl (by kernel_rfl) rfl (by kernel_rfl) (by kernel_rfl) (by kernel_rfl) (fun _ _ _ h => h) (.inl ⟨by rfl, ?_⟩) hSS ?_
          rotate_left
          · (intro W hSW; (try dsimp only at hSW); go_simp; try with_reducible rfl)
          simp only [Act.put, List.setIfInBounds_toArray, List.set_cons_zero, List.set_cons_succ]
          refine AnyBut.take (i := 9) (some 40) (v := ?_) rfl rfl (by kernel_rfl) rfl (by kernel_rfl) (by kernel_rfl) (by kernel_rfl) (fun _ _ _ h => h) (.inl ⟨by rfl, ?_⟩) hSS ?_
          rotate_left
          · (intro W hSW; (try dsimp only at hSW); go_simp; try with_reducible rfl)
          simp only [Act.put, List.setIfInBounds_toArray, List.set_cons_zero, List.set_cons_succ]
          refine AnyBut.take (i := 10) (some 41) (v := ?_) rfl rfl (by kernel_rfl) rfl (by kernel_rfl) (by kernel_rfl) (by kernel_rfl) (fun _ _ _ h => h) (.inl ⟨by rfl, ?_⟩) hSS ?_
          rotate_left
          · (intro W hSW; (try dsimp only at hSW); go_simp; try with_reducible rfl)
          simp only [Act.put, List.setIfInBounds_toArray, List.set_cons_zero, List.set_cons_succ]
          refine AnyBut.take (i := 11) (some 42) (v := ?_) rfl rfl (by kernel_rfl) rfl (by kernel_rfl) (by kernel_rfl) (by kernel_rfl) (fun _ _ _ h => h) (.inl ⟨by rfl, ?_⟩) hSS ?_
          rotate_left
          · (intro W hSW; (try dsimp only at hSW); go_simp; try with_reducible rfl)
          simp only [Act.put, List.setIfInBounds_toArray, List.set_cons_zero, List.set_cons_succ]
          refine AnyBut.take (i := 12) (some 43) (v := ?_) rfl rfl (by kernel_rfl) rfl (by kernel_rfl) (by kernel_rfl) (by kernel_rfl) (fun _ _ _ h => h) (.inl ⟨by rfl, ?_⟩) hSS ?_
          rotate_left
          · (intro W hSW; (try dsimp only at hSW); go_simp; try with_reducible rfl)
          simp only [Act.put, List.setIfInBounds_toArray, List.set_cons_zero, List.set_cons_succ]
          refine AnyBut.take (i := 13) (some 44) (v := ?_) rfl rfl (by kernel_rfl) rfl (by kernel_rfl) (by kernel_rfl) (by kernel_rfl) (fun _ _ _ h => h) (.inl ⟨by rfl, ?_⟩) hSS ?_
          rotate_left
          · (intro W hSW; (try dsimp only at hSW); go_simp; try with_reducible rfl)
          simp only [Act.put, List.setIfInBounds_toArray, List.set_cons_zero, List.set_cons_succ]
          refine AnyBut.step (i := 14) (by kernel_rfl) rfl (fun K hK => ?_)
          go_simp
          refine Calls.mono HC.out ?_
          rintro e w4 ⟨⟨u2, rfl, hu2⟩, hb4⟩
          obtain ⟨ux, uc, rfl⟩ := own_shape hu2
          dsimp only
          refine hK.out _ _ (HS.out w4 hb4) ?_
          clear hK hSS
          have hSS := (HS.out w4 hb4)
          refine AnyBut.take (i := 15) (some 46) (v := ?_) rfl rfl (by kernel_rfl) rfl (by kernel_rfl) (by kernel_rfl) (by kernel_rfl) (fun _ _ _ h => h) (.inl ⟨by rfl, ?_⟩) hSS ?_
          rotate_left
          · (intro W hSW; (try dsimp only at hSW); go_simp; try with_reducible rfl)
          simp only [Act.put, List.setIfInBounds_toArray, List.set_cons_zero, List.set_cons_succ]
          have hsc4 : w4.cell? ⟨g, sq, none⟩ = some sx := by rw [hb4.cell HG.out.2.1]; exact HG.out.2.2.1
          have hsf4 : w4.frozen? ⟨g, sq, none⟩ = false := by rw [World.frozen?_of_block (hb4.block g HG.out.2.1)]; exact HG.out.2.2.2.1
          refine AnyBut.last (by kernel_rfl) (by kernel_rfl) rfl (fun K hK => ?_)
          go_simp
          refine hK.out _ _ ?_
          clear hK hSS
          have HO4 : Hid (OwnLists w1.heap.size w4 (.slice (some ⟨g, 0, none⟩) n cs) (fill S.secs (landed S (kept bl) k)) ∧ OwnWrites w1.heap.size w4 60 (.slice ac m cc) S.cache ∧ Box w4 w3.heap.size 25 (.slice (some ⟨g, 0, none⟩) n cs) (.slice ac m cc) ∧ Box w4 (w.heap.size + 1) 25 (.slice none 0 0) (.slice none 0 0) ∧ Below w.heap.size w w4) := ⟨HX.out.2.2.1.same (.of_below hb4), HX.out.2.2.2.1.same (.of_below hb4), HX.out.1.below hb4 HX.out.1.lt, HX.out.2.1.below hb4 HX.out.2.1.lt, below_any HX.out.2.2.2.2 hb4⟩
          have HU4 : Hid (Own1 w1.heap.size w4 (.slice ux 64 uc) l) := ⟨own_weaken (by rw [HA.out.2]; exact hu2) (by have := HG.out; omega), HA.out.1.2⟩
          clear hsc4 hsf4 hu2 hb4 hix hsix hkix hkc q0
          go_wp2
          go_roundw
          case rel =>
            obtain ⟨us4, ho4, _⟩ := id HO4.out.1
            have hp := HO4.out.1.put (k := sq) HG.out.2.2.2.2.2.symm HU4.out
            refine ⟨k + 1, by omega, by omega, by go_num, HO4.out.2.2.1.grown hp.2 (box_apart' ho4 HO4.out.2.2.1 (by decide)), HO4.out.2.2.2.1.grown hp.2 (row_ne ho4 (by have := HLT.out; omega)), ?_, HO4.out.2.1.beside ho4 hp.2, HO4.out.2.2.2.2.setCell (p := ⟨g, sq, none⟩) (by have := HG.out; have := HLT.out; simp; omega) _⟩
            rw [landed, HKB.out, if_pos rfl, HWR.out, fill_snoc]
            exact hp.1
          case measure => simp [intOf]; omega
      · obtain rfl : k = kl := by omega
        have HX : Hid (Box wr w3.heap.size 25 (.slice ax n cs) (.slice ac m cc) ∧ Box wr (w.heap.size + 1) 25 (.slice none 0 0) (.slice none 0 0) ∧ OwnLists w1.heap.size wr (.slice ax n cs) (fill S.secs (landed S (kept bl) m)) ∧ Below w.heap.size w wr) := by
          refine ⟨hBX, hBR, ?_, hbel⟩
          have := landed_past S bl k (m - k) (by rw [HKL.out]; omega)
          rw [show k + (m - k) = m by omega] at this
          rw [this]
          exact hOL
        have q1 := hBX.frozen1
        have q2 := hBX.cell0
        have q3 := hBR.cell0
        have q4 := hBR.cell1
        have q5 := hBR.frozen0
        have q6 := hBR.frozen1
        have hki : (k : Int) < (m : Int) := by omega
        have hne : w3.heap.size ≠ w.heap.size + 1 := by have := HLT.out; omega
        clear hBX hBR hOL hOW hbel
        go_wp2
        refine bodyPost_ret (v := .tuple #[.agg #[.slice ax n cs, .slice none 0 0], .int .i64 0]) (by simp [results, Try.results18, go_sem, *]) rfl ⟨_, rfl, ⟨_, _, rfl, ?_, ?_⟩, ?_⟩
        · exact OwnLists.weaken (base := w1.heap.size) (((HX.out.2.2.1.boxed HX.out.1 (by decide) (by decide)).same (same_set (by have := HLT.out; omega))).same (same_set (by have := HLT.out; omega))) (by have := HLT.out; omega)
        · exact ⟨[], World.ownsRow_nil _ _ _ _, trivial⟩
        · exact below_set2 (HX.out.2.2.2.setCell (p := ⟨w3.heap.size, 1, none⟩) (by have := HLT.out; simp; omega) _) (Nat.le_succ _) _ _
    · obtain rfl : k = m := by omega
      have HX : Hid (Box wr w3.heap.size 25 (.slice ax n cs) (.slice ac k cc) ∧ Box wr (w.heap.size + 1) 25 (.slice none 0 0) (.slice none 0 0) ∧ OwnLists w1.heap.size wr (.slice ax n cs) (fill S.secs (landed S (kept bl) k)) ∧ Below w.heap.size w wr) := ⟨hBX, hBR, hOL, hbel⟩
      have q1 := hBX.frozen1
      have q2 := hBX.cell0
      have q3 := hBR.cell0
      have q4 := hBR.cell1
      have q5 := hBR.frozen0
      have q6 := hBR.frozen1
      have hki : ¬ (k : Int) < (k : Int) := by omega
      have hne : w3.heap.size ≠ w.heap.size + 1 := by have := HLT.out; omega
      clear hBX hBR hOL hOW hbel
      go_wp2
      refine bodyPost_ret (v := .tuple #[.agg #[.slice ax n cs, .slice none 0 0], .int .i64 0]) (by simp [results, Try.results18, go_sem, *]) rfl ⟨_, rfl, ⟨_, _, rfl, ?_, ?_⟩, ?_⟩
      · exact OwnLists.weaken (base := w1.heap.size) (((HX.out.2.2.1.boxed HX.out.1 (by decide) (by decide)).same (same_set (by have := HLT.out; omega))).same (same_set (by have := HLT.out; omega))) (by have := HLT.out; omega)
      · exact ⟨[], World.ownsRow_nil _ _ _ _, trivial⟩
      · exact below_set2 (HX.out.2.2.2.setCell (p := ⟨w3.heap.size, 1, none⟩) (by have := HLT.out; simp; omega) _) (Nat.le_succ _) _ _

end Go.Proofs.Ytkeaillmcfnnkaa
