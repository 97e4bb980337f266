/-
  What the document's Put tells: the disk with one write more, in memory of its own, or an error.
-/
import Derived.Test.YtkeaillmcfnnkaaRefOwn
import Derived.Test.YtkeaillmcfnnkaaRefCheck
import Derived.Test.YtkeaillmcfnnkaaPadded
namespace Go.Proofs.Ytkeaillmcfnnkaa
open Go.RowKit

attribute [local go_sem ↓] Go.wp_at_zero Go.wp_at_succ

set_option maxRecDepth 100000 in
set_option maxHeartbeats 4000000 in
theorem rput_any (n0 n1 : Nat) (v dv : Value) (S : St) (s : Int) (d : List Int) (w : World) (h : Disk n0 w v S) (hs : -9223372036854775808 ≤ s ∧ s ≤ 9223372036854775807) (hd : Arg n1 w dv d) :
    Calls Try.prog 12 #[v, .int .i64 s, dv] w fun e w' => ∃ v', e = .returned (.tuple #[v', .int .i64 (perr S s d)]) ∧ OwnDisk w.heap.size w' 60 v' (pst S s d) ∧ Below w.heap.size w w' := by
  obtain ⟨a1, c1, a2, c2, rfl, hL, hW⟩ := h.shape
  obtain ⟨ad, cd, rfl, _, hdm, _⟩ := hd.shape
  obtain ⟨i6, hi6, hz60, hz61, hz62⟩ := info_parts Try.info60
  obtain ⟨_, _, _, _, hm1, _⟩ := hL.shape
  obtain ⟨_, _, _, _, hm2, _⟩ := hW.shape
  have hl0 := run_len Try.underlying26 ad d.length cd
  have hl1 := run_len Try.underlying22 a1 S.secs.length c1
  have hl2 := run_len Try.underlying23 a2 S.cache.length c2
  have HD : Hid (Disk n0 w (.agg #[.slice a1 S.secs.length c1, .slice a2 S.cache.length c2]) S) := h
  have HA : Hid (Arg n1 w (.slice ad d.length cd) d) := hd
  obtain ⟨n, hn⟩ : ∃ n, n = S.secs.length := ⟨_, rfl⟩
  obtain ⟨m, hm⟩ : ∃ n, n = S.cache.length := ⟨_, rfl⟩
  obtain ⟨dl, hdl⟩ : ∃ n, n = d.length := ⟨_, rfl⟩
  have HN : Hid (n = S.secs.length) := hn
  have HM : Hid (m = S.cache.length) := hm
  have HP : Hid (perr S s d = if chk S = false then 9 else if reach n s 1 = false then 41 else if 64 < dl then 5 else if m = 4096 then 51 else 0) := by
    show _ = _
    rw [hn, hm, hdl]; rfl
  rw [← hn, ← hm] at HD ⊢
  rw [← hn] at hm1 hl1
  rw [← hm] at hl2 hm2
  rw [← hdl] at HA hl0 hdm ⊢
  unfold maxLen at hm1 hm2 hdm
  have HDL : Hid (dl = d.length) := hdl
  obtain ⟨pe, hpe⟩ : ∃ x, x = perr S s d := ⟨_, rfl⟩
  have HPS : Hid (pst S s d = if pe = 0 then ⟨S.secs, S.cache ++ [(s, pad d)]⟩ else none0) := by
    show _ = _
    rw [hpe]; rfl
  obtain ⟨PS, hPS⟩ : ∃ x, x = pst S s d := ⟨_, rfl⟩
  rw [← hpe] at HP ⊢
  rw [← hPS] at HPS ⊢
  clear h hd hL hW hn hm hdl hpe hPS
  go_enter Try.func12, Try.ntmps12
  go_wp2_with fail
  refine (rcheck_any n0 _ S _ (HD.out.below (((Below.refl _ w).alloc (Nat.le_refl _) _).alloc (by simp) _))).mono ?_
  rintro e w1 ⟨rfl, hb1⟩
  have hP1 : Box w1 w.heap.size 25 (.slice a1 n c1) (.slice a2 m c2) := ((Box.new w 25 _ _).alloc _).below hb1 (by simp; omega)
  have hR1 : Box w1 (w.heap.size + 1) 25 (.slice none 0 0) (.slice none 0 0) := by
    have := Box.new (w.alloc (.cells #[.slice a1 n c1, .slice a2 m c2] 25)) 25 (.slice none 0 0) (.slice none 0 0)
    rw [World.size_alloc] at this
    exact this.below hb1 (by simp)
  have hbe1 : Below w.heap.size w w1 := below_any (((Below.refl _ w).alloc (Nat.le_refl _) _).alloc (by simp) _) hb1
  have HB1 : Hid (Box w1 w.heap.size 25 (.slice a1 n c1) (.slice a2 m c2) ∧ Box w1 (w.heap.size + 1) 25 (.slice none 0 0) (.slice none 0 0) ∧ Below w.heap.size w w1) := ⟨hP1, hR1, hbe1⟩
  have g0 := hP1.cell0
  have g1 := hP1.cell1
  have g2 := hR1.cell0
  have g3 := hR1.cell1
  have g4 := hR1.frozen0
  have g5 := hR1.frozen1
  clear hb1 hbe1 hP1 hR1
  unfold cerr
  cases hchk : chk S
  · have e1 : pe = 9 := by rw [HP.out, if_pos hchk]
    have e2 : PS = none0 := by rw [HPS.out, if_neg (by omega)]
    subst e1 e2
    go_wp2
    refine bodyPost_ret (v := .tuple #[.agg #[.slice none 0 0, .slice none 0 0], .int .i64 9]) (by simp [results, Try.results12, go_sem, *]) rfl ⟨_, rfl, own_zero _ _ _, ?_⟩
    exact below_set2 HB1.out.2.2 (Nat.le_succ _) _ _
  by_cases r1 : s < 0
  · have e1 : pe = 41 := by rw [HP.out, if_neg (by simp [hchk]), if_pos (by simp [reach]; omega)]
    have e2 : PS = none0 := by rw [HPS.out, if_neg (by omega)]
    subst e1 e2
    go_wp2
    refine bodyPost_ret (v := .tuple #[.agg #[.slice none 0 0, .slice none 0 0], .int .i64 41]) (by simp [results, Try.results12, go_sem, *]) rfl ⟨_, rfl, own_zero _ _ _, ?_⟩
    exact below_set2 HB1.out.2.2 (Nat.le_succ _) _ _
  by_cases r2 : (n : Int) ≤ s
  · have e1 : pe = 41 := by rw [HP.out, if_neg (by simp [hchk]), if_pos (by simp [reach]; omega)]
    have e2 : PS = none0 := by rw [HPS.out, if_neg (by omega)]
    subst e1 e2
    go_wp2
    refine bodyPost_ret (v := .tuple #[.agg #[.slice none 0 0, .slice none 0 0], .int .i64 41]) (by simp [results, Try.results12, go_sem, *]) rfl ⟨_, rfl, own_zero _ _ _, ?_⟩
    exact below_set2 HB1.out.2.2 (Nat.le_succ _) _ _
  have hrc : ¬ reach n s 1 = false := by simp [reach]; omega
  by_cases r3 : (64 : Int) < (dl : Int)
  · have e1 : pe = 5 := by rw [HP.out, if_neg (by simp [hchk]), if_neg hrc, if_pos (by omega)]
    have e2 : PS = none0 := by rw [HPS.out, if_neg (by omega)]
    subst e1 e2
    go_wp2
    refine bodyPost_ret (v := .tuple #[.agg #[.slice none 0 0, .slice none 0 0], .int .i64 5]) (by simp [results, Try.results12, go_sem, *]) rfl ⟨_, rfl, own_zero _ _ _, ?_⟩
    exact below_set2 HB1.out.2.2 (Nat.le_succ _) _ _
  obtain ⟨k1, k2, k3, k4, k5, k6⟩ := chk_facts hchk
  have hk3 : m ≤ 4096 := by rw [HM.out]; exact k3
  by_cases r4 : (4096 : Int) ≤ (m : Int)
  · have e1 : pe = 51 := by rw [HP.out, if_neg (by simp [hchk]), if_neg hrc, if_neg (by omega), if_pos (by omega)]
    have e2 : PS = none0 := by rw [HPS.out, if_neg (by omega)]
    subst e1 e2
    clear k1 k2 k3 k4 k5 k6 hrc
    go_wp2
    refine bodyPost_ret (v := .tuple #[.agg #[.slice none 0 0, .slice none 0 0], .int .i64 51]) (by simp [results, Try.results12, go_sem, *]) rfl ⟨_, rfl, own_zero _ _ _, ?_⟩
    exact below_set2 HB1.out.2.2 (Nat.le_succ _) _ _
  have e1 : pe = 0 := by rw [HP.out, if_neg (by simp [hchk]), if_neg hrc, if_neg (by omega), if_neg (by omega)]
  have e2 : PS = ⟨S.secs, S.cache ++ [(s, pad d)]⟩ := by rw [HPS.out, if_pos e1]
  subst e1 e2
  have HOWN := rown_any n0 _ S w1 (HD.out.below HB1.out.2.2) k2 k3 k4 k5
  clear k1 k2 k3 k4 k5 k6 hrc hchk
  go_wp2_with fail
  refine HOWN.mono ?_
  rintro e w3 ⟨v3, rfl, ⟨vs, vc, rfl, hOL, hOW⟩, hb3⟩
  clear HOWN
  obtain ⟨us, hus, hEs⟩ := id hOL
  obtain ⟨ps, hown, hE⟩ := id hOW
  rw [← HN.out] at hus
  rw [← HM.out] at hown
  obtain ⟨ax, cs, rfl⟩ := own_shape hus
  obtain ⟨ac, cc, rfl⟩ := own_shape hown
  have hR3 := HB1.out.2.1.below hb3 HB1.out.2.1.lt
  obtain ⟨W, hW⟩ : ∃ W, W = w3.alloc (.cells #[.slice ax n cs, .slice ac m cc] 25) := ⟨_, rfl⟩
  have hXW : Box W w3.heap.size 25 (.slice ax n cs) (.slice ac m cc) := by rw [hW]; exact Box.new _ _ _ _
  have hbW : Below w3.heap.size w3 W := by rw [hW]; exact (Below.refl _ _).alloc (Nat.le_refl _) _
  have HLT : Hid (w.heap.size + 1 < w1.heap.size ∧ w1.heap.size ≤ w3.heap.size) := ⟨HB1.out.2.1.lt, hb3.size⟩
  have HR : Hid (Box W w3.heap.size 25 (.slice ax n cs) (.slice ac m cc) ∧ Box W (w.heap.size + 1) 25 (.slice none 0 0) (.slice none 0 0)) := ⟨hXW, hR3.below hbW hR3.lt⟩
  have HLS : Hid (OwnLists w1.heap.size W (.slice ax n cs) S.secs) := hOL.same (.of_below hbW)
  have HO : Hid (W.ownsRow w1.heap.size 60 2 (.slice ac m cc) m (flat ps)) := own_below hown hbW
  have HE : Hid (Each (OwnW1 w1.heap.size W) ps S.cache) := hE.mono fun _ _ h => ⟨h.1, h.2.1.same (.of_below hbW), h.2.2⟩
  have HBL : Hid (Below w.heap.size w W) := below_any (below_any HB1.out.2.2 hb3) hbW
  have HPA : Hid (Arg n1 W (.slice ad dl cd) d) := HA.out.below HBL.out
  have HC : Hid (Calls Try.prog 36 #[.slice ad dl cd] W.drew fun e w' => e = .returned (.slice (some ⟨W.heap.size, 0, none⟩) 64 64) ∧ w'.ownsRow W.heap.size 5 1 (.slice (some ⟨W.heap.size, 0, none⟩) 64 64) 64 ((pad d).map (Value.int .u8)) ∧ Below W.heap.size W w') := by
    have := padded_any n1 (.slice ad dl cd) d W.drew (HPA.out.below (Below.refl _ _).drew) (by have := HDL.out; omega)
    exact this.mono fun e w' h => ⟨h.1, h.2.1, ((Below.refl _ W).drew).trans h.2.2⟩
  have HS : Hid (∀ V, Box V w3.heap.size 25 (.slice ax n cs) (.slice ac m cc) → V.cell? ⟨w3.heap.size, 1, none⟩ = some (.slice ac m cc)) := fun V h => h.cell1
  clear hown hE hOL hOW hEs hus hR3 hb3 g0 g1 g2 g3 g4 g5 hbW hXW
  go_wp2
  rw [← hW]
  clear hW
  refine AnyBut.begin (fun W => W.cell? ⟨w3.heap.size, 1, none⟩ = some (.slice ac m cc)) 9 (by kernel_rfl) ?_
  have hSS := HS.out W.drew HR.out.1
  refine AnyBut.take (i := 0) (some 38) (v := ?_) rfl rfl (by kernel_rfl) rfl (by kernel_rfl) (by kernel_rfl) (by kernel_rfl) (fun _ _ _ h => h) (.inl ⟨by rfl, ?_⟩) hSS ?_
  rotate_left
  · (intro W hSW; (try dsimp only at hSW); go_simp; try with_reducible rfl)
  simp only [Act.put, List.setIfInBounds_toArray, List.set_cons_zero, List.set_cons_succ]
  refine AnyBut.take (i := 1) (some 39) (v := ?_) rfl rfl (by kernel_rfl) rfl (by kernel_rfl) (by kernel_rfl) (by kernel_rfl) (fun _ _ _ h => h) (.inl ⟨by rfl, ?_⟩) hSS ?_
  rotate_left
  · (intro W hSW; (try dsimp only at hSW); go_simp; try with_reducible rfl)
  simp only [Act.put, List.setIfInBounds_toArray, List.set_cons_zero, List.set_cons_succ]
  refine AnyBut.take (i := 2) (some 40) (v := ?_) rfl rfl (by kernel_rfl) rfl (by kernel_rfl) (by kernel_rfl) (by kernel_rfl) (fun _ _ _ h => h) (.inl ⟨by rfl, ?_⟩) hSS ?_
  rotate_left
  · (intro W hSW; (try dsimp only at hSW); go_simp; try with_reducible rfl)
  simp only [Act.put, List.setIfInBounds_toArray, List.set_cons_zero, List.set_cons_succ]
  refine AnyBut.take (i := 3) (some 41) (v := ?_) rfl rfl (by kernel_rfl) rfl (by kernel_rfl) (by kernel_rfl) (by kernel_rfl) (fun _ _ _ h => h) (.inl ⟨by rfl, ?_⟩) hSS ?_
  rotate_left
  · (intro W hSW; (try dsimp only at hSW); go_simp; try with_reducible rfl)
  simp only [Act.put, List.setIfInBounds_toArray, List.set_cons_zero, List.set_cons_succ]
  refine AnyBut.step (i := 4) (by kernel_rfl) rfl (fun K hK => ?_)
  go_simp
  refine Calls.mono HC.out ?_
  rintro e w4 ⟨rfl, hu2, hb4⟩
  have hx1 := HR.out.1.below hb4 HR.out.1.lt
  dsimp only
  refine hK.out _ _ (HS.out w4 hx1) ?_
  clear hK hSS
  have hSS := (HS.out w4 hx1)
  refine AnyBut.take (i := 5) (some 43) (v := ?_) rfl rfl (by kernel_rfl) rfl (by kernel_rfl) (by kernel_rfl) (by kernel_rfl) (fun _ _ _ h => h) (.inl ⟨by rfl, ?_⟩) hSS ?_
  rotate_left
  · (intro W hSW; (try dsimp only at hSW); go_simp; try with_reducible rfl)
  simp only [Act.put, List.setIfInBounds_toArray, List.set_cons_zero, List.set_cons_succ]
  refine AnyBut.step (i := 6) (by kernel_rfl) rfl (fun K hK => ?_)
  go_simp
  refine hK.out _ _ (HS.out (w4.alloc (.cells #[.int .i64 s, .slice (some ⟨W.heap.size, 0, none⟩) 64 64] 60)) (hx1.alloc _)) ?_
  clear hK hSS
  have hSS := (HS.out (w4.alloc (.cells #[.int .i64 s, .slice (some ⟨W.heap.size, 0, none⟩) 64 64] 60)) (hx1.alloc _))
  refine AnyBut.step (i := 7) (by kernel_rfl) rfl (fun K hK => ?_)
  refine step_append_lies _ (by rfl) _ _ _ (by rfl) w1.heap.size 60 i6 _ 2 32 Try.underlying23 hi6 hz60 hz61 hz62 rfl (by omega) _ m _ (by rfl) ((own_below HO.out hb4).alloc _) ⟨w4.heap.size, 0, none⟩ 1 1 [.int .i64 s, .slice (some ⟨W.heap.size, 0, none⟩) 64 64] (by rfl) (by rfl)
    (World.news_of_block (cs := #[.int .i64 s, .slice (some ⟨W.heap.size, 0, none⟩) 64 64]) (t := 60) (fr := (0, 0)) (heap_alloc_new w4 _)) (by simp [Value.oneCell']) (by omega) (by unfold maxLen; omega) (by omega) (by have := hb4.size; have := HLT.out; have := HR.out.1.lt; simp; omega) (w4.heap.size + 1) (by simp) ?_
  intro gg cap3 w5 hown5 hgrow5 hat hltg
  have hbx1 : Box w5 (w.heap.size + 1) 25 (.slice none 0 0) (.slice none 0 0) := Box.grown ((HR.out.2.below hb4 HR.out.2.lt).alloc _) hgrow5 (row_ne HO.out (by have := HLT.out; omega))
  have hbx2 : Box w5 w3.heap.size 25 (.slice ax n cs) (.slice ac m cc) := Box.grown (hx1.alloc _) hgrow5 (box_apart' HO.out HR.out.1 (by decide))
  have hcc4 := hbx2.cell1
  have hff4 := hbx2.frozen1
  refine hK.out _ _ (HS.out w5 hbx2) ?_
  clear hK hSS
  have hSS := (HS.out w5 hbx2)
  refine AnyBut.take (i := 8) (some 46) (v := ?_) rfl rfl (by kernel_rfl) rfl (by kernel_rfl) (by kernel_rfl) (by kernel_rfl) (fun _ _ _ h => h) (.inl ⟨by rfl, ?_⟩) hSS ?_
  rotate_left
  · (intro W hSW; (try dsimp only at hSW); go_simp; try with_reducible rfl)
  refine AnyBut.last (by kernel_rfl) (by kernel_rfl) rfl (fun K hK => ?_)
  go_simp
  refine hK.out _ _ ?_
  clear hK hSS
  have hS4 : Same w1.heap.size W (w4.alloc (.cells #[.int .i64 s, .slice (some ⟨W.heap.size, 0, none⟩) 64 64] 60)) := Same.trans (.of_below hb4) hb4.size (same_alloc _ _ _)
  have hG5 : OwnWrites w1.heap.size w5 60 (.slice (some ⟨gg, 0, none⟩) (m + 1) cap3) (S.cache ++ [(s, pad d)]) := by
    refine OwnWrites.push (by decide) HM.out.symm (HE.out.mono fun _ _ h => ⟨h.1, h.2.1.same hS4, h.2.2⟩) (own_same HO.out hS4) ⟨?_, pad_oct HPA.out.2⟩ hs hgrow5 hown5
    rw [pad_length _ (by have := HDL.out; omega)]
    exact (own_weaken hu2 (by have := HR.out.1.lt; have := HLT.out; omega)).alloc _
  have hL5 : OwnLists w1.heap.size w5 (.slice ax n cs) S.secs := OwnLists.beside (HLS.out.same hS4) (by decide) (by decide) (own_same HO.out hS4) hgrow5
  have HBE : Hid (Below w.heap.size w w5) := ((below_any HBL.out hb4).alloc (by have := hb4.size; have := HLT.out; have := HR.out.1.lt; omega) _).grown hgrow5 (by have := hb4.size; have := HLT.out; have := HR.out.1.lt; simp; omega) (fun j hj => by have := (HO.out.lt j hj).1; have := HLT.out; omega)
  have HG5 : Hid (OwnWrites w1.heap.size w5 60 (.slice (some ⟨gg, 0, none⟩) (m + 1) cap3) (S.cache ++ [(s, pad d)]) ∧ OwnLists w1.heap.size w5 (.slice ax n cs) S.secs ∧ Box w5 (w.heap.size + 1) 25 (.slice none 0 0) (.slice none 0 0) ∧ Box w5 w3.heap.size 25 (.slice ax n cs) (.slice ac m cc)) := ⟨hG5, hL5, hbx1, hbx2⟩
  clear hown5 hgrow5 hat hltg hG5 hL5 hS4 hbx1 hbx2 hu2 hx1 hcc4 hff4
  obtain ⟨V, hV⟩ : ∃ V, V = w5.setCell ⟨w3.heap.size, 1, none⟩ (.slice (some ⟨gg, 0, none⟩) (m + 1) cap3) := ⟨_, rfl⟩
  have HV : Hid (OwnWrites w1.heap.size V 60 (.slice (some ⟨gg, 0, none⟩) (m + 1) cap3) (S.cache ++ [(s, pad d)]) ∧ OwnLists w1.heap.size V (.slice ax n cs) S.secs ∧ Box V (w.heap.size + 1) 25 (.slice none 0 0) (.slice none 0 0) ∧ Box V w3.heap.size 25 (.slice ax n cs) (.slice (some ⟨gg, 0, none⟩) (m + 1) cap3) ∧ Below w.heap.size w V) := by
    rw [hV]
    exact ⟨HG5.out.1.boxed HG5.out.2.2.2 (by decide) (by decide), HG5.out.2.1.boxed HG5.out.2.2.2 (by decide) (by decide), HG5.out.2.2.1.other (by have := HLT.out; omega), HG5.out.2.2.2.set1 _, HBE.out.setCell (p := ⟨w3.heap.size, 1, none⟩) (by have := HLT.out; simp; omega) _⟩
  have q0 := HV.out.2.2.2.1.cell0
  have q1 := HV.out.2.2.2.1.cell1
  have q2 := HV.out.2.2.1.cell0
  have q3 := HV.out.2.2.1.cell1
  have q4 := HV.out.2.2.1.frozen0
  have q5 := HV.out.2.2.1.frozen1
  rw [← hV]
  clear hV HG5 HBE
  go_wp2
  refine bodyPost_ret (v := .tuple #[.agg #[.slice ax n cs, .slice (some ⟨gg, 0, none⟩) (m + 1) cap3], .int .i64 0]) (by simp [results, Try.results12, go_sem, *]) rfl ⟨_, rfl, ⟨_, _, rfl, ?_, ?_⟩, ?_⟩
  · exact OwnLists.weaken (base := w1.heap.size) ((HV.out.2.1.same (same_set (by have := HLT.out; omega))).same (same_set (by have := HLT.out; omega))) (by have := HLT.out; omega)
  · exact OwnWrites.weaken (base := w1.heap.size) ((HV.out.1.same (same_set (by have := HLT.out; omega))).same (same_set (by have := HLT.out; omega))) (by have := HLT.out; omega)
  · exact below_set2 HV.out.2.2.2.2 (Nat.le_succ _) _ _

end Go.Proofs.Ytkeaillmcfnnkaa
