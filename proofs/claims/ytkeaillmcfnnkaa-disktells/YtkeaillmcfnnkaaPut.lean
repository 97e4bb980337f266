/-
  What Put makes of any disk: the error by the document's order, or the disk with one write more.
-/
import Derived.Test.YtkeaillmcfnnkaaClone
namespace Go.Proofs.Ytkeaillmcfnnkaa
open Go.RowKit

def none0 : St := ⟨[], []⟩
def perr (S : St) (s : Int) (d : List Int) : Int := if chk S = false then 9 else if reach S.secs.length s 1 = false then 41 else if 64 < d.length then 5 else if S.cache.length = 4096 then 51 else 0
def pst (S : St) (s : Int) (d : List Int) : St := if perr S s d = 0 then ⟨S.secs, S.cache ++ [(s, pad d)]⟩ else none0

theorem own_zero (base : Nat) (w : World) (e : TypeId) : OwnDisk base w e (.agg #[.slice none 0 0, .slice none 0 0]) none0 :=
  ⟨_, _, rfl, ⟨[], World.ownsRow_nil _ _ _ _, trivial⟩, ⟨[], World.ownsRow_nil _ _ _ _, trivial⟩⟩

theorem chk_facts {S : St} (h : chk S = true) : 1 ≤ S.secs.length ∧ S.secs.length ≤ 2048 ∧ S.cache.length ≤ 4096 ∧ (∀ l ∈ S.secs, l.length = 64) ∧ (∀ q ∈ S.cache, q.2.length = 64) ∧ ∀ q ∈ S.cache, 0 ≤ q.1 ∧ q.1 < S.secs.length := by
  simp only [chk, Bool.and_eq_true, decide_eq_true_eq, List.all_eq_true] at h
  obtain ⟨⟨⟨⟨h1, h2⟩, h3⟩, h4⟩, h5⟩ := h
  refine ⟨h1, h2, h3, fun l hl => by simpa [okSec] using h4 l hl, fun q hq => ?_, fun q hq => ?_⟩
  · have := h5 q hq
    simp only [okWrite, Bool.and_eq_true, beq_iff_eq] at this
    exact this.2
  · have := h5 q hq
    simp only [okWrite, Bool.and_eq_true, decide_eq_true_eq] at this
    exact this.1

theorem box_apart {w : World} {base : Nat} {e t : TypeId} {size : Nat} {v u x : Value} {n B : Nat} {xs : List Value} (h : w.ownsRow base e size v n xs) (hB : Box w B t u x) (ht : t ≠ e) : v.ownBlock = none ∨ v.ownBlock ≠ some B := by
  rcases h.2 with ⟨rfl, _⟩ | ⟨g, cap, cur, rfl, _, hg, _⟩
  · exact .inl rfl
  · refine .inr fun e' => ?_
    have : g = B := by simpa [Value.ownBlock] using e'
    subst this
    rw [show w.heap[g]? = _ from hB] at hg
    simp at hg
    exact ht hg.2
theorem box_apart' {w : World} {base : Nat} {e t : TypeId} {size : Nat} {v u x : Value} {n B : Nat} {xs : List Value} (h : w.ownsRow base e size v n xs) (hB : Box w B t u x) (ht : t ≠ e) : some B ≠ v.ownBlock := by
  rcases box_apart h hB ht with h | h
  · rw [h]; simp
  · exact h.symm
theorem grown_set (w : World) (B i : Nat) (x : Value) : w.grownBy (w.setCell ⟨B, i, none⟩ x) (some B) :=
  ⟨rfl, rfl, rfl, by simp [World.setCell], fun k _ hk => Below.heap_setCell _ _ _ _ (fun e => hk (by rw [e]))⟩
theorem OwnLists.boxed {base : Nat} {w : World} {vs : Value} {ls : List (List Int)} {B i : Nat} {t : TypeId} {u v x : Value} (h : OwnLists base w vs ls) (hB : Box w B t u v) (h5 : t ≠ 5) (h26 : t ≠ 26) : OwnLists base (w.setCell ⟨B, i, none⟩ x) vs ls := by
  obtain ⟨us, h1, h2⟩ := h
  exact ⟨us, h1.kept (grown_set w B i x) (box_apart h1 hB h26), h2.mono fun a b h => ⟨h.1.kept (grown_set w B i x) (box_apart h.1 hB h5), h.2⟩⟩
theorem OwnWrites.boxed {base : Nat} {w : World} {e : TypeId} {vs : Value} {ws : List (Int × List Int)} {B i : Nat} {t : TypeId} {u v x : Value} (h : OwnWrites base w e vs ws) (hB : Box w B t u v) (h5 : t ≠ 5) (he : t ≠ e) : OwnWrites base (w.setCell ⟨B, i, none⟩ x) e vs ws := by
  obtain ⟨us, h1, h2⟩ := h
  exact ⟨us, h1.kept (grown_set w B i x) (box_apart h1 hB he), h2.mono fun a b h => ⟨h.1, ⟨h.2.1.1.kept (grown_set w B i x) (box_apart h.2.1.1 hB h5), h.2.1.2⟩, h.2.2⟩⟩

attribute [local go_sem ↓] Go.wp_at_zero Go.wp_at_succ

set_option maxRecDepth 100000 in
set_option maxHeartbeats 8000000 in
theorem put_any (n0 n1 : Nat) (v dv : Value) (S : St) (s : Int) (d : List Int) (w : World) (h : Disk n0 w v S) (hs : -9223372036854775808 ≤ s ∧ s ≤ 9223372036854775807) (hd : Arg n1 w dv d) :
    Calls Try.prog 11 #[v, .int .i64 s, dv] w fun e w' => ∃ v', e = .returned (.tuple #[v', .int .i64 (perr S s d)]) ∧ OwnDisk w.heap.size w' 64 v' (pst S s d) ∧ Below w.heap.size w w' := by
  obtain ⟨a1, c1, a2, c2, rfl, hL, hW⟩ := h.shape
  obtain ⟨ad, cd, rfl, _, hdm, _⟩ := hd.shape
  obtain ⟨i6, hi6, hz60, hz61, hz62⟩ := info_parts Try.info64
  obtain ⟨_, _, _, _, hm1, _⟩ := hL.shape
  have hl0 := run_len Try.underlying26 ad d.length cd
  have hl2 := run_len Try.underlying28 a2 S.cache.length c2
  have HD : Hid (Disk n0 w (.agg #[.slice a1 S.secs.length c1, .slice a2 S.cache.length c2]) S) := h
  have HA : Hid (Arg n1 w (.slice ad d.length cd) d) := hd
  obtain ⟨n, hn⟩ : ∃ n, n = S.secs.length := ⟨_, rfl⟩
  obtain ⟨m, hm⟩ : ∃ n, n = S.cache.length := ⟨_, rfl⟩
  obtain ⟨dl, hdl⟩ : ∃ n, n = d.length := ⟨_, rfl⟩
  have HN : Hid (n = S.secs.length) := hn
  have HM : Hid (m = S.cache.length) := hm
  have HP : Hid (perr S s d = if chk S = false then 9 else if reach n s 1 = false then 41 else if 64 < dl then 5 else if m = 4096 then 51 else 0) := by
    show _ = _
    rw [hn, hm, hdl]; rfl
  rw [← hn, ← hm] at HD ⊢
  rw [← hn] at hm1
  rw [← hm] at hl2
  rw [← hdl] at HA hl0 ⊢
  have HDL : Hid (dl = d.length) := hdl
  obtain ⟨pe, hpe⟩ : ∃ x, x = perr S s d := ⟨_, rfl⟩
  have HPS : Hid (pst S s d = if pe = 0 then ⟨S.secs, S.cache ++ [(s, pad d)]⟩ else none0) := by
    show _ = _
    rw [hpe]; rfl
  obtain ⟨PS, hPS⟩ : ∃ x, x = pst S s d := ⟨_, rfl⟩
  rw [← hpe] at HP ⊢
  rw [← hPS] at HPS ⊢
  clear h hd hL hW hn hm hdl hpe hPS
  go_enter Try.func11, Try.ntmps11
  go_wp2_with fail
  refine (check_any n0 _ S _ (HD.out.below (((Below.refl _ w).alloc (Nat.le_refl _) _).alloc (by simp) _))).mono ?_
  rintro e w1 ⟨rfl, hb1⟩
  have hP1 : Box w1 w.heap.size 30 (.slice a1 n c1) (.slice a2 m c2) := ((Box.new w 30 _ _).alloc _).below hb1 (by simp; omega)
  have hR1 : Box w1 (w.heap.size + 1) 30 (.slice none 0 0) (.slice none 0 0) := by
    have := Box.new (w.alloc (.cells #[.slice a1 n c1, .slice a2 m c2] 30)) 30 (.slice none 0 0) (.slice none 0 0)
    rw [World.size_alloc] at this
    exact this.below hb1 (by simp)
  have hbe1 : Below w.heap.size w w1 := below_any (((Below.refl _ w).alloc (Nat.le_refl _) _).alloc (by simp) _) hb1
  have HB1 : Hid (Box w1 w.heap.size 30 (.slice a1 n c1) (.slice a2 m c2) ∧ Box w1 (w.heap.size + 1) 30 (.slice none 0 0) (.slice none 0 0) ∧ Below w.heap.size w w1) := ⟨hP1, hR1, hbe1⟩
  have g0 := hP1.cell0
  have g1 := hP1.cell1
  have g2 := hR1.cell0
  have g3 := hR1.cell1
  have g4 := hR1.frozen0
  have g5 := hR1.frozen1
  clear hb1 hbe1
  unfold cerr
  cases hchk : chk S
  · have e1 : pe = 9 := by rw [HP.out, if_pos hchk]
    have e2 : PS = none0 := by rw [HPS.out, if_neg (by omega)]
    subst e1 e2
    clear hP1 hR1
    go_wp2
    refine bodyPost_ret (v := .tuple #[.agg #[.slice none 0 0, .slice none 0 0], .int .i64 9]) (by simp [results, Try.results11, go_sem, *]) rfl ⟨_, rfl, own_zero _ _ _, ?_⟩
    exact below_set2 HB1.out.2.2 (Nat.le_succ _) _ _
  · clear hP1 hR1
    go_wp2_with fail
    refine (reaches_any a1 a2 n c1 m c2 s 1 w1 hm1 hs).mono ?_
    rintro e w2 ⟨rfl, hb2⟩
    have hP2 := HB1.out.1.below hb2 HB1.out.1.lt
    have hR2 := HB1.out.2.1.below hb2 HB1.out.2.1.lt
    have HB2 : Hid (Box w2 w.heap.size 30 (.slice a1 n c1) (.slice a2 m c2) ∧ Box w2 (w.heap.size + 1) 30 (.slice none 0 0) (.slice none 0 0) ∧ Below w.heap.size w w2) := ⟨hP2, hR2, below_any HB1.out.2.2 hb2⟩
    clear g0 g1 g2 g3 g4 g5 hb2
    have g0 := hP2.cell0
    have g1 := hP2.cell1
    have g2 := hR2.cell0
    have g3 := hR2.cell1
    have g4 := hR2.frozen0
    have g5 := hR2.frozen1
    clear hP2 hR2 HB1
    cases hrc : reach n s 1
    · have e1 : pe = 41 := by rw [HP.out, if_neg (by simp [hchk]), if_pos hrc]
      have e2 : PS = none0 := by rw [HPS.out, if_neg (by omega)]
      subst e1 e2
      go_wp2
      refine bodyPost_ret (v := .tuple #[.agg #[.slice none 0 0, .slice none 0 0], .int .i64 41]) (by simp [results, Try.results11, go_sem, *]) rfl ⟨_, rfl, own_zero _ _ _, ?_⟩
      exact below_set2 HB2.out.2.2 (Nat.le_succ _) _ _
    by_cases h64 : (64 : Int) < dl
    · have e1 : pe = 5 := by rw [HP.out, if_neg (by simp [hchk]), if_neg (by simp [hrc]), if_pos (by omega)]
      have e2 : PS = none0 := by rw [HPS.out, if_neg (by omega)]
      subst e1 e2
      go_wp2
      refine bodyPost_ret (v := .tuple #[.agg #[.slice none 0 0, .slice none 0 0], .int .i64 5]) (by simp [results, Try.results11, go_sem, *]) rfl ⟨_, rfl, own_zero _ _ _, ?_⟩
      exact below_set2 HB2.out.2.2 (Nat.le_succ _) _ _
    by_cases h4k : (m : Int) = 4096
    · have e1 : pe = 51 := by rw [HP.out, if_neg (by simp [hchk]), if_neg (by simp [hrc]), if_neg (by omega), if_pos (by omega)]
      have e2 : PS = none0 := by rw [HPS.out, if_neg (by omega)]
      subst e1 e2
      go_wp2
      refine bodyPost_ret (v := .tuple #[.agg #[.slice none 0 0, .slice none 0 0], .int .i64 51]) (by simp [results, Try.results11, go_sem, *]) rfl ⟨_, rfl, own_zero _ _ _, ?_⟩
      exact below_set2 HB2.out.2.2 (Nat.le_succ _) _ _
    have e1 : pe = 0 := by rw [HP.out, if_neg (by simp [hchk]), if_neg (by simp [hrc]), if_neg (by omega), if_neg (by omega)]
    have e2 : PS = ⟨S.secs, S.cache ++ [(s, pad d)]⟩ := by rw [HPS.out, if_pos e1]
    subst e1 e2
    obtain ⟨k1, k2, k3, k4, k5, k6⟩ := chk_facts hchk
    have HK : Hid (1 ≤ n ∧ n ≤ 2048 ∧ m ≤ 4096) := ⟨by rw [HN.out]; exact k1, by rw [HN.out]; exact k2, by rw [HM.out]; exact k3⟩
    have hm4 : m + 1 ≤ 4096 := by have := HK.out; omega
    go_wp2_with fail
    refine (clone_any n0 _ S _ (HD.out.below HB2.out.2.2) k2 k3 k4 k5).mono ?_
    rintro e w3 ⟨v3, rfl, ⟨vs, vc, rfl, hOL, hOW⟩, hb3⟩
    obtain ⟨us, hus, hEs⟩ := id hOL
    obtain ⟨ps, hown, hE⟩ := hOW
    rw [← HN.out] at hus
    rw [← HM.out] at hown
    obtain ⟨ax, cs, rfl⟩ := own_shape hus
    obtain ⟨ac, cc, rfl⟩ := own_shape hown
    have hP3 := HB2.out.1.below hb3 HB2.out.1.lt
    have hR3 := HB2.out.2.1.below hb3 HB2.out.2.1.lt
    obtain ⟨W, hW⟩ : ∃ W, W = w3.alloc (.cells #[.slice ax n cs, .slice ac m cc] 30) := ⟨_, rfl⟩
    have hXW : Box W w3.heap.size 30 (.slice ax n cs) (.slice ac m cc) := by rw [hW]; exact Box.new _ _ _ _
    have hbW : Below w3.heap.size w3 W := by rw [hW]; exact (Below.refl _ _).alloc (Nat.le_refl _) _
    have hsW : W.heap.size = w3.heap.size + 1 := by rw [hW]; simp
    have hRW := hR3.below hbW hR3.lt
    have HBW : Hid (Below w.heap.size w W) := below_any (below_any HB2.out.2.2 hb3) hbW
    have HR : Hid (Box W w3.heap.size 30 (.slice ax n cs) (.slice ac m cc) ∧ Box W (w.heap.size + 1) 30 (.slice none 0 0) (.slice none 0 0)) := ⟨hXW, hRW⟩
    have HO : Hid (W.ownsRow w2.heap.size 64 2 (.slice ac m cc) m (flat ps)) := own_below hown hbW
    have HE : Hid (Each (OwnW1 w2.heap.size W) ps S.cache) := hE.mono fun _ _ h => ⟨h.1, h.2.1.same (.of_below hbW), h.2.2⟩
    have HLS : Hid (OwnLists w2.heap.size W (.slice ax n cs) S.secs) := hOL.same (.of_below hbW)
    have HLT : Hid (w.heap.size + 1 < w2.heap.size ∧ w2.heap.size ≤ w3.heap.size ∧ W.heap.size = w3.heap.size + 1) := ⟨HB2.out.2.1.lt, hb3.size, hsW⟩
    have HC : Hid (Calls Try.prog 34 #[.int .i64 s, .slice ad dl cd] W.drew fun e w' => ∃ g, e = .returned (.agg #[.int .i64 s, .slice (some ⟨g, 0, none⟩) 64 64]) ∧ w'.ownsRow W.heap.size 5 1 (.slice (some ⟨g, 0, none⟩) 64 64) 64 ((pad d).map (Value.int .u8)) ∧ Below W.heap.size W w') := by
      have := whole_any n1 (.slice ad dl cd) d s W.drew ((HA.out.below HBW.out).below (Below.refl _ _).drew) (by have := HDL.out; omega)
      exact this.mono fun e w' h => by
        obtain ⟨g, h1, h2, h3⟩ := h
        exact ⟨g, h1, h2, ((Below.refl _ W).drew).trans h3⟩
    have q0 := hXW.cell1
    clear hown hE hOL hEs hus hP3 hR3 hb3 g0 g1 g2 g3 g4 g5 hbW hRW hsW hXW k1 k2 k3 k4 k5 k6
    go_wp2
    rw [← hW]
    clear hW
    go_region_law
      (first
        | (go_simp
           with_reducible refine Calls.mono HC.out ?_
           rintro e w4 ⟨g2, rfl, hu2, hb4⟩
           have hcc2 : w4.cell? ⟨w3.heap.size, 1, none⟩ = some (.slice ac m cc) := (HR.out.1.below hb4 HR.out.1.lt).cell1
           have hcc3 : ∀ o, (w4.alloc o).cell? ⟨w3.heap.size, 1, none⟩ = some (.slice ac m cc) := fun o => ((HR.out.1.below hb4 HR.out.1.lt).alloc o).cell1
           try dsimp only)
        | (refine step_append_lies _ (by rfl) _ _ _ (by rfl) w2.heap.size 64 i6 _ 2 32 Try.underlying28 hi6 hz60 hz61 hz62 rfl (by omega) _ m _ (by rfl) ((own_below HO.out hb4).alloc _) ⟨w4.heap.size, 0, none⟩ 1 1 [.int .i64 s, .slice (some ⟨g2, 0, none⟩) 64 64] (by rfl) (by rfl)
            (World.news_of_block (cs := #[.int .i64 s, .slice (some ⟨g2, 0, none⟩) 64 64]) (t := 64) (fr := (0, 0)) (heap_alloc_new w4 _)) (by simp [Value.oneCell']) (by omega) (by unfold maxLen; omega) (by omega) (by have := hb4.size; have := HLT.out; simp; omega) (w4.heap.size + 1) (by simp) ?_; intro gg cap3 w5 hown5 hgrow5 hat hltg
           have hbx1 : Box w5 (w.heap.size + 1) 30 (.slice none 0 0) (.slice none 0 0) := Box.grown ((HR.out.2.below hb4 HR.out.2.lt).alloc _) hgrow5 (row_ne HO.out (by have := HLT.out; omega))
           have hbx2 : Box w5 w3.heap.size 30 (.slice ax n cs) (.slice ac m cc) := Box.grown ((HR.out.1.below hb4 HR.out.1.lt).alloc _) hgrow5 (box_apart' HO.out HR.out.1 (by decide))
           have hcc4 := hbx2.cell1
           have hff4 := hbx2.frozen1))
    all_goals
      have hS4 : Same w2.heap.size W (w4.alloc (.cells #[.int .i64 s, .slice (some ⟨g2, 0, none⟩) 64 64] 64)) := Same.trans (.of_below hb4) hb4.size (same_alloc _ _ _)
      have hG5 : OwnWrites w2.heap.size w5 64 (.slice (some ⟨gg, 0, none⟩) (m + 1) cap3) (S.cache ++ [(s, pad d)]) := by
        refine OwnWrites.push (by decide) HM.out.symm (HE.out.mono fun _ _ h => ⟨h.1, h.2.1.same hS4, h.2.2⟩) (own_same HO.out hS4) ⟨?_, pad_oct HA.out.2⟩ hs hgrow5 hown5
        rw [pad_length d (by have := HDL.out; omega)]
        exact (own_weaken hu2 (by have := HLT.out; omega)).alloc _
      have hL5 : OwnLists w2.heap.size w5 (.slice ax n cs) S.secs := OwnLists.beside (HLS.out.same hS4) (by decide) (by decide) (own_same HO.out hS4) hgrow5
      have HBE : Hid (Below w.heap.size w w5) := ((below_any HBW.out hb4).alloc (by have := hb4.size; have := HLT.out; omega) _).grown hgrow5 (by have := hb4.size; have := HLT.out; simp; omega) (fun j hj => by have := (HO.out.lt j hj).1; have := HLT.out; omega)
      have HG5 : Hid (OwnWrites w2.heap.size w5 64 (.slice (some ⟨gg, 0, none⟩) (m + 1) cap3) (S.cache ++ [(s, pad d)]) ∧ OwnLists w2.heap.size w5 (.slice ax n cs) S.secs ∧ Box w5 (w.heap.size + 1) 30 (.slice none 0 0) (.slice none 0 0) ∧ Box w5 w3.heap.size 30 (.slice ax n cs) (.slice ac m cc)) := ⟨hG5, hL5, hbx1, hbx2⟩
      have q1 := hbx2.cell0
      have q2 := hbx1.cell0
      have q3 := hbx1.cell1
      have q4 := hbx1.frozen0
      have q5 := hbx1.frozen1
      have q6 : w.heap.size + 1 < w3.heap.size := by have := HLT.out; omega
      clear hown5 hgrow5 hat hltg hG5 hL5 hS4 hbx1 hbx2 hu2 hcc2 hcc3 q0
      go_wp2
      refine bodyPost_ret (v := .tuple #[.agg #[.slice ax n cs, .slice (some ⟨gg, 0, none⟩) (m + 1) cap3], .int .i64 0]) (by simp [results, Try.results11, go_sem, *]) rfl ⟨_, rfl, ⟨_, _, rfl, ?_, ?_⟩, ?_⟩
      · exact OwnLists.weaken (base := w2.heap.size) (((HG5.out.2.1.boxed HG5.out.2.2.2 (by decide) (by decide)).same (same_set (by have := HLT.out; omega))).same (same_set (by have := HLT.out; omega))) (by have := HLT.out; omega)
      · exact OwnWrites.weaken (base := w2.heap.size) (((HG5.out.1.boxed HG5.out.2.2.2 (by decide) (by decide)).same (same_set (by have := HLT.out; omega))).same (same_set (by have := HLT.out; omega))) (by have := HLT.out; omega)
      · exact below_set2 (HBE.out.setCell (p := ⟨w3.heap.size, 1, none⟩) (by have := HLT.out; simp; omega) _) (Nat.le_succ _) _ _

end Go.Proofs.Ytkeaillmcfnnkaa
