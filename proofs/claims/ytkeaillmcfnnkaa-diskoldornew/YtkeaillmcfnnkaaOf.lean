/-
  What Of makes of the document's disk: the program's, in memory of its own.
-/
import Derived.Test.YtkeaillmcfnnkaaLists
import Derived.Test.YtkeaillmcfnnkaaTail
namespace Go.Proofs.Ytkeaillmcfnnkaa
open Go.RowKit

/-- As great as the form reads a disk. -/
def Fits (S : St) : Prop := S.secs.length * 24 ≤ 140737488355328 ∧ (∀ l ∈ S.secs, l.length ≤ 140737488355328) ∧ S.cache.length * 32 ≤ 140737488355328 ∧ ∀ q ∈ S.cache, q.2.length ≤ 140737488355328

attribute [local go_sem ↓] Go.wp_at_zero Go.wp_at_succ

set_option maxRecDepth 100000 in
set_option maxHeartbeats 4000000 in
theorem of_any (n0 : Nat) (v : Value) (S : St) (w : World) (h : Disk n0 w v S) (hf : Fits S) :
    Calls Try.prog 9 #[v] w fun e w' => ∃ v', e = .returned v' ∧ OwnDisk w.heap.size w' 64 v' S ∧ Below w.heap.size w w' := by
  obtain ⟨a1, c1, a2, c2, rfl, hL, hW⟩ := h.shape
  obtain ⟨i6, hi6, hz60, hz61, hz62⟩ := info_parts Try.info64
  obtain ⟨i0, hi0, _, hz01, _⟩ := info_parts Try.info60
  obtain ⟨_, _, _, _, hm2, _⟩ := hW.shape
  have HL : Hid (Lists n0 w (.slice a1 S.secs.length c1) S.secs) := hL
  have HW : Hid (Writes n0 w (.slice a2 S.cache.length c2) S.cache) := hW
  have HF : Hid (Fits S) := hf
  obtain ⟨n, hn'⟩ : ∃ n, n = S.secs.length := ⟨_, rfl⟩
  obtain ⟨m, hm'⟩ : ∃ n, n = S.cache.length := ⟨_, rfl⟩
  have HN : Hid (n = S.secs.length) := hn'
  have HM : Hid (m = S.cache.length) := hm'
  rw [← hn'] at HL ⊢
  rw [← hm'] at HW hm2 ⊢
  unfold maxLen at hm2
  have hmb : m * 32 ≤ 140737488355328 := by rw [hm']; exact hf.2.2.1
  clear h hL hW hn' hm' hf
  have hl2 := run_len Try.underlying23 a2 m c2
  go_enter Try.func9, Try.ntmps9
  go_wp2_with fail
  have hb0 : Below w.heap.size w ((w.alloc (.cells #[.slice a1 n c1, .slice a2 m c2] 25)).alloc (.cells #[.slice none 0 0, .slice none 0 0] 30)) := ((Below.refl _ w).alloc (Nat.le_refl _) _).alloc (by simp) _
  refine (copyLists_any n0 _ S.secs _ (HL.out.below hb0) HF.out.1 HF.out.2.1).mono ?_
  rintro e w1 ⟨vl, rfl, hOL, hb1⟩
  have hP1 : Box w1 w.heap.size 25 (.slice a1 n c1) (.slice a2 m c2) := ((Box.new w 25 _ _).alloc _).below hb1 (by simp; omega)
  have hR1 : Box w1 (w.heap.size + 1) 30 (.slice none 0 0) (.slice none 0 0) := by
    have := Box.new (w.alloc (.cells #[.slice a1 n c1, .slice a2 m c2] 25)) 30 (.slice none 0 0) (.slice none 0 0)
    rw [World.size_alloc] at this
    exact this.below hb1 (by simp)
  obtain ⟨us0, hus0, _⟩ := id hOL
  rw [← HN.out] at hus0
  obtain ⟨va, vc, rfl⟩ := own_shape hus0
  obtain ⟨W, hW⟩ : ∃ W, W = w1.alloc (.cells #[.slice va n vc, .slice none 0 0] 30) := ⟨_, rfl⟩
  have hbW : Below w1.heap.size w1 W := by rw [hW]; exact (Below.refl _ _).alloc (Nat.le_refl _) _
  have HST : Hid (Box W w.heap.size 25 (.slice a1 n c1) (.slice a2 m c2) ∧ Box W (w.heap.size + 1) 30 (.slice none 0 0) (.slice none 0 0) ∧ Box W w1.heap.size 30 (.slice va n vc) (.slice none 0 0) ∧ OwnLists (w.heap.size + 2) W (.slice va n vc) S.secs ∧ Below w.heap.size w W ∧ w.heap.size + 2 ≤ w1.heap.size) := by
    refine ⟨hP1.below hbW hP1.lt, hR1.below hbW hR1.lt, by rw [hW]; exact Box.new _ _ _ _, ?_, below_any (below_any hb0 hb1) hbW, by have := hb1.size; simpa using this⟩
    have := hOL.same (.of_below hbW)
    simpa using this
  clear hP1 hR1 hus0 hOL hb0 hb1 hbW
  go_wp2
  rw [← hW]
  clear hW
  obtain ⟨B, hB⟩ : ∃ B, B = w1.heap.size := ⟨_, rfl⟩
  rw [← hB] at HST ⊢
  have HB2 : Hid (w.heap.size + 2 ≤ B) := HST.out.2.2.2.2.2
  clear hB
  go_loopw [4] (fun i wr => ∃ (k : Nat) (v : Value), k ≤ m ∧ i = .int .i64 k ∧ Box wr w.heap.size 25 (.slice a1 n c1) (.slice a2 m c2) ∧ Box wr (w.heap.size + 1) 30 (.slice none 0 0) (.slice none 0 0) ∧ Box wr B 30 (.slice va n vc) v ∧
    OwnLists (w.heap.size + 2) wr (.slice va n vc) S.secs ∧ OwnWrites (w.heap.size + 2) wr 64 v (S.cache.take k) ∧ Below w.heap.size w wr) (fun i _ => m - (intOf i).toNat)
  case atStart => exact ⟨0, _, Nat.zero_le _, rfl, HST.out.1, HST.out.2.1, HST.out.2.2.1, HST.out.2.2.2.1, ⟨[], World.ownsRow_nil _ _ _ _, trivial⟩, HST.out.2.2.2.2.1⟩
  case round =>
    clear HST
    obtain ⟨k, v, hk, rfl, hB0, hB1, hB2, hLS, hO, hbel⟩ := hrel
    by_cases hlt : k < m
    · obtain ⟨q, hq⟩ := get_lt (l := S.cache) (k := k) (by rw [← HM.out]; exact hlt)
      obtain ⟨b, o, a, cap, hix, _, hc0, hc1, hA, hr⟩ := HW.out.at Try.underlying23 hi0 hz01 k q hq
      have HTK : Hid (S.cache.take (k + 1) = S.cache.take k ++ [q] ∧ (S.cache.take k).length = k) := ⟨take_snoc hq, by have := HM.out; rw [List.length_take]; omega⟩
      have HLL : Hid (q.2.length ≤ 140737488355328) := HF.out.2.2.2 q (List.mem_of_getElem? hq)
      obtain ⟨s, l⟩ := q
      simp only at hc0 hc1 hA hr HLL
      obtain ⟨ps, hown, hE⟩ := hO
      rw [HTK.out.2] at hown
      obtain ⟨a', cap', rfl⟩ := own_shape hown
      have HBX : Hid (Box wr w.heap.size 25 (.slice a1 n c1) (.slice a2 m c2) ∧ Box wr (w.heap.size + 1) 30 (.slice none 0 0) (.slice none 0 0) ∧ Box wr B 30 (.slice va n vc) (.slice a' k cap')) := ⟨hB0, hB1, hB2⟩
      have HE : Hid (Each (OwnW1 (w.heap.size + 2) wr) ps (S.cache.take k)) := hE
      have HLS : Hid (OwnLists (w.heap.size + 2) wr (.slice va n vc) S.secs) := hLS
      have HBL : Hid (Below w.heap.size w wr) := hbel
      have hbel' := hbel
      have HO : Hid (wr.ownsRow (w.heap.size + 2) 64 2 (.slice a' k cap') k (flat ps)) := hown
      have HRR : Hid (-9223372036854775808 ≤ s ∧ s ≤ 9223372036854775807) := hr
      have HAO : Hid (Oct l) := hA.2
      have HC : Hid (Calls Try.prog 10 #[.slice a l.length cap] wr.drew fun e w' => (∃ v', e = .returned v' ∧ w'.ownsRow wr.heap.size 5 1 v' l.length (l.map (Value.int .u8))) ∧ Below wr.heap.size wr w') :=
        (copy_any n0 (.slice a l.length cap) l wr.drew ((hA.below hbel').below (Below.refl _ _).drew) HLL.out).mono fun e w' h => ⟨h.1, ((Below.refl _ wr).drew).trans h.2⟩
      obtain ⟨len, hlen⟩ : ∃ x, x = l.length := ⟨_, rfl⟩
      rw [← hlen] at hc1 HC
      have HLN : Hid (len = l.length) := hlen
      have HS : Hid (∀ V, Box V w.heap.size 25 (.slice a1 n c1) (.slice a2 m c2) → Box V B 30 (.slice va n vc) (.slice a' k cap') → Below w.heap.size w V → V.cell? ⟨w.heap.size, 1, none⟩ = some (.slice a2 m c2) ∧ V.cell? ⟨B, 1, none⟩ = some (.slice a' k cap') ∧ V.cell? ⟨b, o, none⟩ = some (.int .i64 s) ∧ V.cell? ⟨b, o + 1, none⟩ = some (.slice a len cap)) := fun V h0 h2 hb => ⟨h0.cell1, h2.cell1, by rw [hb.cell (cell_lt hc0)]; exact hc0, by rw [hb.cell (cell_lt hc1)]; exact hc1⟩
      have g0 := hB0.cell1
      have hki : (k : Int) < (m : Int) := by omega
      have HBS : Hid (B < wr.heap.size) := hB2.lt
      clear hA hq hB0 hB1 hB2 hE hbel hbel' hown hlen hLS hr hc0 hc1
      go_wp2
      refine AnyBut.begin (fun W => W.cell? ⟨w.heap.size, 1, none⟩ = some (.slice a2 m c2) ∧ W.cell? ⟨B, 1, none⟩ = some (.slice a' k cap') ∧ W.cell? ⟨b, o, none⟩ = some (.int .i64 s) ∧ W.cell? ⟨b, o + 1, none⟩ = some (.slice a len cap)) 19 (by kernel_rfl) ?_
      have hSS := HS.out wr.drew HBX.out.1 HBX.out.2.2 HBL.out.drew
      refine AnyBut.take (i := 0) (some 16) (v := ?_) rfl rfl (by kernel_rfl) rfl (by kernel_rfl) (by kernel_rfl) (by kernel_rfl) (fun _ _ _ h => h) (.inl ⟨by rfl, ?_⟩) hSS ?_
      rotate_left
      · (intro W hSW; (try dsimp only at hSW); go_simp; try with_reducible rfl)
      simp only [Act.put, List.setIfInBounds_toArray, List.set_cons_zero, List.set_cons_succ]
      refine AnyBut.take (i := 1) (some 17) (v := ?_) rfl rfl (by kernel_rfl) rfl (by kernel_rfl) (by kernel_rfl) (by kernel_rfl) (fun _ _ _ h => h) (.inl ⟨by rfl, ?_⟩) hSS ?_
      rotate_left
      · (intro W hSW; (try dsimp only at hSW); go_simp; try with_reducible rfl)
      simp only [Act.put, List.setIfInBounds_toArray, List.set_cons_zero, List.set_cons_succ]
      refine AnyBut.take (i := 2) (some 18) (v := ?_) rfl rfl (by kernel_rfl) rfl (by kernel_rfl) (by kernel_rfl) (by kernel_rfl) (fun _ _ _ h => h) (.inl ⟨by rfl, ?_⟩) hSS ?_
      rotate_left
      · (intro W hSW; (try dsimp only at hSW); go_simp; try with_reducible rfl)
      simp only [Act.put, List.setIfInBounds_toArray, List.set_cons_zero, List.set_cons_succ]
      refine AnyBut.take (i := 3) (some 19) (v := ?_) rfl rfl (by kernel_rfl) rfl (by kernel_rfl) (by kernel_rfl) (by kernel_rfl) (fun _ _ _ h => h) (.inl ⟨by rfl, ?_⟩) hSS ?_
      rotate_left
      · (intro W hSW; (try dsimp only at hSW); go_simp; try with_reducible rfl)
      simp only [Act.put, List.setIfInBounds_toArray, List.set_cons_zero, List.set_cons_succ]
      refine AnyBut.take (i := 4) (some 20) (v := ?_) rfl rfl (by kernel_rfl) rfl (by kernel_rfl) (by kernel_rfl) (by kernel_rfl) (fun _ _ _ h => h) (.inl ⟨by rfl, ?_⟩) hSS ?_
      rotate_left
      · (intro W hSW; (try dsimp only at hSW); go_simp; try with_reducible rfl)
      simp only [Act.put, List.setIfInBounds_toArray, List.set_cons_zero, List.set_cons_succ]
      refine AnyBut.take (i := 5) (some 21) (v := ?_) rfl rfl (by kernel_rfl) rfl (by kernel_rfl) (by kernel_rfl) (by kernel_rfl) (fun _ _ _ h => h) (.inl ⟨by rfl, ?_⟩) hSS ?_
      rotate_left
      · (intro W hSW; (try dsimp only at hSW); go_simp; try with_reducible rfl)
      simp only [Act.put, List.setIfInBounds_toArray, List.set_cons_zero, List.set_cons_succ]
      refine AnyBut.take (i := 6) (some 22) (v := ?_) rfl rfl (by kernel_rfl) rfl (by kernel_rfl) (by kernel_rfl) (by kernel_rfl) (fun _ _ _ h => h) (.inl ⟨by rfl, ?_⟩) hSS ?_
      rotate_left
      · (intro W hSW; (try dsimp only at hSW); go_simp; try with_reducible rfl)
      simp only [Act.put, List.setIfInBounds_toArray, List.set_cons_zero, List.set_cons_succ]
      refine AnyBut.take (i := 7) (some 23) (v := ?_) rfl rfl (by kernel_rfl) rfl (by kernel_rfl) (by kernel_rfl) (by kernel_rfl) (fun _ _ _ h => h) (.inl ⟨by rfl, ?_⟩) hSS ?_
      rotate_left
      · (intro W hSW; (try dsimp only at hSW); go_simp; try with_reducible rfl)
      simp only [Act.put, List.setIfInBounds_toArray, List.set_cons_zero, List.set_cons_succ]
      refine AnyBut.take (i := 8) (some 24) (v := ?_) rfl rfl (by kernel_rfl) rfl (by kernel_rfl) (by kernel_rfl) (by kernel_rfl) (fun _ _ _ h => h) (.inl ⟨by rfl, ?_⟩) hSS ?_
      rotate_left
      · (intro W hSW; (try dsimp only at hSW); go_simp; try with_reducible rfl)
      simp only [Act.put, List.setIfInBounds_toArray, List.set_cons_zero, List.set_cons_succ]
      refine AnyBut.take (i := 9) (some 25) (v := ?_) rfl rfl (by kernel_rfl) rfl (by kernel_rfl) (by kernel_rfl) (by kernel_rfl) (fun _ _ _ h => h) (.inl ⟨by rfl, ?_⟩) hSS ?_
      rotate_left
      · (intro W hSW; (try dsimp only at hSW); go_simp; try with_reducible rfl)
      simp only [Act.put, List.setIfInBounds_toArray, List.set_cons_zero, List.set_cons_succ]
      refine AnyBut.take (i := 10) (some 26) (v := ?_) rfl rfl (by kernel_rfl) rfl (by kernel_rfl) (by kernel_rfl) (by kernel_rfl) (fun _ _ _ h => h) (.inl ⟨by rfl, ?_⟩) hSS ?_
      rotate_left
      · (intro W hSW; (try dsimp only at hSW); go_simp; try with_reducible rfl)
      simp only [Act.put, List.setIfInBounds_toArray, List.set_cons_zero, List.set_cons_succ]
      refine AnyBut.take (i := 11) (some 27) (v := ?_) rfl rfl (by kernel_rfl) rfl (by kernel_rfl) (by kernel_rfl) (by kernel_rfl) (fun _ _ _ h => h) (.inl ⟨by rfl, ?_⟩) hSS ?_
      rotate_left
      · (intro W hSW; (try dsimp only at hSW); go_simp; try with_reducible rfl)
      simp only [Act.put, List.setIfInBounds_toArray, List.set_cons_zero, List.set_cons_succ]
      refine AnyBut.take (i := 12) (some 28) (v := ?_) rfl rfl (by kernel_rfl) rfl (by kernel_rfl) (by kernel_rfl) (by kernel_rfl) (fun _ _ _ h => h) (.inl ⟨by rfl, ?_⟩) hSS ?_
      rotate_left
      · (intro W hSW; (try dsimp only at hSW); go_simp; try with_reducible rfl)
      simp only [Act.put, List.setIfInBounds_toArray, List.set_cons_zero, List.set_cons_succ]
      refine AnyBut.take (i := 13) (some 29) (v := ?_) rfl rfl (by kernel_rfl) rfl (by kernel_rfl) (by kernel_rfl) (by kernel_rfl) (fun _ _ _ h => h) (.inl ⟨by rfl, ?_⟩) hSS ?_
      rotate_left
      · (intro W hSW; (try dsimp only at hSW); go_simp; try with_reducible rfl)
      simp only [Act.put, List.setIfInBounds_toArray, List.set_cons_zero, List.set_cons_succ]
      refine AnyBut.step (i := 14) (by kernel_rfl) rfl (fun K hK => ?_)
      go_simp
      refine Calls.mono HC.out ?_
      rintro e w2 ⟨⟨u2, rfl, hu2⟩, hb2⟩
      obtain ⟨ux, uc, rfl⟩ := own_shape hu2
      have hx0 := HBX.out.1.below hb2 HBX.out.1.lt
      have hx2 := HBX.out.2.2.below hb2 HBX.out.2.2.lt
      have hbw2 := below_any HBL.out hb2
      dsimp only
      refine hK.out _ _ (HS.out w2 hx0 hx2 hbw2) ?_
      clear hK hSS
      have hSS := (HS.out w2 hx0 hx2 hbw2)
      refine AnyBut.take (i := 15) (some 31) (v := ?_) rfl rfl (by kernel_rfl) rfl (by kernel_rfl) (by kernel_rfl) (by kernel_rfl) (fun _ _ _ h => h) (.inl ⟨by rfl, ?_⟩) hSS ?_
      rotate_left
      · (intro W hSW; (try dsimp only at hSW); go_simp; try with_reducible rfl)
      simp only [Act.put, List.setIfInBounds_toArray, List.set_cons_zero, List.set_cons_succ]
      refine AnyBut.step (i := 16) (by kernel_rfl) rfl (fun K hK => ?_)
      go_simp
      refine hK.out _ _ (HS.out (w2.alloc (.cells #[.int .i64 s, .slice ux len uc] 64)) (hx0.alloc _) (hx2.alloc _) (hbw2.alloc (by have := hb2.size; have := HBS.out; have := HB2.out; omega) _)) ?_
      clear hK hSS
      have hSS := (HS.out (w2.alloc (.cells #[.int .i64 s, .slice ux len uc] 64)) (hx0.alloc _) (hx2.alloc _) (hbw2.alloc (by have := hb2.size; have := HBS.out; have := HB2.out; omega) _))
      refine AnyBut.step (i := 17) (by kernel_rfl) rfl (fun K hK => ?_)
      refine step_append_lies _ (by rfl) _ _ _ (by rfl) (w.heap.size + 2) 64 i6 _ 2 32 Try.underlying28 hi6 hz60 hz61 hz62 rfl (by omega) _ k _ (by rfl) ((own_below HO.out hb2).alloc _) ⟨w2.heap.size, 0, none⟩ 1 1 [.int .i64 s, .slice ux len uc] (by rfl) (by rfl)
        (World.news_of_block (cs := #[.int .i64 s, .slice ux len uc]) (t := 64) (fr := (0, 0)) (heap_alloc_new w2 _)) (by simp [Value.oneCell']) (by omega) (by unfold maxLen; omega) (by omega) (by have := hb2.size; have := HBS.out; have := HB2.out; simp; omega) (w2.heap.size + 1) (by simp) ?_
      intro gg cap3 w3 hown3 hgrow3 hat hltg
      have hbx0 : Box w3 w.heap.size 25 (.slice a1 n c1) (.slice a2 m c2) := Box.grown (hx0.alloc _) hgrow3 (row_ne HO.out (by omega))
      have hbx1 : Box w3 (w.heap.size + 1) 30 (.slice none 0 0) (.slice none 0 0) := Box.grown ((HBX.out.2.1.below hb2 HBX.out.2.1.lt).alloc _) hgrow3 (row_ne HO.out (by omega))
      have hbx2 : Box w3 B 30 (.slice va n vc) (.slice a' k cap') := Box.grown (hx2.alloc _) hgrow3 (box_apart' HO.out HBX.out.2.2 (by decide))
      have hcc4 := hbx2.cell1
      have hff4 := hbx2.frozen1
      have hbe3 : Below w.heap.size w w3 := ((below_any HBL.out hb2).alloc (by have := hb2.size; have := HBS.out; have := HB2.out; omega) _).grown hgrow3 (by have := hb2.size; have := HBS.out; have := HB2.out; simp; omega) (fun j hj => by have := (HO.out.lt j hj).1; omega)
      refine hK.out _ _ (HS.out w3 hbx0 hbx2 hbe3) ?_
      clear hK hSS
      have hSS := (HS.out w3 hbx0 hbx2 hbe3)
      refine AnyBut.take (i := 18) (some 34) (v := ?_) rfl rfl (by kernel_rfl) rfl (by kernel_rfl) (by kernel_rfl) (by kernel_rfl) (fun _ _ _ h => h) (.inl ⟨by rfl, ?_⟩) hSS ?_
      rotate_left
      · (intro W hSW; (try dsimp only at hSW); go_simp; try with_reducible rfl)
      refine AnyBut.last (by kernel_rfl) (by kernel_rfl) rfl (fun K hK => ?_)
      go_simp
      refine hK.out _ _ ?_
      clear hK hSS
      have hS2 : Same (w.heap.size + 2) wr (w2.alloc (.cells #[.int .i64 s, .slice ux len uc] 64)) := Same.trans (.of_below hb2) hb2.size (same_alloc _ _ _)
      have hG3 : OwnWrites (w.heap.size + 2) w3 64 (.slice (some ⟨gg, 0, none⟩) (k + 1) cap3) (S.cache.take (k + 1)) := by
        rw [HTK.out.1]
        refine OwnWrites.push (by decide) HTK.out.2 (HE.out.mono fun _ _ h => ⟨h.1, h.2.1.same hS2, h.2.2⟩) (own_same HO.out hS2) ⟨?_, HAO.out⟩ HRR.out hgrow3 hown3
        rw [← HLN.out]
        exact (own_weaken hu2 (by have := HBS.out; have := HB2.out; omega)).alloc _
      have hL3 : OwnLists (w.heap.size + 2) w3 (.slice va n vc) S.secs := OwnLists.beside (HLS.out.same hS2) (by decide) (by decide) (own_same HO.out hS2) hgrow3
      have HBB : Hid (Box w3 w.heap.size 25 (.slice a1 n c1) (.slice a2 m c2) ∧ Box w3 (w.heap.size + 1) 30 (.slice none 0 0) (.slice none 0 0) ∧ Box w3 B 30 (.slice va n vc) (.slice a' k cap') ∧ OwnLists (w.heap.size + 2) w3 (.slice va n vc) S.secs ∧ OwnWrites (w.heap.size + 2) w3 64 (.slice (some ⟨gg, 0, none⟩) (k + 1) cap3) (S.cache.take (k + 1)) ∧ Below w.heap.size w w3) := ⟨hbx0, hbx1, hbx2, hL3, hG3, hbe3⟩
      clear hown3 hgrow3 hat hltg hG3 hL3 hS2 hbx0 hbx1 hbx2 hu2 hbe3 hx0 hx2 hbw2 hcc4 hff4 g0 hix
      go_wp2
      go_roundw
      case rel =>
        exact ⟨k + 1, _, by omega, by go_num, HBB.out.1.other (by have := HB2.out; omega), HBB.out.2.1.other (by have := HB2.out; omega), HBB.out.2.2.1.set1 _, HBB.out.2.2.2.1.boxed HBB.out.2.2.1 (by decide) (by decide), HBB.out.2.2.2.2.1.boxed HBB.out.2.2.1 (by decide) (by decide), HBB.out.2.2.2.2.2.setCell (p := ⟨B, 1, none⟩) (by have := HB2.out; simp; omega) _⟩
      case measure => simp [intOf]; omega
    · obtain rfl : k = m := by omega
      have hTA : S.cache.take k = S.cache := by rw [HM.out]; simp
      rw [hTA] at hO
      obtain ⟨ps, hown, hE⟩ := hO
      rw [← HM.out] at hown
      obtain ⟨a', cap', rfl⟩ := own_shape hown
      have HO : Hid (OwnLists (w.heap.size + 2) wr (.slice va n vc) S.secs ∧ OwnWrites (w.heap.size + 2) wr 64 (.slice a' k cap') S.cache) := ⟨hLS, ps, by rw [← HM.out]; exact hown, hE⟩
      have q0 := hB2.cell0
      have q1 := hB2.cell1
      have d0 := hB1.cell0
      have d1 := hB1.cell1
      have e0 := hB1.frozen0
      have e1 := hB1.frozen1
      have g0 := hB0.cell1
      have HBL : Hid (Below w.heap.size w wr) := hbel
      clear hown hE hLS hTA hbel hB0 hB1 hB2
      go_wp2
      refine bodyPost_ret (v := .agg #[.slice va n vc, .slice a' k cap']) (by simp [results, Try.results9, go_sem, *]) rfl ⟨_, rfl, ⟨_, _, rfl, ?_, ?_⟩, ?_⟩
      · exact OwnLists.weaken (base := w.heap.size + 2) ((HO.out.1.same (same_set (by omega))).same (same_set (by omega))) (by omega)
      · exact OwnWrites.weaken (base := w.heap.size + 2) ((HO.out.2.same (same_set (by omega))).same (same_set (by omega))) (by omega)
      · exact below_set2 HBL.out (Nat.le_succ _) _ _

end Go.Proofs.Ytkeaillmcfnnkaa
