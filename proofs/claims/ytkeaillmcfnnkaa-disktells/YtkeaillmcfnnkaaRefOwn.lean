/-
  What the document's Own makes of a disk: the same one in memory of its own.
-/
import Derived.Test.YtkeaillmcfnnkaaTail
namespace Go.Proofs.Ytkeaillmcfnnkaa
open Go.RowKit

attribute [local go_sem ↓] Go.wp_at_zero Go.wp_at_succ

set_option maxRecDepth 100000 in
set_option maxHeartbeats 8000000 in
theorem rown_any (n0 : Nat) (v : Value) (S : St) (w : World) (h : Disk n0 w v S) (hn : S.secs.length ≤ 2048) (hm : S.cache.length ≤ 4096) (h64 : ∀ l ∈ S.secs, l.length = 64) (hc64 : ∀ q ∈ S.cache, q.2.length = 64) :
    Calls Try.prog 35 #[v] w fun e w' => ∃ v', e = .returned v' ∧ OwnDisk w.heap.size w' 60 v' S ∧ Below w.heap.size w w' := by
  obtain ⟨a1, c1, a2, c2, rfl, hL, hW⟩ := h.shape
  obtain ⟨i6, hi6, hz60, hz61, hz62⟩ := info_parts Try.info60
  obtain ⟨i2, hi2, hz20, hz21, hz22⟩ := info_parts Try.info26
  have HL : Hid (Lists n0 w (.slice a1 S.secs.length c1) S.secs) := hL
  have HW : Hid (Writes n0 w (.slice a2 S.cache.length c2) S.cache) := hW
  obtain ⟨n, hn'⟩ : ∃ n, n = S.secs.length := ⟨_, rfl⟩
  obtain ⟨m, hm'⟩ : ∃ n, n = S.cache.length := ⟨_, rfl⟩
  have HN : Hid (n = S.secs.length) := hn'
  have HM : Hid (m = S.cache.length) := hm'
  rw [← hn'] at HL hn ⊢
  rw [← hm'] at HW hm ⊢
  have H64 : Hid ((∀ l ∈ S.secs, l.length = 64) ∧ ∀ q ∈ S.cache, q.2.length = 64) := ⟨h64, hc64⟩
  clear h hL hW hn' hm' h64 hc64
  have hl1 := run_len Try.underlying22 a1 n c1
  have hl2 := run_len Try.underlying23 a2 m c2
  go_enter Try.func35, Try.ntmps35
  go_wp2
  go_loopw [4] (fun i wr => ∃ (k : Nat) (v : Value), k ≤ n ∧ i = .int .i64 k ∧ Box wr w.heap.size 25 (.slice a1 n c1) (.slice a2 m c2) ∧ Box wr (w.heap.size + 1) 25 (.slice none 0 0) (.slice none 0 0) ∧ Box wr (w.heap.size + 2) 25 v (.slice none 0 0) ∧
    OwnLists (w.heap.size + 3) wr v (S.secs.take k) ∧ Below w.heap.size w wr ∧ w.heap.size + 3 ≤ wr.heap.size) (fun i _ => n - (intOf i).toNat)
  case atStart =>
    refine ⟨0, _, Nat.zero_le _, rfl, ?_, ?_, ?_, ⟨[], World.ownsRow_nil _ _ _ _, trivial⟩, ?_, ?_⟩
    · exact ((Box.new w 25 _ _).alloc _).alloc _
    · have := (Box.new (w.alloc (.cells #[.slice a1 n c1, .slice a2 m c2] 25)) 25 (.slice none 0 0) (.slice none 0 0)).alloc (.cells #[.slice none 0 0, .slice none 0 0] 25)
      simpa using this
    · have := Box.new ((w.alloc (.cells #[.slice a1 n c1, .slice a2 m c2] 25)).alloc (.cells #[.slice none 0 0, .slice none 0 0] 25)) 25 (.slice none 0 0) (.slice none 0 0)
      simpa using this
    · exact (((Below.refl _ w).alloc (Nat.le_refl _) _).alloc (by simp) _).alloc (by simp; omega) _
    · simp
  case round =>
    obtain ⟨k, v, hk, rfl, hB0, hB1, hB2, hO, hbel, hsz⟩ := hrel
    by_cases hlt : k < n
    · obtain ⟨l, hl⟩ := get_lt (l := S.secs) (k := k) (by rw [← HN.out]; exact hlt)
      obtain ⟨b, o, a, cap, hix, _, hc, hA⟩ := HL.out.at k l hl
      have hl64 := H64.out.1 l (List.mem_of_getElem? hl)
      rw [hl64] at hc hA
      have HA : Hid (Arg n0 w (.slice a 64 cap) l ∧ l.length = 64) := ⟨hA, hl64⟩
      have HTK : Hid (S.secs.take (k + 1) = S.secs.take k ++ [l] ∧ (S.secs.take k).length = k) := ⟨take_snoc hl, by have := HN.out; rw [List.length_take]; omega⟩
      obtain ⟨us, hown, hE⟩ := hO
      rw [HTK.out.2] at hown
      obtain ⟨a', cap', rfl⟩ := own_shape hown
      have HBX : Hid (Box wr w.heap.size 25 (.slice a1 n c1) (.slice a2 m c2) ∧ Box wr (w.heap.size + 1) 25 (.slice none 0 0) (.slice none 0 0) ∧ Box wr (w.heap.size + 2) 25 (.slice a' k cap') (.slice none 0 0)) := ⟨hB0, hB1, hB2⟩
      have HE : Hid (Each (Own1 (w.heap.size + 3) wr) us (S.secs.take k)) := hE
      have HBL : Hid (Below w.heap.size w wr) := hbel
      have HO : Hid (wr.ownsRow (w.heap.size + 3) 26 1 (.slice a' k cap') k us) := hown
      have HC : Hid (Calls Try.prog 41 #[.slice a 64 cap] wr.drew fun e w' => (∃ v', e = .returned v' ∧ w'.ownsRow wr.heap.size 5 1 v' 64 (l.map (Value.int .u8))) ∧ Below wr.heap.size wr w') := by
        have := copied_any n0 (.slice a 64 cap) l wr.drew ((HA.out.1.below HBL.out).below (Below.refl _ _).drew) (by have := HA.out.2; omega)
        rw [HA.out.2] at this
        exact this.mono fun e w' h => ⟨h.1, ((Below.refl _ wr).drew).trans h.2⟩
      have HS : Hid (∀ V, Box V w.heap.size 25 (.slice a1 n c1) (.slice a2 m c2) → Box V (w.heap.size + 2) 25 (.slice a' k cap') (.slice none 0 0) → Below w.heap.size w V → V.cell? ⟨w.heap.size, 0, none⟩ = some (.slice a1 n c1) ∧ V.cell? ⟨w.heap.size + 2, 0, none⟩ = some (.slice a' k cap') ∧ V.cell? ⟨b, o, none⟩ = some (.slice a 64 cap)) := fun V h0 h2 hb => ⟨h0.cell0, h2.cell0, by rw [hb.cell (cell_lt hc)]; exact hc⟩
      have hki : (k : Int) < (n : Int) := by omega
      have q0 := hB0.cell0
      clear hA hl hB0 hB1 hB2 hE hbel hown hl64 hc
      go_wp2
      refine AnyBut.begin (fun W => W.cell? ⟨w.heap.size, 0, none⟩ = some (.slice a1 n c1) ∧ W.cell? ⟨w.heap.size + 2, 0, none⟩ = some (.slice a' k cap') ∧ W.cell? ⟨b, o, none⟩ = some (.slice a 64 cap)) 11 (by kernel_rfl) ?_
      have hSS := HS.out wr.drew HBX.out.1 HBX.out.2.2 HBL.out.drew
      refine AnyBut.take (i := 0) (some 13) (v := ?_) rfl rfl (by kernel_rfl) rfl (by kernel_rfl) (by kernel_rfl) (by kernel_rfl) (fun _ _ _ h => h) (.inl ⟨by rfl, ?_⟩) hSS ?_
      rotate_left
      · (intro W hSW; (try dsimp only at hSW); go_simp; try with_reducible rfl)
      simp only [Act.put, List.setIfInBounds_toArray, List.set_cons_zero, List.set_cons_succ]
      refine AnyBut.take (i := 1) (some 14) (v := ?_) rfl rfl (by kernel_rfl) rfl (by kernel_rfl) (by kernel_rfl) (by kernel_rfl) (fun _ _ _ h => h) (.inl ⟨by rfl, ?_⟩) hSS ?_
      rotate_left
      · (intro W hSW; (try dsimp only at hSW); go_simp; try with_reducible rfl)
      simp only [Act.put, List.setIfInBounds_toArray, List.set_cons_zero, List.set_cons_succ]
      refine AnyBut.take (i := 2) (some 15) (v := ?_) rfl rfl (by kernel_rfl) rfl (by kernel_rfl) (by kernel_rfl) (by kernel_rfl) (fun _ _ _ h => h) (.inl ⟨by rfl, ?_⟩) hSS ?_
      rotate_left
      · (intro W hSW; (try dsimp only at hSW); go_simp; try with_reducible rfl)
      simp only [Act.put, List.setIfInBounds_toArray, List.set_cons_zero, List.set_cons_succ]
      refine AnyBut.take (i := 3) (some 16) (v := ?_) rfl rfl (by kernel_rfl) rfl (by kernel_rfl) (by kernel_rfl) (by kernel_rfl) (fun _ _ _ h => h) (.inl ⟨by rfl, ?_⟩) hSS ?_
      rotate_left
      · (intro W hSW; (try dsimp only at hSW); go_simp; try with_reducible rfl)
      simp only [Act.put, List.setIfInBounds_toArray, List.set_cons_zero, List.set_cons_succ]
      refine AnyBut.take (i := 4) (some 17) (v := ?_) rfl rfl (by kernel_rfl) rfl (by kernel_rfl) (by kernel_rfl) (by kernel_rfl) (fun _ _ _ h => h) (.inl ⟨by rfl, ?_⟩) hSS ?_
      rotate_left
      · (intro W hSW; (try dsimp only at hSW); go_simp; try with_reducible rfl)
      simp only [Act.put, List.setIfInBounds_toArray, List.set_cons_zero, List.set_cons_succ]
      refine AnyBut.take (i := 5) (some 18) (v := ?_) rfl rfl (by kernel_rfl) rfl (by kernel_rfl) (by kernel_rfl) (by kernel_rfl) (fun _ _ _ h => h) (.inl ⟨by rfl, ?_⟩) hSS ?_
      rotate_left
      · (intro W hSW; (try dsimp only at hSW); go_simp; try with_reducible rfl)
      simp only [Act.put, List.setIfInBounds_toArray, List.set_cons_zero, List.set_cons_succ]
      refine AnyBut.take (i := 6) (some 19) (v := ?_) rfl rfl (by kernel_rfl) rfl (by kernel_rfl) (by kernel_rfl) (by kernel_rfl) (fun _ _ _ h => h) (.inl ⟨by rfl, ?_⟩) hSS ?_
      rotate_left
      · (intro W hSW; (try dsimp only at hSW); go_simp; try with_reducible rfl)
      simp only [Act.put, List.setIfInBounds_toArray, List.set_cons_zero, List.set_cons_succ]
      refine AnyBut.step (i := 7) (by kernel_rfl) rfl (fun K hK => ?_)
      go_simp
      refine Calls.mono HC.out ?_
      rintro e w2 ⟨⟨u2, rfl, hu2⟩, hb2⟩
      obtain ⟨ux, uc, rfl⟩ := own_shape hu2
      have hx0 := HBX.out.1.below hb2 HBX.out.1.lt
      have hx2 := HBX.out.2.2.below hb2 HBX.out.2.2.lt
      have hbw2 := below_any HBL.out hb2
      dsimp only
      refine hK.out _ _ (HS.out w2 hx0 hx2 hbw2) ?_
      clear hK hSS
      have hSS := (HS.out w2 hx0 hx2 hbw2)
      refine AnyBut.step (i := 8) (by kernel_rfl) rfl (fun K hK => ?_)
      go_simp
      refine hK.out _ _ (HS.out (w2.alloc (.cells #[.slice ux 64 uc] 26)) (hx0.alloc _) (hx2.alloc _) (hbw2.alloc (by have := hb2.size; omega) _)) ?_
      clear hK hSS
      have hSS := (HS.out (w2.alloc (.cells #[.slice ux 64 uc] 26)) (hx0.alloc _) (hx2.alloc _) (hbw2.alloc (by have := hb2.size; omega) _))
      refine AnyBut.step (i := 9) (by kernel_rfl) rfl (fun K hK => ?_)
      refine step_append_lies _ (by rfl) _ _ _ (by rfl) (w.heap.size + 3) 26 i2 _ 1 24 Try.underlying22 hi2 hz20 hz21 hz22 rfl (by omega) _ k _ (by rfl) ((own_below HO.out hb2).alloc _) ⟨w2.heap.size, 0, none⟩ 1 1 [.slice ux 64 uc] (by rfl) (by rfl)
          (World.news_of_block (cs := #[.slice ux 64 uc]) (t := 26) (fr := (0, 0)) (heap_alloc_new w2 _)) (by simp [Value.oneCell']) (by omega) (by unfold maxLen; omega) (by omega) (by have := hb2.size; simp; omega) (w2.heap.size + 1) (by simp) ?_
      intro gg cap3 w3 hown3 hgrow3 hat hltg
      have hbx0 : Box w3 w.heap.size 25 (.slice a1 n c1) (.slice a2 m c2) := Box.grown (hx0.alloc _) hgrow3 (row_ne HO.out (by omega))
      have hbx1 : Box w3 (w.heap.size + 1) 25 (.slice none 0 0) (.slice none 0 0) := Box.grown ((HBX.out.2.1.below hb2 (by omega)).alloc _) hgrow3 (row_ne HO.out (by omega))
      have hbx2 : Box w3 (w.heap.size + 2) 25 (.slice a' k cap') (.slice none 0 0) := Box.grown (hx2.alloc _) hgrow3 (row_ne HO.out (by omega))
      have hcc4 := hbx2.cell0
      have hff4 := hbx2.frozen0
      have hbe3 : Below w.heap.size w w3 := ((HBL.out.trans (hb2.mono (by omega))).alloc (by have := hb2.size; omega) _).grown hgrow3 (by have := hb2.size; simp; omega) (fun j hj => by have := (HO.out.lt j hj).1; omega)
      refine hK.out _ _ (HS.out w3 hbx0 hbx2 hbe3) ?_
      clear hK hSS
      have hSS := (HS.out w3 hbx0 hbx2 hbe3)
      refine AnyBut.take (i := 10) (some 23) (v := ?_) rfl rfl (by kernel_rfl) rfl (by kernel_rfl) (by kernel_rfl) (by kernel_rfl) (fun _ _ _ h => h) (.inl ⟨by rfl, ?_⟩) hSS ?_
      rotate_left
      · (intro W hSW; (try dsimp only at hSW); go_simp; try with_reducible rfl)
      refine AnyBut.last (by kernel_rfl) (by kernel_rfl) rfl (fun K hK => ?_)
      go_simp
      refine hK.out _ _ ?_
      clear hK hSS
      have hS2 : Same (w.heap.size + 3) wr (w2.alloc (.cells #[.slice ux 64 uc] 26)) := Same.trans (.of_below hb2) hb2.size (same_alloc _ _ _)
      have hG3 : OwnLists (w.heap.size + 3) w3 (.slice (some ⟨gg, 0, none⟩) (k + 1) cap3) (S.secs.take (k + 1)) := by
        rw [HTK.out.1]
        refine OwnLists.push HTK.out.2 (HE.out.mono fun _ _ h => h.same hS2) (own_same HO.out hS2) ⟨?_, HA.out.1.2⟩ hgrow3 hown3
        rw [HA.out.2]
        exact (own_weaken hu2 (by omega)).alloc _
      have HS3 : Hid (w.heap.size + 3 ≤ w3.heap.size) := by
        have := hgrow3.size
        have := hb2.size
        show _ ≤ _
        simp at *
        omega
      have HBB : Hid (Box w3 w.heap.size 25 (.slice a1 n c1) (.slice a2 m c2) ∧ Box w3 (w.heap.size + 1) 25 (.slice none 0 0) (.slice none 0 0) ∧ Box w3 (w.heap.size + 2) 25 (.slice a' k cap') (.slice none 0 0) ∧ OwnLists (w.heap.size + 3) w3 (.slice (some ⟨gg, 0, none⟩) (k + 1) cap3) (S.secs.take (k + 1)) ∧ Below w.heap.size w w3) := ⟨hbx0, hbx1, hbx2, hG3, hbe3⟩
      clear hown3 hgrow3 hat hltg hG3 hS2 hbx0 hbx1 hbx2 hu2 hbe3 hx0 hx2 hbw2 hcc4 hff4 q0 hix
      go_wp2
      go_roundw
      case rel =>
        exact ⟨k + 1, _, by omega, by go_num, HBB.out.1.other (by omega), HBB.out.2.1.other (by omega), HBB.out.2.2.1.set0 _, HBB.out.2.2.2.1.same (same_set (by omega)), HBB.out.2.2.2.2.setCell (p := ⟨w.heap.size + 2, 0, none⟩) (Nat.le_add_right _ _) _, by simpa [World.setCell] using HS3.out⟩
      case measure => simp [intOf]; omega
    · obtain rfl : k = n := by omega
      have hTA : S.secs.take k = S.secs := by rw [HN.out]; simp
      rw [hTA] at hO
      clear hTA
      obtain ⟨us, hown, hE⟩ := hO
      rw [← HN.out] at hown
      obtain ⟨va, vc, rfl⟩ := own_shape hown
      have HLS : Hid (OwnLists (w.heap.size + 3) wr (.slice va k vc) S.secs) := ⟨us, by rw [← HN.out]; exact hown, hE⟩
      have hd0 := hB0.cell1
      have hd1 := hB0.cell0
      have HBX : Hid (Box wr w.heap.size 25 (.slice a1 k c1) (.slice a2 m c2) ∧ Box wr (w.heap.size + 1) 25 (.slice none 0 0) (.slice none 0 0) ∧ Box wr (w.heap.size + 2) 25 (.slice va k vc) (.slice none 0 0)) := ⟨hB0, hB1, hB2⟩
      have HBL : Hid (Below w.heap.size w wr) := hbel
      have HSZ : Hid (w.heap.size + 3 ≤ wr.heap.size) := hsz
      clear hown hE hB0 hB1 hB2 hbel
      go_wp2
      go_loopw [5] (fun i wr => ∃ (j : Nat) (v : Value), j ≤ m ∧ i = .int .i64 j ∧ Box wr w.heap.size 25 (.slice a1 k c1) (.slice a2 m c2) ∧ Box wr (w.heap.size + 1) 25 (.slice none 0 0) (.slice none 0 0) ∧ Box wr (w.heap.size + 2) 25 (.slice va k vc) v ∧
        OwnLists (w.heap.size + 3) wr (.slice va k vc) S.secs ∧ OwnWrites (w.heap.size + 3) wr 60 v (S.cache.take j) ∧ Below w.heap.size w wr ∧ w.heap.size + 3 ≤ wr.heap.size) (fun i _ => m - (intOf i).toNat)
      case atStart => exact ⟨0, _, Nat.zero_le _, rfl, HBX.out.1, HBX.out.2.1, HBX.out.2.2, HLS.out, ⟨[], World.ownsRow_nil _ _ _ _, trivial⟩, HBL.out, HSZ.out⟩
      case round =>
        clear HLS HBX HBL HSZ hd0 hd1 hsz
        obtain ⟨j, v, hj, rfl, hB0, hB1, hB2, hLS, hO, hbel, hsz⟩ := hrel
        by_cases hlt : j < m
        · obtain ⟨q, hq⟩ := get_lt (l := S.cache) (k := j) (by rw [← HM.out]; exact hlt)
          obtain ⟨b, o, a, cap, hix, _, hc0, hc1, hA, hr⟩ := HW.out.at Try.underlying23 hi6 hz61 j q hq
          have hl64 := H64.out.2 q (List.mem_of_getElem? hq)
          rw [hl64] at hc1 hA
          have HTK : Hid (S.cache.take (j + 1) = S.cache.take j ++ [q] ∧ (S.cache.take j).length = j) := ⟨take_snoc hq, by have := HM.out; rw [List.length_take]; omega⟩
          obtain ⟨s, l⟩ := q
          simp only at hc0 hc1 hA hr hl64
          have HA : Hid (Arg n0 w (.slice a 64 cap) l ∧ l.length = 64) := ⟨hA, hl64⟩
          obtain ⟨ps, hown, hE⟩ := hO
          rw [HTK.out.2] at hown
          obtain ⟨a', cap', rfl⟩ := own_shape hown
          have HBX : Hid (Box wr w.heap.size 25 (.slice a1 k c1) (.slice a2 m c2) ∧ Box wr (w.heap.size + 1) 25 (.slice none 0 0) (.slice none 0 0) ∧ Box wr (w.heap.size + 2) 25 (.slice va k vc) (.slice a' j cap')) := ⟨hB0, hB1, hB2⟩
          have HE : Hid (Each (OwnW1 (w.heap.size + 3) wr) ps (S.cache.take j)) := hE
          have HLS : Hid (OwnLists (w.heap.size + 3) wr (.slice va k vc) S.secs) := hLS
          have HBL : Hid (Below w.heap.size w wr) := hbel
          have HO : Hid (wr.ownsRow (w.heap.size + 3) 60 2 (.slice a' j cap') j (flat ps)) := hown
          have HRR : Hid (-9223372036854775808 ≤ s ∧ s ≤ 9223372036854775807) := hr
          have HC : Hid (Calls Try.prog 41 #[.slice a 64 cap] wr.drew fun e w' => (∃ v', e = .returned v' ∧ w'.ownsRow wr.heap.size 5 1 v' 64 (l.map (Value.int .u8))) ∧ Below wr.heap.size wr w') := by
            have := copied_any n0 (.slice a 64 cap) l wr.drew ((HA.out.1.below HBL.out).below (Below.refl _ _).drew) (by have := HA.out.2; omega)
            rw [HA.out.2] at this
            exact this.mono fun e w' h => ⟨h.1, ((Below.refl _ wr).drew).trans h.2⟩
          have HS : Hid (∀ V, Box V w.heap.size 25 (.slice a1 k c1) (.slice a2 m c2) → Box V (w.heap.size + 2) 25 (.slice va k vc) (.slice a' j cap') → Below w.heap.size w V → V.cell? ⟨w.heap.size, 1, none⟩ = some (.slice a2 m c2) ∧ V.cell? ⟨w.heap.size + 2, 1, none⟩ = some (.slice a' j cap') ∧ V.cell? ⟨b, o, none⟩ = some (.int .i64 s) ∧ V.cell? ⟨b, o + 1, none⟩ = some (.slice a 64 cap)) := fun V h0 h2 hb => ⟨h0.cell1, h2.cell1, by rw [hb.cell (cell_lt hc0)]; exact hc0, by rw [hb.cell (cell_lt hc1)]; exact hc1⟩
          have hki : (j : Int) < (m : Int) := by omega
          have q0 := hB0.cell1
          clear hA hq hB0 hB1 hB2 hE hbel hown hl64 hLS hc0 hc1 hr
          go_wp2
          refine AnyBut.begin (fun W => W.cell? ⟨w.heap.size, 1, none⟩ = some (.slice a2 m c2) ∧ W.cell? ⟨w.heap.size + 2, 1, none⟩ = some (.slice a' j cap') ∧ W.cell? ⟨b, o, none⟩ = some (.int .i64 s) ∧ W.cell? ⟨b, o + 1, none⟩ = some (.slice a 64 cap)) 19 (by kernel_rfl) ?_
          have hSS := HS.out wr.drew HBX.out.1 HBX.out.2.2 HBL.out.drew
          refine AnyBut.take (i := 0) (some 31) (v := ?_) rfl rfl (by kernel_rfl) rfl (by kernel_rfl) (by kernel_rfl) (by kernel_rfl) (fun _ _ _ h => h) (.inl ⟨by rfl, ?_⟩) hSS ?_
          rotate_left
          · (intro W hSW; (try dsimp only at hSW); go_simp; try with_reducible rfl)
          simp only [Act.put, List.setIfInBounds_toArray, List.set_cons_zero, List.set_cons_succ]
          refine AnyBut.take (i := 1) (some 32) (v := ?_) rfl rfl (by kernel_rfl) rfl (by kernel_rfl) (by kernel_rfl) (by kernel_rfl) (fun _ _ _ h => h) (.inl ⟨by rfl, ?_⟩) hSS ?_
          rotate_left
          · (intro W hSW; (try dsimp only at hSW); go_simp; try with_reducible rfl)
          simp only [Act.put, List.setIfInBounds_toArray, List.set_cons_zero, List.set_cons_succ]
          refine AnyBut.take (i := 2) (some 33) (v := ?_) rfl rfl (by kernel_rfl) rfl (by kernel_rfl) (by kernel_rfl) (by kernel_rfl) (fun _ _ _ h => h) (.inl ⟨by rfl, ?_⟩) hSS ?_
          rotate_left
          · (intro W hSW; (try dsimp only at hSW); go_simp; try with_reducible rfl)
          simp only [Act.put, List.setIfInBounds_toArray, List.set_cons_zero, List.set_cons_succ]
          refine AnyBut.take (i := 3) (some 34) (v := ?_) rfl rfl (by kernel_rfl) rfl (by kernel_rfl) (by kernel_rfl) (by kernel_rfl) (fun _ _ _ h => h) (.inl ⟨by rfl, ?_⟩) hSS ?_
          rotate_left
          · (intro W hSW; (try dsimp only at hSW); go_simp; try with_reducible rfl)
          simp only [Act.put, List.setIfInBounds_toArray, List.set_cons_zero, List.set_cons_succ]
          refine AnyBut.take (i := 4) (some 35) (v := ?_) rfl rfl (by kernel_rfl) rfl (by kernel_rfl) (by kernel_rfl) (by kernel_rfl) (fun _ _ _ h => h) (.inl ⟨by rfl, ?_⟩) hSS ?_
          rotate_left
          · (intro W hSW; (try dsimp only at hSW); go_simp; try with_reducible rfl)
          simp only [Act.put, List.setIfInBounds_toArray, List.set_cons_zero, List.set_cons_succ]
          refine AnyBut.take (i := 5) (some 36) (v := ?_) rfl rfl (by kernel_rfl) rfl (by kernel_rfl) (by kernel_rfl) (by kernel_rfl) (fun _ _ _ h => h) (.inl ⟨by rfl, ?_⟩) hSS ?_
          rotate_left
          · (intro W hSW; (try dsimp only at hSW); go_simp; try with_reducible rfl)
          simp only [Act.put, List.setIfInBounds_toArray, List.set_cons_zero, List.set_cons_succ]
          refine AnyBut.take (i := 6) (some 37) (v := ?_) rfl rfl (by kernel_rfl) rfl (by kernel_rfl) (by kernel_rfl) (by kernel_rfl) (fun _ _ _ h => h) (.inl ⟨by rfl, ?_⟩) hSS ?_
          rotate_left
          · (intro W hSW; (try dsimp only at hSW); go_simp; try with_reducible rfl)
          simp only [Act.put, List.setIfInBounds_toArray, List.set_cons_zero, List.set_cons_succ]
          refine AnyBut.take (i := 7) (some 38) (v := ?_) rfl rfl (by kernel_rfl) rfl (by kernel_rfl) (by kernel_rfl) (by kernel_rfl) (fun _ _ _ h => h) (.inl ⟨by rfl, ?_⟩) hSS ?_
          rotate_left
          · (intro W hSW; (try dsimp only at hSW); go_simp; try with_reducible rfl)
          simp only [Act.put, List.setIfInBounds_toArray, List.set_cons_zero, List.set_cons_succ]
          refine AnyBut.take (i := 8) (some 39) (v := ?_) rfl rfl (by kernel_rfl) rfl (by kernel_rfl) (by kernel_rfl) (by kernel_rfl) (fun _ _ _ h => h) (.inl ⟨by rfl, ?_⟩) hSS ?_
          rotate_left
          · (intro W hSW; (try dsimp only at hSW); go_simp; try with_reducible rfl)
          simp only [Act.put, List.setIfInBounds_toArray, List.set_cons_zero, List.set_cons_succ]
          refine AnyBut.take (i := 9) (some 40) (v := ?_) rfl rfl (by kernel_rfl) rfl (by kernel_rfl) (by kernel_rfl) (by kernel_rfl) (fun _ _ _ h => h) (.inl ⟨by rfl, ?_⟩) hSS ?_
          rotate_left
          · (intro W hSW; (try dsimp only at hSW); go_simp; try with_reducible rfl)
          simp only [Act.put, List.setIfInBounds_toArray, List.set_cons_zero, List.set_cons_succ]
          refine AnyBut.take (i := 10) (some 41) (v := ?_) rfl rfl (by kernel_rfl) rfl (by kernel_rfl) (by kernel_rfl) (by kernel_rfl) (fun _ _ _ h => h) (.inl ⟨by rfl, ?_⟩) hSS ?_
          rotate_left
          · (intro W hSW; (try dsimp only at hSW); go_simp; try with_reducible rfl)
          simp only [Act.put, List.setIfInBounds_toArray, List.set_cons_zero, List.set_cons_succ]
          refine AnyBut.take (i := 11) (some 42) (v := ?_) rfl rfl (by kernel_rfl) rfl (by kernel_rfl) (by kernel_rfl) (by kernel_rfl) (fun _ _ _ h => h) (.inl ⟨by rfl, ?_⟩) hSS ?_
          rotate_left
          · (intro W hSW; (try dsimp only at hSW); go_simp; try with_reducible rfl)
          simp only [Act.put, List.setIfInBounds_toArray, List.set_cons_zero, List.set_cons_succ]
          refine AnyBut.take (i := 12) (some 43) (v := ?_) rfl rfl (by kernel_rfl) rfl (by kernel_rfl) (by kernel_rfl) (by kernel_rfl) (fun _ _ _ h => h) (.inl ⟨by rfl, ?_⟩) hSS ?_
          rotate_left
          · (intro W hSW; (try dsimp only at hSW); go_simp; try with_reducible rfl)
          simp only [Act.put, List.setIfInBounds_toArray, List.set_cons_zero, List.set_cons_succ]
          refine AnyBut.take (i := 13) (some 44) (v := ?_) rfl rfl (by kernel_rfl) rfl (by kernel_rfl) (by kernel_rfl) (by kernel_rfl) (fun _ _ _ h => h) (.inl ⟨by rfl, ?_⟩) hSS ?_
          rotate_left
          · (intro W hSW; (try dsimp only at hSW); go_simp; try with_reducible rfl)
          simp only [Act.put, List.setIfInBounds_toArray, List.set_cons_zero, List.set_cons_succ]
          refine AnyBut.step (i := 14) (by kernel_rfl) rfl (fun K hK => ?_)
          go_simp
          refine Calls.mono HC.out ?_
          rintro e w2 ⟨⟨u2, rfl, hu2⟩, hb2⟩
          obtain ⟨ux, uc, rfl⟩ := own_shape hu2
          have hx0 := HBX.out.1.below hb2 HBX.out.1.lt
          have hx2 := HBX.out.2.2.below hb2 HBX.out.2.2.lt
          have hbw2 := below_any HBL.out hb2
          dsimp only
          refine hK.out _ _ (HS.out w2 hx0 hx2 hbw2) ?_
          clear hK hSS
          have hSS := (HS.out w2 hx0 hx2 hbw2)
          refine AnyBut.take (i := 15) (some 46) (v := ?_) rfl rfl (by kernel_rfl) rfl (by kernel_rfl) (by kernel_rfl) (by kernel_rfl) (fun _ _ _ h => h) (.inl ⟨by rfl, ?_⟩) hSS ?_
          rotate_left
          · (intro W hSW; (try dsimp only at hSW); go_simp; try with_reducible rfl)
          simp only [Act.put, List.setIfInBounds_toArray, List.set_cons_zero, List.set_cons_succ]
          refine AnyBut.step (i := 16) (by kernel_rfl) rfl (fun K hK => ?_)
          go_simp
          refine hK.out _ _ (HS.out (w2.alloc (.cells #[.int .i64 s, .slice ux 64 uc] 60)) (hx0.alloc _) (hx2.alloc _) (hbw2.alloc (by have := hb2.size; omega) _)) ?_
          clear hK hSS
          have hSS := (HS.out (w2.alloc (.cells #[.int .i64 s, .slice ux 64 uc] 60)) (hx0.alloc _) (hx2.alloc _) (hbw2.alloc (by have := hb2.size; omega) _))
          refine AnyBut.step (i := 17) (by kernel_rfl) rfl (fun K hK => ?_)
          refine step_append_lies _ (by rfl) _ _ _ (by rfl) (w.heap.size + 3) 60 i6 _ 2 32 Try.underlying23 hi6 hz60 hz61 hz62 rfl (by omega) _ j _ (by rfl) ((own_below HO.out hb2).alloc _) ⟨w2.heap.size, 0, none⟩ 1 1 [.int .i64 s, .slice ux 64 uc] (by rfl) (by rfl)
              (World.news_of_block (cs := #[.int .i64 s, .slice ux 64 uc]) (t := 60) (fr := (0, 0)) (heap_alloc_new w2 _)) (by simp [Value.oneCell']) (by omega) (by unfold maxLen; omega) (by omega) (by have := hb2.size; simp; omega) (w2.heap.size + 1) (by simp) ?_
          intro gg cap3 w3 hown3 hgrow3 hat hltg
          have hbx0 : Box w3 w.heap.size 25 (.slice a1 k c1) (.slice a2 m c2) := Box.grown (hx0.alloc _) hgrow3 (row_ne HO.out (by omega))
          have hbx1 : Box w3 (w.heap.size + 1) 25 (.slice none 0 0) (.slice none 0 0) := Box.grown ((HBX.out.2.1.below hb2 (by omega)).alloc _) hgrow3 (row_ne HO.out (by omega))
          have hbx2 : Box w3 (w.heap.size + 2) 25 (.slice va k vc) (.slice a' j cap') := Box.grown (hx2.alloc _) hgrow3 (row_ne HO.out (by omega))
          have hcc4 := hbx2.cell1
          have hff4 := hbx2.frozen1
          have hbe3 : Below w.heap.size w w3 := ((HBL.out.trans (hb2.mono (by omega))).alloc (by have := hb2.size; omega) _).grown hgrow3 (by have := hb2.size; simp; omega) (fun j hj => by have := (HO.out.lt j hj).1; omega)
          refine hK.out _ _ (HS.out w3 hbx0 hbx2 hbe3) ?_
          clear hK hSS
          have hSS := (HS.out w3 hbx0 hbx2 hbe3)
          refine AnyBut.take (i := 18) (some 49) (v := ?_) rfl rfl (by kernel_rfl) rfl (by kernel_rfl) (by kernel_rfl) (by kernel_rfl) (fun _ _ _ h => h) (.inl ⟨by rfl, ?_⟩) hSS ?_
          rotate_left
          · (intro W hSW; (try dsimp only at hSW); go_simp; try with_reducible rfl)
          refine AnyBut.last (by kernel_rfl) (by kernel_rfl) rfl (fun K hK => ?_)
          go_simp
          refine hK.out _ _ ?_
          clear hK hSS
          have hS2 : Same (w.heap.size + 3) wr (w2.alloc (.cells #[.int .i64 s, .slice ux 64 uc] 60)) := Same.trans (.of_below hb2) hb2.size (same_alloc _ _ _)
          have hG3 : OwnWrites (w.heap.size + 3) w3 60 (.slice (some ⟨gg, 0, none⟩) (j + 1) cap3) (S.cache.take (j + 1)) := by
            rw [HTK.out.1]
            refine OwnWrites.push (by decide) HTK.out.2 (HE.out.mono fun _ _ h => ⟨h.1, h.2.1.same hS2, h.2.2⟩) (own_same HO.out hS2) ⟨?_, HA.out.1.2⟩ HRR.out hgrow3 hown3
            rw [HA.out.2]
            exact (own_weaken hu2 (by omega)).alloc _
          have hL3 : OwnLists (w.heap.size + 3) w3 (.slice va k vc) S.secs := OwnLists.beside (HLS.out.same hS2) (by decide) (by decide) (own_same HO.out hS2) hgrow3
          have HS3 : Hid (w.heap.size + 3 ≤ w3.heap.size) := by
            have := hgrow3.size
            have := hb2.size
            show _ ≤ _
            simp at *
            omega
          have HBB : Hid (Box w3 w.heap.size 25 (.slice a1 k c1) (.slice a2 m c2) ∧ Box w3 (w.heap.size + 1) 25 (.slice none 0 0) (.slice none 0 0) ∧ Box w3 (w.heap.size + 2) 25 (.slice va k vc) (.slice a' j cap') ∧ OwnLists (w.heap.size + 3) w3 (.slice va k vc) S.secs ∧ OwnWrites (w.heap.size + 3) w3 60 (.slice (some ⟨gg, 0, none⟩) (j + 1) cap3) (S.cache.take (j + 1)) ∧ Below w.heap.size w w3) := ⟨hbx0, hbx1, hbx2, hL3, hG3, hbe3⟩
          clear hown3 hgrow3 hat hltg hG3 hL3 hS2 hbx0 hbx1 hbx2 hu2 hbe3 hx0 hx2 hbw2 hcc4 hff4 q0 hix
          go_wp2
          go_roundw
          case rel =>
            exact ⟨j + 1, _, by omega, by go_num, HBB.out.1.other (by omega), HBB.out.2.1.other (by omega), HBB.out.2.2.1.set1 _, HBB.out.2.2.2.1.same (same_set (by omega)), HBB.out.2.2.2.2.1.same (same_set (by omega)), HBB.out.2.2.2.2.2.setCell (p := ⟨w.heap.size + 2, 1, none⟩) (Nat.le_add_right _ _) _, by simpa [World.setCell] using HS3.out⟩
          case measure => simp [intOf]; omega
        · obtain rfl : j = m := by omega
          have hTA : S.cache.take j = S.cache := by rw [HM.out]; simp
          rw [hTA] at hO
          obtain ⟨ps, hown, hE⟩ := hO
          rw [← HM.out] at hown
          obtain ⟨a', cap', rfl⟩ := own_shape hown
          have HO : Hid (OwnLists (w.heap.size + 3) wr (.slice va k vc) S.secs ∧ OwnWrites (w.heap.size + 3) wr 60 (.slice a' j cap') S.cache) := ⟨hLS, ps, by rw [← HM.out]; exact hown, hE⟩
          have hc0 := hB2.cell0
          have hc1 := hB2.cell1
          have hd0 := hB1.cell0
          have hd1 := hB1.cell1
          have hf0 := hB1.frozen0
          have hf1 := hB1.frozen1
          have he1 := hB0.cell1
          have HBL : Hid (Below w.heap.size w wr) := hbel
          clear hown hE hLS hTA hbel hB0 hB1 hB2
          go_wp2
          refine bodyPost_ret (v := .agg #[.slice va k vc, .slice a' j cap']) (by simp [results, Try.results35, go_sem, *]) rfl ⟨_, rfl, ⟨_, _, rfl, ?_, ?_⟩, ?_⟩
          · exact OwnLists.weaken (base := w.heap.size + 3) ((HO.out.1.same (same_set (by omega))).same (same_set (by omega))) (by omega)
          · exact OwnWrites.weaken (base := w.heap.size + 3) ((HO.out.2.same (same_set (by omega))).same (same_set (by omega))) (by omega)
          · exact below_set2 HBL.out (Nat.le_succ _) _ _

end Go.Proofs.Ytkeaillmcfnnkaa
