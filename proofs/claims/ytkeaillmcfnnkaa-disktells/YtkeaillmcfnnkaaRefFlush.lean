/-
  What the document's Flush tells: the sectors with all writes, in memory of their own.
-/
import Derived.Test.YtkeaillmcfnnkaaRefCrash
namespace Go.Proofs.Ytkeaillmcfnnkaa
open Go.RowKit Go.Shelf

theorem made_bools (A : Nat) : madeCells #[Value.bool false] A = ((List.replicate A false).map Value.bool).toArray := by
  apply Array.ext'
  rw [toList_madeCells_one, List.map_replicate]
theorem make_bools (A : Nat) (h : A ≤ 281474976710656) (W : World) : (Instr.makeSlice 27 (.int .i64 (A : Int)) (.int .i64 (A : Int))).run Try.prog W = .ok (.slice (some ⟨W.heap.size, 0, none⟩) A A) (W.alloc (.cells ((List.replicate A false).map Value.bool).toArray 4)) := by
  have := run_make_row' (P := Try.prog) 27 4 (.bool false) 1 Try.underlying27 Try.info4 rfl .i64 .i64 A (by omega) (by omega) W
  rw [made_bools] at this
  exact this

set_option maxRecDepth 100000 in
set_option maxHeartbeats 4000000 in
theorem rflush_any (n0 : Nat) (v : Value) (S : St) (w : World) (h : Disk n0 w v S) (hf : S.cache.length ≤ 4398046511104) :
    Calls Try.prog 16 #[v] w fun e w' => ∃ v', e = .returned (.tuple #[v', .int .i64 (cerr S)]) ∧ OwnDisk w.heap.size w' 60 v' (stand S fun _ => true) ∧ Below w.heap.size w w' := by
  obtain ⟨a1, c1, a2, c2, rfl, hL, hW⟩ := h.shape
  obtain ⟨i4, hi4, _, hz4, _⟩ := info_parts Try.info4
  have HD : Hid (Disk n0 w (.agg #[.slice a1 S.secs.length c1, .slice a2 S.cache.length c2]) S) := h
  have hl2 := run_len Try.underlying23 a2 S.cache.length c2
  have hmk := make_bools S.cache.length (by omega)
  obtain ⟨n, hn⟩ : ∃ n, n = S.secs.length := ⟨_, rfl⟩
  obtain ⟨m, hm⟩ : ∃ n, n = S.cache.length := ⟨_, rfl⟩
  have HM : Hid (m = S.cache.length) := hm
  rw [← hn, ← hm] at HD ⊢
  rw [← hm] at hl2 hmk hf
  obtain ⟨row, hrow⟩ : ∃ r, r = ((List.replicate m false).map Value.bool).toArray := ⟨_, rfl⟩
  rw [← hrow] at hmk
  obtain ⟨PS, hPS⟩ : ∃ x, x = stand S fun _ => true := ⟨_, rfl⟩
  obtain ⟨ce, hce⟩ : ∃ x, x = cerr S := ⟨_, rfl⟩
  have HPS : Hid (PS = (stand S fun _ => true) ∧ ce = cerr S) := ⟨hPS, hce⟩
  rw [← hPS, ← hce]
  clear h hL hW hn hm hPS hce
  obtain ⟨W0, hW0⟩ : ∃ W, W = (w.alloc (.cells #[.slice a1 n c1, .slice a2 m c2] 25)).alloc (.cells #[.slice none 0 0, .slice none 0 0] 25) := ⟨_, rfl⟩
  obtain ⟨W, hW⟩ : ∃ W, W = W0.alloc (.cells row 4) := ⟨_, rfl⟩
  obtain ⟨B, hB⟩ : ∃ B, B = w.heap.size + 1 + 1 := ⟨_, rfl⟩
  have hsz0 : W0.heap.size = w.heap.size + 2 := by rw [hW0]; simp
  have hB0 : Box W0 w.heap.size 25 (.slice a1 n c1) (.slice a2 m c2) := by rw [hW0]; exact (Box.new w 25 _ _).alloc _
  have hR0 : Box W0 (w.heap.size + 1) 25 (.slice none 0 0) (.slice none 0 0) := by
    rw [hW0]
    have := Box.new (w.alloc (.cells #[.slice a1 n c1, .slice a2 m c2] 25)) 25 (.slice none 0 0) (.slice none 0 0)
    rwa [World.size_alloc] at this
  have hb0 : Below w.heap.size w W0 := by rw [hW0]; exact ((Below.refl _ w).alloc (Nat.le_refl _) _).alloc (by simp) _
  have HST : Hid (Box W w.heap.size 25 (.slice a1 n c1) (.slice a2 m c2) ∧ Box W (w.heap.size + 1) 25 (.slice none 0 0) (.slice none 0 0) ∧ W.ownsRow (w.heap.size + 2) 4 1 (.slice (some ⟨B, 0, none⟩) m m) m ((List.replicate m false).map Value.bool) ∧ Below w.heap.size w W) := by
    rw [hW]
    refine ⟨hB0.alloc _, hR0.alloc _, ?_, hb0.alloc (by omega) _⟩
    have := World.ownsRow_lit W0 (base := w.heap.size + 2) (e := 4) (size := 1) ((List.replicate m false).map Value.bool).toArray m (by omega) (by unfold maxLen; omega) (by simp)
    rw [hsz0] at this
    rw [hrow, hB]
    simpa using this
  have q0 := hB0.cell1
  rw [hW0] at q0
  rw [hW0] at hW
  have HB : Hid (B = w.heap.size + 2) := hB
  clear hB0 hR0 hb0 hrow hsz0
  go_enter Try.func16, Try.ntmps16
  go_wp2
  rw [← hW, ← hB]
  clear hW hB hW0 q0 hmk
  have hlk := run_len Try.underlying27 (some ⟨B, 0, none⟩) m m
  go_loopw [5] (fun i wr => ∃ (k : Nat) (bl : List Bool), k ≤ m ∧ i = .int .i64 k ∧ Hid (bl.length = m ∧ ∀ j, j < k → bl[j]? = some true) ∧ wr.ownsRow (w.heap.size + 2) 4 1 (.slice (some ⟨B, 0, none⟩) m m) m (bl.map Value.bool) ∧ Box wr w.heap.size 25 (.slice a1 n c1) (.slice a2 m c2) ∧ Box wr (w.heap.size + 1) 25 (.slice none 0 0) (.slice none 0 0) ∧ Below w.heap.size w wr) (fun i _ => m - (intOf i).toNat)
  case atStart => exact ⟨0, _, Nat.zero_le _, rfl, ⟨by simp, fun j hj => by omega⟩, HST.out.2.2.1, HST.out.1, HST.out.2.1, HST.out.2.2.2⟩
  case round =>
    clear HST
    obtain ⟨k, bl, hk, rfl, HL, hown, hBX, hBR, hbel⟩ := hrel
    by_cases hlt : k < m
    · have hix := run_index Try.underlying27 hi4 hz4 B 0 m m k hlt
      rw [Nat.mul_one, Nat.zero_add] at hix
      have hkl : k < bl.length := by rw [HL.out.1]; exact hlt
      have hc : wr.cell? ⟨B, k, none⟩ = some (.bool bl[k]) := by
        rw [hown.cellAt k (by omega)]
        simp [hkl]
      have hfr := hown.frozenAt k
      have hst := hown.stored k (.bool true)
      rw [← List.map_set] at hst
      have HN : Hid ((wr.setCell ⟨B, k, none⟩ (.bool true)).ownsRow (w.heap.size + 2) 4 1 (.slice (some ⟨B, 0, none⟩) m m) m ((bl.set k true).map Value.bool) ∧ Box (wr.setCell ⟨B, k, none⟩ (.bool true)) w.heap.size 25 (.slice a1 n c1) (.slice a2 m c2) ∧ Box (wr.setCell ⟨B, k, none⟩ (.bool true)) (w.heap.size + 1) 25 (.slice none 0 0) (.slice none 0 0) ∧ Below w.heap.size w (wr.setCell ⟨B, k, none⟩ (.bool true))) :=
        ⟨hst.1, hBX.other (by have := HB.out; omega), hBR.other (by have := HB.out; omega), hbel.setCell (p := ⟨B, k, none⟩) (by have := HB.out; simp; omega) _⟩
      have hki : (k : Int) < (m : Int) := by omega
      obtain ⟨bx, hbx⟩ : ∃ x, x = bl[k] := ⟨_, rfl⟩
      rw [← hbx] at hc
      have HKL : Hid (k < bl.length) := hkl
      clear hown hBX hBR hbel hst hbx hkl
      go_wp2
      go_roundw
      case rel =>
        refine ⟨k + 1, bl.set k true, by omega, by go_num, ⟨by rw [List.length_set]; exact HL.out.1, fun j hj => ?_⟩, HN.out.1, HN.out.2.1, HN.out.2.2.1, HN.out.2.2.2⟩
        by_cases e : j = k
        · subst e; simp [HKL.out]
        · rw [List.getElem?_set_ne (by omega)]
          exact HL.out.2 j (by omega)
      case measure => simp [intOf]; omega
    · obtain rfl : k = m := by omega
      have HC := rcrash_any n0 (w.heap.size + 2) (.agg #[.slice a1 n c1, .slice a2 k c2]) (.slice (some ⟨B, 0, none⟩) k k) S bl wr (HD.out.below hbel) (by have := Cells.own hown; unfold Bools; rw [HL.out.1]; exact this)
      rw [show stand S (kept bl) = PS by
        rw [HPS.out.1]
        exact stand_congr fun i hi => kept_get (HL.out.2 i (by rw [HM.out]; exact hi)), ← HPS.out.2] at HC
      have q0 := hBX.cell0
      have q1 := hBX.cell1
      have HBR : Hid (Box wr (w.heap.size + 1) 25 (.slice none 0 0) (.slice none 0 0) ∧ Below w.heap.size w wr) := ⟨hBR, hbel⟩
      clear hown hBX hBR hbel
      go_wp2_with fail
      refine HC.mono ?_
      rintro e w2 ⟨v2, rfl, ho2, hb2⟩
      clear HC q0 q1
      obtain ⟨x1, y1, x2, y2, rfl, _, _⟩ := ho2.disk.shape
      have hR2 := HBR.out.1.below hb2 HBR.out.1.lt
      have q2 := hR2.cell0
      have q3 := hR2.cell1
      have q4 := hR2.frozen0
      have q5 := hR2.frozen1
      have HO2 : Hid (OwnDisk wr.heap.size w2 60 (.agg #[.slice x1 PS.secs.length y1, .slice x2 PS.cache.length y2]) PS ∧ Below w.heap.size w w2 ∧ w.heap.size + 1 < wr.heap.size) := ⟨ho2, below_any HBR.out.2 hb2, HBR.out.1.lt⟩
      obtain ⟨sl, hsl⟩ : ∃ x, x = PS.secs.length := ⟨_, rfl⟩
      obtain ⟨cl, hcl⟩ : ∃ x, x = PS.cache.length := ⟨_, rfl⟩
      rw [← hsl, ← hcl] at HO2
      rw [← hsl, ← hcl]
      clear ho2 hb2 hR2 hsl hcl
      go_wp2
      refine bodyPost_ret (v := .tuple #[.agg #[.slice x1 sl y1, .slice x2 cl y2], .int .i64 ce]) (by simp [results, Try.results16, go_sem, *]) rfl ⟨_, rfl, ?_, ?_⟩
      · exact OwnDisk.weaken (base := wr.heap.size) ((HO2.out.1.same (same_set (by have := HO2.out.2.2; omega))).same (same_set (by have := HO2.out.2.2; omega))) (by have := HO2.out.2.2; omega)
      · exact below_set2 HO2.out.2.1 (Nat.le_succ _) _ _

end Go.Proofs.Ytkeaillmcfnnkaa
