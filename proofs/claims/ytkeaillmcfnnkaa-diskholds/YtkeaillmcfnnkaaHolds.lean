/-
  DiskHolds, proved: for every number, list of numbers, list of octets and list of truths (as great as the form reads them): the call returns true, and changes nothing that was in memory. No condition of its own.
-/
import Derived.Test.YtkeaillmcfnnkaaHoldsMath
import Derived.Test.YtkeaillmcfnnkaaOpen2
namespace Go.Proofs.Ytkeaillmcfnnkaa.diskHolds
open Go.ChangeShapes Go.WideShapes Go.ChangeAt Go.RowKit
set_option linter.unusedVariables false

theorem tmod_bounds (x : Int) (m : Nat) (hm : 0 < m) : -(m : Int) < x.tmod m ∧ x.tmod m < m := by
  constructor
  · have := Int.lt_tmod_of_pos x (show (0 : Int) < m by omega)
    omega
  · exact Int.tmod_lt_of_pos x (by omega)

theorem mod_pos (x : Int) (m : Nat) (hm : 0 < m) (hb : m ≤ 60) : ∃ r : Nat, r < m ∧ (wrap64 (x.tmod m + m)).tmod m = (r : Int) := by
  obtain ⟨h1, h2⟩ := tmod_bounds x m hm
  have e : wrap64 (x.tmod m + m) = x.tmod m + m := wrap64_in' _ (by omega)
  rw [e, Int.tmod_eq_emod_of_nonneg (by omega)]
  have h3 := Int.emod_nonneg (x.tmod m + m) (show (m : Int) ≠ 0 by omega)
  have h4 := Int.emod_lt_of_pos (x.tmod m + m) (show (0 : Int) < m by omega)
  exact ⟨((x.tmod m + m) % m).toNat, by omega, by omega⟩

theorem mod20 (x : Int) : ∃ N : Nat, 1 ≤ N ∧ N ≤ 20 ∧ wrap64 (1 + (wrap64 (x.tmod 20 + 20)).tmod 20) = (N : Int) := by
  obtain ⟨r, h1, h2⟩ := mod_pos x 20 (by omega) (by omega)
  have h3 : (wrap64 (x.tmod 20 + 20)).tmod 20 = (r : Int) := h2
  refine ⟨r + 1, by omega, by omega, ?_⟩
  rw [h3]
  have := wrap64_in' (1 + (r : Int)) (by omega)
  rw [this]
  omega
theorem make_rows (N : Nat) (h : N ≤ 20) (W : World) : (Instr.makeSlice 22 (.int .i64 (N : Int)) (.int .i64 (N : Int))).run Try.prog W = .ok (.slice (some ⟨W.heap.size, 0, none⟩) N N) (W.alloc (.cells (madeCells #[Value.slice none 0 0] N) 26)) :=
  run_make_row' (P := Try.prog) 22 26 (.slice none 0 0) 24 Try.underlying22 Try.info26 rfl .i64 .i64 N (by omega) (by omega) W

/-- What a round of puts keeps. -/
def Rel (N zl ll B : Nat) (w : World) (i : Value) (wr : World) : Prop :=
  ∃ (j : Nat) (ws : List (Int × List Int)) (v1 v2 : Value), j ≤ 60 ∧ j ≤ zl ∧ j ≤ ll ∧ i = .int .i64 j ∧ ws.length = j ∧ FineW N ws ∧ Box wr B 30 v1 v2 ∧ Off B (B + 1) wr (.agg #[v1, v2]) (SH N ws) ∧ Last (B + 1) wr N ws ∧ Below w.heap.size w wr ∧ B + 2 ≤ wr.heap.size

set_option maxRecDepth 100000 in
set_option maxHeartbeats 1000000 in
theorem walk (n0 : Int) (vz vd vk : Value) (zs : List Int) (ls : List (List Int)) (bl : List Bool) (w : World) (hz : Ints 0 w vz zs) (hd : Lists 0 w vd ls) (hk : Bools 0 w vk bl) :
    Calls Try.prog 5 #[.int .i64 n0, vz, vd, vk] w fun e w' => e = .returned (.bool true) ∧ Below w.heap.size w w' := by
  obtain ⟨za, zc, rfl, _, hzm, _⟩ := Cells.shape hz
  obtain ⟨da, dc, rfl, _, hdm, _⟩ := hd.shape
  obtain ⟨ka, kc, rfl, _⟩ := Cells.shape hk
  have HZ : Hid (Ints 0 w (.slice za zs.length zc) zs ∧ Lists 0 w (.slice da ls.length dc) ls ∧ Bools 0 w (.slice ka bl.length kc) bl) := ⟨hz, hd, hk⟩
  obtain ⟨N, hN1, hN2, hN⟩ := mod20 n0
  obtain ⟨zl, hzl⟩ : ∃ x, x = zs.length := ⟨_, rfl⟩
  obtain ⟨ll, hll⟩ : ∃ x, x = ls.length := ⟨_, rfl⟩
  obtain ⟨bn, hbn⟩ : ∃ x, x = bl.length := ⟨_, rfl⟩
  rw [← hzl, ← hll, ← hbn] at HZ ⊢
  rw [← hzl] at hzm
  rw [← hll] at hdm
  have HL : Hid (zl = zs.length ∧ ll = ls.length ∧ bn = bl.length) := ⟨hzl, hll, hbn⟩
  have hl1 := run_len Try.underlying56 za zl zc
  have hl2 := run_len Try.underlying22 da ll dc
  have h3 : (Try.prog.info? 3).map (fun i => (i.zero, i.size, i.bytes)) = some (some (.int .i64 0), 1, 8) := by kernel_rfl
  obtain ⟨i3, hi3, _, hz3, _⟩ := info_parts h3
  obtain ⟨i2, hi2, _, hz2, _⟩ := info_parts Try.info26
  clear hz hd hk hzl hll hbn h3
  unfold maxLen at hzm hdm
  go_enter Try.func5, Try.ntmps5
  go_wp2_with fail
  refine (alive_any w).mono ?_
  rintro e w1 ⟨rfl, hb1⟩
  go_wp2_with fail
  refine (new_any N w1 hN1 (by omega)).mono ?_
  rintro e w2 ⟨vg, rfl, hG, hb2⟩
  simp only [hN]
  clear hN
  have hD2 : Disk w1.heap.size w2 (.agg #[vg, .slice none 0 0]) (SH N []) := hG.disk
  obtain ⟨ga, gc, rfl, _⟩ := hG.lists.shape
  rw [List.length_replicate] at hD2 ⊢
  have hmk := make_rows N hN2
  obtain ⟨W3, hW3⟩ : ∃ W, W = (w2.alloc (.cells #[.slice ga N gc, .slice none 0 0] 30)).alloc (.cells (madeCells #[Value.slice none 0 0] N) 26) := ⟨_, rfl⟩
  have hbW3 : Below w2.heap.size w2 W3 := by rw [hW3]; exact ((Below.refl _ _).alloc (Nat.le_refl _) _).alloc (by simp) _
  have HST : Hid (Off w2.heap.size (w2.heap.size + 1) W3 (.agg #[.slice ga N gc, .slice none 0 0]) (SH N []) ∧ Last (w2.heap.size + 1) W3 N [] ∧ Box W3 w2.heap.size 30 (.slice ga N gc) (.slice none 0 0) ∧ Below w.heap.size w W3 ∧ w2.heap.size + 2 ≤ W3.heap.size ∧ w.heap.size ≤ w2.heap.size) := by
    refine ⟨⟨0, w2, hD2.weaken (Nat.zero_le _), fun k _ hk => hbW3.block k hk, .inr (Nat.le_refl _), .inr (by omega), hbW3.size⟩, ?_, by rw [hW3]; exact (Box.new _ _ _ _).alloc _, below_any (below_any hb1 hb2) hbW3, by rw [hW3]; simp, (below_any hb1 hb2).size⟩
    refine ⟨List.replicate N (.slice none 0 0), ?_, by simp, fun k hk => ⟨.slice none 0 0, by simp [hk], ⟨World.ownsRow_nil _ _ _ _, fun x hx => by cases hx⟩⟩⟩
    rw [hW3]
    have := heap_alloc_new (w2.alloc (.cells #[.slice ga N gc, .slice none 0 0] 30)) (.cells (madeCells #[Value.slice none 0 0] N) 26)
    rw [World.size_alloc] at this
    rw [this, ← toList_madeCells_one]
  clear hG hD2 hb1 hb2 hbW3
  go_wp2_with (go_at_call 20; refine (num_any _ _).mono ?_; rintro e w6 ⟨rfl, rfl⟩)
  rw [← hW3]
  clear hW3
  obtain ⟨B, hB⟩ : ∃ B, B = w2.heap.size := ⟨_, rfl⟩
  rw [← hB] at HST ⊢
  have HB : Hid (w.heap.size ≤ B) := HST.out.2.2.2.2.2
  clear hB
  go_loopw [12] (fun i wr => Rel N zl ll B w i wr) (fun i _ => 60 - (intOf i).toNat)
  case atStart => exact ⟨0, [], _, _, Nat.zero_le _, Nat.zero_le _, Nat.zero_le _, rfl, rfl, (fun q hq => by cases hq), HST.out.2.2.1, HST.out.1, HST.out.2.1, HST.out.2.2.2.1, HST.out.2.2.2.2.1⟩
  case round =>
    clear HST
    obtain ⟨j, ws, v1, v2, hj60, hjz, hjl, rfl, hwl, hfw, hBx, hOff, hLast, hbel, hsz⟩ := hrel
    obtain ⟨a1, c1, a2, c2, hvv, _, _⟩ := hOff.disk.shape
    rw [show (SH N ws).secs.length = N by simp [SH], show (SH N ws).cache.length = j from hwl] at hvv
    have e1 : v1 = .slice a1 N c1 := by have := congrArg (fun v => match v with | .agg xs => xs[0]? | _ => none) hvv; simpa using this
    have e2 : v2 = .slice a2 j c2 := by have := congrArg (fun v => match v with | .agg xs => xs[1]? | _ => none) hvv; simpa using this
    subst e1 e2
    have g0 := hBx.cell0
    have g1 := hBx.cell1
    have HR : Hid (ws.length = j ∧ FineW N ws ∧ Box wr B 30 (.slice a1 N c1) (.slice a2 j c2) ∧ Off B (B + 1) wr (.agg #[.slice a1 N c1, .slice a2 j c2]) (SH N ws) ∧ Last (B + 1) wr N ws ∧ Below w.heap.size w wr ∧ B + 2 ≤ wr.heap.size) := ⟨hwl, hfw, hBx, hOff, hLast, hbel, hsz⟩
    clear hwl hfw hBx hOff hLast hbel hsz hvv
    by_cases hin : j < zl ∧ j < ll ∧ j < 60
    · obtain ⟨h1, h2, h3⟩ := hin
      have q1 : (j : Int) < (zl : Int) := by omega
      have q2 : (j : Int) < (ll : Int) := by omega
      have q3 : (j : Int) < 60 := by omega
      obtain ⟨z, hzz⟩ := get_lt (l := zs) (k := j) (by rw [← HL.out.1]; exact h1)
      obtain ⟨zb, zo, zcap, hzv, _, _, _, hzcell⟩ := HZ.out.1.place (by omega) j (by rw [← HL.out.1]; exact h1)
      obtain ⟨rfl, hzq, rfl⟩ := Value.slice.inj hzv
      clear hzq
      have hzix : ∀ W, (Instr.indexAt 56 (.slice (some ⟨zb, zo, none⟩) zl zc) (.int .i64 (j : Int))).run Try.prog W = .ok (.pointer (some ⟨zb, zo + j, none⟩)) W := fun W => by
        have := run_index Try.underlying56 hi3 hz3 zb zo zl zc j h1 W
        rwa [Nat.mul_one] at this
      have hzc0 : w.cell? ⟨zb, zo + j, none⟩ = some (.int .i64 z) := by
        have := hzcell 0 (.int .i64 z) (by simp [hzz])
        simpa using this
      have hzc1 : wr.cell? ⟨zb, zo + j, none⟩ = some (.int .i64 z) := by rw [HR.out.2.2.2.2.2.1.cell (cell_lt hzc0)]; exact hzc0
      obtain ⟨k, hk, hS⟩ := mod_pos z N (by omega) (by omega)
      have hN0 : ¬ (N : Int) = 0 := by omega
      obtain ⟨l, hl⟩ := get_lt (l := ls) (k := j) (by rw [← HL.out.2.1]; exact h2)
      obtain ⟨db, dof, ra, rc, hdix, _, hdc0, hdA⟩ := HZ.out.2.1.at j l hl
      have hdc : wr.cell? ⟨db, dof, none⟩ = some (.slice ra l.length rc) := by rw [HR.out.2.2.2.2.2.1.cell (cell_lt hdc0)]; exact hdc0
      clear hdc0
      obtain ⟨bm, hbm⟩ : ∃ x, x = min l.length 64 := ⟨_, rfl⟩
      obtain ⟨vb, hbA, hcut⟩ := hdA.ahead bm (by omega)
      obtain ⟨rl, hrl⟩ : ∃ x, x = l.length := ⟨_, rfl⟩
      have hbl : (l.take bm).length = bm := by rw [List.length_take]; omega
      obtain ⟨ba, bc, rfl, _⟩ := hbA.shape
      rw [hbl] at hbA hcut
      rw [← hrl] at hdc hdA hcut hbm
      have hlr := run_len Try.underlying26 ra rl rc
      have hlb := run_len Try.underlying26 ba bm bc
      have hmin : ∀ (ts : Array TypeId) (t : TypeId) (W : World), (Builtin.min_ ts t #[.int .i64 (rl : Int), .int .i64 64]).run Try.prog W = .ok (.int .i64 (bm : Int)) W := fun ts t W => by
        rw [run_min2]
        congr 2
        split <;> omega
      obtain ⟨b, hb⟩ : ∃ b, b = l.take bm := ⟨_, rfl⟩
      rw [← hb] at hbA hbl
      have HBA : Hid (Arg 0 w (.slice ba bm bc) b ∧ b.length = bm ∧ bm ≤ 64 ∧ k < N) := ⟨hbA, hbl, by omega, hk⟩
      clear hzv hzcell hzc0 hzz hl hdA hbA hbl hb hbm hrl
      go_wp2
      go_quiet (fail)
      go_wp2_with fail
      clear hS hN0 hzix hdix hcut hmin hlr hzc1 hdc
      have hbd : Below wr.heap.size wr (wr.drewN nq) := below_drewN (Below.refl _ _) nq
      obtain ⟨hp1, hp2, hp3⟩ := sh_put hN1 hN2 HR.out.2.1 (by have := HR.out.1; omega) k HBA.out.2.2.2 b (by have := HBA.out.2; omega)
      have hput := put_any 0 0 _ _ (SH N ws) (k : Int) b (wr.drewN nq) (HR.out.2.2.2.1.disk.below hbd) (by have := HBA.out.2.2.2; omega) ((HBA.out.1.below HR.out.2.2.2.2.2.1).below hbd)
      rw [hp1, hp2] at hput
      have HFW : Hid (FineW N (ws ++ [((k : Int), pad b)])) := hp3
      refine hput.mono ?_
      rintro e w3 ⟨v3, rfl, hO3, hb3⟩
      have hD3 := hO3.disk
      obtain ⟨p1, r1, p2, r2, rfl, _, _⟩ := hD3.shape
      have hcl : (SH N (ws ++ [((k : Int), pad b)])).cache.length = j + 1 := by show (ws ++ [_]).length = _; rw [List.length_append, HR.out.1]; rfl
      rw [show (SH N (ws ++ [((k : Int), pad b)])).secs.length = N by simp [SH], hcl] at hD3 ⊢
      have hbw3 : Below wr.heap.size wr w3 := hbd.trans (hb3.mono (by simp))
      obtain ⟨W3, hW3⟩ : ∃ W, W = w3.alloc (.cells #[.slice p1 N r1, .slice p2 (j + 1) r2] 30) := ⟨_, rfl⟩
      have hbW3 : Below w3.heap.size w3 W3 := by rw [hW3]; exact (Below.refl _ _).alloc (Nat.le_refl _) _
      have hbr3 : Below wr.heap.size wr W3 := hbw3.trans (hbW3.mono hbw3.size)
      have hX3 : Box W3 w3.heap.size 30 (.slice p1 N r1) (.slice p2 (j + 1) r2) := by rw [hW3]; exact Box.new _ _ _ _
      have hB3 : Box W3 B 30 (.slice a1 N c1) (.slice a2 j c2) := HR.out.2.2.1.below hbr3 HR.out.2.2.1.lt
      have hL3 : Last (B + 1) W3 N ws := HR.out.2.2.2.2.1.below hbr3
      have hOf3 : Off B (B + 1) W3 (.agg #[.slice p1 N r1, .slice p2 (j + 1) r2]) (SH N (ws ++ [((k : Int), pad b)])) :=
        Off.new (n1 := wr.heap.size) (by have := hD3.below hbW3; simpa using this) HR.out.2.2.1.lt (by have := HR.out.2.2.2.2.2.2; omega)
      obtain ⟨W4, hW4⟩ : ∃ W, W = (W3.setCell ⟨B, 0, none⟩ (.slice p1 N r1)).setCell ⟨B, 1, none⟩ (.slice p2 (j + 1) r2) := ⟨_, rfl⟩
      have HLT : Hid (w.heap.size ≤ B ∧ B + 2 ≤ wr.heap.size ∧ wr.heap.size ≤ w3.heap.size ∧ W4.heap.size = w3.heap.size + 1) := ⟨HB.out, HR.out.2.2.2.2.2.2, hbw3.size, by rw [hW4, hW3]; simp [World.setCell]⟩
      have HW4 : Hid (Box W4 B 30 (.slice p1 N r1) (.slice p2 (j + 1) r2) ∧ Off B (B + 1) W4 (.agg #[.slice p1 N r1, .slice p2 (j + 1) r2]) (SH N (ws ++ [((k : Int), pad b)])) ∧ Last (B + 1) W4 N ws ∧ Below w.heap.size w W4 ∧ Arg 0 W4 (.slice ba bm bc) b) := by
        show _ ∧ _ ∧ _ ∧ _ ∧ _
        rw [hW4]
        have hbw : Below w.heap.size w ((W3.setCell ⟨B, 0, none⟩ (.slice p1 N r1)).setCell ⟨B, 1, none⟩ (.slice p2 (j + 1) r2)) := below_set2 (HR.out.2.2.2.2.2.1.trans (hbr3.mono HR.out.2.2.2.2.2.1.size)) HB.out _ _
        exact ⟨(hB3.set0 _).set1 _, (hOf3.set (.inl rfl)).set (.inl rfl), (hL3.boxed hB3).boxed (hB3.set0 _), hbw, HBA.out.1.below hbw⟩
      have s0 := hX3.cell0
      have s1 := hX3.cell1
      have s2 := hB3.cell0
      have s3 := hB3.cell1
      have s4 := hB3.frozen0
      have s5 := hB3.frozen1
      rw [hW3] at s0 s1 s2 s3 s4 s5
      have hcopy := copy_any 0 _ b W4 HW4.out.2.2.2.2 (by have := HBA.out.2; omega)
      rw [HBA.out.2.1] at hcopy
      obtain ⟨kz, hkz⟩ : ∃ x, x = 64 - bm := ⟨_, rfl⟩
      have HKZ : Hid (kz = 64 - bm) := hkz
      have hsub : IntKind.i64.wrap (64 - (bm : Int)) = (kz : Int) := wrap_to _ _ (by have := HBA.out.2; omega) (by have := HBA.out.2; omega)
      clear hput hO3 hb3 hD3 hbw3 hbW3 hbr3 hX3 hB3 hL3 hOf3 hbd hp1 hp2 hp3 hcl g0 g1 hkz
      go_wp2_with (go_at_call 20; refine (num_any _ _).mono ?_; rintro e w6 ⟨rfl, rfl⟩)
      rw [← hW3, ← hW4]
      refine hcopy.mono ?_
      rintro e w5 ⟨⟨v5, rfl, hO5⟩, hb5⟩
      clear hcopy s0 s1 s2 s3 s4 s5 hW3 hW4
      obtain ⟨v6, w6, hrun, hO6, hg6⟩ := append_zeros w5 v5 bm kz (b.map (Value.int .u8)) hO5 hb5.size (by have := HKZ.out; have := HBA.out.2; omega)
      obtain ⟨x6, c6, rfl⟩ := own_shape hO6
      have hb6 : Below W4.heap.size W4 w6 := hb5.grown hg6 hb5.size (fun i hi => (hO5.lt i hi).1)
      have hOw : Own1 0 w6 (.slice x6 (bm + kz) c6) (pad b) := by
        have e64 : bm + kz = 64 := by have := HKZ.out; have := HBA.out.2; omega
        refine ⟨?_, pad_oct HBA.out.1.2⟩
        rw [pad_length b (by have := HBA.out.2; omega), pad, List.map_append, List.map_replicate, HBA.out.2.1, ← HKZ.out]
        rw [e64] at hO6 ⊢
        exact own_weaken hO6 (Nat.zero_le _)
      have hL6 : Last (B + 1) w6 N ws := HW4.out.2.2.1.below hb6
      obtain ⟨cur, m1, m2, m3⟩ := id hL6
      have hst1 : w6.cell? ⟨B + 1, k, none⟩ = some (cur.getD k undef) := by
        rw [cell_of_row w6 (B + 1) k cur.toArray 26 (0, 0) m1]
        have : k < cur.length := by rw [m2]; exact HBA.out.2.2.2
        simp [this]
      have hst2 : w6.frozen? ⟨B + 1, k, none⟩ = false := by simp [World.frozen?, m1]
      have hix : ∀ W, (Instr.indexAt 22 (.slice (some ⟨B + 1, 0, none⟩) N N) (.int .i64 (k : Int))).run Try.prog W = .ok (.pointer (some ⟨B + 1, k, none⟩)) W := fun W => by
        have := run_index Try.underlying22 hi2 hz2 (B + 1) 0 N N k HBA.out.2.2.2 W
        rwa [Nat.mul_one, Nat.zero_add] at this
      obtain ⟨y, hy⟩ : ∃ y, y = cur.getD k undef := ⟨_, rfl⟩
      rw [← hy] at hst1
      have HF : Hid (Box (w6.setCell ⟨B + 1, k, none⟩ (.slice x6 (bm + kz) c6)) B 30 (.slice p1 N r1) (.slice p2 (j + 1) r2) ∧ Off B (B + 1) (w6.setCell ⟨B + 1, k, none⟩ (.slice x6 (bm + kz) c6)) (.agg #[.slice p1 N r1, .slice p2 (j + 1) r2]) (SH N (ws ++ [((k : Int), pad b)])) ∧
          Last (B + 1) (w6.setCell ⟨B + 1, k, none⟩ (.slice x6 (bm + kz) c6)) N (ws ++ [((k : Int), pad b)]) ∧ Below w.heap.size w (w6.setCell ⟨B + 1, k, none⟩ (.slice x6 (bm + kz) c6)) ∧ B + 2 ≤ (w6.setCell ⟨B + 1, k, none⟩ (.slice x6 (bm + kz) c6)).heap.size) := by
        refine ⟨(HW4.out.1.below hb6 HW4.out.1.lt).other (by omega), (HW4.out.2.1.below hb6).set (.inr rfl), hL6.put HBA.out.2.2.2 hOw, (below_any HW4.out.2.2.2.1 hb6).setCell (p := ⟨B + 1, k, none⟩) (Nat.le_trans HB.out (Nat.le_succ _)) _, ?_⟩
        have := hb6.size
        have := HLT.out
        simp [World.setCell]
        omega
      have HWN : Hid ((ws ++ [((k : Int), pad b)]).length = j + 1) := by show _ = _; rw [List.length_append, HR.out.1]; rfl
      clear hO5 hb5 hO6 hg6 hb6 hOw hL6 m1 m2 m3 hy
      go_wp2_with (at_builtin; refine Lib.wpList_append_run _ rfl _ _ 26 3 rfl _ _ rfl rfl _ _ hrun ?_)
      go_roundw
      case rel => exact ⟨j + 1, _, _, _, by omega, by omega, by omega, by go_num, HWN.out, HFW.out, HF.out⟩
      case measure => simp [intOf]; omega
    · have hcase : (¬ (j : Int) < (zl : Int)) ∨ ((j : Int) < (zl : Int) ∧ ¬ (j : Int) < (ll : Int)) ∨ ((j : Int) < (zl : Int) ∧ (j : Int) < (ll : Int) ∧ ¬ (j : Int) < 60) := by omega
      have HW60 : Hid (ws.length ≤ 4096) := by show _ ≤ _; have := HR.out.1; omega
      clear hin hjz hjl hj60
      obtain ⟨t1, t2, t3, t4⟩ := stand_rows hN1 hN2 HR.out.2.1 HW60.out
      have hfl := flush_any 0 _ (SH N ws) wr HR.out.2.2.2.1.disk
      rw [t1, t2] at hfl
      obtain ⟨u1, u2⟩ := stand_again t3 (kept bl)
      have HT : Hid (chk ⟨full (SH N ws), []⟩ = true ∧ (full (SH N ws)).length = N ∧ cerr ⟨full (SH N ws), []⟩ = 0 ∧ stand ⟨full (SH N ws), []⟩ (kept bl) = ⟨full (SH N ws), []⟩) := ⟨t3, t4, u1, u2⟩
      clear t1 t2 t3 t4 u1 u2 hl1 hl2
      rcases hcase with f1 | ⟨f1, f2⟩ | ⟨f1, f2, f3⟩
      all_goals
        have hl1 := run_len Try.underlying56 za zl zc
        have hl2 := run_len Try.underlying22 da ll dc
        go_wp2_with fail
        refine hfl.mono ?_
        rintro e w3 ⟨v3, rfl, hD3, hb3⟩
        clear f1 hl1 hl2 hfl g0 g1
        obtain ⟨p1, r1, p2, r2, rfl, _, _⟩ := hD3.shape
        rw [show (⟨full (SH N ws), []⟩ : St).secs.length = N from HT.out.2.1, show (⟨full (SH N ws), []⟩ : St).cache.length = 0 from rfl] at hD3 ⊢
        obtain ⟨W3, hW3⟩ : ∃ W, W = w3.alloc (.cells #[.slice p1 N r1, .slice p2 0 r2] 30) := ⟨_, rfl⟩
        have hbW3 : Below w3.heap.size w3 W3 := by rw [hW3]; exact (Below.refl _ _).alloc (Nat.le_refl _) _
        have hbr3 : Below wr.heap.size wr W3 := below_any hb3 hbW3
        have HW3 : Hid (Disk wr.heap.size W3 (.agg #[.slice p1 N r1, .slice p2 0 r2]) ⟨full (SH N ws), []⟩ ∧ Box W3 w3.heap.size 30 (.slice p1 N r1) (.slice p2 0 r2) ∧ Below wr.heap.size wr W3) := ⟨hD3.below hbW3, by rw [hW3]; exact Box.new _ _ _ _, hbr3⟩
        have s0 := HW3.out.2.1.cell0
        have s1 := HW3.out.2.1.cell1
        rw [hW3] at s0 s1
        have hcr := crash_any wr.heap.size 0 _ _ ⟨full (SH N ws), []⟩ bl W3 HW3.out.1 (HZ.out.2.2.below (below_any HR.out.2.2.2.2.2.1 hbr3))
        rw [HT.out.2.2.1, HT.out.2.2.2] at hcr
        clear hD3 hb3 hbW3 hbr3
        go_wp2_with fail
        rw [← hW3]
        refine hcr.mono ?_
        rintro e w4 ⟨v4, rfl, hD4, hb4⟩
        clear hcr s0 s1 hW3
        obtain ⟨m1, n1, m2, n2, rfl, _, _⟩ := hD4.shape
        rw [show (⟨full (SH N ws), []⟩ : St).secs.length = N from HT.out.2.1, show (⟨full (SH N ws), []⟩ : St).cache.length = 0 from rfl] at hD4 ⊢
        obtain ⟨W4, hW4⟩ : ∃ W, W = w4.alloc (.cells #[.slice m1 N n1, .slice m2 0 n2] 30) := ⟨_, rfl⟩
        have hbW4 : Below w4.heap.size w4 W4 := by rw [hW4]; exact (Below.refl _ _).alloc (Nat.le_refl _) _
        have hb34 : Below W3.heap.size W3 W4 := below_any hb4 hbW4
        have hbr4 : Below wr.heap.size wr W4 := below_any HW3.out.2.2 hb34
        have HW4 : Hid (Disk 0 W4 (.agg #[.slice m1 N n1, .slice m2 0 n2]) ⟨full (SH N ws), []⟩ ∧ Box W4 w4.heap.size 30 (.slice m1 N n1) (.slice m2 0 n2) ∧ Disk 0 W4 (.agg #[.slice p1 N r1, .slice p2 0 r2]) ⟨full (SH N ws), []⟩ ∧ Box W4 w3.heap.size 30 (.slice p1 N r1) (.slice p2 0 r2) ∧
            Disk 0 W4 (.agg #[.slice a1 N c1, .slice a2 j c2]) (SH N ws) ∧ Box W4 B 30 (.slice a1 N c1) (.slice a2 j c2) ∧ Last (B + 1) W4 N ws ∧ Below w.heap.size w W4) :=
          ⟨(hD4.below hbW4).weaken (Nat.zero_le _), by rw [hW4]; exact Box.new _ _ _ _, (HW3.out.1.below hb34).weaken (Nat.zero_le _), HW3.out.2.1.below hb34 HW3.out.2.1.lt, HR.out.2.2.2.1.disk.below hbr4, HR.out.2.2.1.below hbr4 HR.out.2.2.1.lt, HR.out.2.2.2.2.1.below hbr4, below_any HR.out.2.2.2.2.2.1 hbr4⟩
        clear hD4 hb4 hbW4 hb34 hbr4
        go_wp2_with (go_at_call 20; refine (num_any _ _).mono ?_; rintro e w6 ⟨rfl, rfl⟩)
        rw [← hW4]
        clear hW4
        go_loopw [21] (fun i x => ∃ k : Nat, k ≤ N ∧ i = .int .i64 k ∧ Below W4.heap.size W4 x) (fun i _ => N - (intOf i).toNat)
        case atStart => exact ⟨0, Nat.zero_le _, rfl, Below.refl _ _⟩
        case round =>
          obtain ⟨k, hkN, rfl, hbx⟩ := hrel
          by_cases hlt : k < N
          · obtain ⟨q1, q2⟩ := sh_get hN1 hN2 HR.out.2.1 HW60.out k hlt
            have hrow := full_row (SH N ws) (sh_chk hN1 hN2 HR.out.2.1 HW60.out) k (by simpa [SH] using hlt)
            rw [show lw (SH N ws).cache k ((SH N ws).secs.getD k []) = lw ws k zeros by show lw ws k ((List.replicate N zeros).getD k []) = _; simp [List.getD, hlt]] at hrow
            obtain ⟨q3, q4⟩ := get_again HT.out.1 k _ hrow
            have h64 : (lw ws k zeros).length = 64 := by
              rcases lw_cases k ws (fun q hq => (HR.out.2.1 q hq).2) with h | ⟨l, hl, h⟩
              · rw [h]; rfl
              · rw [h]; exact hl
            obtain ⟨R, hR⟩ : ∃ R, R = lw ws k zeros := ⟨_, rfl⟩
            rw [← hR] at q2 q4 h64
            have hB1 := HW4.out.2.2.2.2.2.1.below hbx HW4.out.2.2.2.2.2.1.lt
            have hget1 := get_any 0 _ (SH N ws) (k : Int) wr (HW4.out.2.2.2.2.1.below hbx) (by omega)
            rw [q1, q2, h64] at hget1
            have g0 := hB1.cell0
            have g1 := hB1.cell1
            have HGT : Hid (gerr ⟨full (SH N ws), []⟩ (k : Int) 1 = 0 ∧ gout ⟨full (SH N ws), []⟩ (k : Int) 1 = R ∧ R.length = 64 ∧ Oct R ∧ R = lw ws k zeros) := by
              refine ⟨q3, q4, h64, ?_, hR⟩
              have := oct_window (oct_stand (S := SH N ws) HW4.out.2.2.2.2.1.oct (fun _ => true)) k 1
              rw [show fill (List.replicate (SH N ws).secs.length zeros) (items (SH N ws) fun _ => true) = full (SH N ws) from rfl, window_one _ _ _ hrow, ← hR] at this
              exact this
            have HBX : Hid (Below W4.heap.size W4 wr) := hbx
            clear hB1 q1 q2 q3 q4 hrow h64 hR hbx
            have hki : (k : Int) < (N : Int) := by omega
            go_wp2_with fail
            refine hget1.mono ?_
            rintro e w5 ⟨va, rfl, hOa, hb5⟩
            clear g0 g1 hget1
            obtain ⟨xa, ca, rfl⟩ := own_shape hOa
            have hb45 : Below W4.heap.size W4 w5 := below_any HBX.out hb5
            have hB2 := HW4.out.2.2.2.1.below hb45 HW4.out.2.2.2.1.lt
            have g0 := hB2.cell0
            have g1 := hB2.cell1
            have hget2 := get_any 0 _ ⟨full (SH N ws), []⟩ (k : Int) w5 (HW4.out.2.2.1.below hb45) (by omega)
            rw [HGT.out.1, HGT.out.2.1, HGT.out.2.2.1] at hget2
            have HA1 : Hid (Arg 0 w5 (.slice xa 64 ca) R ∧ Below W4.heap.size W4 w5) := ⟨Arg.weaken (.own (n0 := wr.heap.size) (by rw [HGT.out.2.2.1]; exact hOa) HGT.out.2.2.2.1) (Nat.zero_le _), hb45⟩
            clear hOa hb5 hb45 hB2
            go_wp2_with fail
            refine hget2.mono ?_
            rintro e w6 ⟨vb, rfl, hOb, hb6⟩
            clear g0 g1 hget2
            obtain ⟨xb, cb, rfl⟩ := own_shape hOb
            have hb46 : Below W4.heap.size W4 w6 := below_any HA1.out.2 hb6
            have hB3 := HW4.out.2.1.below hb46 HW4.out.2.1.lt
            have g0 := hB3.cell0
            have g1 := hB3.cell1
            have hget3 := get_any 0 _ ⟨full (SH N ws), []⟩ (k : Int) w6 (HW4.out.1.below hb46) (by omega)
            rw [HGT.out.1, HGT.out.2.1, HGT.out.2.2.1] at hget3
            have HA2 : Hid (Arg 0 w6 (.slice xa 64 ca) R ∧ Arg 0 w6 (.slice xb 64 cb) R ∧ Below W4.heap.size W4 w6) := ⟨HA1.out.1.below hb6, Arg.weaken (.own (n0 := w5.heap.size) (by rw [HGT.out.2.2.1]; exact hOb) HGT.out.2.2.2.1) (Nat.zero_le _), hb46⟩
            clear hOb hb6 hb46 hB3
            go_wp2_with fail
            refine hget3.mono ?_
            rintro e w7 ⟨vc, rfl, hOc, hb7⟩
            clear g0 g1 hget3
            obtain ⟨xc, cc, rfl⟩ := own_shape hOc
            have hb47 : Below W4.heap.size W4 w7 := below_any HA2.out.2.2 hb7
            have HA3 : Hid (Arg 0 w7 (.slice xa 64 ca) R ∧ Arg 0 w7 (.slice xb 64 cb) R ∧ Arg 0 w7 (.slice xc 64 cc) R ∧ Below W4.heap.size W4 w7) := ⟨HA2.out.1.below hb7, HA2.out.2.1.below hb7, Arg.weaken (.own (n0 := w6.heap.size) (by rw [HGT.out.2.2.1]; exact hOc) HGT.out.2.2.2.1) (Nat.zero_le _), hb47⟩
            obtain ⟨cur, y1, y2, y3⟩ := HW4.out.2.2.2.2.2.2.1.below hb47
            obtain ⟨u, hu, hou⟩ := y3 k hlt
            have hcl : w7.cell? ⟨B + 1, k, none⟩ = some u := by
              rw [cell_of_row w7 (B + 1) k cur.toArray 26 (0, 0) y1]; simpa using hu
            have hix : ∀ W, (Instr.indexAt 22 (.slice (some ⟨B + 1, 0, none⟩) N N) (.int .i64 (k : Int))).run Try.prog W = .ok (.pointer (some ⟨B + 1, k, none⟩)) W := fun W => by
              have := run_index Try.underlying22 hi2 hz2 (B + 1) 0 N N k hlt W
              rwa [Nat.mul_one, Nat.zero_add] at this
            have hmk := make64
            clear hOc hb7 hb47 y1 y2 y3 hu
            rcases lw_cases k ws (fun q hq => (HR.out.2.1 q hq).2) with hc | ⟨l, hl, hc⟩
            · rw [hc []] at hou
              obtain ⟨ux, uc, rfl⟩ := own_shape hou.1
              have hRz : R = zeros := by rw [HGT.out.2.2.2.2, hc]
              have hlu := run_len Try.underlying26 ux 0 uc
              obtain ⟨W8, hW8⟩ : ∃ W, W = w7.alloc (.cells zeros64.toArray 5) := ⟨_, rfl⟩
              have hb8 : Below w7.heap.size w7 W8 := by rw [hW8]; exact (Below.refl _ _).alloc (Nat.le_refl _) _
              have hz8 : Arg 0 W8 (.slice (some ⟨w7.heap.size, 0, none⟩) 64 64) R := by
                rw [hRz, hW8]
                exact .own (own_weaken (alloc64_own w7 w7.heap.size (Nat.le_refl _)) (Nat.zero_le _)) zeros_oct
              have HA8 : Hid (Arg 0 W8 (.slice xa 64 ca) R ∧ Arg 0 W8 (.slice xb 64 cb) R ∧ Arg 0 W8 (.slice xc 64 cc) R ∧ Arg 0 W8 (.slice (some ⟨w7.heap.size, 0, none⟩) 64 64) R ∧ Below W4.heap.size W4 W8) := ⟨HA3.out.1.below hb8, HA3.out.2.1.below hb8, HA3.out.2.2.1.below hb8, hz8, below_any HA3.out.2.2.2 hb8⟩
              clear hou hRz hb8 hz8 hc
              go_wp2_with (go_at_call 20; refine (num_any _ _).mono ?_; rintro e w9 ⟨rfl, rfl⟩)
              rw [← hW8]
              clear hW8 hmk hcl hix hlu
              refine (same_any 0 0 _ _ R R W8 HA8.out.1 HA8.out.2.2.2.1).mono ?_
              rw [show decide (R = R) = true by simp]
              rintro e w9 ⟨rfl, x1, rfl⟩
              have hd1 := below_drewN (Below.refl W8.heap.size W8) x1
              go_wp2_with fail
              refine (same_any 0 0 _ _ R R _ (HA8.out.2.1.below hd1) (HA8.out.2.2.2.1.below hd1)).mono ?_
              rw [show decide (R = R) = true by simp]
              rintro e w9 ⟨rfl, x2, rfl⟩
              have hd2 := below_drewN (Below.refl W8.heap.size W8) (x1 + x2)
              clear hd1
              go_wp2_with fail
              refine (same_any 0 0 _ _ R R _ (HA8.out.2.2.1.below hd2) (HA8.out.2.2.2.1.below hd2)).mono ?_
              rw [show decide (R = R) = true by simp]
              rintro e w9 ⟨rfl, x3, rfl⟩
              clear hd2
              go_wp2
              go_roundw
              case rel => exact ⟨k + 1, by omega, by go_num, below_drewN HA8.out.2.2.2.2 _⟩
              case measure => simp [intOf]; omega
            · rw [hc []] at hou
              obtain ⟨ux, uc, rfl⟩ := own_shape hou.1
              have hRl : R = l := by rw [HGT.out.2.2.2.2, hc]
              have hu64 : Arg 0 w7 (.slice ux 64 uc) R := by
                rw [hRl]
                have := hou.arg
                rwa [hl] at this
              rw [hl] at hcl
              have hlu := run_len Try.underlying26 ux 64 uc
              have HA8 : Hid (Arg 0 w7 (.slice xa 64 ca) R ∧ Arg 0 w7 (.slice xb 64 cb) R ∧ Arg 0 w7 (.slice xc 64 cc) R ∧ Arg 0 w7 (.slice ux 64 uc) R ∧ Below W4.heap.size W4 w7) := ⟨HA3.out.1, HA3.out.2.1, HA3.out.2.2.1, hu64, HA3.out.2.2.2⟩
              clear hou hRl hu64 hc hl
              go_wp2_with (go_at_call 20; refine (num_any _ _).mono ?_; rintro e w9 ⟨rfl, rfl⟩)
              clear hmk hcl hix hlu
              refine (same_any 0 0 _ _ R R w7 HA8.out.1 HA8.out.2.2.2.1).mono ?_
              rw [show decide (R = R) = true by simp]
              rintro e w9 ⟨rfl, x1, rfl⟩
              have hd1 := below_drewN (Below.refl w7.heap.size w7) x1
              go_wp2_with fail
              refine (same_any 0 0 _ _ R R _ (HA8.out.2.1.below hd1) (HA8.out.2.2.2.1.below hd1)).mono ?_
              rw [show decide (R = R) = true by simp]
              rintro e w9 ⟨rfl, x2, rfl⟩
              have hd2 := below_drewN (Below.refl w7.heap.size w7) (x1 + x2)
              clear hd1
              go_wp2_with fail
              refine (same_any 0 0 _ _ R R _ (HA8.out.2.2.1.below hd2) (HA8.out.2.2.2.1.below hd2)).mono ?_
              rw [show decide (R = R) = true by simp]
              rintro e w9 ⟨rfl, x3, rfl⟩
              clear hd2
              go_wp2
              go_roundw
              case rel => exact ⟨k + 1, by omega, by go_num, below_drewN HA8.out.2.2.2.2 _⟩
              case measure => simp [intOf]; omega
          · obtain rfl : k = N := by omega
            have HBX : Hid (Below w.heap.size w wr) := below_any HW4.out.2.2.2.2.2.2.2 hbx
            clear hbx
            go_wp2
            go_ret
            exact ⟨rfl, HBX.out⟩

set_option maxRecDepth 100000 in
theorem lifted (os : Os) (started : os.Started) (H : Type) (enc : TypeId × Value → H) :
    ReturnsInHanded {} Try.checked os 5 .any (Rows.diskHoldsSpec.pre6 enc Try.prog Try.f5 Rows.diskHoldsRow.domain false) (Rows.diskHoldsSpec.post enc Try.prog Try.f5 false true false false) := by
  refine returnsInHanded_of_change_sized (C := Try.checked) own started (by kernel_rfl) Try.func5
    (ChangeSpec.witness6 (enc := enc) (C := Try.checked) false ⟨#[], #[.int .i64 0, .slice none 0 0, .slice none 0 0, .slice none 0 0], []⟩ 8 (by kernel_rfl) (by kernel_rfl) (by kernel_rfl) (by kernel_rfl)) ?_
  intro W base args ds gs before hval0 hW hcnd hsz0 _
  have hval : ∀ (j : Nat) t v, Try.f5.params[j]? = some t → args[j]? = some v → Value.okWide Try.prog W .any base t v := hval0
  have hW' := hW
  obtain ⟨p, q, hA0, hV, rfl, hfz, hnd⟩ := hW
  have hA : DataW.TrodAll enc Try.prog W 0 (fun _ => true) true Try.f5.params.toList args.toList ds p := hA0
  have hsz : (DataW.weightsEach Try.prog (Try.f5.params.toList ++ Rows.diskHoldsSpec.plain.varTypes Try.prog) (ds ++ gs)).all (· ≤ reachBytes) = true := hsz0
  clear hsz0
  rw [Try.params5] at hA hval hsz
  obtain ⟨v0, vs0, d0, ds0, p0, q0, hargs, rfl, rfl, h0, r0⟩ := trodAll_cons hA
  obtain ⟨v1, vs1, d1, ds1, p1, q1, rfl, rfl, rfl, h1, r1⟩ := trodAll_cons r0
  obtain ⟨v2, vs2, d2, ds2, p2, q2, rfl, rfl, rfl, h2, r2⟩ := trodAll_cons r1
  obtain ⟨v3, vs3, d3, ds3, p3, q3, rfl, rfl, rfl, h3, r3⟩ := trodAll_cons r2
  obtain ⟨rfl, rfl, rfl⟩ := trodAll_nil r3
  obtain rfl : args = #[v0, v1, v2, v3] := by cases args; simp_all
  obtain ⟨rfl, rfl⟩ := trodVars_none hV
  obtain ⟨a0, rfl, rfl, rfl, w0⟩ := open_int Try.underlying3 (hval 0 3 v0 rfl rfl) h0
  have b0 := bounds_i64 w0
  obtain ⟨a1, len1, cap1, rfl⟩ := okWide_slice Try.underlying56 (hval 1 56 v1 rfl rfl)
  have k1 := h1
  have lt1 : ∀ x ∈ p1, x.block < W.heap.size := by obtain ⟨m, hm⟩ := k1; exact DataW.trod_lt m _ _ _ hm
  obtain ⟨l1, A1⟩ := ints_of h1
  obtain ⟨a2, len2, cap2, rfl⟩ := okWide_slice Try.underlying22 (hval 2 22 v2 rfl rfl)
  have k2 := h2
  have lt2 : ∀ x ∈ p2, x.block < W.heap.size := by obtain ⟨m, hm⟩ := k2; exact DataW.trod_lt m _ _ _ hm
  obtain ⟨l2, A2⟩ := lists_of h2
  obtain ⟨a3, len3, cap3, rfl⟩ := okWide_slice Try.underlying27 (hval 3 27 v3 rfl rfl)
  have k3 := h3
  have lt3 : ∀ x ∈ p3, x.block < W.heap.size := by obtain ⟨m, hm⟩ := k3; exact DataW.trod_lt m _ _ _ hm
  obtain ⟨l3, A3⟩ := bools_of h3
  clear hA0 hval0
  refine (walk a0 _ _ _ l1 l2 l3 W A1 A2 A3).mono fun e W' ⟨he, bel⟩ => ?_
  subst he
  exact ⟨_, rfl, _, _, _, [], _, [], hW', trodAll_mk1 (shut_bool Try.underlying4 _), (trodAll_cons_mk (shut_int Try.underlying3 w0) (trodAll_cons_mk (Below.trod laidOut (by kernel_rfl) (of_decide_eq_true (by kernel_rfl)) k1 bel lt1) (trodAll_cons_mk (Below.trod laidOut (by kernel_rfl) (of_decide_eq_true (by kernel_rfl)) k2 bel lt2) (trodAll_cons_mk (Below.trod laidOut (by kernel_rfl) (of_decide_eq_true (by kernel_rfl)) k3 bel lt3) trodAll_mk0)))), rfl, bel.frame _, fun h => by cases h⟩

theorem over : Rows.diskHoldsRow.holds Try.pinned (OpenSpec.ofChange Rows.diskHoldsSpec) :=
  OpenClaim.holds_of_wide 5 Try.f5 rfl rfl rfl rfl rfl rfl rfl ⟨rfl, rfl, rfl, rfl, rfl⟩ rfl rfl rfl rfl rfl (by kernel_rfl) Try.func5 (by kernel_rfl)
    (of_decide_eq_true (by kernel_rfl)) (by unfold Func.isWrapper; first | (rw [if_pos (by decide +kernel)]; kernel_rfl) | (rw [if_neg (by decide +kernel)]; exact ⟨rfl, rfl⟩))
    (fun os started H enc _ => lifted os started H enc)

end Go.Proofs.Ytkeaillmcfnnkaa.diskHolds

namespace Go.Proofs.Ytkeaillmcfnnkaa
theorem diskHolds_holds : Rows.DiskHoldsSaid := diskHolds.over
#print axioms diskHolds_holds
end Go.Proofs.Ytkeaillmcfnnkaa
