/-
  What the library's slices.Grow and slices.Concat make at entries: all of them, one behind the other, in memory of their own.
-/
import Derived.Test.YtopcefhncildnaaGreatDoorU24
import Derived.Lib.AppendZeros
set_option maxRecDepth 100000
set_option maxHeartbeats 4000000
namespace Go.Proofs.YtopcefhncildnaaGreatDoor.D
open Go.RowKit
theorem Tryz.info42 : (Tryz.prog.info? 42).map (fun i => (i.zero, i.size, i.bytes)) = some (some (.slice none 0 0), 1, 24) := by kernel_rfl
theorem grow_any (n : Nat) (w : World) (hn : n ≤ 100000) :
   Calls Tryz.prog 296 #[.slice none 0 0, .int .i64 n] w fun e w' => (∃ v', e = .returned v' ∧ OwnE 49 w.heap.size w' v' []) ∧ Below w.heap.size w w' := by
 have hcap : ∀ W, (Builtin.cap_ #[42] 3 #[.slice none 0 0]).run Tryz.prog W = .ok (.int .i64 0) W := fun W => by simp [Builtin.cap_, run_underlying Tryz.underlying42, goInt]
 by_cases h0 : n = 0
 · subst h0
   go_enter Tryz.func296, Tryz.ntmps296
   go_wp2
   go_ret
   exact ⟨⟨_, rfl, OwnE.nil _ _ _⟩, Below.refl _ _⟩
 · obtain ⟨i0, hi, hz0, hz1, hz2⟩ := info_parts Tryz.info49
   have hr := Lib.run_append_nil_zeros (P := Tryz.prog) w 42 3 42 49 i0 _ .i64 .i64 Tryz.underlying42 Tryz.underlying3 hi hz0 n (by omega) (by omega) (by omega) (by rw [hz2]; omega)
   have hge := grownCap_ge w n 0 49
   have hle := grownCap_le_maxLen w n 0 49 (by unfold maxLen; omega)
   obtain ⟨c, hc⟩ := exa (grownCap w n 0 49)
   rw [← hc] at hr hge hle
   obtain ⟨W, hW⟩ := exa (w.drew.alloc (.cells (Builtin.zeroCells (Value.agg #[.string ⟨#[]⟩, .int .i64 0]).cells n ++ Builtin.zeroCells (Value.agg #[.string ⟨#[]⟩, .int .i64 0]).cells (c - n)) 49))
   rw [← hW] at hr
   have HW : Hid (OwnE 49 w.heap.size W (.slice (some ⟨w.heap.size, 0, none⟩) 0 c) [] ∧ Below w.heap.size w W) := by (
 refine ⟨⟨⟨by simp [evs], .inr ⟨w.heap.size, c, _, rfl, Nat.le_refl _, by rw [hW]; exact heap_alloc_new w.drew _, by simp, hle, ?_, by simp [evs]⟩⟩, fun _ h => by cases h⟩, by rw [hW]; exact ((Below.refl _ w).drew).alloc (Nat.le_refl _) _⟩
 simp [Builtin.zeroCells, Value.cells]
 omega)
   unfold maxLen at hle
   have hn0 : (0 : Int) < (n : Int) := by omega
   clear hc hW hge
   go_enter Tryz.func296, Tryz.ntmps296
   go_wp2_with (at_builtin; refine Lib.wpList_append_run _ (by rfl) _ _ 42 3 (by rfl) (.slice none 0 0) (.int .i64 (n : Int)) (by rfl) (by rfl) _ _ hr ?_)
   go_ret
   exact ⟨⟨_, rfl, HW.out.1⟩, HW.out.2⟩
theorem flat_take {ls : List (List En)} {k : Nat} {l : List En} (h : ls[k]? = some l) : (ls.take (k + 1)).flatten = (ls.take k).flatten ++ l := by rw [take_snoc h]; simp
theorem flat_le (ls : List (List En)) (k : Nat) : (ls.take k).flatten.length ≤ ls.flatten.length := by
 have : (ls.take k).flatten ++ (ls.drop k).flatten = ls.flatten := by rw [← List.flatten_append, List.take_append_drop]
 rw [← this, List.length_append]
 omega
theorem push_all {ops : Array Oper} {rest : List Oper} {o : Oper} {a : Act} {Q : Exit → Act → World → Prop} (hgd : o.guard = none) (s x : Operand) (ho : o.op = .call { callee := .builtin .append, args := #[s, x], argTypes := #[42, 42] })
   (base n1 : Nat) (v u : Value) (l m : List En) (w : World) (hs : a.eval s = v) (hO : OwnE 49 base w v l) (hx : a.eval x = u) (hA : ArgE n1 w u m) (hlen : l.length + m.length ≤ 100000) (hb : base ≤ w.heap.size)
   (h : ∀ v' w', OwnE 49 base w' v' (l ++ m) → w.grownBy w' v.ownBlock → wpList Tryz.prog ops Q rest (a.put o.dst v') w') : wpList Tryz.prog ops Q (o :: rest) a w := by
 obtain ⟨i3, hi3, hz0, hz1, hz2⟩ := info_parts Tryz.info49
 obtain ⟨hl, ⟨rfl, h0⟩ | ⟨ad, cap, rfl, hc, hm, _, hcell⟩⟩ := hA.1
 · obtain rfl := List.eq_nil_of_length_eq_zero h0
   refine wpList_append_own_none hgd s x 42 ho base 49 i3 2 Tryz.underlying42 hi3 v l.length (evs l) hs hO.1 hx ?_
   exact h v w (by simpa using hO) ⟨rfl, rfl, rfl, Nat.le_refl _, fun _ _ _ => rfl⟩
 · refine wpList_append_own _ hgd s x 42 ho base 49 i3 _ 2 24 Tryz.underlying42 hi3 hz0 hz1 hz2 rfl (by omega) v l.length (evs l) hs hO.1 ad m.length cap (evs m) hx (by rw [evs_length]) hcell (evs_one m) (by unfold maxLen; omega) (by omega) hb ?_
   intro v' w' h1 h2 _
   refine h v' w' ⟨?_, hO.2.append hA.2⟩ h2
   rw [List.length_append, evs_append]
   exact h1
theorem concat_any (n0 n1 : Nat) (v : Value) (vs : List Value) (ls : List (List En)) (w : World) (hC : Cells n0 w 1 v ls.length vs) (hE : Each (fun u l => ArgE n1 w u l) vs ls) (hs : ls.flatten.length ≤ 1000) (hl : ls.length ≤ 1000) :
   Calls Tryz.prog 243 #[v] w fun e w' => (∃ v', e = .returned v' ∧ OwnE 49 w.heap.size w' v' ls.flatten) ∧ Below w.heap.size w w' := by
 obtain ⟨i2, hi2, _, hz2, _⟩ := info_parts Tryz.info42
 obtain ⟨a, c, rfl, _, hm, _⟩ := hC.shape
 obtain ⟨n, hn⟩ := exa (ls.length)
 have hl1 := run_len Tryz.underlying387 a ls.length c
 rw [← hn] at hC hl1 hl ⊢
 have HC : Hid (∀ W, Below w.heap.size w W → ∀ k, k < n → ∃ b o x y z l, (∀ W, (Instr.indexAt 387 (.slice a n c) (.int .i64 k)).run Tryz.prog W = .ok (.pointer (some ⟨b, o, none⟩)) W) ∧ W.cell? ⟨b, o, none⟩ = some (.slice x y z) ∧ ls[k]? = some l ∧ y = l.length ∧ ArgE n1 W (.slice x y z) l) := fun W hW k hk => by (
 obtain ⟨l, hll⟩ := get_lt (l := ls) (k := k) (by rw [← hn]; exact hk)
 obtain ⟨u, hu, hA⟩ := hE.get hll
 obtain ⟨b, o, hix, _, hcc⟩ := (hC.keep (.of_below hW)).index (by omega) Tryz.underlying387 hi2 hz2 k hk
 obtain ⟨x, z, rfl, _⟩ := hA.shape
 exact ⟨b, o, x, _, z, l, hix, hcc 0 _ (by simpa using hu), hll, rfl, hA.below hW⟩)
 have HS : Hid (∀ k, (ls.take k).flatten.length ≤ 1000) := fun k => Nat.le_trans (flat_le ls k) hs
 have HN : Hid (n = ls.length) := hn
 clear hC hE hs hm hn
 go_enter Tryz.func243, Tryz.ntmps243
 go_wp2
 go_loopw [3, 11] (fun t i wr => ∃ k : Nat, k ≤ n ∧ i = .int .i64 k ∧ t = .int .i64 ((ls.take k).flatten.length : Nat) ∧ wr = w) (fun _ i _ => n - (intOf i).toNat)
 case atStart => exact ⟨0, Nat.zero_le _, rfl, rfl, rfl⟩
 case round => (
 obtain ⟨k, hk, rfl, rfl, hwr⟩ := hrel
 have hwr2 := hwr.symm
 subst hwr2
 clear hwr
 by_cases hlt : k < n
 · obtain ⟨b, o, x, y, z, l, hix, hc0, hll, hy, _⟩ := HC.out w (Below.refl _ _) k hlt
   have hki : (k : Int) < (n : Int) := by omega
   have hsum := HS.out (k + 1)
   have HF : Hid ((ls.take (k + 1)).flatten.length = (ls.take k).flatten.length + y) := by (
 show _ = _
 rw [flat_take hll, List.length_append, hy])
   rw [HF.out] at hsum
   obtain ⟨t, ht⟩ := exa ((ls.take k).flatten.length)
   rw [← ht] at hsum ⊢
   have HT : Hid (t = (ls.take k).flatten.length) := ht
   have hl2 := run_len Tryz.underlying42 x y z
   clear hll hy ht
   go_wp2
   go_roundw
   case rel => exact ⟨k + 1, by omega, by go_num, by rw [HF.out, ← HT.out]; go_num, by first | rfl | trivial⟩
   case measure => simp [intOf]; omega
 · obtain rfl : k = n := by omega
   have hkk := HS.out k
   obtain ⟨t, ht⟩ := exa ((ls.take k).flatten.length)
   rw [← ht] at hkk ⊢
   clear ht
   have HG := grow_any t w (by omega)
   go_wp2_with fail
   refine HG.mono ?_
   rintro e w1 ⟨⟨v1, rfl, hO1⟩, hb1⟩
   have H1 : Hid (OwnE 49 w.heap.size w1 v1 [] ∧ Below w.heap.size w w1) := ⟨hO1, hb1⟩
   clear HG hO1 hb1
   go_wp2
   go_loopw [6, 27] (fun u i wq => ∃ j : Nat, j ≤ k ∧ i = .int .i64 j ∧ OwnE 49 w.heap.size wq u (ls.take j).flatten ∧ Below w.heap.size w wq) (fun _ i _ => k - (intOf i).toNat)
   case atStart => exact ⟨0, Nat.zero_le _, rfl, by simpa using H1.out.1, H1.out.2⟩
   case round => (
 obtain ⟨j, hj, rfl, hO, hbel⟩ := hrel
 by_cases hlt2 : j < k
 · obtain ⟨b, o, x, y, z, l, hix, hc0, hll, hy, hA⟩ := HC.out wr hbel j hlt2
   have hji : (j : Int) < (k : Int) := by omega
   have HF : Hid ((ls.take (j + 1)).flatten = (ls.take j).flatten ++ l ∧ (ls.take j).flatten.length + l.length ≤ 1000) := ⟨flat_take hll, by have := HS.out (j + 1); rw [flat_take hll, List.length_append] at this; exact this⟩
   obtain ⟨a', c', rfl⟩ := hO.shape
   have HO : Hid (OwnE 49 w.heap.size wr (.slice a' (ls.take j).flatten.length c') (ls.take j).flatten ∧ Below w.heap.size w wr ∧ ArgE n1 wr (.slice x y z) l) := ⟨hO, hbel, hA⟩
   obtain ⟨t', ht'⟩ := exa ((ls.take j).flatten.length)
   rw [← ht'] at HO ⊢
   clear hll hy hA hO hbel ht'
   go_wp2_with (at_builtin; refine push_all (by rfl) _ _ (by rfl) w.heap.size n1 _ _ (ls.take j).flatten l wr (by rfl) HO.out.1 (by rfl) HO.out.2.2 (by have := HF.out.2; omega) HO.out.2.1.size ?_; intro v' w3 hO3 hg3)
   have HW : Hid (OwnE 49 w.heap.size w3 v' (ls.take (j + 1)).flatten ∧ Below w.heap.size w w3) := ⟨by rw [HF.out.1]; exact hO3, HO.out.2.1.grown hg3 HO.out.2.1.size (fun i hi => (HO.out.1.1.lt i hi).1)⟩
   clear hO3 hg3 hc0
   go_wp2
   go_roundw
   case rel => exact ⟨j + 1, by omega, by go_num, HW.out.1, HW.out.2⟩
   case measure => simp [intOf]; omega
 · obtain rfl : j = k := by omega
   rw [show ls.take j = ls by rw [HN.out]; simp] at hO
   go_wp2
   go_ret
   exact ⟨⟨_, rfl, hO⟩, hbel⟩))
end Go.Proofs.YtopcefhncildnaaGreatDoor.D
