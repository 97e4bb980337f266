/-
  slices.Delete at nodes in a row of their own.
-/
import Derived.Test.YtopcefhncildnaaGreatDoorU27
import Derived.Test.YtopcefhncildnaaGreatDoorU33
import Derived.Lib.SliceRun
import Derived.Laws.Slices
set_option maxRecDepth 100000
set_option maxHeartbeats 4000000
namespace Go.Proofs.YtopcefhncildnaaGreatDoor
open Go.RowKit
theorem elemN : Tryz.prog.underlying 27 = some (.slice (Tryz.prog.elem 27)) := by kernel_rfl
theorem elemN_is : Tryz.prog.elem 27 = 47 := by kernel_rfl
theorem sizeN (W : World) : (sizeOf (Tryz.prog.elem 27)).run Tryz.prog W = .ok 6 W := by
 obtain ⟨i0, hi, hz0, hz1, hz2⟩ := info_parts Tryz.info47
 rw [elemN_is]
 simp [sizeOf, typeInfo, hi, hz1]
def zN : List Value := [.int .i64 0, .bool false, .int .i64 0, .slice none 0 0, .int .i64 0, .slice none 0 0]
theorem zeroN_cells : (Builtin.zeroCells (Value.agg #[.int .i64 0, .bool false, .int .i64 0, .slice none 0 0, .int .i64 0, .slice none 0 0]).cells 1).toList = zN := by
 kernel_rfl
theorem run_clearN (w : World) (ty : TypeId) (g o c : Nat) (hc : ∀ j, j < 6 → (w.cell? ⟨g, o + j, none⟩).isSome = true) (hf : ∀ j, j < 6 → w.frozen? ⟨g, o + j, none⟩ = false) :
   (Builtin.clear_ #[27] ty #[.slice (some ⟨g, o, none⟩) 1 c]).run Tryz.prog w = .ok (.tuple #[]) (w.setCells g o zN) := by
 have hst := run_storeCells_cells (P := Tryz.prog) g o zN 0 w (by simpa [zN] using hc) (by simpa [zN] using hf) (by simp [zN, Value.oneCell'])
 simp only [Nat.add_zero] at hst
 simp [Builtin.clear_, run_underlying Tryz.underlying27, zeroN_cells, hst]
theorem flat_erase {α : Type} {size : Nat} : ∀ {vss : List (List α)} {i : Nat}, (∀ us ∈ vss, us.length = size) → i < vss.length → (vss.eraseIdx i).flatten = vss.flatten.take (i * size) ++ vss.flatten.drop ((i + 1) * size)
 | x :: r, 0, hl, _ => by (
 have hx := hl x (List.mem_cons_self ..)
 simp only [List.eraseIdx_cons_zero, List.flatten_cons, Nat.zero_mul, List.take_zero, List.nil_append, Nat.zero_add, Nat.one_mul]
 rw [← hx, List.drop_left])
 | x :: r, i + 1, hl, hi => by (
 have hx := hl x (List.mem_cons_self ..)
 have ih := flat_erase (fun us h => hl us (List.mem_cons_of_mem _ h)) (show i < r.length by simpa using hi)
 simp only [List.eraseIdx_cons_succ, List.flatten_cons, ih]
 rw [show (i + 1) * size = x.length + i * size by rw [hx, Nat.add_mul]; omega, show (i + 1 + 1) * size = x.length + (i + 1) * size by rw [hx, Nat.add_mul (i + 1)]; omega, List.take_length_add_append, List.drop_length_add_append, List.append_assoc, show x.length + i * size = (i + 1) * size by rw [hx, Nat.add_mul]; omega])
theorem delete_any (n : Nat) (v : Value) (l : List Nd) (hl : l.length ≤ 100000) (i : Nat) (p : Nd) (hp : l[i]? = some p) (w : World) (hO : ndsN.owns n w [v] l) :
   Calls Tryz.prog 274 #[v, .int .i64 i, .int .i64 (i + 1 : Nat)] w fun e w' => (∃ v', e = .returned v' ∧ ndsN.owns n w' [v'] (l.eraseIdx i)) ∧ w.grownBy w' v.ownBlock := by
 obtain ⟨i0, hi0, hz0, hz1, hz2⟩ := info_parts Tryz.info47
 obtain ⟨v', vss, hv, hC, hE⟩ := hO
 obtain rfl : v = v' := by simpa using hv
 have hi : i < l.length := (List.getElem?_eq_some_iff.1 hp).1
 replace hC : w.ownsRow n 47 6 v l.length vss.flatten := hC
 have hC0 := hC
 obtain ⟨hxl, ⟨_, h0⟩ | ⟨g, cap, cur, rfl, hng, hh, hlc, hcm, hcs, htk⟩⟩ := hC
 · omega
 have hB : Box w g 47 cur := hh
 have hsz : ∀ us ∈ vss, us.length = 6 := fun us h => by
   obtain ⟨q, _, hq⟩ := hE.left h
   exact ndN.length (ndN.olies hq)
 have hvl : vss.length = l.length := hE.length
 obtain ⟨L, hL⟩ := exa (l.length)
 have hone : ∀ u ∈ vss.flatten, u.oneCell' = true := fun u hu => by (
 obtain ⟨us, hus, hu⟩ := List.mem_flatten.1 hu
 obtain ⟨q, _, hq⟩ := hE.left hus
 exact ndN.ones (ndN.olies hq) u hu)
 rw [← hL] at hxl hlc htk hi hl hvl hC0 ⊢
 obtain ⟨news, hnews⟩ := exa (vss.flatten.drop ((i + 1) * 6))
 have hnl : news.length = (L - (i + 1)) * 6 := by rw [hnews, List.length_drop, hxl, Nat.sub_mul]
 have hcell : ∀ j, j < L * 6 → w.cell? ⟨g, j, none⟩ = vss.flatten[j]? := fun j hj => hC0.cellAt j hj
 have hsome : ∀ j, j < L * 6 → (w.cell? ⟨g, j, none⟩).isSome = true := fun j hj => by rw [hcell j hj, List.getElem?_eq_getElem (by omega)]; rfl
 have hfr : ∀ j, w.frozen? ⟨g, j, none⟩ = false := fun j => hC0.frozenAt j
 obtain ⟨A, hA, hsrc⟩ : ∃ A : Addr, (if cap = i + 1 then some (⟨g, 0, none⟩ : Addr) else some ⟨g, (i + 1) * 6, none⟩) = some A ∧ Hid (∀ t u, news[t]? = some u → w.drew.cell? (A.add t) = some u) := by (
 by_cases h : cap = i + 1
 · refine ⟨⟨g, 0, none⟩, by simp [h], fun t u hu => ?_⟩
   have h0 : news.length = 0 := by rw [hnl]; omega
   rw [List.length_eq_zero_iff.1 h0] at hu
   simp at hu
 · refine ⟨⟨g, (i + 1) * 6, none⟩, by simp [h], fun t u hu => ?_⟩
   rw [add_plain]
   show w.cell? _ = _
   have ht : t < news.length := (List.getElem?_eq_some_iff.1 hu).1
   rw [hcell _ (by omega), ← hu, hnews, List.getElem?_drop])
 have hs1 : ∀ W, (Instr.slice 27 (.slice (some ⟨g, 0, none⟩) L cap) (some (.int .i64 i)) (some (.int .i64 ((i : Int) + 1))) (some (.int .i64 L))).run Tryz.prog W = .ok (sliced (some ⟨g, 0, none⟩) i (i + 1) L 6) W := fun W => by
   rw [run_slice_lhm W 27 (some ⟨g, 0, none⟩) L cap elemN .i64 .i64 .i64 _ _ _ (by omega) (by omega) (by omega) (by omega), sizeN]
   simp [Result.andThen]
 have hs2 : ∀ W, (Instr.slice 27 (.slice (some ⟨g, 0, none⟩) L cap) none (some (.int .i64 i)) none).run Tryz.prog W = .ok (.slice (some ⟨g, 0, none⟩) i cap) W := fun W => by
   rw [run_slice_h W 27 (some ⟨g, 0, none⟩) L cap elemN .i64 _ (by omega) (by omega), sizeN]
   simp [Result.andThen, sliced, Addr.add]
 have hs3 : ∀ W, (Instr.slice 27 (.slice (some ⟨g, 0, none⟩) L cap) (some (.int .i64 ((i : Int) + 1))) none none).run Tryz.prog W = .ok (.slice (some A) (L - (i + 1)) (cap - (i + 1))) W := fun W => by (
 rw [run_slice_l W 27 (some ⟨g, 0, none⟩) L cap elemN .i64 _ (by omega) (by omega), sizeN]
 simp only [Result.andThen, sliced]
 rw [show ((i : Int) + 1).toNat = i + 1 by omega, ← hA]
 simp [add_plain])
 have hs4 : ∀ W, (Instr.slice 27 (.slice (some ⟨g, 0, none⟩) (i + (L - (i + 1))) cap) (some (.int .i64 ((i + (L - (i + 1)) : Nat) : Int))) (some (.int .i64 L)) none).run Tryz.prog W = .ok (.slice (some ⟨g, (L - 1) * 6, none⟩) 1 (cap - (L - 1))) W := fun W => by (
 rw [run_slice_lh W 27 (some ⟨g, 0, none⟩) _ cap elemN .i64 .i64 _ _ (by omega) (by omega) (by omega), sizeN]
 simp only [Result.andThen, sliced, Int.toNat_natCast]
 rw [if_neg (by omega), show i + (L - (i + 1)) = L - 1 by omega, show L - (L - 1) = 1 by omega]
 simp [add_plain])
 have hl1 := run_len Tryz.underlying27 (some ⟨g, 0, none⟩) L cap
 have hl2 := run_len Tryz.underlying27 (some ⟨g, 0, none⟩) (i + (L - (i + 1))) cap
 obtain ⟨W1, hW1⟩ := exa (w.drew.setCells g (0 + i * 6) news)
 have hB1 : Box W1 g 47 (F.sets cur (i * 6) news) := by rw [hW1, Nat.zero_add]; exact Box.setCells news (i * 6) hB.drew
 have hcs1 : (F.sets cur (i * 6) news).size = cap * 6 := by rw [F.sets_size, hcs]
 have hcl : ∀ ty, (Builtin.clear_ #[27] ty #[.slice (some ⟨g, (L - 1) * 6, none⟩) 1 (cap - (L - 1))]).run Tryz.prog W1 = .ok (.tuple #[]) (W1.setCells g ((L - 1) * 6) zN) := fun ty =>
   run_clearN W1 ty g _ _ (fun j hj => by rw [hB1.cell _ (Array.getElem?_eq_getElem (by rw [hcs1]; omega))]; rfl) (fun j _ => hB1.frozen _)
 have hB2 : Box (W1.setCells g ((L - 1) * 6) zN) g 47 (F.sets (F.sets cur (i * 6) news) ((L - 1) * 6) zN) := Box.setCells zN _ hB1
 have hg2 : w.grownBy (W1.setCells g ((L - 1) * 6) zN) (some g) := ((grown_below ((Below.refl _ w).drew) _).trans (by rw [hW1]; exact F.grown_setCells _ _ _)).trans (F.grown_setCells _ _ _)
 have hfin : ndsN.owns n (W1.setCells g ((L - 1) * 6) zN) [.slice (some ⟨g, 0, none⟩) (L - 1) cap] (l.eraseIdx i) := by (
 have hle : (l.eraseIdx i).length = L - 1 := by rw [List.length_eraseIdx, if_pos (by omega), hL]
 refine ⟨_, vss.eraseIdx i, rfl, ?_, ?_⟩
 · rw [hle]
   show (W1.setCells g ((L - 1) * 6) zN).ownsRow n 47 6 _ _ _
   refine ⟨?_, .inr ⟨g, cap, _, rfl, hng, hB2, by omega, hcm, by rw [F.sets_size, hcs1], ?_⟩⟩
   · rw [flat_erase hsz (by omega), List.length_append, List.length_take, List.length_drop, hxl]
     rw [Nat.min_eq_left (Nat.mul_le_mul_right _ (by omega))]
     omega
   · apply List.ext_getElem?
     intro j
     rw [List.getElem?_take]
     rw [flat_erase hsz (by omega)]
     by_cases hj : j < (L - 1) * 6
     · rw [if_pos hj, Array.getElem?_toList, F.sets_get _ _ _ _ (by rw [hcs1]; simp [zN]; omega), if_neg (by omega), F.sets_get _ _ _ _ (by rw [hcs, hnl]; omega)]
       have hcur : ∀ t, t < L * 6 → cur[t]? = vss.flatten[t]? := fun t ht => by
         rw [← htk, List.getElem?_take, if_pos ht, Array.getElem?_toList]
       by_cases hj2 : j < i * 6
       · rw [if_neg (by omega), hcur j (by omega), List.getElem?_append_left (by rw [List.length_take, hxl]; omega), List.getElem?_take, if_pos hj2]
       · rw [if_pos (by omega), List.getElem?_append_right (by rw [List.length_take, hxl]; omega), List.length_take, hxl, Nat.min_eq_left (by omega), hnews]
     · rw [if_neg hj]
       symm
       rw [List.getElem?_eq_none]
       rw [List.length_append, List.length_take, List.length_drop, hxl]
       omega
 · have hcl : Clear w (some g) ndN.ids := by
     have := Clear.own (ids := ndN.ids) hC0 (by decide)
     exact this
   exact (hE.mono fun _ _ h => ndN.ogrown h hg2 hcl).erase i)
 have HF : Hid (ndsN.owns n (W1.setCells g ((L - 1) * 6) zN) [.slice (some ⟨g, 0, none⟩) (L - 1) cap] (l.eraseIdx i) ∧ w.grownBy (W1.setCells g ((L - 1) * 6) zN) (some g)) := ⟨hfin, hg2⟩
 have s1 : Hid (news.length = (L - (i + 1)) * 6) := hnl
 have s2 : Hid (∀ u ∈ news, u.oneCell' = true) := fun u hu => by rw [hnews] at hu; exact hone u (List.mem_of_mem_drop hu)
 have s3 : Hid (∀ t, t < news.length → (w.drew.cell? ⟨g, 0 + i * 6 + t, none⟩).isSome = true ∧ w.drew.frozen? ⟨g, 0 + i * 6 + t, none⟩ = false) := fun t ht => by
   rw [hnl] at ht
   exact ⟨hsome _ (by omega), hfr _⟩
 have hW : Hid (W1 = w.drew.setCells g (0 + i * 6) news) := hW1
 have hii : ((i : Nat) : Int) ≠ (i : Int) + 1 := by omega
 have hiL : Hid (i + (L - (i + 1)) = L - 1 ∧ i + (L - (i + 1)) ≤ cap) := ⟨by omega, by omega⟩
 have hcast : ((i + 1 : Nat) : Int) = (i : Int) + 1 := by omega
 rw [hcast]
 obtain ⟨post, hpost⟩ : ∃ post : Ending → World → Prop, post = fun e w' => (∃ v', e = .returned v' ∧ ndsN.owns n w' [v'] (l.eraseIdx i)) ∧ w.grownBy w' (Value.slice (some ⟨g, 0, none⟩) L cap).ownBlock := ⟨_, rfl⟩
 have HPo : Hid (∀ v' w', ndsN.owns n w' [v'] (l.eraseIdx i) → w.grownBy w' (some g) → post (.returned v') w') := fun v' w' h1 h2 => by rw [hpost]; exact ⟨⟨v', rfl, h1⟩, h2⟩
 rw [← hpost]
 clear hfin hg2 hB2 hcs1 hB1 hW1 hcell hsome hfr hnews hnl hone hsz hE hB hh hC0 hxl htk hcs hp hv hvl hL hA hpost hcast
 go_enter Tryz.func274, Tryz.ntmps274
 go_wp2
 go_region_law (refine step_append_room rfl _ _ 27 rfl 47 i0 6 Tryz.underlying27 hi0 hz1 g 0 i cap rfl A (L - (i + 1)) (cap - (i + 1)) news rfl s1.out hsrc.out s2.out hiL.out.2 s3.out ?_; rw [← hW.out])
 go_wp2
 have hL1 : L - (L - 1) = 1 := by omega
 simp only [hiL.out.1, hL1]
 rw [hcl 0]
 clear hs1 hs2 hs3 hs4 hl1 hl2 hL1
 go_wp2
 exact HPo.out _ _ HF.out.1 HF.out.2
end Go.Proofs.YtopcefhncildnaaGreatDoor
