/-
  Copies of entries and of blocks, in memory of their own.
  ops: copies of entries and of blocks, in memory of their own.
-/
import Derived.Test.YtopcefhncildnaaGreatDoorZ13
import Derived.Test.YtopcefhncildnaaGreatDoorZ30
import Derived.Test.YtopcefhncildnaaGreatDoorZ31
import Derived.Deep.DrawnRows
import Derived.Lib.SliceRun
set_option maxRecDepth 100000
set_option maxHeartbeats 4000000
namespace Go.Proofs.YtopcefhncildnaaGreatDoor
open Go.RowKit
open D (En ArgE OwnE EOks EOk ev evs)
open F (Bk bkN bksN bks_atN bk_omk)
attribute [local go_sem ↓] Go.wp_at_zero Go.wp_at_succ
theorem evs_snoc (l : List En) (p : En) : evs (l ++ [p]) = evs l ++ ev p := by simp [evs]
theorem copiedEntries_any (n0 : Nat) (a : Option Addr) (c : Nat) (l : List En) (w : World) (h : ArgE n0 w (.slice a l.length c) l) (hs : ∀ p ∈ l, p.1.size ≤ 16) (hl : l.length ≤ 4096) :
   Calls Tryz.prog 164 #[.slice a l.length c] w fun e w' => (∃ v', e = .returned v' ∧ OwnE 49 w.heap.size w' v' l) ∧ Below w.heap.size w w' := by
 obtain ⟨i3, hi3, hz30, hz31, hz32⟩ := info_parts D.Tryz.info49
 obtain ⟨n, hn⟩ := exa (l.length)
 have HL : Hid (ArgE n0 w (.slice a n c) l ∧ n = l.length ∧ n ≤ 4096 ∧ ∀ p ∈ l, p.1.size ≤ 16) := ⟨by rw [hn]; exact h, hn, by omega, hs⟩
 have hl1 := run_len Tryz.underlying42 a n c
 obtain ⟨post, hpost⟩ : ∃ post : Ending → World → Prop, post = fun e w' => (∃ v', e = .returned v' ∧ OwnE 49 w.heap.size w' v' l) ∧ Below w.heap.size w w' := ⟨_, rfl⟩
 have HPo : Hid (∀ v' w', OwnE 49 w.heap.size w' v' l → Below w.heap.size w w' → post (.returned v') w') := fun v' w' h1 h2 => by rw [hpost]; exact ⟨⟨v', rfl, h1⟩, h2⟩
 rw [← hpost, ← hn]
 clear h hs hl hn hpost
 go_enter Tryz.func164, Tryz.ntmps164
 go_wp2
 go_loopw [3, 8] (fun v i wr => ∃ (k : Nat), k ≤ n ∧ i = .int .i64 k ∧ Hid (OwnE 49 w.heap.size wr v (l.take k) ∧ Below w.heap.size w wr)) (fun _ i _ => n - (intOf i).toNat)
 case atStart => exact ⟨0, Nat.zero_le _, rfl, OwnE.nil _ _ _, Below.refl _ _⟩
 case round => (
 obtain ⟨k, hk, rfl, HJ⟩ := hrel
 by_cases hlt : k < n
 · obtain ⟨p, hp⟩ := get_lt (l := l) (k := k) (by rw [← HL.out.2.1]; exact hlt)
   obtain ⟨b, o, hix, -, hc0, hc1⟩ := ArgE.atN (HL.out.1.below HJ.out.2) k p hp
   have HTK : Hid (l.take (k + 1) = l.take k ++ [p] ∧ (l.take k).length = k) := ⟨take_snoc hp, by have := HL.out.2.1; rw [List.length_take]; omega⟩
   have HP : Hid (EOk p ∧ p.1.size ≤ 16) := ⟨HL.out.1.2 p (List.mem_of_getElem? hp), HL.out.2.2.2 p (List.mem_of_getElem? hp)⟩
   obtain ⟨pn, pi⟩ := p
   simp only at hc0 hc1
   obtain ⟨V, hV⟩ := exa (wr.alloc (.cells #[.string pn, .int .i64 pi] 49))
   have HV : Hid (Below wr.heap.size wr V ∧ Box V wr.heap.size 49 #[.string pn, .int .i64 pi]) := ⟨by rw [hV]; exact (Below.refl _ _).alloc (Nat.le_refl _) _, by rw [hV]; exact Box.new _ _ _⟩
   have HC : Hid (Calls Tryz.prog 188 #[.string pn] V.drew fun e w' => e = .returned (.string pn) ∧ Below V.heap.size V w') := (P.clone_any pn V.drew HP.out.2).mono fun e w' h => ⟨h.1, ((Below.refl _ V).drew).trans h.2⟩
   obtain ⟨a', cap', rfl⟩ := OwnE.shape HJ.out.1
   rw [HTK.out.2] at HJ ⊢
   have HO : Hid (∀ W, Below wr.heap.size wr W → W.ownsRow w.heap.size 49 2 (.slice a' k cap') k (evs (l.take k))) := fun W hW => by (
 have := (HJ.out.1.below hW).1
 rwa [HTK.out.2] at this)
   have hki : (k : Int) < (n : Int) := by omega
   clear hp
   go_wp2
   rw [← hV]
   clear hV
   have hSS : V.drew.cell? ⟨wr.heap.size, 0, none⟩ = some (.string pn) ∧ V.drew.cell? ⟨wr.heap.size, 1, none⟩ = some (.int .i64 pi) := ⟨HV.out.2.two.1, HV.out.2.two.2.1⟩
   refine AnyBut.begin (fun W => W.cell? ⟨wr.heap.size, 0, none⟩ = some (.string pn) ∧ W.cell? ⟨wr.heap.size, 1, none⟩ = some (.int .i64 pi)) 9 (by kernel_rfl) ?_
   refine ty 0 12 hSS ?_
   simp only [Act.put, List.setIfInBounds_toArray, List.set_cons_zero, List.set_cons_succ]
   refine ty 1 13 hSS ?_
   simp only [Act.put, List.setIfInBounds_toArray, List.set_cons_zero, List.set_cons_succ]
   refine ty 2 14 hSS ?_
   simp only [Act.put, List.setIfInBounds_toArray, List.set_cons_zero, List.set_cons_succ]
   refine ty 4 16 hSS ?_
   simp only [Act.put, List.setIfInBounds_toArray, List.set_cons_zero, List.set_cons_succ]
   refine ty 5 17 hSS ?_
   simp only [Act.put, List.setIfInBounds_toArray, List.set_cons_zero, List.set_cons_succ]
   refine AnyBut.step (i := 3) (by kernel_rfl) rfl (fun K hK => ?_)
   go_simp
   refine Calls.mono HC.out ?_
   rintro e w2 ⟨rfl, hb2⟩
   have hx2 := HV.out.2.below hb2 HV.out.2.lt
   dsimp only
   refine hK.out _ _ ⟨hx2.two.1, hx2.two.2.1⟩ ?_
   clear hK hSS
   have hSS : w2.cell? ⟨wr.heap.size, 0, none⟩ = some (.string pn) ∧ w2.cell? ⟨wr.heap.size, 1, none⟩ = some (.int .i64 pi) := ⟨hx2.two.1, hx2.two.2.1⟩
   refine ty 6 18 hSS ?_
   simp only [Act.put, List.setIfInBounds_toArray, List.set_cons_zero, List.set_cons_succ]
   refine AnyBut.step (i := 7) (by kernel_rfl) rfl (fun K hK => ?_)
   go_simp
   have hx3 := hx2.alloc (.cells #[.string pn, .int .i64 pi] 49)
   have hbw := below_any HV.out.1 hb2
   refine hK.out _ _ ⟨hx3.two.1, hx3.two.2.1⟩ ?_
   clear hK hSS
   have hSS : (w2.alloc (.cells #[.string pn, .int .i64 pi] 49)).cell? ⟨wr.heap.size, 0, none⟩ = some (.string pn) ∧ (w2.alloc (.cells #[.string pn, .int .i64 pi] 49)).cell? ⟨wr.heap.size, 1, none⟩ = some (.int .i64 pi) := ⟨hx3.two.1, hx3.two.2.1⟩
   refine AnyBut.step (i := 8) (by kernel_rfl) rfl (fun K hK => ?_)
   refine step_append_lies _ (by rfl) _ _ _ (by rfl) w.heap.size 49 i3 _ 2 24 Tryz.underlying42 hi3 hz30 hz31 hz32 rfl (by omega) _ k _ (by rfl) ((HO.out w2 hbw).alloc _) ⟨w2.heap.size, 0, none⟩ 1 1 [.string pn, .int .i64 pi] (by rfl) (by rfl)
     (World.news_of_block (cs := #[.string pn, .int .i64 pi]) (t := 49) (fr := (0, 0)) (heap_alloc_new w2 _)) (by simp [Value.oneCell']) (by omega) (by have := HL.out.2.2.1; unfold maxLen; omega) (by have := HL.out.2.2.1; omega) (by have := hbw.size; have := HJ.out.2.size; simp; omega) (w2.heap.size + 1) (by simp) ?_
   intro gg cap3 w3 hown3 hgrow3 hat hltg
   have hne : some wr.heap.size ≠ (Value.slice a' k cap').ownBlock := fun e => by have := ((HO.out wr (Below.refl _ _)).lt _ e.symm).2; omega
   have hx4 := hx3.grown hgrow3 hne
   have hbe3 : Below w.heap.size w w3 := ((below_any HJ.out.2 hbw).alloc (by have := hbw.size; have := HJ.out.2.size; omega) _).grown hgrow3 (by have := hbw.size; have := HJ.out.2.size; simp; omega) (fun j hj => ((HO.out w2 hbw).lt j hj).1)
   refine hK.out _ _ ⟨hx4.two.1, hx4.two.2.1⟩ ?_
   clear hK hSS
   refine AnyBut.last (by kernel_rfl) (by kernel_rfl) rfl (fun K hK => ?_)
   go_simp
   refine hK.out _ _ ?_
   clear hK
   have HF : Hid (OwnE 49 w.heap.size w3 (.slice (some ⟨gg, 0, none⟩) (k + 1) cap3) (l.take (k + 1)) ∧ Below w.heap.size w w3) := ⟨⟨by rw [HTK.out.1, List.length_append, HTK.out.2, evs_snoc]; exact hown3, fun q hq => HL.out.1.2 q (List.mem_of_mem_take hq)⟩, hbe3⟩
   clear hown3 hgrow3 hat hltg hne hx4 hx3 hx2 hbw hb2 hbe3 hix hc0 hc1
   have hn4 := HL.out.2.2.1
   go_wp2
   go_roundw
   case rel => exact ⟨k + 1, by omega, by go_num, HF.out⟩
   case measure => simp [intOf]; omega
 · obtain rfl : k = n := by omega
   have hT : l.take k = l := by rw [HL.out.2.1]; simp
   rw [hT] at HJ
   go_wp2
   exact HPo.out _ _ HJ.out.1 HJ.out.2)
theorem bclone_any (n0 : Nat) (v : Value) (l : List Int) (w : World) (h : Arg n0 w v l) (hs : l.length ≤ 4096) :
   Calls Tryz.prog 232 #[v] w fun e w' => (∃ v', e = .returned v' ∧ Own1 w.heap.size w' v' l) ∧ Below w.heap.size w w' := by
 obtain ⟨i0, hi, hz0, hz1, hz2⟩ := info_parts Tryz.info5
 obtain ⟨post, hpost⟩ : ∃ post : Ending → World → Prop, post = fun e w' => (∃ v', e = .returned v' ∧ Own1 w.heap.size w' v' l) ∧ Below w.heap.size w w' := ⟨_, rfl⟩
 have HPo : Hid (∀ v' w', Own1 w.heap.size w' v' l → Below w.heap.size w w' → post (.returned v') w') := fun v' w' h1 h2 => by rw [hpost]; exact ⟨⟨v', rfl, h1⟩, h2⟩
 rw [← hpost]
 clear hpost
 have ho := h.oct
 obtain ⟨hl, h | ⟨x, cap, rfl, hcap, hm, _, hc⟩⟩ := h.cells
 · obtain ⟨rfl, h0⟩ := h
   obtain rfl := List.eq_nil_of_length_eq_zero h0
   have hN : ∀ w : World, (binOp .eql 25 (.slice none 0 0) (.slice none 0 0)).run Tryz.prog w = .ok (.bool true) w := fun w => Lib.run_eql_slice_nil w _ _ none 0 0 0 0 Tryz.underlying25
   go_enter Tryz.func232, Tryz.ntmps232
   go_wp2
   exact HPo.out _ _ (.mk (World.ownsRow_nil _ _ _ _) ho) (Below.refl _ _)
 · have hone := one_cells l
   obtain ⟨W, hW⟩ := exa (w.alloc (.cells #[] 5))
   have hbW : Below w.heap.size w W := by rw [hW]; exact (Below.refl _ w).alloc (Nat.le_refl _) _
   have hO : W.ownsRow w.heap.size 5 1 (.slice (some ⟨w.heap.size, 0, none⟩) 0 0) 0 [] := by rw [hW]; exact World.ownsRow_made w #[] 0 (Nat.le_refl _) (Nat.zero_le _) rfl
   have hc' : ∀ j u, (l.map (Value.int .u8))[j]? = some u → W.cell? (x.add j) = some u := fun j u hj => by (
 have := hc j u hj
 rw [← this]
 exact hbW.cell (cell_lt this))
   have hN : ∀ w : World, (binOp .eql 25 (.slice (some x) l.length cap) (.slice none 0 0)).run Tryz.prog w = .ok (.bool false) w := fun w => Lib.run_eql_slice_nil w _ _ (some x) _ _ 0 0 Tryz.underlying25
   go_enter Tryz.func232, Tryz.ntmps232
   go_wp2_with (at_builtin; rw [← hW]; refine wpList_append_own _ rfl _ _ 25 rfl w.heap.size 5 i0 (.int .u8 0) 1 1 Tryz.underlying25 hi hz0 hz1 hz2 rfl (by decide) (.slice (some ⟨w.heap.size, 0, none⟩) 0 0) 0 [] rfl hO x l.length cap (l.map (Value.int .u8)) rfl (by simp) hc' hone (by omega) (by omega) hbW.size ?_)
   intro v' w1 hown hgrow _
   rw [← hW] at hgrow
   have hb : Below w.heap.size w w1 := hbW.grown hgrow hbW.size (fun k h => by cases h; exact Nat.le_refl _)
   clear hgrow hc hone hW hO hc'
   go_wp2
   exact HPo.out _ _ (.mk (by simpa using hown) ho) hb
theorem copiedBlocks_any (n0 : Nat) (a : Option Addr) (c : Nat) (l : List Bk) (w : World) (h : bksN.lies n0 w [.slice a l.length c] l) (hs : ∀ p ∈ l, p.2.length ≤ 4096) (hl : l.length ≤ 4096) :
   Calls Tryz.prog 165 #[.slice a l.length c] w fun e w' => (∃ v', e = .returned v' ∧ bksN.owns w.heap.size w' [v'] l) ∧ Below w.heap.size w w' := by
 obtain ⟨i3, hi3, hz30, hz31, hz32⟩ := info_parts F.Tryz.info51
 obtain ⟨n, hn⟩ := exa (l.length)
 have HL : Hid (bksN.lies n0 w [.slice a n c] l ∧ n = l.length ∧ n ≤ 4096 ∧ ∀ p ∈ l, p.2.length ≤ 4096) := ⟨by rw [hn]; exact h, hn, by omega, hs⟩
 have hl1 := run_len Tryz.underlying43 a n c
 obtain ⟨post, hpost⟩ : ∃ post : Ending → World → Prop, post = fun e w' => (∃ v', e = .returned v' ∧ bksN.owns w.heap.size w' [v'] l) ∧ Below w.heap.size w w' := ⟨_, rfl⟩
 have HPo : Hid (∀ v' w', bksN.owns w.heap.size w' [v'] l → Below w.heap.size w w' → post (.returned v') w') := fun v' w' h1 h2 => by rw [hpost]; exact ⟨⟨v', rfl, h1⟩, h2⟩
 rw [← hpost, ← hn]
 clear h hs hl hn hpost
 go_enter Tryz.func165, Tryz.ntmps165
 go_wp2
 go_loopw [3, 8] (fun v i wr => ∃ (k : Nat), k ≤ n ∧ i = .int .i64 k ∧ Hid (bksN.owns w.heap.size wr [v] (l.take k) ∧ Below w.heap.size w wr)) (fun _ i _ => n - (intOf i).toNat)
 case atStart => exact ⟨0, Nat.zero_le _, rfl, Shape.list_nil bkN 43 Tryz.underlying43 F.cells43 _ _, Below.refl _ _⟩
 case round => (
 obtain ⟨k, hk, rfl, HJ⟩ := hrel
 by_cases hlt : k < n
 · obtain ⟨p, hp⟩ := get_lt (l := l) (k := k) (by rw [← HL.out.2.1]; exact hlt)
   obtain ⟨b, o, x, cap, hix, hc0, hc1, hA, hpi, _⟩ := bks_atN (bksN.below HL.out.1 HJ.out.2) k p hp
   have HTK : Hid (l.take (k + 1) = l.take k ++ [p] ∧ (l.take k).length = k) := ⟨take_snoc hp, by have := HL.out.2.1; rw [List.length_take]; omega⟩
   have HP : Hid (I64 p.1 ∧ p.2.length ≤ 4096 ∧ Arg n0 wr (.slice x p.2.length cap) p.2) := ⟨hpi, HL.out.2.2.2 p (List.mem_of_getElem? hp), hA⟩
   obtain ⟨pi, pd⟩ := p
   simp only at hc0 hc1 HP hA hpi
   obtain ⟨m, hm⟩ := exa (pd.length)
   have HM : Hid (m = pd.length) := hm
   rw [← hm] at hc1 HP
   clear hm hA hpi
   obtain ⟨V, hV⟩ := exa (wr.alloc (.cells #[.int .i64 pi, .slice x m cap] 51))
   have HV : Hid (Below wr.heap.size wr V ∧ Box V wr.heap.size 51 #[.int .i64 pi, .slice x m cap]) := ⟨by rw [hV]; exact (Below.refl _ _).alloc (Nat.le_refl _) _, by rw [hV]; exact Box.new _ _ _⟩
   have HC : Hid (Calls Tryz.prog 232 #[.slice x m cap] V.drew fun e w' => (∃ v', e = .returned v' ∧ Own1 V.heap.size w' v' pd) ∧ Below V.heap.size V w') := (bclone_any n0 (.slice x m cap) pd V.drew ((HP.out.2.2.below HV.out.1).below (Below.refl _ _).drew) (by rw [← HM.out]; exact HP.out.2.1)).mono fun e w' h => ⟨h.1, ((Below.refl _ V).drew).trans h.2⟩
   obtain ⟨v', vss, hv, hown0, hE⟩ := HJ.out.1
   cases hv
   rw [HTK.out.2] at hown0
   obtain ⟨a', cap', rfl⟩ := own_shape hown0
   have HO : Hid (∀ W, Below wr.heap.size wr W → W.ownsRow w.heap.size 51 2 (.slice a' k cap') k vss.flatten) := fun W hW => own_below hown0 hW
   have HE : Hid (Each (bkN.owns w.heap.size wr) vss (l.take k)) := hE
   have HJ2 : Hid (Below w.heap.size w wr) := HJ.out.2
   clear HJ hown0 hE
   have hki : (k : Int) < (n : Int) := by omega
   clear hp
   go_wp2
   rw [← hV]
   clear hV
   have hSS : V.drew.cell? ⟨wr.heap.size, 0, none⟩ = some (.int .i64 pi) ∧ V.drew.cell? ⟨wr.heap.size, 1, none⟩ = some (.slice x m cap) := ⟨HV.out.2.two.1, HV.out.2.two.2.1⟩
   refine AnyBut.begin (fun W => W.cell? ⟨wr.heap.size, 0, none⟩ = some (.int .i64 pi) ∧ W.cell? ⟨wr.heap.size, 1, none⟩ = some (.slice x m cap)) 9 (by kernel_rfl) ?_
   refine ty 0 12 hSS ?_
   simp only [Act.put, List.setIfInBounds_toArray, List.set_cons_zero, List.set_cons_succ]
   refine ty 1 13 hSS ?_
   simp only [Act.put, List.setIfInBounds_toArray, List.set_cons_zero, List.set_cons_succ]
   refine ty 2 14 hSS ?_
   simp only [Act.put, List.setIfInBounds_toArray, List.set_cons_zero, List.set_cons_succ]
   refine ty 3 15 hSS ?_
   simp only [Act.put, List.setIfInBounds_toArray, List.set_cons_zero, List.set_cons_succ]
   refine ty 4 16 hSS ?_
   simp only [Act.put, List.setIfInBounds_toArray, List.set_cons_zero, List.set_cons_succ]
   refine AnyBut.step (i := 5) (by kernel_rfl) rfl (fun K hK => ?_)
   go_simp
   refine Calls.mono HC.out ?_
   rintro e w2 ⟨⟨u2, rfl, hu2⟩, hb2⟩
   obtain ⟨ux, uc, rfl⟩ := hu2.shape
   rw [← HM.out] at hu2 ⊢
   have hx2 := HV.out.2.below hb2 HV.out.2.lt
   dsimp only
   refine hK.out _ _ ⟨hx2.two.1, hx2.two.2.1⟩ ?_
   clear hK hSS
   have hSS : w2.cell? ⟨wr.heap.size, 0, none⟩ = some (.int .i64 pi) ∧ w2.cell? ⟨wr.heap.size, 1, none⟩ = some (.slice x m cap) := ⟨hx2.two.1, hx2.two.2.1⟩
   refine ty 6 18 hSS ?_
   simp only [Act.put, List.setIfInBounds_toArray, List.set_cons_zero, List.set_cons_succ]
   refine AnyBut.step (i := 7) (by kernel_rfl) rfl (fun K hK => ?_)
   go_simp
   have hx3 := hx2.alloc (.cells #[.int .i64 pi, .slice ux m uc] 51)
   have hbw := below_any HV.out.1 hb2
   refine hK.out _ _ ⟨hx3.two.1, hx3.two.2.1⟩ ?_
   clear hK hSS
   have hSS : (w2.alloc (.cells #[.int .i64 pi, .slice ux m uc] 51)).cell? ⟨wr.heap.size, 0, none⟩ = some (.int .i64 pi) ∧ (w2.alloc (.cells #[.int .i64 pi, .slice ux m uc] 51)).cell? ⟨wr.heap.size, 1, none⟩ = some (.slice x m cap) := ⟨hx3.two.1, hx3.two.2.1⟩
   refine AnyBut.step (i := 8) (by kernel_rfl) rfl (fun K hK => ?_)
   refine step_append_lies _ (by rfl) _ _ _ (by rfl) w.heap.size 51 i3 _ 2 32 Tryz.underlying43 hi3 hz30 hz31 hz32 rfl (by omega) _ k _ (by rfl) ((HO.out w2 hbw).alloc _) ⟨w2.heap.size, 0, none⟩ 1 1 [.int .i64 pi, .slice ux m uc] (by rfl) (by rfl)
     (World.news_of_block (cs := #[.int .i64 pi, .slice ux m uc]) (t := 51) (fr := (0, 0)) (heap_alloc_new w2 _)) (by simp [Value.oneCell']) (by omega) (by have := HL.out.2.2.1; unfold maxLen; omega) (by have := HL.out.2.2.1; omega) (by have := hbw.size; have := HJ2.out.size; simp; omega) (w2.heap.size + 1) (by simp) ?_
   intro gg cap3 w3 hown3 hgrow3 hat hltg
   have hne : some wr.heap.size ≠ (Value.slice a' k cap').ownBlock := fun e => by have := ((HO.out wr (Below.refl _ _)).lt _ e.symm).2; omega
   have hx4 := hx3.grown hgrow3 hne
   have hbe3 : Below w.heap.size w w3 := ((below_any HJ2.out hbw).alloc (by have := hbw.size; have := HJ2.out.size; omega) _).grown hgrow3 (by have := hbw.size; have := HJ2.out.size; simp; omega) (fun j hj => ((HO.out w2 hbw).lt j hj).1)
   refine hK.out _ _ ⟨hx4.two.1, hx4.two.2.1⟩ ?_
   clear hK hSS
   refine AnyBut.last (by kernel_rfl) (by kernel_rfl) rfl (fun K hK => ?_)
   go_simp
   refine hK.out _ _ ?_
   clear hK
   have hS2 : Same w.heap.size wr (w2.alloc (.cells #[.int .i64 pi, .slice ux m uc] 51)) := Same.trans (.of_below hbw) hbw.size (.alloc _ _ _)
   have HF : Hid (bksN.owns w.heap.size w3 [.slice (some ⟨gg, 0, none⟩) (k + 1) cap3] (l.take (k + 1)) ∧ Below w.heap.size w w3) := by (
 refine ⟨?_, hbe3⟩
 rw [HTK.out.1]
 refine Shape.list_push (S := bkN) (ht := Tryz.underlying43) (hc := F.cells43) (us := [.int .i64 pi, .slice ux m uc]) (by decide) (HE.out.mono fun _ _ h => bkN.osame h hS2) (by rw [HTK.out.2]; exact own_same (HO.out wr (Below.refl _ _)) hS2) ?_ hgrow3 ?_
 · refine bk_omk (p := (pi, pd)) (bytesS.osame (bytesS.oweaken hu2 (by have := HV.out.1.size; have := HJ2.out.size; omega)) (.alloc _ _ _)) HP.out.1
 · rw [HTK.out.2]
   exact hown3)
   clear hS2 hu2 hown3 hgrow3 hat hltg hne hx4 hx3 hx2 hbw hb2 hbe3 hix hc0 hc1
   have hn4 := HL.out.2.2.1
   go_wp2
   go_roundw
   case rel => exact ⟨k + 1, by omega, by go_num, HF.out⟩
   case measure => simp [intOf]; omega
 · obtain rfl : k = n := by omega
   have hT : l.take k = l := by rw [HL.out.2.1]; simp
   rw [hT] at HJ
   go_wp2
   exact HPo.out _ _ HJ.out.1 HJ.out.2)
end Go.Proofs.YtopcefhncildnaaGreatDoor
namespace Go.Proofs.YtopcefhncildnaaGreatDoor.K
open Go.RowKit
open D (En ArgE OwnE EOks EOk ev evs)
open F (Bk bkN bksN bks_atN bk_omk)
attribute [local go_sem ↓] Go.wp_at_zero Go.wp_at_succ
theorem wp_app {P : Program} {w w3 : World} {o : Oper} {a : Act} {K : Act → World → Prop} {Q : Exit → Act → World → Prop} (s x : Operand) (t : TypeId) (ho : o.op = .call { callee := .builtin .append, args := #[s, x], argTypes := #[t, t] }) (hty : o.type = t) {v u v3 : Value} (hs : a.eval s = v) (hx : a.eval x = u)
   (hr : (Builtin.append_ #[t, t] t #[v, u]).run P w = .ok v3 w3) (h : K (a.put o.dst v3) w3) : o.wp P a w K Q := by
 unfold Oper.wp execOp
 simp only [ho, resolve, invoke, builtin, Sem.run_bind, Sem.run_pure, Result.andThen_ok, List.map_toArray, List.map_cons, List.map_nil, hs, hx, hty, hr]
 exact h
theorem step_app {P : Program} {w w3 : World} {ops : Array Oper} {o : Oper} {a : Act} {K : Act → World → Prop} {Q : Exit → Act → World → Prop} {E : Prop} (hgd : o.guard = none) (s x : Operand) (t : TypeId) (ho : o.op = .call { callee := .builtin .append, args := #[s, x], argTypes := #[t, t] }) (hty : o.type = t) {v u v3 : Value} (hs : a.eval s = v) (hx : a.eval x = u)
   (hr : (Builtin.append_ #[t, t] t #[v, u]).run P w = .ok v3 w3) (h : K (a.put o.dst v3) w3) : if Region.wanted o (yielded ops a.tmps) = true then Oper.wp P o a w K Q else E := by
 rw [if_pos (by simp [Region.wanted, hgd])]
 exact wp_app s x t ho hty hs hx hr h
theorem octs_run (n0 : Nat) (v : Value) (l : List Int) (W : World) (h : Arg n0 W v l) (hs : l.length ≤ 4096) :
   ∃ u w3, (Builtin.append_ #[25, 25] 25 #[.slice none 0 0, v]).run Tryz.prog W = .ok u w3 ∧ Own1 W.heap.size w3 u l ∧ Below W.heap.size W w3 := by
 obtain ⟨i0, hi, hz0, hz1, hz2⟩ := info_parts Tryz.info5
 have ho := h.oct
 obtain ⟨hl, h | ⟨x, cap, rfl, hcap, hm, _, hc⟩⟩ := h.cells
 · obtain ⟨rfl, h0⟩ := h
   obtain rfl := List.eq_nil_of_length_eq_zero h0
   exact ⟨_, _, run_append_owned_none (P := Tryz.prog) (w := W) W.heap.size 25 25 5 i0 1 Tryz.underlying25 hi (.slice none 0 0) 0 [] (World.ownsRow_nil _ _ _ _), .mk (World.ownsRow_nil _ _ _ _) ho, Below.refl _ _⟩
 · obtain ⟨v', w', hr, h2, h3, _, _⟩ := run_append_own_at (P := Tryz.prog) W W.heap.size 25 25 5 i0 (.int .u8 0) 1 1 Tryz.underlying25 hi hz0 hz1 hz2 rfl (by omega) (.slice none 0 0) 0 [] (World.ownsRow_nil _ _ _ _) x l.length cap (l.map (Value.int .u8)) (by simp) hc (one_cells l) (by unfold maxLen; omega) (by omega) (Nat.le_refl _)
   exact ⟨v', w', hr, .mk (by simpa using h2) ho, (Below.refl _ _).grown h3 (Nat.le_refl _) (fun _ h => by cases h)⟩
theorem copiedEntries_any (n0 : Nat) (a : Option Addr) (c : Nat) (l : List En) (w : World) (h : ArgE n0 w (.slice a l.length c) l) (hs : ∀ p ∈ l, p.1.size ≤ 16) (hl : l.length ≤ 4096) :
   Calls Tryz.prog 119 #[.slice a l.length c] w fun e w' => (∃ v', e = .returned v' ∧ OwnE 49 w.heap.size w' v' l) ∧ Below w.heap.size w w' := by
 obtain ⟨i3, hi3, hz30, hz31, hz32⟩ := info_parts D.Tryz.info49
 obtain ⟨n, hn⟩ := exa (l.length)
 have HL : Hid (ArgE n0 w (.slice a n c) l ∧ n = l.length ∧ n ≤ 4096 ∧ ∀ p ∈ l, p.1.size ≤ 16) := ⟨by rw [hn]; exact h, hn, by omega, hs⟩
 have hl1 := run_len Tryz.underlying42 a n c
 obtain ⟨post, hpost⟩ : ∃ post : Ending → World → Prop, post = fun e w' => (∃ v', e = .returned v' ∧ OwnE 49 w.heap.size w' v' l) ∧ Below w.heap.size w w' := ⟨_, rfl⟩
 have HPo : Hid (∀ v' w', OwnE 49 w.heap.size w' v' l → Below w.heap.size w w' → post (.returned v') w') := fun v' w' h1 h2 => by rw [hpost]; exact ⟨⟨v', rfl, h1⟩, h2⟩
 rw [← hpost, ← hn]
 clear h hs hl hn hpost
 go_enter Tryz.func119, Tryz.ntmps119
 go_wp2
 go_loopw [3, 8] (fun v i wr => ∃ (k : Nat), k ≤ n ∧ i = .int .i64 k ∧ Hid (OwnE 49 w.heap.size wr v (l.take k) ∧ Below w.heap.size w wr)) (fun _ i _ => n - (intOf i).toNat)
 case atStart => exact ⟨0, Nat.zero_le _, rfl, OwnE.nil _ _ _, Below.refl _ _⟩
 case round => (
 obtain ⟨k, hk, rfl, HJ⟩ := hrel
 by_cases hlt : k < n
 · obtain ⟨p, hp⟩ := get_lt (l := l) (k := k) (by rw [← HL.out.2.1]; exact hlt)
   obtain ⟨b, o, hix, -, hc0, hc1⟩ := ArgE.atN (HL.out.1.below HJ.out.2) k p hp
   have HTK : Hid (l.take (k + 1) = l.take k ++ [p] ∧ (l.take k).length = k) := ⟨take_snoc hp, by have := HL.out.2.1; rw [List.length_take]; omega⟩
   have HP : Hid (EOk p ∧ p.1.size ≤ 16) := ⟨HL.out.1.2 p (List.mem_of_getElem? hp), HL.out.2.2.2 p (List.mem_of_getElem? hp)⟩
   obtain ⟨pn, pi⟩ := p
   simp only at hc0 hc1
   obtain ⟨V, hV⟩ := exa (wr.alloc (.cells #[.string pn, .int .i64 pi] 49))
   have HV : Hid (Below wr.heap.size wr V ∧ Box V wr.heap.size 49 #[.string pn, .int .i64 pi]) := ⟨by rw [hV]; exact (Below.refl _ _).alloc (Nat.le_refl _) _, by rw [hV]; exact Box.new _ _ _⟩
   have HC : Hid (Calls Tryz.prog 188 #[.string pn] V.drew fun e w' => e = .returned (.string pn) ∧ Below V.heap.size V w') := (P.clone_any pn V.drew HP.out.2).mono fun e w' h => ⟨h.1, ((Below.refl _ V).drew).trans h.2⟩
   obtain ⟨a', cap', rfl⟩ := OwnE.shape HJ.out.1
   rw [HTK.out.2] at HJ ⊢
   have HO : Hid (∀ W, Below wr.heap.size wr W → W.ownsRow w.heap.size 49 2 (.slice a' k cap') k (evs (l.take k))) := fun W hW => by (
 have := (HJ.out.1.below hW).1
 rwa [HTK.out.2] at this)
   have hki : (k : Int) < (n : Int) := by omega
   clear hp
   go_wp2
   rw [← hV]
   clear hV
   have hSS : V.drew.cell? ⟨wr.heap.size, 0, none⟩ = some (.string pn) ∧ V.drew.cell? ⟨wr.heap.size, 1, none⟩ = some (.int .i64 pi) := ⟨HV.out.2.two.1, HV.out.2.two.2.1⟩
   refine AnyBut.begin (fun W => W.cell? ⟨wr.heap.size, 0, none⟩ = some (.string pn) ∧ W.cell? ⟨wr.heap.size, 1, none⟩ = some (.int .i64 pi)) 9 (by kernel_rfl) ?_
   refine ty 0 12 hSS ?_
   simp only [Act.put, List.setIfInBounds_toArray, List.set_cons_zero, List.set_cons_succ]
   refine ty 1 13 hSS ?_
   simp only [Act.put, List.setIfInBounds_toArray, List.set_cons_zero, List.set_cons_succ]
   refine ty 2 14 hSS ?_
   simp only [Act.put, List.setIfInBounds_toArray, List.set_cons_zero, List.set_cons_succ]
   refine ty 4 16 hSS ?_
   simp only [Act.put, List.setIfInBounds_toArray, List.set_cons_zero, List.set_cons_succ]
   refine ty 5 17 hSS ?_
   simp only [Act.put, List.setIfInBounds_toArray, List.set_cons_zero, List.set_cons_succ]
   refine AnyBut.step (i := 3) (by kernel_rfl) rfl (fun K hK => ?_)
   go_simp
   refine Calls.mono HC.out ?_
   rintro e w2 ⟨rfl, hb2⟩
   have hx2 := HV.out.2.below hb2 HV.out.2.lt
   dsimp only
   refine hK.out _ _ ⟨hx2.two.1, hx2.two.2.1⟩ ?_
   clear hK hSS
   have hSS : w2.cell? ⟨wr.heap.size, 0, none⟩ = some (.string pn) ∧ w2.cell? ⟨wr.heap.size, 1, none⟩ = some (.int .i64 pi) := ⟨hx2.two.1, hx2.two.2.1⟩
   refine ty 6 18 hSS ?_
   simp only [Act.put, List.setIfInBounds_toArray, List.set_cons_zero, List.set_cons_succ]
   refine AnyBut.step (i := 7) (by kernel_rfl) rfl (fun K hK => ?_)
   go_simp
   have hx3 := hx2.alloc (.cells #[.string pn, .int .i64 pi] 49)
   have hbw := below_any HV.out.1 hb2
   refine hK.out _ _ ⟨hx3.two.1, hx3.two.2.1⟩ ?_
   clear hK hSS
   have hSS : (w2.alloc (.cells #[.string pn, .int .i64 pi] 49)).cell? ⟨wr.heap.size, 0, none⟩ = some (.string pn) ∧ (w2.alloc (.cells #[.string pn, .int .i64 pi] 49)).cell? ⟨wr.heap.size, 1, none⟩ = some (.int .i64 pi) := ⟨hx3.two.1, hx3.two.2.1⟩
   refine AnyBut.step (i := 8) (by kernel_rfl) rfl (fun K hK => ?_)
   refine step_append_lies _ (by rfl) _ _ _ (by rfl) w.heap.size 49 i3 _ 2 24 Tryz.underlying42 hi3 hz30 hz31 hz32 rfl (by omega) _ k _ (by rfl) ((HO.out w2 hbw).alloc _) ⟨w2.heap.size, 0, none⟩ 1 1 [.string pn, .int .i64 pi] (by rfl) (by rfl)
     (World.news_of_block (cs := #[.string pn, .int .i64 pi]) (t := 49) (fr := (0, 0)) (heap_alloc_new w2 _)) (by simp [Value.oneCell']) (by omega) (by have := HL.out.2.2.1; unfold maxLen; omega) (by have := HL.out.2.2.1; omega) (by have := hbw.size; have := HJ.out.2.size; simp; omega) (w2.heap.size + 1) (by simp) ?_
   intro gg cap3 w3 hown3 hgrow3 hat hltg
   have hne : some wr.heap.size ≠ (Value.slice a' k cap').ownBlock := fun e => by have := ((HO.out wr (Below.refl _ _)).lt _ e.symm).2; omega
   have hx4 := hx3.grown hgrow3 hne
   have hbe3 : Below w.heap.size w w3 := ((below_any HJ.out.2 hbw).alloc (by have := hbw.size; have := HJ.out.2.size; omega) _).grown hgrow3 (by have := hbw.size; have := HJ.out.2.size; simp; omega) (fun j hj => ((HO.out w2 hbw).lt j hj).1)
   refine hK.out _ _ ⟨hx4.two.1, hx4.two.2.1⟩ ?_
   clear hK hSS
   refine AnyBut.last (by kernel_rfl) (by kernel_rfl) rfl (fun K hK => ?_)
   go_simp
   refine hK.out _ _ ?_
   clear hK
   have HF : Hid (OwnE 49 w.heap.size w3 (.slice (some ⟨gg, 0, none⟩) (k + 1) cap3) (l.take (k + 1)) ∧ Below w.heap.size w w3) := ⟨⟨by rw [HTK.out.1, List.length_append, HTK.out.2, evs_snoc]; exact hown3, fun q hq => HL.out.1.2 q (List.mem_of_mem_take hq)⟩, hbe3⟩
   clear hown3 hgrow3 hat hltg hne hx4 hx3 hx2 hbw hb2 hbe3 hix hc0 hc1
   have hn4 := HL.out.2.2.1
   go_wp2
   go_roundw
   case rel => exact ⟨k + 1, by omega, by go_num, HF.out⟩
   case measure => simp [intOf]; omega
 · obtain rfl : k = n := by omega
   have hT : l.take k = l := by rw [HL.out.2.1]; simp
   rw [hT] at HJ
   go_wp2
   exact HPo.out _ _ HJ.out.1 HJ.out.2)
theorem copiedBlocks_any (n0 : Nat) (a : Option Addr) (c : Nat) (l : List Bk) (w : World) (h : bksN.lies n0 w [.slice a l.length c] l) (hs : ∀ p ∈ l, p.2.length ≤ 4096) (hl : l.length ≤ 4096) :
   Calls Tryz.prog 120 #[.slice a l.length c] w fun e w' => (∃ v', e = .returned v' ∧ bksN.owns w.heap.size w' [v'] l) ∧ Below w.heap.size w w' := by
 obtain ⟨i3, hi3, hz30, hz31, hz32⟩ := info_parts F.Tryz.info51
 obtain ⟨n, hn⟩ := exa (l.length)
 have HL : Hid (bksN.lies n0 w [.slice a n c] l ∧ n = l.length ∧ n ≤ 4096 ∧ ∀ p ∈ l, p.2.length ≤ 4096) := ⟨by rw [hn]; exact h, hn, by omega, hs⟩
 have hl1 := run_len Tryz.underlying43 a n c
 obtain ⟨post, hpost⟩ : ∃ post : Ending → World → Prop, post = fun e w' => (∃ v', e = .returned v' ∧ bksN.owns w.heap.size w' [v'] l) ∧ Below w.heap.size w w' := ⟨_, rfl⟩
 have HPo : Hid (∀ v' w', bksN.owns w.heap.size w' [v'] l → Below w.heap.size w w' → post (.returned v') w') := fun v' w' h1 h2 => by rw [hpost]; exact ⟨⟨v', rfl, h1⟩, h2⟩
 rw [← hpost, ← hn]
 clear h hs hl hn hpost
 go_enter Tryz.func120, Tryz.ntmps120
 go_wp2
 go_loopw [3, 8] (fun v i wr => ∃ (k : Nat), k ≤ n ∧ i = .int .i64 k ∧ Hid (bksN.owns w.heap.size wr [v] (l.take k) ∧ Below w.heap.size w wr)) (fun _ i _ => n - (intOf i).toNat)
 case atStart => exact ⟨0, Nat.zero_le _, rfl, Shape.list_nil bkN 43 Tryz.underlying43 F.cells43 _ _, Below.refl _ _⟩
 case round => (
 obtain ⟨k, hk, rfl, HJ⟩ := hrel
 by_cases hlt : k < n
 · obtain ⟨p, hp⟩ := get_lt (l := l) (k := k) (by rw [← HL.out.2.1]; exact hlt)
   obtain ⟨b, o, x, cap, hix, hc0, hc1, hA, hpi, _⟩ := bks_atN (bksN.below HL.out.1 HJ.out.2) k p hp
   have HTK : Hid (l.take (k + 1) = l.take k ++ [p] ∧ (l.take k).length = k) := ⟨take_snoc hp, by have := HL.out.2.1; rw [List.length_take]; omega⟩
   have HP : Hid (I64 p.1 ∧ p.2.length ≤ 4096 ∧ Arg n0 wr (.slice x p.2.length cap) p.2) := ⟨hpi, HL.out.2.2.2 p (List.mem_of_getElem? hp), hA⟩
   obtain ⟨pi, pd⟩ := p
   simp only at hc0 hc1 HP hA hpi
   obtain ⟨m, hm⟩ := exa (pd.length)
   have HM : Hid (m = pd.length) := hm
   rw [← hm] at hc1 HP
   clear hm hA hpi
   obtain ⟨V, hV⟩ := exa (wr.alloc (.cells #[.int .i64 pi, .slice x m cap] 51))
   have HV : Hid (Below wr.heap.size wr V ∧ Box V wr.heap.size 51 #[.int .i64 pi, .slice x m cap]) := ⟨by rw [hV]; exact (Below.refl _ _).alloc (Nat.le_refl _) _, by rw [hV]; exact Box.new _ _ _⟩
   have HC : Hid (∃ u w3, (Builtin.append_ #[25, 25] 25 #[.slice none 0 0, .slice x m cap]).run Tryz.prog V.drew = .ok u w3 ∧ Own1 V.heap.size w3 u pd ∧ Below V.heap.size V w3) := by (
 obtain ⟨u, w3, h1, h2, h3⟩ := octs_run n0 (.slice x m cap) pd V.drew ((HP.out.2.2.below HV.out.1).below (Below.refl _ _).drew) (by rw [← HM.out]; exact HP.out.2.1)
 exact ⟨u, w3, h1, h2, ((Below.refl _ _).drew).trans h3⟩)
   obtain ⟨v', vss, hv, hown0, hE⟩ := HJ.out.1
   cases hv
   rw [HTK.out.2] at hown0
   obtain ⟨a', cap', rfl⟩ := own_shape hown0
   have HO : Hid (∀ W, Below wr.heap.size wr W → W.ownsRow w.heap.size 51 2 (.slice a' k cap') k vss.flatten) := fun W hW => own_below hown0 hW
   have HE : Hid (Each (bkN.owns w.heap.size wr) vss (l.take k)) := hE
   have HJ2 : Hid (Below w.heap.size w wr) := HJ.out.2
   clear HJ hown0 hE
   have hki : (k : Int) < (n : Int) := by omega
   clear hp
   go_wp2
   rw [← hV]
   clear hV
   have hSS : V.drew.cell? ⟨wr.heap.size, 0, none⟩ = some (.int .i64 pi) ∧ V.drew.cell? ⟨wr.heap.size, 1, none⟩ = some (.slice x m cap) := ⟨HV.out.2.two.1, HV.out.2.two.2.1⟩
   refine AnyBut.begin (fun W => W.cell? ⟨wr.heap.size, 0, none⟩ = some (.int .i64 pi) ∧ W.cell? ⟨wr.heap.size, 1, none⟩ = some (.slice x m cap)) 9 (by kernel_rfl) ?_
   refine ty 0 12 hSS ?_
   simp only [Act.put, List.setIfInBounds_toArray, List.set_cons_zero, List.set_cons_succ]
   refine ty 1 13 hSS ?_
   simp only [Act.put, List.setIfInBounds_toArray, List.set_cons_zero, List.set_cons_succ]
   refine ty 2 14 hSS ?_
   simp only [Act.put, List.setIfInBounds_toArray, List.set_cons_zero, List.set_cons_succ]
   refine ty 3 15 hSS ?_
   simp only [Act.put, List.setIfInBounds_toArray, List.set_cons_zero, List.set_cons_succ]
   refine ty 4 16 hSS ?_
   simp only [Act.put, List.setIfInBounds_toArray, List.set_cons_zero, List.set_cons_succ]
   obtain ⟨u2, w2, hr2, hu2, hb2⟩ := HC.out
   refine AnyBut.step (i := 5) (by kernel_rfl) rfl (fun K hK => ?_)
   refine step_app (by rfl) _ _ _ (by rfl) (by rfl) (by rfl) (by rfl) hr2 ?_
   clear hr2
   obtain ⟨ux, uc, rfl⟩ := hu2.shape
   rw [← HM.out] at hu2 ⊢
   have hx2 := HV.out.2.below hb2 HV.out.2.lt
   refine hK.out _ _ ⟨hx2.two.1, hx2.two.2.1⟩ ?_
   clear hK hSS
   have hSS : w2.cell? ⟨wr.heap.size, 0, none⟩ = some (.int .i64 pi) ∧ w2.cell? ⟨wr.heap.size, 1, none⟩ = some (.slice x m cap) := ⟨hx2.two.1, hx2.two.2.1⟩
   refine AnyBut.take (i := 6) (some 18) (v := ?_) rfl rfl (by kernel_rfl) rfl (by kernel_rfl) (by kernel_rfl) (by kernel_rfl) (fun _ _ _ h => h) (.inl ⟨by rfl, ?_⟩) hSS ?_
   rotate_left
   · (intro W hSW; (try dsimp only at hSW); go_simp; try with_reducible rfl)
   simp only [Act.put, List.setIfInBounds_toArray]
   refine AnyBut.step (i := 7) (by kernel_rfl) rfl (fun K hK => ?_)
   go_simp
   have hx3 := hx2.alloc (.cells #[.int .i64 pi, .slice ux m uc] 51)
   have hbw := below_any HV.out.1 hb2
   refine hK.out _ _ ⟨hx3.two.1, hx3.two.2.1⟩ ?_
   clear hK hSS
   have hSS : (w2.alloc (.cells #[.int .i64 pi, .slice ux m uc] 51)).cell? ⟨wr.heap.size, 0, none⟩ = some (.int .i64 pi) ∧ (w2.alloc (.cells #[.int .i64 pi, .slice ux m uc] 51)).cell? ⟨wr.heap.size, 1, none⟩ = some (.slice x m cap) := ⟨hx3.two.1, hx3.two.2.1⟩
   refine AnyBut.step (i := 8) (by kernel_rfl) rfl (fun K hK => ?_)
   refine step_append_lies _ (by rfl) _ _ _ (by rfl) w.heap.size 51 i3 _ 2 32 Tryz.underlying43 hi3 hz30 hz31 hz32 rfl (by omega) _ k _ (by rfl) ((HO.out w2 hbw).alloc _) ⟨w2.heap.size, 0, none⟩ 1 1 [.int .i64 pi, .slice ux m uc] (by rfl) (by rfl)
     (World.news_of_block (cs := #[.int .i64 pi, .slice ux m uc]) (t := 51) (fr := (0, 0)) (heap_alloc_new w2 _)) (by simp [Value.oneCell']) (by omega) (by have := HL.out.2.2.1; unfold maxLen; omega) (by have := HL.out.2.2.1; omega) (by have := hbw.size; have := HJ2.out.size; simp; omega) (w2.heap.size + 1) (by simp) ?_
   intro gg cap3 w3 hown3 hgrow3 hat hltg
   have hne : some wr.heap.size ≠ (Value.slice a' k cap').ownBlock := fun e => by have := ((HO.out wr (Below.refl _ _)).lt _ e.symm).2; omega
   have hx4 := hx3.grown hgrow3 hne
   have hbe3 : Below w.heap.size w w3 := ((below_any HJ2.out hbw).alloc (by have := hbw.size; have := HJ2.out.size; omega) _).grown hgrow3 (by have := hbw.size; have := HJ2.out.size; simp; omega) (fun j hj => ((HO.out w2 hbw).lt j hj).1)
   refine hK.out _ _ ⟨hx4.two.1, hx4.two.2.1⟩ ?_
   clear hK hSS
   refine AnyBut.last (by kernel_rfl) (by kernel_rfl) rfl (fun K hK => ?_)
   go_simp
   refine hK.out _ _ ?_
   clear hK
   have hS2 : Same w.heap.size wr (w2.alloc (.cells #[.int .i64 pi, .slice ux m uc] 51)) := Same.trans (.of_below hbw) hbw.size (.alloc _ _ _)
   have HF : Hid (bksN.owns w.heap.size w3 [.slice (some ⟨gg, 0, none⟩) (k + 1) cap3] (l.take (k + 1)) ∧ Below w.heap.size w w3) := by (
 refine ⟨?_, hbe3⟩
 rw [HTK.out.1]
 refine Shape.list_push (S := bkN) (ht := Tryz.underlying43) (hc := F.cells43) (us := [.int .i64 pi, .slice ux m uc]) (by decide) (HE.out.mono fun _ _ h => bkN.osame h hS2) (by rw [HTK.out.2]; exact own_same (HO.out wr (Below.refl _ _)) hS2) ?_ hgrow3 ?_
 · refine bk_omk (p := (pi, pd)) (bytesS.osame (bytesS.oweaken hu2 (by have := HV.out.1.size; have := HJ2.out.size; omega)) (.alloc _ _ _)) HP.out.1
 · rw [HTK.out.2]
   exact hown3)
   clear hS2 hu2 hown3 hgrow3 hat hltg hne hx4 hx3 hx2 hbw hb2 hbe3 hix hc0 hc1
   have hn4 := HL.out.2.2.1
   go_wp2
   go_roundw
   case rel => exact ⟨k + 1, by omega, by go_num, HF.out⟩
   case measure => simp [intOf]; omega
 · obtain rfl : k = n := by omega
   have hT : l.take k = l := by rw [HL.out.2.1]; simp
   rw [hT] at HJ
   go_wp2
   exact HPo.out _ _ HJ.out.1 HJ.out.2)
end Go.Proofs.YtopcefhncildnaaGreatDoor.K
