/-
  What Of makes of the document's state: the program's, in memory of its own.
-/
import Derived.Test.YtkcnephbaffmbaaGreatDoorK17
import Derived.Test.YtkcnephbaffmbaaGreatDoorK27
import Derived.Test.YtkcnephbaffmbaaGreatDoorK37
set_option maxRecDepth 100000
set_option maxHeartbeats 8000000
namespace Go.Proofs.YtkcnephbaffmbaaGreatDoor
open Go.RowKit
open D (En ArgE OwnE)
open F (Bk bkN bksN flR flN)
attribute [local go_sem ↓] Go.wp_at_zero Go.wp_at_succ
def FitsS (l : List Nd) : Prop := l.length * 80 ≤ 140737488351232 ∧ ∀ p ∈ l, (en p).length * 24 ≤ 140737488351232 ∧ F.Fits (fi p)
theorem of10_any (n0 : Nat) (a : Option Addr) (c : Nat) (s : St) (w : World) (hA : ndsR.lies n0 w [.slice a s.1.length c] s.1) (hS : FitsS s.1) :
   Calls Tryz.prog 9 #[.agg #[.slice a s.1.length c, .int .i64 s.2]] w fun e w' => (∃ v', e = .returned (.agg #[v', .int .i64 s.2]) ∧ ndsN.owns w.heap.size w' [v'] s.1) ∧ Below w.heap.size w w' := by
 obtain ⟨l, nx⟩ := s
 obtain ⟨i3, hi3, hz30, hz31, hz32⟩ := info_parts Tryz.info86
 simp only at hA hS ⊢
 obtain ⟨n, hn⟩ : ∃ n, n = l.length := ⟨_, rfl⟩
 have hn80 : n * 80 ≤ 140737488351232 := by rw [hn]; exact hS.1
 have HL : Hid (ndsR.lies n0 w [.slice a n c] l ∧ n = l.length ∧ FitsS l) := ⟨by rw [hn]; exact hA, hn, hS⟩
 have hl1 := run_len Tryz.underlying22 a n c
 obtain ⟨post, hpost⟩ : ∃ post : Ending → World → Prop, post = fun e w' => (∃ v', e = .returned (.agg #[v', .int .i64 nx]) ∧ ndsN.owns w.heap.size w' [v'] l) ∧ Below w.heap.size w w' := ⟨_, rfl⟩
 have HPo : Hid (∀ v' w', ndsN.owns w.heap.size w' [v'] l → Below w.heap.size w w' → post (.returned (.agg #[v', .int .i64 nx])) w') := fun v' w' h1 h2 => by rw [hpost]; exact ⟨⟨v', rfl, h1⟩, h2⟩
 rw [← hpost, ← hn]
 clear hA hS hn hpost
 go_enter Tryz.func9, Tryz.ntmps9
 go_wp2
 go_loopw [4] (fun i wr => ∃ (k : Nat) (v : Value), k ≤ n ∧ i = .int .i64 k ∧ Hid (Box wr w.heap.size 24 #[.slice a n c, .int .i64 nx] ∧ Box wr (w.heap.size + 1) 27 #[.slice none 0 0, .int .i64 0] ∧ Box wr (w.heap.size + 2) 27 #[v, .int .i64 nx] ∧
   ndsN.owns (w.heap.size + 3) wr [v] (l.take k) ∧ Below w.heap.size w wr ∧ w.heap.size + 3 ≤ wr.heap.size)) (fun i _ => n - (intOf i).toNat)
 case atStart =>
   refine ⟨0, _, Nat.zero_le _, rfl, ?_, ?_, ?_, Shape.list_nil ndN 25 Tryz.underlying25 cells25 _ _, ?_, ?_⟩
   · exact ((Box.new w 24 _).alloc _).alloc _
   · have := (Box.new (w.alloc (.cells #[.slice a n c, .int .i64 nx] 24)) 27 #[.slice none 0 0, .int .i64 0]).alloc (.cells #[.slice none 0 0, .int .i64 nx] 27)
     simpa using this
   · have := Box.new ((w.alloc (.cells #[.slice a n c, .int .i64 nx] 24)).alloc (.cells #[.slice none 0 0, .int .i64 0] 27)) 27 #[.slice none 0 0, .int .i64 nx]
     simpa using this
   · exact (((Below.refl _ w).alloc (Nat.le_refl _) _).alloc (by simp) _).alloc (by simp; omega) _
   · simp
 case round =>
   obtain ⟨k, v, hk, rfl, HJ⟩ := hrel
   obtain ⟨r0, r1, -, -⟩ := HJ.out.1.two
   by_cases hlt : k < n
   · obtain ⟨p, hp⟩ := get_lt (l := l) (k := k) (by rw [← HL.out.2.1]; exact hlt)
     obtain ⟨b, o, e, f, hix, -, hcs, hLN⟩ := nds_atR (ndsR.below HL.out.1 HJ.out.2.2.2.2.1) k p hp
     obtain ⟨c0, c1, c2, c3, c4, c5⟩ := nv_cells hcs
     have HTK : Hid (l.take (k + 1) = l.take k ++ [p] ∧ (l.take k).length = k) := ⟨take_snoc hp, by have := HL.out.2.1; rw [List.length_take]; omega⟩
     obtain ⟨ea, ec, rfl, -, -⟩ := hLN.1.1.shape
     obtain ⟨fa, fc, hfe, -, -⟩ := Shape.list_len (S := F.bkR) (ht := Tryz.underlying74) (hc := F.cells74) hLN.2.1
     obtain rfl : f = _ := by simpa using hfe
     have HP : Hid (LR n0 wr p (.slice ea (en p).length ec) (.slice fa (fi p).2.length fc) ∧ FitsS l ∧ p ∈ l) := ⟨hLN, HL.out.2.2, List.mem_of_getElem? hp⟩
     obtain ⟨V, hV⟩ : ∃ V, V = wr.alloc (.cells #[.int .i64 p.1, .bool (isD p), .int .i64 (lk p), .slice ea (en p).length ec, .int .i64 (fi p).1, .slice fa (fi p).2.length fc] 78) := ⟨_, rfl⟩
     have HV : Hid (Below wr.heap.size wr V ∧ Box V wr.heap.size 78 #[.int .i64 p.1, .bool (isD p), .int .i64 (lk p), .slice ea (en p).length ec, .int .i64 (fi p).1, .slice fa (fi p).2.length fc]) := ⟨by rw [hV]; exact (Below.refl _ _).alloc (Nat.le_refl _) _, by rw [hV]; exact Box.new _ _ _⟩
     have HC1 : Hid (Calls Tryz.prog 43 #[.slice ea (en p).length ec] V.drew fun e w' => (∃ v', e = .returned v' ∧ OwnE 138 V.heap.size w' v' (en p)) ∧ Below V.heap.size V w') := (D.of_any n0 _ (en p) V.drew ((HP.out.1.1.below HV.out.1).below (Below.refl _ _).drew) (HP.out.2.1.2 p HP.out.2.2).1).mono fun e w' h => ⟨h.1, ((Below.refl _ V).drew).trans h.2⟩
     have HC2 : Hid (∀ W, Below wr.heap.size wr W → Calls Tryz.prog 44 #[.agg #[.int .i64 (fi p).1, .slice fa (fi p).2.length fc]] W fun e w' => (∃ us', e = .returned (.agg us'.toArray) ∧ flN.owns W.heap.size w' us' (fi p)) ∧ Below W.heap.size W w') := fun W hW => F.made_of n0 [_, _] (fi p) W (HP.out.1.below hW).file (HP.out.2.1.2 p HP.out.2.2).2
     have hki : (k : Int) < (n : Int) := by omega
     obtain ⟨v', vss, hv, hown0, hEE⟩ := HJ.out.2.2.2.1
     obtain rfl : v = v' := by simpa using hv
     rw [HTK.out.2] at hown0
     obtain ⟨a', cap', rfl⟩ := own_shape hown0
     have HO : Hid (wr.ownsRow (w.heap.size + 3) 86 6 (.slice a' k cap') k vss.flatten ∧ Each (ndN.owns (w.heap.size + 3) wr) vss (l.take k)) := ⟨hown0, hEE⟩
     obtain ⟨el, hel⟩ : ∃ m, m = (en p).length := ⟨_, rfl⟩
     obtain ⟨fl, hfl⟩ : ∃ m, m = (fi p).2.length := ⟨_, rfl⟩
     obtain ⟨pi, hpi⟩ : ∃ m, m = p.1 := ⟨_, rfl⟩
     obtain ⟨pd, hpd⟩ : ∃ m, m = isD p := ⟨_, rfl⟩
     obtain ⟨pl, hpl⟩ : ∃ m, m = lk p := ⟨_, rfl⟩
     obtain ⟨pz, hpz⟩ : ∃ m, m = (fi p).1 := ⟨_, rfl⟩
     have HEQ : Hid (el = (en p).length ∧ fl = (fi p).2.length ∧ (∀ e f, nv p e f = [.int .i64 pi, .bool pd, .int .i64 pl, e, .int .i64 pz, f]) ∧ NOk p ∧ pz = (fi p).1) := ⟨hel, hfl, fun e f => by rw [hpi, hpd, hpl, hpz]; rfl, HP.out.1.2.2, hpz⟩
     rw [← hel] at c3 HC1 HV hV
     rw [← hfl] at c5 HC2 HV hV
     rw [← hpi] at c0 HV hV
     rw [← hpd] at c1 HV hV
     rw [← hpl] at c2 HV hV
     rw [← hpz] at c4 HC2 HV hV
     clear hcs hLN hp hfe hel hfl hpi hpd hpl hpz HP hv hown0 hEE
     go_wp2
     rw [← hV]
     clear hV c0 c1 c2 c3 c4 c5 hix
     have hSS : V.drew.cell? ⟨wr.heap.size, 0, none⟩ = some (.int .i64 pi) ∧ V.drew.cell? ⟨wr.heap.size, 1, none⟩ = some (.bool pd) ∧ V.drew.cell? ⟨wr.heap.size, 2, none⟩ = some (.int .i64 pl) ∧ V.drew.cell? ⟨wr.heap.size, 3, none⟩ = some (.slice ea el ec) ∧ V.drew.cell? ⟨wr.heap.size, 4, none⟩ = some (.int .i64 pz) ∧ V.drew.cell? ⟨wr.heap.size, 4 + 1, none⟩ = some (.slice fa fl fc) ∧ V.drew.cell? ⟨w.heap.size + 2, 0, none⟩ = some (.slice a' k cap') := by
       obtain ⟨x0, x1, x2, x3, x4, x5⟩ := HV.out.2.six
       exact ⟨x0, x1, x2, x3, x4, x5, (HJ.out.2.2.1.below HV.out.1 HJ.out.2.2.1.lt).two.1⟩
     refine AnyBut.begin (fun U => U.cell? ⟨wr.heap.size, 0, none⟩ = some (.int .i64 pi) ∧ U.cell? ⟨wr.heap.size, 1, none⟩ = some (.bool pd) ∧ U.cell? ⟨wr.heap.size, 2, none⟩ = some (.int .i64 pl) ∧ U.cell? ⟨wr.heap.size, 3, none⟩ = some (.slice ea el ec) ∧ U.cell? ⟨wr.heap.size, 4, none⟩ = some (.int .i64 pz) ∧ U.cell? ⟨wr.heap.size, 4 + 1, none⟩ = some (.slice fa fl fc) ∧ U.cell? ⟨w.heap.size + 2, 0, none⟩ = some (.slice a' k cap')) 18 (by kernel_rfl) ?_
     refine AnyBut.take (i := 0) (some 21) (v := ?_) rfl rfl (by kernel_rfl) rfl (by kernel_rfl) (by kernel_rfl) (by kernel_rfl) (fun _ _ _ h => h) (.inl ⟨by rfl, ?_⟩) hSS ?_
     rotate_left
     · (intro W hSW; (try dsimp only at hSW); go_simp; try with_reducible rfl)
     simp only [Act.put, List.setIfInBounds_toArray, List.set_cons_zero, List.set_cons_succ]
     refine AnyBut.take (i := 1) (some 22) (v := ?_) rfl rfl (by kernel_rfl) rfl (by kernel_rfl) (by kernel_rfl) (by kernel_rfl) (fun _ _ _ h => h) (.inl ⟨by rfl, ?_⟩) hSS ?_
     rotate_left
     · (intro W hSW; (try dsimp only at hSW); go_simp; try with_reducible rfl)
     simp only [Act.put, List.setIfInBounds_toArray, List.set_cons_zero, List.set_cons_succ]
     refine AnyBut.take (i := 2) (some 23) (v := ?_) rfl rfl (by kernel_rfl) rfl (by kernel_rfl) (by kernel_rfl) (by kernel_rfl) (fun _ _ _ h => h) (.inl ⟨by rfl, ?_⟩) hSS ?_
     rotate_left
     · (intro W hSW; (try dsimp only at hSW); go_simp; try with_reducible rfl)
     simp only [Act.put, List.setIfInBounds_toArray, List.set_cons_zero, List.set_cons_succ]
     refine AnyBut.take (i := 3) (some 24) (v := ?_) rfl rfl (by kernel_rfl) rfl (by kernel_rfl) (by kernel_rfl) (by kernel_rfl) (fun _ _ _ h => h) (.inl ⟨by rfl, ?_⟩) hSS ?_
     rotate_left
     · (intro W hSW; (try dsimp only at hSW); go_simp; try with_reducible rfl)
     simp only [Act.put, List.setIfInBounds_toArray, List.set_cons_zero, List.set_cons_succ]
     refine AnyBut.take (i := 4) (some 25) (v := ?_) rfl rfl (by kernel_rfl) rfl (by kernel_rfl) (by kernel_rfl) (by kernel_rfl) (fun _ _ _ h => h) (.inl ⟨by rfl, ?_⟩) hSS ?_
     rotate_left
     · (intro W hSW; (try dsimp only at hSW); go_simp; try with_reducible rfl)
     simp only [Act.put, List.setIfInBounds_toArray, List.set_cons_zero, List.set_cons_succ]
     refine AnyBut.take (i := 5) (some 26) (v := ?_) rfl rfl (by kernel_rfl) rfl (by kernel_rfl) (by kernel_rfl) (by kernel_rfl) (fun _ _ _ h => h) (.inl ⟨by rfl, ?_⟩) hSS ?_
     rotate_left
     · (intro W hSW; (try dsimp only at hSW); go_simp; try with_reducible rfl)
     simp only [Act.put, List.setIfInBounds_toArray, List.set_cons_zero, List.set_cons_succ]
     refine AnyBut.take (i := 6) (some 27) (v := ?_) rfl rfl (by kernel_rfl) rfl (by kernel_rfl) (by kernel_rfl) (by kernel_rfl) (fun _ _ _ h => h) (.inl ⟨by rfl, ?_⟩) hSS ?_
     rotate_left
     · (intro W hSW; (try dsimp only at hSW); go_simp; try with_reducible rfl)
     simp only [Act.put, List.setIfInBounds_toArray, List.set_cons_zero, List.set_cons_succ]
     refine AnyBut.take (i := 7) (some 28) (v := ?_) rfl rfl (by kernel_rfl) rfl (by kernel_rfl) (by kernel_rfl) (by kernel_rfl) (fun _ _ _ h => h) (.inl ⟨by rfl, ?_⟩) hSS ?_
     rotate_left
     · (intro W hSW; (try dsimp only at hSW); go_simp; try with_reducible rfl)
     simp only [Act.put, List.setIfInBounds_toArray, List.set_cons_zero, List.set_cons_succ]
     refine AnyBut.take (i := 8) (some 29) (v := ?_) rfl rfl (by kernel_rfl) rfl (by kernel_rfl) (by kernel_rfl) (by kernel_rfl) (fun _ _ _ h => h) (.inl ⟨by rfl, ?_⟩) hSS ?_
     rotate_left
     · (intro W hSW; (try dsimp only at hSW); go_simp; try with_reducible rfl)
     simp only [Act.put, List.setIfInBounds_toArray, List.set_cons_zero, List.set_cons_succ]
     refine AnyBut.take (i := 9) (some 30) (v := ?_) rfl rfl (by kernel_rfl) rfl (by kernel_rfl) (by kernel_rfl) (by kernel_rfl) (fun _ _ _ h => h) (.inl ⟨by rfl, ?_⟩) hSS ?_
     rotate_left
     · (intro W hSW; (try dsimp only at hSW); go_simp; try with_reducible rfl)
     simp only [Act.put, List.setIfInBounds_toArray, List.set_cons_zero, List.set_cons_succ]
     refine AnyBut.take (i := 11) (some 32) (v := ?_) rfl rfl (by kernel_rfl) rfl (by kernel_rfl) (by kernel_rfl) (by kernel_rfl) (fun _ _ _ h => h) (.inl ⟨by rfl, ?_⟩) hSS ?_
     rotate_left
     · (intro W hSW; (try dsimp only at hSW); go_simp; try with_reducible rfl)
     simp only [Act.put, List.setIfInBounds_toArray, List.set_cons_zero, List.set_cons_succ]
     refine AnyBut.take (i := 12) (some 33) (v := ?_) rfl rfl (by kernel_rfl) rfl (by kernel_rfl) (by kernel_rfl) (by kernel_rfl) (fun _ _ _ h => h) (.inl ⟨by rfl, ?_⟩) hSS ?_
     rotate_left
     · (intro W hSW; (try dsimp only at hSW); go_simp; try with_reducible rfl)
     simp only [Act.put, List.setIfInBounds_toArray, List.set_cons_zero, List.set_cons_succ]
     refine AnyBut.step (i := 10) (by kernel_rfl) rfl (fun K hK => ?_)
     go_simp
     refine Calls.mono HC1.out ?_
     rintro e2 w2 ⟨⟨u2, rfl, hu2⟩, hb2⟩
     obtain ⟨ea', ec', rfl⟩ := hu2.shape
     have hE0 := HEQ.out.1
     rw [← hE0] at hu2 ⊢
     have HXX : Hid (∀ W, Below V.heap.size V W → W.cell? ⟨wr.heap.size, 0, none⟩ = some (.int .i64 pi) ∧ W.cell? ⟨wr.heap.size, 1, none⟩ = some (.bool pd) ∧ W.cell? ⟨wr.heap.size, 2, none⟩ = some (.int .i64 pl) ∧ W.cell? ⟨wr.heap.size, 3, none⟩ = some (.slice ea el ec) ∧ W.cell? ⟨wr.heap.size, 4, none⟩ = some (.int .i64 pz) ∧ W.cell? ⟨wr.heap.size, 4 + 1, none⟩ = some (.slice fa fl fc) ∧ W.cell? ⟨w.heap.size + 2, 0, none⟩ = some (.slice a' k cap')) := fun W hW => by
       obtain ⟨x0, x1, x2, x3, x4, x5⟩ := (HV.out.2.below hW HV.out.2.lt).six
       have hj := (HJ.out.2.2.1.below HV.out.1 HJ.out.2.2.1.lt)
       exact ⟨x0, x1, x2, x3, x4, x5, (hj.below hW hj.lt).two.1⟩
     dsimp only
     refine hK.out _ _ (HXX.out w2 hb2) ?_
     clear hK hSS hE0
     have hSS := HXX.out w2 hb2
     have HC2' := HC2.out w2 (below_any HV.out.1 hb2)
     refine AnyBut.step (i := 13) (by kernel_rfl) rfl (fun K hK => ?_)
     go_simp
     refine Calls.mono HC2' ?_
     rintro e3 w3 ⟨⟨us3, rfl, hu3⟩, hb3⟩
     obtain ⟨fa', fc', rfl, hbk, -⟩ := F.fl_ownN hu3
     have hE0 := HEQ.out.2.1
     have hE1 := HEQ.out.2.2.2.2
     rw [← hE0] at hbk ⊢
     rw [← hE1]
     have hbV3 : Below V.heap.size V w3 := below_any hb2 hb3
     dsimp only
     refine hK.out _ _ (HXX.out w3 hbV3) ?_
     clear hK hSS hE0 hE1
     have hSS := HXX.out w3 hbV3
     refine AnyBut.take (i := 14) (some 35) (v := ?_) rfl rfl (by kernel_rfl) rfl (by kernel_rfl) (by kernel_rfl) (by kernel_rfl) (fun _ _ _ h => h) (.inl ⟨by rfl, ?_⟩) hSS ?_
     rotate_left
     · (intro W hSW; (try dsimp only at hSW); go_simp; try with_reducible rfl)
     simp only [Act.put, List.setIfInBounds_toArray, List.set_cons_zero, List.set_cons_succ]
     refine AnyBut.step (i := 15) (by kernel_rfl) rfl (fun K hK => ?_)
     go_simp
     have hbw3 : Below wr.heap.size wr w3 := below_any HV.out.1 hbV3
     have hbV4 : Below V.heap.size V (w3.alloc (.cells #[.int .i64 pi, .bool pd, .int .i64 pl, .slice ea' el ec', .int .i64 pz, .slice fa' fl fc'] 86)) := hbV3.alloc hbV3.size _
     refine hK.out _ _ (HXX.out _ hbV4) ?_
     clear hK hSS
     have hSS := HXX.out _ hbV4
     refine AnyBut.step (i := 16) (by kernel_rfl) rfl (fun K hK => ?_)
     refine step_append_lies _ (by rfl) _ _ _ (by rfl) (w.heap.size + 3) 86 i3 _ 6 80 Tryz.underlying25 hi3 hz30 hz31 hz32 rfl (by omega) _ k _ (by rfl) ((own_below HO.out.1 hbw3).alloc _) ⟨w3.heap.size, 0, none⟩ 1 1 [.int .i64 pi, .bool pd, .int .i64 pl, .slice ea' el ec', .int .i64 pz, .slice fa' fl fc'] (by rfl) (by rfl)
       (World.news_of_block (cs := #[.int .i64 pi, .bool pd, .int .i64 pl, .slice ea' el ec', .int .i64 pz, .slice fa' fl fc']) (t := 86) (fr := (0, 0)) (heap_alloc_new w3 _)) (by simp [Value.oneCell']) (by omega) (by unfold maxLen; omega) (by omega) (by have := hbw3.size; have := HJ.out.2.2.2.2.2; simp; omega) (w3.heap.size + 1) (by simp) ?_
     intro gg cap3 w6 hO6 hg6 hat hltg
     have hne : ∀ B, B < w.heap.size + 3 → some B ≠ (Value.slice a' k cap').ownBlock := fun B hB => row_ne HO.out.1 hB
     have hnw : some wr.heap.size ≠ (Value.slice a' k cap').ownBlock := fun e => by have := (HO.out.1.lt _ e.symm).2; omega
     have hx6 := ((HV.out.2.below hbV4 HV.out.2.lt).grown hg6 hnw).six
     have hbk0 : Below wr.heap.size wr (w3.alloc (.cells #[.int .i64 pi, .bool pd, .int .i64 pl, .slice ea' el ec', .int .i64 pz, .slice fa' fl fc'] 86)) := below_any HV.out.1 hbV4
     have hq6 := (HJ.out.2.2.1.below hbk0 HJ.out.2.2.1.lt).grown hg6 (hne _ (by omega))
     have hSX : w6.cell? ⟨wr.heap.size, 0, none⟩ = some (.int .i64 pi) ∧ w6.cell? ⟨wr.heap.size, 1, none⟩ = some (.bool pd) ∧ w6.cell? ⟨wr.heap.size, 2, none⟩ = some (.int .i64 pl) ∧ w6.cell? ⟨wr.heap.size, 3, none⟩ = some (.slice ea el ec) ∧ w6.cell? ⟨wr.heap.size, 4, none⟩ = some (.int .i64 pz) ∧ w6.cell? ⟨wr.heap.size, 4 + 1, none⟩ = some (.slice fa fl fc) ∧ w6.cell? ⟨w.heap.size + 2, 0, none⟩ = some (.slice a' k cap') := ⟨hx6.1, hx6.2.1, hx6.2.2.1, hx6.2.2.2.1, hx6.2.2.2.2.1, hx6.2.2.2.2.2, hq6.two.1⟩
     refine hK.out _ _ hSX ?_
     clear hK hSS
     have hSS := hSX
     refine AnyBut.step (i := 17) (by kernel_rfl) rfl (fun K hK => ?_)
     go_simp
     refine hK.out _ _ hSS ?_
     clear hK
     refine AnyBut.last (by kernel_rfl) (by kernel_rfl) rfl (fun K hK => ?_)
     obtain ⟨y0, y1, z0, z1⟩ := hq6.two
     go_simp
     refine hK.out _ _ ?_
     clear hK hSS hSX
     have hkA : Same (w.heap.size + 3) w3 (w3.alloc (.cells #[.int .i64 pi, .bool pd, .int .i64 pl, .slice ea' el ec', .int .i64 pz, .slice fa' fl fc'] 86)) := .alloc _ _ _
     have hwr := HJ.out.2.2.2.2.2
     have hVs : wr.heap.size < V.heap.size := HV.out.2.lt
     have hLO : LO (w.heap.size + 3) w3 p (.slice ea' el ec') (.slice fa' fl fc') := ⟨(hu2.below hb3).weaken (by omega), bksN.oweaken hbk (by have := hb2.size; omega), HEQ.out.2.2.2.1⟩
     have hown6 : ndsN.owns (w.heap.size + 3) w6 [.slice (some ⟨gg, 0, none⟩) (k + 1) cap3] (l.take (k + 1)) := by
       rw [HTK.out.1]
       refine Shape.list_push (S := ndN) (ht := Tryz.underlying25) (hc := cells25) (us := [.int .i64 pi, .bool pd, .int .i64 pl, .slice ea' el ec', .int .i64 pz, .slice fa' fl fc']) (by decide) (HO.out.2.mono fun _ _ h => ndN.osame (ndN.obelow h hbw3) hkA) (by rw [HTK.out.2]; exact own_same (own_below HO.out.1 hbw3) hkA) ?_ hg6 (by rw [HTK.out.2]; exact hO6)
       have := nd_omk hLO
       rw [HEQ.out.2.2.1] at this
       exact ndN.osame this hkA
     have hb6 : Below w.heap.size w w6 := below_row (below_any HJ.out.2.2.2.2.1 hbw3) (own_below HO.out.1 hbw3) hg6 (by omega) (by have := hbw3.size; omega)
     have hx0 := (HJ.out.1.below hbk0 HJ.out.1.lt).grown hg6 (hne _ (by omega))
     have hx1 := (HJ.out.2.1.below hbk0 HJ.out.2.1.lt).grown hg6 (hne _ (by omega))
     have hs6 : w.heap.size + 3 ≤ w6.heap.size := by have := hg6.size; have := hbw3.size; simp at *; omega
     have HBB : Hid (Box w6 w.heap.size 24 #[.slice a n c, .int .i64 nx] ∧ Box w6 (w.heap.size + 1) 27 #[.slice none 0 0, .int .i64 0] ∧ Box w6 (w.heap.size + 2) 27 #[.slice a' k cap', .int .i64 nx] ∧ ndsN.owns (w.heap.size + 3) w6 [.slice (some ⟨gg, 0, none⟩) (k + 1) cap3] (l.take (k + 1)) ∧ Below w.heap.size w w6 ∧ w.heap.size + 3 ≤ w6.heap.size) := ⟨hx0, hx1, hq6, hown6, hb6, hs6⟩
     clear hO6 hg6 hat hltg hne hnw hx6 hbk0 hq6 hkA hLO hown6 hb6 hx0 hx1 hs6 hu2 hu3 hbk hb2 hb3 hbV3 hbV4 hbw3 y0 y1 z0 z1 r0 r1 HXX HC2'
     go_wp2
     go_roundw
     case rel => exact ⟨k + 1, _, by omega, by go_num, HBB.out.1.other (by omega), HBB.out.2.1.other (by omega), HBB.out.2.2.1.set 0 _, ndsN.osame HBB.out.2.2.2.1 (.set (by omega)), HBB.out.2.2.2.2.1.setCell (p := ⟨w.heap.size + 2, 0, none⟩) (by simp) _, by simpa [World.setCell] using HBB.out.2.2.2.2.2⟩
     case measure => simp [intOf]; omega
   · obtain rfl : k = n := by omega
     have hT : l.take k = l := by rw [HL.out.2.1]; simp
     rw [hT] at HJ
     obtain ⟨a', cap', _, hv, -, -⟩ := Shape.list_own (S := ndN) (ht := Tryz.underlying25) (hc := cells25) HJ.out.2.2.2.1
     obtain rfl : v = _ := by simpa using hv
     have hE0 := HL.out.2.1
     rw [← hE0] at HJ
     obtain ⟨q0, q1, -, -⟩ := HJ.out.2.2.1.two
     obtain ⟨d0, d1, e0, e1⟩ := HJ.out.2.1.two
     clear hE0 hT hv
     go_wp2
     refine bodyPost_ret (v := .agg #[.slice a' k cap', .int .i64 nx]) (by simp [results, Tryz.results9, go_sem, *]) rfl (HPo.out _ _ ?_ ?_)
     · exact ndsN.oweaken (n := w.heap.size + 3) (ndsN.osame HJ.out.2.2.2.1 (.set2 (by omega))) (by omega)
     · exact below_set2 HJ.out.2.2.2.2.1 (by omega) _ _
end Go.Proofs.YtkcnephbaffmbaaGreatDoor
