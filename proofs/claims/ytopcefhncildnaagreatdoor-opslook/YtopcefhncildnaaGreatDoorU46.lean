/-
  What Of makes of the document's state: the program's, in memory of its own.
  What Alike answers: whether the program's state and the document's are one.
-/
import Derived.Test.YtopcefhncildnaaGreatDoorU32
import Derived.Test.YtopcefhncildnaaGreatDoorU42
set_option maxRecDepth 100000
set_option maxHeartbeats 8000000
namespace Go.Proofs.YtopcefhncildnaaGreatDoor
open Go.RowKit
open D (En ArgE OwnE)
open F (Bk bkN bksN flR flN)
attribute [local go_sem ↓] Go.wp_at_zero Go.wp_at_succ
def FitsS (l : List Nd) : Prop := l.length * 80 ≤ 140737488351232 ∧ ∀ p ∈ l, (en p).length * 24 ≤ 140737488351232 ∧ F.Fits (fi p)
theorem of10_any (n0 : Nat) (a : Option Addr) (c : Nat) (s : St) (w : World) (hA : ndsR.lies n0 w [.slice a s.1.length c] s.1) (hS : FitsS s.1) :
   Calls Tryz.prog 10 #[.agg #[.slice a s.1.length c, .int .i64 s.2]] w fun e w' => (∃ v', e = .returned (.agg #[v', .int .i64 s.2]) ∧ ndsN.owns w.heap.size w' [v'] s.1) ∧ Below w.heap.size w w' := by
 obtain ⟨l, nx⟩ := s
 obtain ⟨i3, hi3, hz30, hz31, hz32⟩ := info_parts Tryz.info47
 simp only at hA hS ⊢
 obtain ⟨n, hn⟩ := exa (l.length)
 have hn80 : n * 80 ≤ 140737488351232 := by rw [hn]; exact hS.1
 have HL : Hid (ndsR.lies n0 w [.slice a n c] l ∧ n = l.length ∧ FitsS l) := ⟨by rw [hn]; exact hA, hn, hS⟩
 have hl1 := run_len Tryz.underlying22 a n c
 obtain ⟨post, hpost⟩ : ∃ post : Ending → World → Prop, post = fun e w' => (∃ v', e = .returned (.agg #[v', .int .i64 nx]) ∧ ndsN.owns w.heap.size w' [v'] l) ∧ Below w.heap.size w w' := ⟨_, rfl⟩
 have HPo : Hid (∀ v' w', ndsN.owns w.heap.size w' [v'] l → Below w.heap.size w w' → post (.returned (.agg #[v', .int .i64 nx])) w') := fun v' w' h1 h2 => by rw [hpost]; exact ⟨⟨v', rfl, h1⟩, h2⟩
 rw [← hpost, ← hn]
 clear hA hS hn hpost
 go_enter Tryz.func10, Tryz.ntmps10
 go_wp2
 go_loopw [4] (fun i wr => ∃ (k : Nat) (v : Value), k ≤ n ∧ i = .int .i64 k ∧ Hid (Box wr w.heap.size 24 #[.slice a n c, .int .i64 nx] ∧ Box wr (w.heap.size + 1) 29 #[.slice none 0 0, .int .i64 0] ∧ Box wr (w.heap.size + 2) 29 #[v, .int .i64 nx] ∧
   ndsN.owns (w.heap.size + 3) wr [v] (l.take k) ∧ Below w.heap.size w wr ∧ w.heap.size + 3 ≤ wr.heap.size)) (fun i _ => n - (intOf i).toNat)
 case atStart => (
 refine ⟨0, _, Nat.zero_le _, rfl, ?_, ?_, ?_, Shape.list_nil ndN 27 Tryz.underlying27 cells27 _ _, ?_, ?_⟩
 · exact ((Box.new w 24 _).alloc _).alloc _
 · have := (Box.new (w.alloc (.cells #[.slice a n c, .int .i64 nx] 24)) 29 #[.slice none 0 0, .int .i64 0]).alloc (.cells #[.slice none 0 0, .int .i64 nx] 29)
   simpa using this
 · have := Box.new ((w.alloc (.cells #[.slice a n c, .int .i64 nx] 24)).alloc (.cells #[.slice none 0 0, .int .i64 0] 29)) 29 #[.slice none 0 0, .int .i64 nx]
   simpa using this
 · exact (((Below.refl _ w).alloc (Nat.le_refl _) _).alloc (by simp) _).alloc (by simp; omega) _
 · simp)
 case round => (
 obtain ⟨k, v, hk, rfl, HJ⟩ := hrel
 obtain ⟨r0, r1, -, -⟩ := HJ.out.1.two
 by_cases hlt : k < n
 · obtain ⟨p, hp⟩ := get_lt (l := l) (k := k) (by rw [← HL.out.2.1]; exact hlt)
   obtain ⟨b, o, e, f, hix, -, hcs, hLN⟩ := nds_atR (ndsR.below HL.out.1 HJ.out.2.2.2.2.1) k p hp
   obtain ⟨c0, c1, c2, c3, c4, c5⟩ := nv_cells hcs
   have HTK : Hid (l.take (k + 1) = l.take k ++ [p] ∧ (l.take k).length = k) := ⟨take_snoc hp, by have := HL.out.2.1; rw [List.length_take]; omega⟩
   obtain ⟨ea, ec, rfl, -, -⟩ := hLN.1.1.shape
   obtain ⟨fa, fc, hfe, -, -⟩ := Shape.list_len (S := F.bkR) (ht := Tryz.underlying97) (hc := F.cells97) hLN.2.1
   obtain rfl : f = _ := by simpa using hfe
   have HP : Hid (LR n0 wr p (.slice ea (en p).length ec) (.slice fa (fi p).2.length fc) ∧ FitsS l ∧ p ∈ l) := ⟨hLN, HL.out.2.2, List.mem_of_getElem? hp⟩
   obtain ⟨V, hV⟩ := exa (wr.alloc (.cells #[.int .i64 p.1, .bool (isD p), .int .i64 (lk p), .slice ea (en p).length ec, .int .i64 (fi p).1, .slice fa (fi p).2.length fc] 101))
   have HV : Hid (Below wr.heap.size wr V ∧ Box V wr.heap.size 101 #[.int .i64 p.1, .bool (isD p), .int .i64 (lk p), .slice ea (en p).length ec, .int .i64 (fi p).1, .slice fa (fi p).2.length fc]) := ⟨by rw [hV]; exact (Below.refl _ _).alloc (Nat.le_refl _) _, by rw [hV]; exact Box.new _ _ _⟩
   have HC1 : Hid (Calls Tryz.prog 46 #[.slice ea (en p).length ec] V.drew fun e w' => (∃ v', e = .returned v' ∧ OwnE 49 V.heap.size w' v' (en p)) ∧ Below V.heap.size V w') := (D.of_any n0 _ (en p) V.drew ((HP.out.1.1.below HV.out.1).below (Below.refl _ _).drew) (HP.out.2.1.2 p HP.out.2.2).1).mono fun e w' h => ⟨h.1, ((Below.refl _ V).drew).trans h.2⟩
   have HC2 : Hid (∀ W, Below wr.heap.size wr W → Calls Tryz.prog 47 #[.agg #[.int .i64 (fi p).1, .slice fa (fi p).2.length fc]] W fun e w' => (∃ us', e = .returned (.agg us'.toArray) ∧ flN.owns W.heap.size w' us' (fi p)) ∧ Below W.heap.size W w') := fun W hW => F.made_of n0 [_, _] (fi p) W (HP.out.1.below hW).file (HP.out.2.1.2 p HP.out.2.2).2
   have hki : (k : Int) < (n : Int) := by omega
   obtain ⟨v', vss, hv, hown0, hEE⟩ := HJ.out.2.2.2.1
   obtain rfl : v = v' := by simpa using hv
   rw [HTK.out.2] at hown0
   obtain ⟨a', cap', rfl⟩ := own_shape hown0
   have HO : Hid (wr.ownsRow (w.heap.size + 3) 47 6 (.slice a' k cap') k vss.flatten ∧ Each (ndN.owns (w.heap.size + 3) wr) vss (l.take k)) := ⟨hown0, hEE⟩
   obtain ⟨el, hel⟩ := exa ((en p).length)
   obtain ⟨fl, hfl⟩ := exa ((fi p).2.length)
   obtain ⟨pi, hpi⟩ := exa (p.1)
   obtain ⟨pd, hpd⟩ := exa (isD p)
   obtain ⟨pl, hpl⟩ := exa (lk p)
   obtain ⟨pz, hpz⟩ := exa ((fi p).1)
   have HEQ : Hid (el = (en p).length ∧ fl = (fi p).2.length ∧ (∀ e f, nv p e f = [.int .i64 pi, .bool pd, .int .i64 pl, e, .int .i64 pz, f]) ∧ NOk p ∧ pz = (fi p).1) := ⟨hel, hfl, fun e f => by rw [hpi, hpd, hpl, hpz]; rfl, HP.out.1.2.2, hpz⟩
   rw [← hel] at c3 HC1 HV hV
   rw [← hfl] at c5 HC2 HV hV
   rw [← hpi] at c0 HV hV
   rw [← hpd] at c1 HV hV
   rw [← hpl] at c2 HV hV
   rw [← hpz] at c4 HC2 HV hV
   clear hcs hLN hp hfe hel hfl hpi hpd hpl hpz HP hv hown0 hEE
   go_wp2
   rw [← hV]
   clear hV c0 c1 c2 c3 c4 c5 hix
   have hSS : V.drew.cell? ⟨wr.heap.size, 0, none⟩ = some (.int .i64 pi) ∧ V.drew.cell? ⟨wr.heap.size, 1, none⟩ = some (.bool pd) ∧ V.drew.cell? ⟨wr.heap.size, 2, none⟩ = some (.int .i64 pl) ∧ V.drew.cell? ⟨wr.heap.size, 3, none⟩ = some (.slice ea el ec) ∧ V.drew.cell? ⟨wr.heap.size, 4, none⟩ = some (.int .i64 pz) ∧ V.drew.cell? ⟨wr.heap.size, 4 + 1, none⟩ = some (.slice fa fl fc) ∧ V.drew.cell? ⟨w.heap.size + 2, 0, none⟩ = some (.slice a' k cap') := by (
 obtain ⟨x0, x1, x2, x3, x4, x5⟩ := HV.out.2.six
 exact ⟨x0, x1, x2, x3, x4, x5, (HJ.out.2.2.1.below HV.out.1 HJ.out.2.2.1.lt).two.1⟩)
   refine AnyBut.begin (fun U => U.cell? ⟨wr.heap.size, 0, none⟩ = some (.int .i64 pi) ∧ U.cell? ⟨wr.heap.size, 1, none⟩ = some (.bool pd) ∧ U.cell? ⟨wr.heap.size, 2, none⟩ = some (.int .i64 pl) ∧ U.cell? ⟨wr.heap.size, 3, none⟩ = some (.slice ea el ec) ∧ U.cell? ⟨wr.heap.size, 4, none⟩ = some (.int .i64 pz) ∧ U.cell? ⟨wr.heap.size, 4 + 1, none⟩ = some (.slice fa fl fc) ∧ U.cell? ⟨w.heap.size + 2, 0, none⟩ = some (.slice a' k cap')) 18 (by kernel_rfl) ?_
   refine AnyBut.take (i := 0) (some 21) (v := ?_) rfl rfl (by kernel_rfl) rfl (by kernel_rfl) (by kernel_rfl) (by kernel_rfl) (fun _ _ _ h => h) (.inl ⟨by rfl, ?_⟩) hSS ?_
   rotate_left
   · (intro W hSW; (try dsimp only at hSW); go_simp; try with_reducible rfl)
   simp only [Act.put, List.setIfInBounds_toArray, List.set_cons_zero, List.set_cons_succ]
   refine AnyBut.take (i := 1) (some 22) (v := ?_) rfl rfl (by kernel_rfl) rfl (by kernel_rfl) (by kernel_rfl) (by kernel_rfl) (fun _ _ _ h => h) (.inl ⟨by rfl, ?_⟩) hSS ?_
   rotate_left
   · (intro W hSW; (try dsimp only at hSW); go_simp; try with_reducible rfl)
   simp only [Act.put, List.setIfInBounds_toArray, List.set_cons_zero, List.set_cons_succ]
   refine AnyBut.take (i := 2) (some 23) (v := ?_) rfl rfl (by kernel_rfl) rfl (by kernel_rfl) (by kernel_rfl) (by kernel_rfl) (fun _ _ _ h => h) (.inl ⟨by rfl, ?_⟩) hSS ?_
   rotate_left
   · (intro W hSW; (try dsimp only at hSW); go_simp; try with_reducible rfl)
   simp only [Act.put, List.setIfInBounds_toArray, List.set_cons_zero, List.set_cons_succ]
   refine AnyBut.take (i := 3) (some 24) (v := ?_) rfl rfl (by kernel_rfl) rfl (by kernel_rfl) (by kernel_rfl) (by kernel_rfl) (fun _ _ _ h => h) (.inl ⟨by rfl, ?_⟩) hSS ?_
   rotate_left
   · (intro W hSW; (try dsimp only at hSW); go_simp; try with_reducible rfl)
   simp only [Act.put, List.setIfInBounds_toArray, List.set_cons_zero, List.set_cons_succ]
   refine AnyBut.take (i := 4) (some 25) (v := ?_) rfl rfl (by kernel_rfl) rfl (by kernel_rfl) (by kernel_rfl) (by kernel_rfl) (fun _ _ _ h => h) (.inl ⟨by rfl, ?_⟩) hSS ?_
   rotate_left
   · (intro W hSW; (try dsimp only at hSW); go_simp; try with_reducible rfl)
   simp only [Act.put, List.setIfInBounds_toArray, List.set_cons_zero, List.set_cons_succ]
   refine AnyBut.take (i := 5) (some 26) (v := ?_) rfl rfl (by kernel_rfl) rfl (by kernel_rfl) (by kernel_rfl) (by kernel_rfl) (fun _ _ _ h => h) (.inl ⟨by rfl, ?_⟩) hSS ?_
   rotate_left
   · (intro W hSW; (try dsimp only at hSW); go_simp; try with_reducible rfl)
   simp only [Act.put, List.setIfInBounds_toArray, List.set_cons_zero, List.set_cons_succ]
   refine AnyBut.take (i := 6) (some 27) (v := ?_) rfl rfl (by kernel_rfl) rfl (by kernel_rfl) (by kernel_rfl) (by kernel_rfl) (fun _ _ _ h => h) (.inl ⟨by rfl, ?_⟩) hSS ?_
   rotate_left
   · (intro W hSW; (try dsimp only at hSW); go_simp; try with_reducible rfl)
   simp only [Act.put, List.setIfInBounds_toArray, List.set_cons_zero, List.set_cons_succ]
   refine AnyBut.take (i := 7) (some 28) (v := ?_) rfl rfl (by kernel_rfl) rfl (by kernel_rfl) (by kernel_rfl) (by kernel_rfl) (fun _ _ _ h => h) (.inl ⟨by rfl, ?_⟩) hSS ?_
   rotate_left
   · (intro W hSW; (try dsimp only at hSW); go_simp; try with_reducible rfl)
   simp only [Act.put, List.setIfInBounds_toArray, List.set_cons_zero, List.set_cons_succ]
   refine AnyBut.take (i := 8) (some 29) (v := ?_) rfl rfl (by kernel_rfl) rfl (by kernel_rfl) (by kernel_rfl) (by kernel_rfl) (fun _ _ _ h => h) (.inl ⟨by rfl, ?_⟩) hSS ?_
   rotate_left
   · (intro W hSW; (try dsimp only at hSW); go_simp; try with_reducible rfl)
   simp only [Act.put, List.setIfInBounds_toArray, List.set_cons_zero, List.set_cons_succ]
   refine AnyBut.take (i := 9) (some 30) (v := ?_) rfl rfl (by kernel_rfl) rfl (by kernel_rfl) (by kernel_rfl) (by kernel_rfl) (fun _ _ _ h => h) (.inl ⟨by rfl, ?_⟩) hSS ?_
   rotate_left
   · (intro W hSW; (try dsimp only at hSW); go_simp; try with_reducible rfl)
   simp only [Act.put, List.setIfInBounds_toArray, List.set_cons_zero, List.set_cons_succ]
   refine AnyBut.take (i := 11) (some 32) (v := ?_) rfl rfl (by kernel_rfl) rfl (by kernel_rfl) (by kernel_rfl) (by kernel_rfl) (fun _ _ _ h => h) (.inl ⟨by rfl, ?_⟩) hSS ?_
   rotate_left
   · (intro W hSW; (try dsimp only at hSW); go_simp; try with_reducible rfl)
   simp only [Act.put, List.setIfInBounds_toArray, List.set_cons_zero, List.set_cons_succ]
   refine AnyBut.take (i := 12) (some 33) (v := ?_) rfl rfl (by kernel_rfl) rfl (by kernel_rfl) (by kernel_rfl) (by kernel_rfl) (fun _ _ _ h => h) (.inl ⟨by rfl, ?_⟩) hSS ?_
   rotate_left
   · (intro W hSW; (try dsimp only at hSW); go_simp; try with_reducible rfl)
   simp only [Act.put, List.setIfInBounds_toArray, List.set_cons_zero, List.set_cons_succ]
   refine AnyBut.step (i := 10) (by kernel_rfl) rfl (fun K hK => ?_)
   go_simp
   refine Calls.mono HC1.out ?_
   rintro e2 w2 ⟨⟨u2, rfl, hu2⟩, hb2⟩
   obtain ⟨ea', ec', rfl⟩ := hu2.shape
   have hE0 := HEQ.out.1
   rw [← hE0] at hu2 ⊢
   have HXX : Hid (∀ W, Below V.heap.size V W → W.cell? ⟨wr.heap.size, 0, none⟩ = some (.int .i64 pi) ∧ W.cell? ⟨wr.heap.size, 1, none⟩ = some (.bool pd) ∧ W.cell? ⟨wr.heap.size, 2, none⟩ = some (.int .i64 pl) ∧ W.cell? ⟨wr.heap.size, 3, none⟩ = some (.slice ea el ec) ∧ W.cell? ⟨wr.heap.size, 4, none⟩ = some (.int .i64 pz) ∧ W.cell? ⟨wr.heap.size, 4 + 1, none⟩ = some (.slice fa fl fc) ∧ W.cell? ⟨w.heap.size + 2, 0, none⟩ = some (.slice a' k cap')) := fun W hW => by (
 obtain ⟨x0, x1, x2, x3, x4, x5⟩ := (HV.out.2.below hW HV.out.2.lt).six
 have hj := (HJ.out.2.2.1.below HV.out.1 HJ.out.2.2.1.lt)
 exact ⟨x0, x1, x2, x3, x4, x5, (hj.below hW hj.lt).two.1⟩)
   dsimp only
   refine hK.out _ _ (HXX.out w2 hb2) ?_
   clear hK hSS hE0
   have hSS := HXX.out w2 hb2
   have HC2' := HC2.out w2 (below_any HV.out.1 hb2)
   refine AnyBut.step (i := 13) (by kernel_rfl) rfl (fun K hK => ?_)
   go_simp
   refine Calls.mono HC2' ?_
   rintro e3 w3 ⟨⟨us3, rfl, hu3⟩, hb3⟩
   obtain ⟨fa', fc', rfl, hbk, -⟩ := F.fl_ownN hu3
   have hE0 := HEQ.out.2.1
   have hE1 := HEQ.out.2.2.2.2
   rw [← hE0] at hbk ⊢
   rw [← hE1]
   have hbV3 : Below V.heap.size V w3 := below_any hb2 hb3
   dsimp only
   refine hK.out _ _ (HXX.out w3 hbV3) ?_
   clear hK hSS hE0 hE1
   have hSS := HXX.out w3 hbV3
   refine AnyBut.take (i := 14) (some 35) (v := ?_) rfl rfl (by kernel_rfl) rfl (by kernel_rfl) (by kernel_rfl) (by kernel_rfl) (fun _ _ _ h => h) (.inl ⟨by rfl, ?_⟩) hSS ?_
   rotate_left
   · (intro W hSW; (try dsimp only at hSW); go_simp; try with_reducible rfl)
   simp only [Act.put, List.setIfInBounds_toArray, List.set_cons_zero, List.set_cons_succ]
   refine AnyBut.step (i := 15) (by kernel_rfl) rfl (fun K hK => ?_)
   go_simp
   have hbw3 : Below wr.heap.size wr w3 := below_any HV.out.1 hbV3
   have hbV4 : Below V.heap.size V (w3.alloc (.cells #[.int .i64 pi, .bool pd, .int .i64 pl, .slice ea' el ec', .int .i64 pz, .slice fa' fl fc'] 47)) := hbV3.alloc hbV3.size _
   refine hK.out _ _ (HXX.out _ hbV4) ?_
   clear hK hSS
   have hSS := HXX.out _ hbV4
   refine AnyBut.step (i := 16) (by kernel_rfl) rfl (fun K hK => ?_)
   refine step_append_lies _ (by rfl) _ _ _ (by rfl) (w.heap.size + 3) 47 i3 _ 6 80 Tryz.underlying27 hi3 hz30 hz31 hz32 rfl (by omega) _ k _ (by rfl) ((own_below HO.out.1 hbw3).alloc _) ⟨w3.heap.size, 0, none⟩ 1 1 [.int .i64 pi, .bool pd, .int .i64 pl, .slice ea' el ec', .int .i64 pz, .slice fa' fl fc'] (by rfl) (by rfl)
     (World.news_of_block (cs := #[.int .i64 pi, .bool pd, .int .i64 pl, .slice ea' el ec', .int .i64 pz, .slice fa' fl fc']) (t := 47) (fr := (0, 0)) (heap_alloc_new w3 _)) (by simp [Value.oneCell']) (by omega) (by unfold maxLen; omega) (by omega) (by have := hbw3.size; have := HJ.out.2.2.2.2.2; simp; omega) (w3.heap.size + 1) (by simp) ?_
   intro gg cap3 w6 hO6 hg6 hat hltg
   have hne : ∀ B, B < w.heap.size + 3 → some B ≠ (Value.slice a' k cap').ownBlock := fun B hB => row_ne HO.out.1 hB
   have hnw : some wr.heap.size ≠ (Value.slice a' k cap').ownBlock := fun e => by have := (HO.out.1.lt _ e.symm).2; omega
   have hx6 := ((HV.out.2.below hbV4 HV.out.2.lt).grown hg6 hnw).six
   have hbk0 : Below wr.heap.size wr (w3.alloc (.cells #[.int .i64 pi, .bool pd, .int .i64 pl, .slice ea' el ec', .int .i64 pz, .slice fa' fl fc'] 47)) := below_any HV.out.1 hbV4
   have hq6 := (HJ.out.2.2.1.below hbk0 HJ.out.2.2.1.lt).grown hg6 (hne _ (by omega))
   have hSX : w6.cell? ⟨wr.heap.size, 0, none⟩ = some (.int .i64 pi) ∧ w6.cell? ⟨wr.heap.size, 1, none⟩ = some (.bool pd) ∧ w6.cell? ⟨wr.heap.size, 2, none⟩ = some (.int .i64 pl) ∧ w6.cell? ⟨wr.heap.size, 3, none⟩ = some (.slice ea el ec) ∧ w6.cell? ⟨wr.heap.size, 4, none⟩ = some (.int .i64 pz) ∧ w6.cell? ⟨wr.heap.size, 4 + 1, none⟩ = some (.slice fa fl fc) ∧ w6.cell? ⟨w.heap.size + 2, 0, none⟩ = some (.slice a' k cap') := ⟨hx6.1, hx6.2.1, hx6.2.2.1, hx6.2.2.2.1, hx6.2.2.2.2.1, hx6.2.2.2.2.2, hq6.two.1⟩
   refine hK.out _ _ hSX ?_
   clear hK hSS
   have hSS := hSX
   refine AnyBut.step (i := 17) (by kernel_rfl) rfl (fun K hK => ?_)
   go_simp
   refine hK.out _ _ hSS ?_
   clear hK
   refine AnyBut.last (by kernel_rfl) (by kernel_rfl) rfl (fun K hK => ?_)
   obtain ⟨y0, y1, z0, z1⟩ := hq6.two
   go_simp
   refine hK.out _ _ ?_
   clear hK hSS hSX
   have hkA : Same (w.heap.size + 3) w3 (w3.alloc (.cells #[.int .i64 pi, .bool pd, .int .i64 pl, .slice ea' el ec', .int .i64 pz, .slice fa' fl fc'] 47)) := .alloc _ _ _
   have hwr := HJ.out.2.2.2.2.2
   have hVs : wr.heap.size < V.heap.size := HV.out.2.lt
   have hLO : LO (w.heap.size + 3) w3 p (.slice ea' el ec') (.slice fa' fl fc') := ⟨(hu2.below hb3).weaken (by omega), bksN.oweaken hbk (by have := hb2.size; omega), HEQ.out.2.2.2.1⟩
   have hown6 : ndsN.owns (w.heap.size + 3) w6 [.slice (some ⟨gg, 0, none⟩) (k + 1) cap3] (l.take (k + 1)) := by (
 rw [HTK.out.1]
 refine Shape.list_push (S := ndN) (ht := Tryz.underlying27) (hc := cells27) (us := [.int .i64 pi, .bool pd, .int .i64 pl, .slice ea' el ec', .int .i64 pz, .slice fa' fl fc']) (by decide) (HO.out.2.mono fun _ _ h => ndN.osame (ndN.obelow h hbw3) hkA) (by rw [HTK.out.2]; exact own_same (own_below HO.out.1 hbw3) hkA) ?_ hg6 (by rw [HTK.out.2]; exact hO6)
 have := nd_omk hLO
 rw [HEQ.out.2.2.1] at this
 exact ndN.osame this hkA)
   have hb6 : Below w.heap.size w w6 := below_row (below_any HJ.out.2.2.2.2.1 hbw3) (own_below HO.out.1 hbw3) hg6 (by omega) (by have := hbw3.size; omega)
   have hx0 := (HJ.out.1.below hbk0 HJ.out.1.lt).grown hg6 (hne _ (by omega))
   have hx1 := (HJ.out.2.1.below hbk0 HJ.out.2.1.lt).grown hg6 (hne _ (by omega))
   have hs6 : w.heap.size + 3 ≤ w6.heap.size := by have := hg6.size; have := hbw3.size; simp at *; omega
   have HBB : Hid (Box w6 w.heap.size 24 #[.slice a n c, .int .i64 nx] ∧ Box w6 (w.heap.size + 1) 29 #[.slice none 0 0, .int .i64 0] ∧ Box w6 (w.heap.size + 2) 29 #[.slice a' k cap', .int .i64 nx] ∧ ndsN.owns (w.heap.size + 3) w6 [.slice (some ⟨gg, 0, none⟩) (k + 1) cap3] (l.take (k + 1)) ∧ Below w.heap.size w w6 ∧ w.heap.size + 3 ≤ w6.heap.size) := ⟨hx0, hx1, hq6, hown6, hb6, hs6⟩
   clear hO6 hg6 hat hltg hne hnw hx6 hbk0 hq6 hkA hLO hown6 hb6 hx0 hx1 hs6 hu2 hu3 hbk hb2 hb3 hbV3 hbV4 hbw3 y0 y1 z0 z1 r0 r1 HXX HC2'
   go_wp2
   go_roundw
   case rel => exact ⟨k + 1, _, by omega, by go_num, HBB.out.1.other (by omega), HBB.out.2.1.other (by omega), HBB.out.2.2.1.set 0 _, ndsN.osame HBB.out.2.2.2.1 (.set (by omega)), HBB.out.2.2.2.2.1.setCell (p := ⟨w.heap.size + 2, 0, none⟩) (by simp) _, by simpa [World.setCell] using HBB.out.2.2.2.2.2⟩
   case measure => simp [intOf]; omega
 · obtain rfl : k = n := by omega
   have hT : l.take k = l := by rw [HL.out.2.1]; simp
   rw [hT] at HJ
   obtain ⟨a', cap', _, hv, -, -⟩ := Shape.list_own (S := ndN) (ht := Tryz.underlying27) (hc := cells27) HJ.out.2.2.2.1
   obtain rfl : v = _ := by simpa using hv
   have hE0 := HL.out.2.1
   rw [← hE0] at HJ
   obtain ⟨q0, q1, -, -⟩ := HJ.out.2.2.1.two
   obtain ⟨d0, d1, e0, e1⟩ := HJ.out.2.1.two
   clear hE0 hT hv
   go_wp2
   refine bodyPost_ret (v := .agg #[.slice a' k cap', .int .i64 nx]) (by simp [results, Tryz.results10, go_sem, *]) rfl (HPo.out _ _ ?_ ?_)
   · exact ndsN.oweaken (n := w.heap.size + 3) (ndsN.osame HJ.out.2.2.2.1 (.set2 (by omega))) (by omega)
   · exact below_set2 HJ.out.2.2.2.2.1 (by omega) _ _)
end Go.Proofs.YtopcefhncildnaaGreatDoor
namespace Go.Proofs.YtopcefhncildnaaGreatDoor
open Go.RowKit
open D (En ArgE)
open F (Fl bksN bksR flR flN)
theorem alike_nd {a b : List Nd} (hl : a.length = b.length) (h : ∀ (i : Nat), i < a.length → a[i]? = b[i]?) : a = b := by
 apply List.ext_getElem?
 intro i
 by_cases hi : i < a.length
 · exact h i hi
 · rw [List.getElem?_eq_none (by omega), List.getElem?_eq_none (by omega)]
theorem nd_ext {x y : Nd} (h1 : x.1 = y.1) (h2 : isD x = isD y) (h3 : lk x = lk y) (h4 : en x = en y) (h5 : fi x = fi y) : x = y := by
 obtain ⟨x1, x2, x3, x4, x5⟩ := x
 obtain ⟨y1, y2, y3, y4, y5⟩ := y
 obtain rfl : x1 = y1 := h1
 obtain rfl : x2 = y2 := h2
 obtain rfl : x3 = y3 := h3
 obtain rfl : x4 = y4 := h4
 obtain rfl : x5 = y5 := h5
 rfl
theorem AnyBut.two {P : Program} {ops : Array Oper} {Q : Exit → Act → World → Prop} {md : Region.Mode} {S : World → Prop} {t : Nat} {i j : Nat} {oi oj : Oper} {f : Nat} {listed : Array Bool} {a : Act} {w : World} (hr : Region.ready md ops listed = [i, j]) (ho : ops[i]? = some oi) (ho2 : ops[j]? = some oj)
   (h : ∀ K : Act → World → Prop, Shut (∀ a w, S w → AnyBut P md ops Q S t f (listed.setIfInBounds i true) a w → K a w) → if Region.wanted oi (yielded ops a.tmps) = true then Oper.wp P oi a w K Q else K (a.put oi.dst undef) w)
   (h2 : ∀ K : Act → World → Prop, Shut (∀ a w, S w → AnyBut P md ops Q S t f (listed.setIfInBounds j true) a w → K a w) → if Region.wanted oj (yielded ops a.tmps) = true then Oper.wp P oj a w K Q else K (a.put oj.dst undef) w) : AnyBut P md ops Q S t (f + 1) listed a w := by
 refine ⟨fun h0 => (by rw [hr] at h0; cases h0), fun k hk => ?_⟩
 rw [hr] at hk
 rcases List.mem_cons.1 hk with rfl | hk
 · exact wpOp_step ho fun K hK => h K fun a w hS hA => hK a w ⟨fun _ => hS, hA⟩
 · obtain rfl := List.mem_singleton.1 hk
   exact wpOp_step ho2 fun K hK => h2 K fun a w hS hA => hK a w ⟨fun _ => hS, hA⟩
theorem alike10_any (n1 n2 : Nat) (a1 a2 : Option Addr) (c1 c2 : Nat) (s1 s2 : St) (w : World) (h1 : ndsN.lies n1 w [.slice a1 s1.1.length c1] s1.1) (h2 : ndsR.lies n2 w [.slice a2 s2.1.length c2] s2.1) :
   Calls Tryz.prog 18 #[.agg #[.slice a1 s1.1.length c1, .int .i64 s1.2], .agg #[.slice a2 s2.1.length c2, .int .i64 s2.2]] w fun e w' => (∃ d : Int, e = .returned (.int .i64 d) ∧ ((s1 = s2 ∧ d = 0) ∨ (s1 ≠ s2 ∧ d = 1))) ∧ Below w.heap.size w w' := by
 obtain ⟨l1, x1⟩ := s1
 obtain ⟨l2, x2⟩ := s2
 simp only at h1 h2 ⊢
 have hr1 := run_len Tryz.underlying27 a1 l1.length c1
 have hr2 := run_len Tryz.underlying22 a2 l2.length c2
 have hm1 : l1.length ≤ maxLen := by
   obtain ⟨_, _, he, _, hm, _⟩ := Shape.list_len (S := ndN) (ht := Tryz.underlying27) (hc := cells27) h1
   exact hm
 unfold maxLen at hm1
 obtain ⟨W, hW⟩ := exa ((w.alloc (.cells #[.slice a1 l1.length c1, .int .i64 x1] 29)).alloc (.cells #[.slice a2 l2.length c2, .int .i64 x2] 24))
 have hb : Below w.heap.size w W := by rw [hW]; exact ((Below.refl _ w).alloc (Nat.le_refl _) _).alloc (by simp) _
 have hB1 : Box W w.heap.size 29 #[.slice a1 l1.length c1, .int .i64 x1] := by rw [hW]; exact (Box.new _ _ _).alloc _
 have hB2 : Box W (w.heap.size + 1) 24 #[.slice a2 l2.length c2, .int .i64 x2] := by (
 rw [hW]
 have := Box.new (w.alloc (.cells #[.slice a1 l1.length c1, .int .i64 x1] 29)) 24 #[.slice a2 l2.length c2, .int .i64 x2]
 rwa [World.size_alloc] at this)
 obtain ⟨p0, p1, _, _⟩ := hB1.two
 obtain ⟨q0, q1, _, _⟩ := hB2.two
 have HW : Hid (Below w.heap.size w W ∧ ndsN.lies n1 W [.slice a1 l1.length c1] l1 ∧ ndsR.lies n2 W [.slice a2 l2.length c2] l2 ∧ Box W w.heap.size 29 #[.slice a1 l1.length c1, .int .i64 x1] ∧ Box W (w.heap.size + 1) 24 #[.slice a2 l2.length c2, .int .i64 x2]) := ⟨hb, ndsN.below h1 hb, ndsR.below h2 hb, hB1, hB2⟩
 clear h1 h2 hb hB1 hB2
 by_cases hx : x1 = x2
 case neg => (
 have HZ : Hid ((l1, x1) ≠ (l2, x2)) := fun e => hx (congrArg Prod.snd e)
 obtain ⟨post, hpost⟩ : ∃ post : Ending → World → Prop, post = fun e w' => (∃ d : Int, e = .returned (.int .i64 d) ∧ (((l1, x1) = (l2, x2) ∧ d = 0) ∨ ((l1, x1) ≠ (l2, x2) ∧ d = 1))) ∧ Below w.heap.size w w' := ⟨_, rfl⟩
 rw [← hpost]
 have HPo : Hid (∀ w', Below w.heap.size w w' → post (.returned (.int .i64 1)) w') := fun w' h => by rw [hpost]; exact ⟨⟨1, rfl, .inr ⟨HZ.out, rfl⟩⟩, h⟩
 clear hpost
 rw [hW] at HW
 clear p0 p1 q0 q1 hW
 go_enter Tryz.func18, Tryz.ntmps18
 go_wp2
 exact HPo.out _ HW.out.1)
 subst hx
 by_cases hlen : l1.length = l2.length
 case neg => (
 have HZ : Hid ((l1, x1) ≠ (l2, x1)) := fun e => hlen (by rw [(Prod.mk.inj e).1])
 obtain ⟨post, hpost⟩ : ∃ post : Ending → World → Prop, post = fun e w' => (∃ d : Int, e = .returned (.int .i64 d) ∧ (((l1, x1) = (l2, x1) ∧ d = 0) ∨ ((l1, x1) ≠ (l2, x1) ∧ d = 1))) ∧ Below w.heap.size w w' := ⟨_, rfl⟩
 rw [← hpost]
 have HPo : Hid (∀ w', Below w.heap.size w w' → post (.returned (.int .i64 1)) w') := fun w' h => by rw [hpost]; exact ⟨⟨1, rfl, .inr ⟨HZ.out, rfl⟩⟩, h⟩
 clear hpost
 have hne : ¬ (l1.length : Int) = (l2.length : Int) := by omega
 rw [hW] at HW
 clear p0 p1 q0 q1 hW
 go_enter Tryz.func18, Tryz.ntmps18
 go_wp2
 exact HPo.out _ HW.out.1)
 obtain ⟨n, hn⟩ := exa (l1.length)
 have HN : Hid (n = l1.length ∧ n = l2.length) := ⟨hn, by omega⟩
 rw [← hlen] at HW hr2 hW q0 ⊢
 rw [← hn] at HW hr1 hr2 hm1 hW p0 q0 ⊢
 obtain ⟨post, hpost⟩ : ∃ post : Ending → World → Prop, post = fun e w' => (∃ d : Int, e = .returned (.int .i64 d) ∧ (((l1, x1) = (l2, x1) ∧ d = 0) ∨ ((l1, x1) ≠ (l2, x1) ∧ d = 1))) ∧ Below w.heap.size w w' := ⟨_, rfl⟩
 rw [← hpost]
 have HP1 : Hid (∀ w', l1 ≠ l2 → Below w.heap.size w w' → post (.returned (.int .i64 1)) w') := fun w' h0 h => by rw [hpost]; exact ⟨⟨1, rfl, .inr ⟨fun e => h0 (Prod.mk.inj e).1, rfl⟩⟩, h⟩
 have HP0 : Hid (∀ w', l1 = l2 → Below w.heap.size w w' → post (.returned (.int .i64 0)) w') := fun w' h0 h => by rw [hpost, h0]; exact ⟨⟨0, rfl, .inl ⟨rfl, rfl⟩⟩, h⟩
 rw [hW] at p0 p1 q0 q1
 clear hn hlen hpost
 go_enter Tryz.func18, Tryz.ntmps18
 go_wp2
 rw [← hW] at p0 p1 q0 q1 ⊢
 clear hW
 go_loopw [5] (fun i wr => ∃ k : Nat, k ≤ n ∧ i = .int .i64 k ∧ Hid (∀ (i : Nat), i < k → l1[i]? = l2[i]?) ∧ Hid (Below W.heap.size W wr)) (fun i _ => n - (intOf i).toNat)
 case atStart => exact ⟨0, Nat.zero_le _, rfl, fun i hi => by omega, Below.refl _ _⟩
 case round => (
 obtain ⟨k, hk, rfl, HK, HB⟩ := hrel
 have hbB1 := HW.out.2.2.2.1.below HB.out HW.out.2.2.2.1.lt
 have hbB2 := HW.out.2.2.2.2.below HB.out HW.out.2.2.2.2.lt
 clear p0 p1 q0 q1
 obtain ⟨p0, p1, -, -⟩ := hbB1.two
 obtain ⟨q0, q1, -, -⟩ := hbB2.two
 by_cases hlt : k < n
 · obtain ⟨x, hx⟩ := get_lt (l := l1) (k := k) (by rw [← HN.out.1]; exact hlt)
   obtain ⟨y, hy⟩ := get_lt (l := l2) (k := k) (by rw [← HN.out.2]; exact hlt)
   obtain ⟨b1, o1, e1, f1, hix1, hg1, hc1, hL1⟩ := nds_atN (ndsN.below HW.out.2.1 HB.out) k x hx
   obtain ⟨b2, o2, e2, f2, hix2, hg2, hc2, hL2⟩ := nds_atR (ndsR.below HW.out.2.2.1 HB.out) k y hy
   obtain ⟨i0, i1, i2, i3, i4, i5⟩ := nv_cells hc1
   obtain ⟨j0, j1, j2, j3, j4, j5⟩ := nv_cells hc2
   have hkn : (k : Int) < (n : Int) := by omega
   have HXY : Hid (l1[k]? = some x ∧ l2[k]? = some y ∧ LN n1 wr x e1 f1 ∧ LR n2 wr y e2 f2) := ⟨hx, hy, hL1, hL2⟩
   clear hx hy hL1 hL2 hc1 hc2 hbB1 hbB2
   obtain ⟨xi, hxi⟩ := exa (x.1)
   obtain ⟨xd, hxd⟩ := exa (isD x)
   obtain ⟨xl, hxl⟩ := exa (lk x)
   obtain ⟨xz, hxz⟩ := exa ((fi x).1)
   obtain ⟨yi, hyi⟩ := exa (y.1)
   obtain ⟨yd, hyd⟩ := exa (isD y)
   obtain ⟨yl, hyl⟩ := exa (lk y)
   obtain ⟨yz, hyz⟩ := exa ((fi y).1)
   have HE : Hid (xi = x.1 ∧ xd = isD x ∧ xl = lk x ∧ xz = (fi x).1 ∧ yi = y.1 ∧ yd = isD y ∧ yl = lk y ∧ yz = (fi y).1) := ⟨hxi, hxd, hxl, hxz, hyi, hyd, hyl, hyz⟩
   rw [← hxi] at i0
   rw [← hxd] at i1
   rw [← hxl] at i2
   rw [← hxz] at i4
   rw [← hyi] at j0
   rw [← hyd] at j1
   rw [← hyl] at j2
   rw [← hyz] at j4
   clear hxi hxd hxl hxz hyi hyd hyl hyz
   have HSb : Hid (∀ U, Below wr.heap.size wr U → U.cell? ⟨w.heap.size, 0, none⟩ = some (.slice a1 n c1) ∧ U.cell? ⟨w.heap.size + 1, 0, none⟩ = some (.slice a2 n c2) ∧ U.cell? ⟨b1, o1, none⟩ = some (.int .i64 xi) ∧ U.cell? ⟨b1, o1 + 1, none⟩ = some (.bool xd) ∧ U.cell? ⟨b1, o1 + 2, none⟩ = some (.int .i64 xl) ∧ U.cell? ⟨b1, o1 + 3, none⟩ = some e1 ∧ U.cell? ⟨b1, o1 + 4, none⟩ = some (.int .i64 xz) ∧ U.cell? ⟨b1, o1 + 5, none⟩ = some f1 ∧ U.cell? ⟨b2, o2, none⟩ = some (.int .i64 yi) ∧ U.cell? ⟨b2, o2 + 1, none⟩ = some (.bool yd) ∧ U.cell? ⟨b2, o2 + 2, none⟩ = some (.int .i64 yl) ∧ U.cell? ⟨b2, o2 + 3, none⟩ = some e2 ∧ U.cell? ⟨b2, o2 + 4, none⟩ = some (.int .i64 yz) ∧ U.cell? ⟨b2, o2 + 5, none⟩ = some f2) := fun U hU => by (
 have keep : ∀ (z : Addr) (v : Value), wr.cell? z = some v → U.cell? z = some v := fun z v hz => by rw [hU.cell (cell_lt hz)]; exact hz
 exact ⟨keep _ _ p0, keep _ _ q0, keep _ _ i0, keep _ _ i1, keep _ _ i2, keep _ _ i3, keep _ _ i4, keep _ _ i5, keep _ _ j0, keep _ _ j1, keep _ _ j2, keep _ _ j3, keep _ _ j4, keep _ _ j5⟩)
   obtain ⟨ea1, ec1, rfl, -⟩ := HXY.out.2.2.1.1.shape
   obtain ⟨ea2, ec2, rfl, -⟩ := HXY.out.2.2.2.1.shape
   obtain ⟨fa1, fc1, hfe1, -⟩ := Shape.list_len (S := F.bkN) (ht := Tryz.underlying43) (hc := F.cells43) HXY.out.2.2.1.2.1
   obtain rfl : f1 = _ := by simpa using hfe1
   obtain ⟨fa2, fc2, hfe2, -⟩ := Shape.list_len (S := F.bkR) (ht := Tryz.underlying97) (hc := F.cells97) HXY.out.2.2.2.2.1
   obtain rfl : f2 = _ := by simpa using hfe2
   clear hfe1 hfe2
   go_wp2
   have hSS := HSb.out wr.drew (Below.refl _ wr).drew
   clear p0 p1 q0 q1 i0 i1 i2 i3 i4 i5 j0 j1 j2 j3 j4 j5
   refine AnyBut.begin (fun U => U.cell? ⟨w.heap.size, 0, none⟩ = some (.slice a1 n c1) ∧ U.cell? ⟨w.heap.size + 1, 0, none⟩ = some (.slice a2 n c2) ∧ U.cell? ⟨b1, o1, none⟩ = some (.int .i64 xi) ∧ U.cell? ⟨b1, o1 + 1, none⟩ = some (.bool xd) ∧ U.cell? ⟨b1, o1 + 2, none⟩ = some (.int .i64 xl) ∧ U.cell? ⟨b1, o1 + 3, none⟩ = some (.slice ea1 (en x).length ec1) ∧ U.cell? ⟨b1, o1 + 4, none⟩ = some (.int .i64 xz) ∧ U.cell? ⟨b1, o1 + 5, none⟩ = some (.slice fa1 (fi x).2.length fc1) ∧ U.cell? ⟨b2, o2, none⟩ = some (.int .i64 yi) ∧ U.cell? ⟨b2, o2 + 1, none⟩ = some (.bool yd) ∧ U.cell? ⟨b2, o2 + 2, none⟩ = some (.int .i64 yl) ∧ U.cell? ⟨b2, o2 + 3, none⟩ = some (.slice ea2 (en y).length ec2) ∧ U.cell? ⟨b2, o2 + 4, none⟩ = some (.int .i64 yz) ∧ U.cell? ⟨b2, o2 + 5, none⟩ = some (.slice fa2 (fi y).2.length fc2)) 13 (by kernel_rfl) ?_
   refine AnyBut.take (i := 0) (some 29) (v := ?_) rfl rfl (by kernel_rfl) rfl (by kernel_rfl) (by kernel_rfl) (by kernel_rfl) (fun _ _ _ h => h) (.inl ⟨by rfl, ?_⟩) hSS ?_
   rotate_left
   · (intro W hSW; (try dsimp only at hSW); go_simp; try with_reducible rfl)
   simp only [Act.put, List.setIfInBounds_toArray, List.set_cons_zero, List.set_cons_succ]
   refine AnyBut.take (i := 1) (some 30) (v := ?_) rfl rfl (by kernel_rfl) rfl (by kernel_rfl) (by kernel_rfl) (by kernel_rfl) (fun _ _ _ h => h) (.inl ⟨by rfl, ?_⟩) hSS ?_
   rotate_left
   · (intro W hSW; (try dsimp only at hSW); go_simp; try with_reducible rfl)
   simp only [Act.put, List.setIfInBounds_toArray, List.set_cons_zero, List.set_cons_succ]
   refine AnyBut.take (i := 2) (some 31) (v := ?_) rfl rfl (by kernel_rfl) rfl (by kernel_rfl) (by kernel_rfl) (by kernel_rfl) (fun _ _ _ h => h) (.inl ⟨by rfl, ?_⟩) hSS ?_
   rotate_left
   · (intro W hSW; (try dsimp only at hSW); go_simp; try with_reducible rfl)
   simp only [Act.put, List.setIfInBounds_toArray, List.set_cons_zero, List.set_cons_succ]
   refine AnyBut.take (i := 3) (some 32) (v := ?_) rfl rfl (by kernel_rfl) rfl (by kernel_rfl) (by kernel_rfl) (by kernel_rfl) (fun _ _ _ h => h) (.inl ⟨by rfl, ?_⟩) hSS ?_
   rotate_left
   · (intro W hSW; (try dsimp only at hSW); go_simp; try with_reducible rfl)
   simp only [Act.put, List.setIfInBounds_toArray, List.set_cons_zero, List.set_cons_succ]
   refine AnyBut.take (i := 4) (some 33) (v := ?_) rfl rfl (by kernel_rfl) rfl (by kernel_rfl) (by kernel_rfl) (by kernel_rfl) (fun _ _ _ h => h) (.inl ⟨by rfl, ?_⟩) hSS ?_
   rotate_left
   · (intro W hSW; (try dsimp only at hSW); go_simp; try with_reducible rfl)
   simp only [Act.put, List.setIfInBounds_toArray, List.set_cons_zero, List.set_cons_succ]
   refine AnyBut.take (i := 5) (some 34) (v := ?_) rfl rfl (by kernel_rfl) rfl (by kernel_rfl) (by kernel_rfl) (by kernel_rfl) (fun _ _ _ h => h) (.inl ⟨by rfl, ?_⟩) hSS ?_
   rotate_left
   · (intro W hSW; (try dsimp only at hSW); go_simp; try with_reducible rfl)
   simp only [Act.put, List.setIfInBounds_toArray, List.set_cons_zero, List.set_cons_succ]
   refine AnyBut.take (i := 6) (some 35) (v := ?_) rfl rfl (by kernel_rfl) rfl (by kernel_rfl) (by kernel_rfl) (by kernel_rfl) (fun _ _ _ h => h) (.inl ⟨by rfl, ?_⟩) hSS ?_
   rotate_left
   · (intro W hSW; (try dsimp only at hSW); go_simp; try with_reducible rfl)
   simp only [Act.put, List.setIfInBounds_toArray, List.set_cons_zero, List.set_cons_succ]
   refine AnyBut.take (i := 7) (some 36) (v := ?_) rfl rfl (by kernel_rfl) rfl (by kernel_rfl) (by kernel_rfl) (by kernel_rfl) (fun _ _ _ h => h) (.inl ⟨by rfl, ?_⟩) hSS ?_
   rotate_left
   · (intro W hSW; (try dsimp only at hSW); go_simp; try with_reducible rfl)
   simp only [Act.put, List.setIfInBounds_toArray, List.set_cons_zero, List.set_cons_succ]
   refine AnyBut.take (i := 8) (some 37) (v := ?_) rfl rfl (by kernel_rfl) rfl (by kernel_rfl) (by kernel_rfl) (by kernel_rfl) (fun _ _ _ h => h) (.inl ⟨by rfl, ?_⟩) hSS ?_
   rotate_left
   · (intro W hSW; (try dsimp only at hSW); go_simp; try with_reducible rfl)
   simp only [Act.put, List.setIfInBounds_toArray, List.set_cons_zero, List.set_cons_succ]
   refine AnyBut.take (i := 9) (some 38) (v := ?_) rfl rfl (by kernel_rfl) rfl (by kernel_rfl) (by kernel_rfl) (by kernel_rfl) (fun _ _ _ h => h) (.inl ⟨by rfl, ?_⟩) hSS ?_
   rotate_left
   · (intro W hSW; (try dsimp only at hSW); go_simp; try with_reducible rfl)
   simp only [Act.put, List.setIfInBounds_toArray, List.set_cons_zero, List.set_cons_succ]
   refine AnyBut.two (i := 10) (j := 11) (by kernel_rfl) rfl rfl (fun K hK => ?_) (fun K hK => ?_)
   · go_simp
     refine hK.out _ _ (HSb.out _ ((Below.refl _ wr).drew.alloc (Nat.le_refl _) _)) ?_
     clear hK hSS
     refine AnyBut.step (i := 11) (by kernel_rfl) rfl (fun K hK => ?_)
     go_simp
     refine hK.out _ _ (HSb.out _ (((Below.refl _ wr).drew.alloc (Nat.le_refl _) _).alloc (by simp) _)) ?_
     clear hK
     refine AnyBut.step (i := 12) (by kernel_rfl) rfl (fun K hK => ?_)
     go_simp
     refine hK.out _ _ (HSb.out _ (((Below.refl _ wr).alloc (Nat.le_refl _) _).alloc (by simp) _).drew) ?_
     clear hK
     refine AnyBut.last (by kernel_rfl) (by kernel_rfl) rfl (fun K hK => ?_)
     go_simp
     refine hK.out _ _ ?_
     clear hK
     obtain ⟨V, hV⟩ := exa (((wr.alloc (.cells #[.int .i64 xi, .bool xd, .int .i64 xl, .slice ea1 (en x).length ec1, .int .i64 xz, .slice fa1 (fi x).2.length fc1] 47)).alloc (.cells #[.int .i64 yi, .bool yd, .int .i64 yl, .slice ea2 (en y).length ec2, .int .i64 yz, .slice fa2 (fi y).2.length fc2] 101)).drew)
     have hbV : Below wr.heap.size wr V := by rw [hV]; exact (((Below.refl _ wr).alloc (Nat.le_refl _) _).alloc (by simp) _).drew
     have hBx : Box V wr.heap.size 47 #[.int .i64 xi, .bool xd, .int .i64 xl, .slice ea1 (en x).length ec1, .int .i64 xz, .slice fa1 (fi x).2.length fc1] := by (
 rw [hV]
 exact Box.drew ((Box.new wr 47 _).alloc _))
     have hBy : Box V (wr.heap.size + 1) 101 #[.int .i64 yi, .bool yd, .int .i64 yl, .slice ea2 (en y).length ec2, .int .i64 yz, .slice fa2 (fi y).2.length fc2] := by (
 rw [hV]
 exact Box.drew (by have := Box.new (wr.alloc (.cells #[.int .i64 xi, .bool xd, .int .i64 xl, .slice ea1 (en x).length ec1, .int .i64 xz, .slice fa1 (fi x).2.length fc1] 47)) 101 #[.int .i64 yi, .bool yd, .int .i64 yl, .slice ea2 (en y).length ec2, .int .i64 yz, .slice fa2 (fi y).2.length fc2]; rwa [World.size_alloc] at this))
     rw [← hV]
     have HV : Hid (Below wr.heap.size wr V) := hbV
     obtain ⟨x0, x1', x2, x3, x4, x5⟩ := hBx.six
     obtain ⟨y0, y1, y2, y3, y4, y5⟩ := hBy.six
     have HC1 := D.alike_any n1 n2 _ _ (en x) (en y) V (HXY.out.2.2.1.1.below hbV) (HXY.out.2.2.2.1.below hbV)
     have HC2 : Hid (∀ q, Calls Tryz.prog 60 #[.agg #[.int .i64 xz, .slice fa1 (fi x).2.length fc1], .agg #[.int .i64 yz, .slice fa2 (fi y).2.length fc2]] (V.drewN q) fun e w' => e = .returned (.int .i64 (if fi x = fi y then 0 else 1)) ∧ Below (V.drewN q).heap.size (V.drewN q) w') := fun q => by (
 have h1 := (HXY.out.2.2.1.below (below_drewN hbV q)).file
 have h2 := (HXY.out.2.2.2.below (below_drewN hbV q)).file
 rw [← HE.out.2.2.2.1] at h1
 rw [← HE.out.2.2.2.2.2.2.2] at h2
 exact F.alike_any n1 n2 [_, _] [_, _] (fi x) (fi y) (V.drewN q) h1 h2)
     have HXNE : Hid (x ≠ y → l1 ≠ l2) := fun hne e => hne (by
       have h1 := HXY.out.1
       rw [e, HXY.out.2.1] at h1
       exact (Option.some.inj h1).symm)
     have HBV : Hid (∀ q, Below w.heap.size w (V.drewN q)) := fun q => below_any (below_any HW.out.1 HB.out) (below_drewN HV.out q)
     clear hV hbV hBx hBy HSb
     by_cases hi : xi = yi
     case neg => (
 clear HC1 HC2
 have hib : (xi == yi) = false := by simpa using hi
 go_wp2
 exact HP1.out _ (HXNE.out fun e => hi (by rw [HE.out.1, HE.out.2.2.2.2.1, e])) (HBV.out 0))
     subst hi
     by_cases hd : xd = yd
     case neg => (
 clear HC1 HC2
 have hdb : (xd == yd) = false := by simpa using hd
 go_wp2
 exact HP1.out _ (HXNE.out fun e => hd (by rw [HE.out.2.1, HE.out.2.2.2.2.2.1, e])) (HBV.out 0))
     subst hd
     by_cases hl : xl = yl
     case neg => (
 clear HC1 HC2
 have hlb : (xl == yl) = false := by simpa using hl
 go_wp2
 exact HP1.out _ (HXNE.out fun e => hl (by rw [HE.out.2.2.1, HE.out.2.2.2.2.2.2.1, e])) (HBV.out 0))
     subst hl
     obtain ⟨ex, hex⟩ := exa ((en x).length)
     obtain ⟨ey, hey⟩ := exa ((en y).length)
     obtain ⟨fx, hfx⟩ := exa ((fi x).2.length)
     obtain ⟨fy, hfy⟩ := exa ((fi y).2.length)
     rw [← hex] at x3 HC1 ⊢
     rw [← hey] at y3 HC1 ⊢
     rw [← hfx] at x5 HC2 ⊢
     rw [← hfy] at y5 HC2 ⊢
     clear hex hey hfx hfy
     by_cases he : en x = en y
     case neg => (
 rw [if_neg he] at HC1
 clear HC2
 go_wp2_with (go_at_call 59; refine HC1.mono ?_; rintro e w2 ⟨rfl, q, rfl⟩)
 exact HP1.out _ (HXNE.out fun e => he (by rw [e])) (HBV.out _))
     rw [if_pos he] at HC1
     have x4' : ∀ q, (V.drewN q).cell? ⟨wr.heap.size, 4, none⟩ = some (.int .i64 xz) := fun q => by simpa using x4
     have x5' : ∀ q, (V.drewN q).cell? ⟨wr.heap.size, 5, none⟩ = some (.slice fa1 fx fc1) := fun q => by simpa using x5
     by_cases hf : fi x = fi y
     case neg => (
 rw [if_neg hf] at HC2
 go_wp2_with (first | (go_at_call 59; refine HC1.mono ?_; rintro e w2 ⟨rfl, q, rfl⟩; have HC2' := HC2.out q; have HBq := HBV.out q) | (go_at_call 60; refine HC2'.mono ?_; rintro e w3 ⟨rfl, hb3⟩))
 exact HP1.out _ (HXNE.out fun e => hf (by rw [e])) (below_any HBq hb3))
     rw [if_pos hf] at HC2
     have HXE : Hid (x = y) := nd_ext (by rw [← HE.out.1, ← HE.out.2.2.2.2.1]) (by rw [← HE.out.2.1, ← HE.out.2.2.2.2.2.1]) (by rw [← HE.out.2.2.1, ← HE.out.2.2.2.2.2.2.1]) he hf
     go_wp2_with (first | (go_at_call 59; refine HC1.mono ?_; rintro e w2 ⟨rfl, q, rfl⟩; have HC2' := HC2.out q; have HBq : Hid (Below wr.heap.size wr (V.drewN q)) := below_drewN HV.out q) | (go_at_call 60; refine HC2'.mono ?_; rintro e w3 ⟨rfl, hb3⟩))
     have HBF : Hid (Below W.heap.size W w3) := below_any (below_any HB.out HBq.out) hb3
     clear hb3 HC1 HC2 HC2'
     go_roundw
     case rel => (
 refine ⟨k + 1, by omega, by go_num, fun i hi => ?_, HBF.out⟩
 by_cases e : i < k
 · exact HK.out i e
 · obtain rfl : i = k := by omega
   rw [HXY.out.1, HXY.out.2.1, HXE.out])
     case measure => simp [intOf]; omega
   · go_simp
     refine hK.out _ _ (HSb.out _ ((Below.refl _ wr).drew.alloc (Nat.le_refl _) _)) ?_
     clear hK hSS
     refine AnyBut.step (i := 10) (by kernel_rfl) rfl (fun K hK => ?_)
     go_simp
     refine hK.out _ _ (HSb.out _ (((Below.refl _ wr).drew.alloc (Nat.le_refl _) _).alloc (by simp) _)) ?_
     clear hK
     refine AnyBut.step (i := 12) (by kernel_rfl) rfl (fun K hK => ?_)
     go_simp
     refine hK.out _ _ (HSb.out _ (((Below.refl _ wr).alloc (Nat.le_refl _) _).alloc (by simp) _).drew) ?_
     clear hK
     refine AnyBut.last (by kernel_rfl) (by kernel_rfl) rfl (fun K hK => ?_)
     go_simp
     refine hK.out _ _ ?_
     clear hK
     obtain ⟨V, hV⟩ := exa (((wr.alloc (.cells #[.int .i64 yi, .bool yd, .int .i64 yl, .slice ea2 (en y).length ec2, .int .i64 yz, .slice fa2 (fi y).2.length fc2] 101)).alloc (.cells #[.int .i64 xi, .bool xd, .int .i64 xl, .slice ea1 (en x).length ec1, .int .i64 xz, .slice fa1 (fi x).2.length fc1] 47)).drew)
     have hbV : Below wr.heap.size wr V := by rw [hV]; exact (((Below.refl _ wr).alloc (Nat.le_refl _) _).alloc (by simp) _).drew
     have hBx : Box V (wr.heap.size + 1) 47 #[.int .i64 xi, .bool xd, .int .i64 xl, .slice ea1 (en x).length ec1, .int .i64 xz, .slice fa1 (fi x).2.length fc1] := by (
 rw [hV]
 exact Box.drew (by have := Box.new (wr.alloc (.cells #[.int .i64 yi, .bool yd, .int .i64 yl, .slice ea2 (en y).length ec2, .int .i64 yz, .slice fa2 (fi y).2.length fc2] 101)) 47 #[.int .i64 xi, .bool xd, .int .i64 xl, .slice ea1 (en x).length ec1, .int .i64 xz, .slice fa1 (fi x).2.length fc1]; rwa [World.size_alloc] at this))
     have hBy : Box V wr.heap.size 101 #[.int .i64 yi, .bool yd, .int .i64 yl, .slice ea2 (en y).length ec2, .int .i64 yz, .slice fa2 (fi y).2.length fc2] := by (
 rw [hV]
 exact Box.drew ((Box.new wr 101 _).alloc _))
     rw [← hV]
     have HV : Hid (Below wr.heap.size wr V) := hbV
     obtain ⟨x0, x1', x2, x3, x4, x5⟩ := hBx.six
     obtain ⟨y0, y1, y2, y3, y4, y5⟩ := hBy.six
     have HC1 := D.alike_any n1 n2 _ _ (en x) (en y) V (HXY.out.2.2.1.1.below hbV) (HXY.out.2.2.2.1.below hbV)
     have HC2 : Hid (∀ q, Calls Tryz.prog 60 #[.agg #[.int .i64 xz, .slice fa1 (fi x).2.length fc1], .agg #[.int .i64 yz, .slice fa2 (fi y).2.length fc2]] (V.drewN q) fun e w' => e = .returned (.int .i64 (if fi x = fi y then 0 else 1)) ∧ Below (V.drewN q).heap.size (V.drewN q) w') := fun q => by (
 have h1 := (HXY.out.2.2.1.below (below_drewN hbV q)).file
 have h2 := (HXY.out.2.2.2.below (below_drewN hbV q)).file
 rw [← HE.out.2.2.2.1] at h1
 rw [← HE.out.2.2.2.2.2.2.2] at h2
 exact F.alike_any n1 n2 [_, _] [_, _] (fi x) (fi y) (V.drewN q) h1 h2)
     have HXNE : Hid (x ≠ y → l1 ≠ l2) := fun hne e => hne (by
       have h1 := HXY.out.1
       rw [e, HXY.out.2.1] at h1
       exact (Option.some.inj h1).symm)
     have HBV : Hid (∀ q, Below w.heap.size w (V.drewN q)) := fun q => below_any (below_any HW.out.1 HB.out) (below_drewN HV.out q)
     clear hV hbV hBx hBy HSb
     by_cases hi : xi = yi
     case neg => (
 clear HC1 HC2
 have hib : (xi == yi) = false := by simpa using hi
 go_wp2
 exact HP1.out _ (HXNE.out fun e => hi (by rw [HE.out.1, HE.out.2.2.2.2.1, e])) (HBV.out 0))
     subst hi
     by_cases hd : xd = yd
     case neg => (
 clear HC1 HC2
 have hdb : (xd == yd) = false := by simpa using hd
 go_wp2
 exact HP1.out _ (HXNE.out fun e => hd (by rw [HE.out.2.1, HE.out.2.2.2.2.2.1, e])) (HBV.out 0))
     subst hd
     by_cases hl : xl = yl
     case neg => (
 clear HC1 HC2
 have hlb : (xl == yl) = false := by simpa using hl
 go_wp2
 exact HP1.out _ (HXNE.out fun e => hl (by rw [HE.out.2.2.1, HE.out.2.2.2.2.2.2.1, e])) (HBV.out 0))
     subst hl
     obtain ⟨ex, hex⟩ := exa ((en x).length)
     obtain ⟨ey, hey⟩ := exa ((en y).length)
     obtain ⟨fx, hfx⟩ := exa ((fi x).2.length)
     obtain ⟨fy, hfy⟩ := exa ((fi y).2.length)
     rw [← hex] at x3 HC1 ⊢
     rw [← hey] at y3 HC1 ⊢
     rw [← hfx] at x5 HC2 ⊢
     rw [← hfy] at y5 HC2 ⊢
     clear hex hey hfx hfy
     by_cases he : en x = en y
     case neg => (
 rw [if_neg he] at HC1
 clear HC2
 go_wp2_with (go_at_call 59; refine HC1.mono ?_; rintro e w2 ⟨rfl, q, rfl⟩)
 exact HP1.out _ (HXNE.out fun e => he (by rw [e])) (HBV.out _))
     rw [if_pos he] at HC1
     have x4' : ∀ q, (V.drewN q).cell? ⟨(wr.heap.size + 1), 4, none⟩ = some (.int .i64 xz) := fun q => by simpa using x4
     have x5' : ∀ q, (V.drewN q).cell? ⟨(wr.heap.size + 1), 5, none⟩ = some (.slice fa1 fx fc1) := fun q => by simpa using x5
     by_cases hf : fi x = fi y
     case neg => (
 rw [if_neg hf] at HC2
 go_wp2_with (first | (go_at_call 59; refine HC1.mono ?_; rintro e w2 ⟨rfl, q, rfl⟩; have HC2' := HC2.out q; have HBq := HBV.out q) | (go_at_call 60; refine HC2'.mono ?_; rintro e w3 ⟨rfl, hb3⟩))
 exact HP1.out _ (HXNE.out fun e => hf (by rw [e])) (below_any HBq hb3))
     rw [if_pos hf] at HC2
     have HXE : Hid (x = y) := nd_ext (by rw [← HE.out.1, ← HE.out.2.2.2.2.1]) (by rw [← HE.out.2.1, ← HE.out.2.2.2.2.2.1]) (by rw [← HE.out.2.2.1, ← HE.out.2.2.2.2.2.2.1]) he hf
     go_wp2_with (first | (go_at_call 59; refine HC1.mono ?_; rintro e w2 ⟨rfl, q, rfl⟩; have HC2' := HC2.out q; have HBq : Hid (Below wr.heap.size wr (V.drewN q)) := below_drewN HV.out q) | (go_at_call 60; refine HC2'.mono ?_; rintro e w3 ⟨rfl, hb3⟩))
     have HBF : Hid (Below W.heap.size W w3) := below_any (below_any HB.out HBq.out) hb3
     clear hb3 HC1 HC2 HC2'
     go_roundw
     case rel => (
 refine ⟨k + 1, by omega, by go_num, fun i hi => ?_, HBF.out⟩
 by_cases e : i < k
 · exact HK.out i e
 · obtain rfl : i = k := by omega
   rw [HXY.out.1, HXY.out.2.1, HXE.out])
     case measure => simp [intOf]; omega
 · obtain rfl : k = n := by omega
   go_wp2
   exact HP0.out _ (alike_nd (by have := HN.out; omega) (fun i hi => HK.out i (by rw [HN.out.1]; exact hi))) (below_any HW.out.1 HB.out))
end Go.Proofs.YtopcefhncildnaaGreatDoor
