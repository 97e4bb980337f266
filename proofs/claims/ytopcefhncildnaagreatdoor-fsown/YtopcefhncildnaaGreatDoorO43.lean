/-
  What Of makes of the document's state: the program's, in memory of its own.
  What Alike answers: whether the program's state and the document's are one.
  What the document's Own makes of a state that may be: the same one, in a row of its own.
  The document's nodes in a row of its own, while other memory may change: X says which.
-/
import Derived.Test.YtopcefhncildnaaGreatDoorO27
import Derived.Test.YtopcefhncildnaaGreatDoorO39
import Derived.Test.YtopcefhncildnaaGreatDoorO40
set_option maxRecDepth 100000
set_option maxHeartbeats 8000000
namespace Go.Proofs.YtopcefhncildnaaGreatDoor
open Go.RowKit
open D (En ArgE OwnE)
open F (Bk bkN bksN flR flN)
attribute [local go_sem ↓] Go.wp_at_zero Go.wp_at_succ
def FitsS (l : List Nd) : Prop := l.length * 80 ≤ 140737488351232 ∧ ∀ p ∈ l, (en p).length * 24 ≤ 140737488351232 ∧ F.Fits (fi p)
theorem of10_any (n0 : Nat) (a : Option Addr) (c : Nat) (s : St) (w : World) (hA : ndsR.lies n0 w [.slice a s.1.length c] s.1) (hS : FitsS s.1) :
   Calls Tryz.prog 10 #[.agg #[.slice a s.1.length c, .int .i64 s.2]] w fun e w' => (∃ v', e = .returned (.agg #[v', .int .i64 s.2]) ∧ ndsN.owns w.heap.size w' [v'] s.1) ∧ Below w.heap.size w w' := by
 obtain ⟨l, nx⟩ := s
 obtain ⟨i3, hi3, hz30, hz31, hz32⟩ := info_parts Tryz.info47
 simp only at hA hS ⊢
 obtain ⟨n, hn⟩ := exa (l.length)
 have hn80 : n * 80 ≤ 140737488351232 := by rw [hn]; exact hS.1
 have HL : Hid (ndsR.lies n0 w [.slice a n c] l ∧ n = l.length ∧ FitsS l) := ⟨by rw [hn]; exact hA, hn, hS⟩
 have hl1 := run_len Tryz.underlying22 a n c
 obtain ⟨post, hpost⟩ : ∃ post : Ending → World → Prop, post = fun e w' => (∃ v', e = .returned (.agg #[v', .int .i64 nx]) ∧ ndsN.owns w.heap.size w' [v'] l) ∧ Below w.heap.size w w' := ⟨_, rfl⟩
 have HPo : Hid (∀ v' w', ndsN.owns w.heap.size w' [v'] l → Below w.heap.size w w' → post (.returned (.agg #[v', .int .i64 nx])) w') := fun v' w' h1 h2 => by rw [hpost]; exact ⟨⟨v', rfl, h1⟩, h2⟩
 rw [← hpost, ← hn]
 clear hA hS hn hpost
 go_enter Tryz.func10, Tryz.ntmps10
 go_wp2
 go_loopw [4] (fun i wr => ∃ (k : Nat) (v : Value), k ≤ n ∧ i = .int .i64 k ∧ Hid (Box wr w.heap.size 24 #[.slice a n c, .int .i64 nx] ∧ Box wr (w.heap.size + 1) 29 #[.slice none 0 0, .int .i64 0] ∧ Box wr (w.heap.size + 2) 29 #[v, .int .i64 nx] ∧
   ndsN.owns (w.heap.size + 3) wr [v] (l.take k) ∧ Below w.heap.size w wr ∧ w.heap.size + 3 ≤ wr.heap.size)) (fun i _ => n - (intOf i).toNat)
 case atStart => (
 refine ⟨0, _, Nat.zero_le _, rfl, ?_, ?_, ?_, Shape.list_nil ndN 27 Tryz.underlying27 cells27 _ _, ?_, ?_⟩
 · exact ((Box.new w 24 _).alloc _).alloc _
 · have := (Box.new (w.alloc (.cells #[.slice a n c, .int .i64 nx] 24)) 29 #[.slice none 0 0, .int .i64 0]).alloc (.cells #[.slice none 0 0, .int .i64 nx] 29)
   simpa using this
 · have := Box.new ((w.alloc (.cells #[.slice a n c, .int .i64 nx] 24)).alloc (.cells #[.slice none 0 0, .int .i64 0] 29)) 29 #[.slice none 0 0, .int .i64 nx]
   simpa using this
 · exact (((Below.refl _ w).alloc (Nat.le_refl _) _).alloc (by simp) _).alloc (by simp; omega) _
 · simp)
 case round => (
 obtain ⟨k, v, hk, rfl, HJ⟩ := hrel
 obtain ⟨r0, r1, -, -⟩ := HJ.out.1.two
 by_cases hlt : k < n
 · obtain ⟨p, hp⟩ := get_lt (l := l) (k := k) (by rw [← HL.out.2.1]; exact hlt)
   obtain ⟨b, o, e, f, hix, -, hcs, hLN⟩ := nds_atR (ndsR.below HL.out.1 HJ.out.2.2.2.2.1) k p hp
   obtain ⟨c0, c1, c2, c3, c4, c5⟩ := nv_cells hcs
   have HTK : Hid (l.take (k + 1) = l.take k ++ [p] ∧ (l.take k).length = k) := ⟨take_snoc hp, by have := HL.out.2.1; rw [List.length_take]; omega⟩
   obtain ⟨ea, ec, rfl, -, -⟩ := hLN.1.1.shape
   obtain ⟨fa, fc, hfe, -, -⟩ := Shape.list_len (S := F.bkR) (ht := Tryz.underlying97) (hc := F.cells97) hLN.2.1
   obtain rfl : f = _ := by simpa using hfe
   have HP : Hid (LR n0 wr p (.slice ea (en p).length ec) (.slice fa (fi p).2.length fc) ∧ FitsS l ∧ p ∈ l) := ⟨hLN, HL.out.2.2, List.mem_of_getElem? hp⟩
   obtain ⟨V, hV⟩ := exa (wr.alloc (.cells #[.int .i64 p.1, .bool (isD p), .int .i64 (lk p), .slice ea (en p).length ec, .int .i64 (fi p).1, .slice fa (fi p).2.length fc] 101))
   have HV : Hid (Below wr.heap.size wr V ∧ Box V wr.heap.size 101 #[.int .i64 p.1, .bool (isD p), .int .i64 (lk p), .slice ea (en p).length ec, .int .i64 (fi p).1, .slice fa (fi p).2.length fc]) := ⟨by rw [hV]; exact (Below.refl _ _).alloc (Nat.le_refl _) _, by rw [hV]; exact Box.new _ _ _⟩
   have HC1 : Hid (Calls Tryz.prog 46 #[.slice ea (en p).length ec] V.drew fun e w' => (∃ v', e = .returned v' ∧ OwnE 49 V.heap.size w' v' (en p)) ∧ Below V.heap.size V w') := (D.of_any n0 _ (en p) V.drew ((HP.out.1.1.below HV.out.1).below (Below.refl _ _).drew) (HP.out.2.1.2 p HP.out.2.2).1).mono fun e w' h => ⟨h.1, ((Below.refl _ V).drew).trans h.2⟩
   have HC2 : Hid (∀ W, Below wr.heap.size wr W → Calls Tryz.prog 47 #[.agg #[.int .i64 (fi p).1, .slice fa (fi p).2.length fc]] W fun e w' => (∃ us', e = .returned (.agg us'.toArray) ∧ flN.owns W.heap.size w' us' (fi p)) ∧ Below W.heap.size W w') := fun W hW => F.made_of n0 [_, _] (fi p) W (HP.out.1.below hW).file (HP.out.2.1.2 p HP.out.2.2).2
   have hki : (k : Int) < (n : Int) := by omega
   obtain ⟨v', vss, hv, hown0, hEE⟩ := HJ.out.2.2.2.1
   obtain rfl : v = v' := by simpa using hv
   rw [HTK.out.2] at hown0
   obtain ⟨a', cap', rfl⟩ := own_shape hown0
   have HO : Hid (wr.ownsRow (w.heap.size + 3) 47 6 (.slice a' k cap') k vss.flatten ∧ Each (ndN.owns (w.heap.size + 3) wr) vss (l.take k)) := ⟨hown0, hEE⟩
   obtain ⟨el, hel⟩ := exa ((en p).length)
   obtain ⟨fl, hfl⟩ := exa ((fi p).2.length)
   obtain ⟨pi, hpi⟩ := exa (p.1)
   obtain ⟨pd, hpd⟩ := exa (isD p)
   obtain ⟨pl, hpl⟩ := exa (lk p)
   obtain ⟨pz, hpz⟩ := exa ((fi p).1)
   have HEQ : Hid (el = (en p).length ∧ fl = (fi p).2.length ∧ (∀ e f, nv p e f = [.int .i64 pi, .bool pd, .int .i64 pl, e, .int .i64 pz, f]) ∧ NOk p ∧ pz = (fi p).1) := ⟨hel, hfl, fun e f => by rw [hpi, hpd, hpl, hpz]; rfl, HP.out.1.2.2, hpz⟩
   rw [← hel] at c3 HC1 HV hV
   rw [← hfl] at c5 HC2 HV hV
   rw [← hpi] at c0 HV hV
   rw [← hpd] at c1 HV hV
   rw [← hpl] at c2 HV hV
   rw [← hpz] at c4 HC2 HV hV
   clear hcs hLN hp hfe hel hfl hpi hpd hpl hpz HP hv hown0 hEE
   go_wp2
   rw [← hV]
   clear hV c0 c1 c2 c3 c4 c5 hix
   have hSS : V.drew.cell? ⟨wr.heap.size, 0, none⟩ = some (.int .i64 pi) ∧ V.drew.cell? ⟨wr.heap.size, 1, none⟩ = some (.bool pd) ∧ V.drew.cell? ⟨wr.heap.size, 2, none⟩ = some (.int .i64 pl) ∧ V.drew.cell? ⟨wr.heap.size, 3, none⟩ = some (.slice ea el ec) ∧ V.drew.cell? ⟨wr.heap.size, 4, none⟩ = some (.int .i64 pz) ∧ V.drew.cell? ⟨wr.heap.size, 4 + 1, none⟩ = some (.slice fa fl fc) ∧ V.drew.cell? ⟨w.heap.size + 2, 0, none⟩ = some (.slice a' k cap') := by (
 obtain ⟨x0, x1, x2, x3, x4, x5⟩ := HV.out.2.six
 exact ⟨x0, x1, x2, x3, x4, x5, (HJ.out.2.2.1.below HV.out.1 HJ.out.2.2.1.lt).two.1⟩)
   refine AnyBut.begin (fun U => U.cell? ⟨wr.heap.size, 0, none⟩ = some (.int .i64 pi) ∧ U.cell? ⟨wr.heap.size, 1, none⟩ = some (.bool pd) ∧ U.cell? ⟨wr.heap.size, 2, none⟩ = some (.int .i64 pl) ∧ U.cell? ⟨wr.heap.size, 3, none⟩ = some (.slice ea el ec) ∧ U.cell? ⟨wr.heap.size, 4, none⟩ = some (.int .i64 pz) ∧ U.cell? ⟨wr.heap.size, 4 + 1, none⟩ = some (.slice fa fl fc) ∧ U.cell? ⟨w.heap.size + 2, 0, none⟩ = some (.slice a' k cap')) 18 (by kernel_rfl) ?_
   refine ty 0 21 hSS ?_; simp only [ua,ub,uc,ud]
   refine ty 1 22 hSS ?_; simp only [ua,ub,uc,ud]
   refine ty 2 23 hSS ?_; simp only [ua,ub,uc,ud]
   refine ty 3 24 hSS ?_; simp only [ua,ub,uc,ud]
   refine ty 4 25 hSS ?_; simp only [ua,ub,uc,ud]
   refine ty 5 26 hSS ?_; simp only [ua,ub,uc,ud]
   refine ty 6 27 hSS ?_; simp only [ua,ub,uc,ud]
   refine ty 7 28 hSS ?_; simp only [ua,ub,uc,ud]
   refine ty 8 29 hSS ?_; simp only [ua,ub,uc,ud]
   refine ty 9 30 hSS ?_; simp only [ua,ub,uc,ud]
   refine ty 11 32 hSS ?_; simp only [ua,ub,uc,ud]
   refine ty 12 33 hSS ?_; simp only [ua,ub,uc,ud]
   refine AnyBut.step (i := 10) (by kernel_rfl) rfl (fun K hK => ?_)
   go_simp
   refine Calls.mono HC1.out ?_
   rintro e2 w2 ⟨⟨u2, rfl, hu2⟩, hb2⟩
   obtain ⟨ea', ec', rfl⟩ := hu2.shape
   have hE0 := HEQ.out.1
   rw [← hE0] at hu2 ⊢
   have HXX : Hid (∀ W, Below V.heap.size V W → W.cell? ⟨wr.heap.size, 0, none⟩ = some (.int .i64 pi) ∧ W.cell? ⟨wr.heap.size, 1, none⟩ = some (.bool pd) ∧ W.cell? ⟨wr.heap.size, 2, none⟩ = some (.int .i64 pl) ∧ W.cell? ⟨wr.heap.size, 3, none⟩ = some (.slice ea el ec) ∧ W.cell? ⟨wr.heap.size, 4, none⟩ = some (.int .i64 pz) ∧ W.cell? ⟨wr.heap.size, 4 + 1, none⟩ = some (.slice fa fl fc) ∧ W.cell? ⟨w.heap.size + 2, 0, none⟩ = some (.slice a' k cap')) := fun W hW => by (
 obtain ⟨x0, x1, x2, x3, x4, x5⟩ := (HV.out.2.below hW HV.out.2.lt).six
 have hj := (HJ.out.2.2.1.below HV.out.1 HJ.out.2.2.1.lt)
 exact ⟨x0, x1, x2, x3, x4, x5, (hj.below hW hj.lt).two.1⟩)
   dsimp only
   refine hK.out _ _ (HXX.out w2 hb2) ?_
   clear hK hSS hE0
   have hSS := HXX.out w2 hb2
   have HC2' := HC2.out w2 (below_any HV.out.1 hb2)
   refine AnyBut.step (i := 13) (by kernel_rfl) rfl (fun K hK => ?_)
   go_simp
   refine Calls.mono HC2' ?_
   rintro e3 w3 ⟨⟨us3, rfl, hu3⟩, hb3⟩
   obtain ⟨fa', fc', rfl, hbk, -⟩ := F.fl_ownN hu3
   have hE0 := HEQ.out.2.1
   have hE1 := HEQ.out.2.2.2.2
   rw [← hE0] at hbk ⊢
   rw [← hE1]
   have hbV3 : Below V.heap.size V w3 := below_any hb2 hb3
   dsimp only
   refine hK.out _ _ (HXX.out w3 hbV3) ?_
   clear hK hSS hE0 hE1
   have hSS := HXX.out w3 hbV3
   refine ty 14 35 hSS ?_; simp only [ua,ub,uc,ud]
   refine AnyBut.step (i := 15) (by kernel_rfl) rfl (fun K hK => ?_)
   go_simp
   have hbw3 : Below wr.heap.size wr w3 := below_any HV.out.1 hbV3
   have hbV4 : Below V.heap.size V (w3.alloc (.cells #[.int .i64 pi, .bool pd, .int .i64 pl, .slice ea' el ec', .int .i64 pz, .slice fa' fl fc'] 47)) := hbV3.alloc hbV3.size _
   refine hK.out _ _ (HXX.out _ hbV4) ?_
   clear hK hSS
   have hSS := HXX.out _ hbV4
   refine AnyBut.step (i := 16) (by kernel_rfl) rfl (fun K hK => ?_)
   refine step_append_lies _ (by rfl) _ _ _ (by rfl) (w.heap.size + 3) 47 i3 _ 6 80 Tryz.underlying27 hi3 hz30 hz31 hz32 rfl (by omega) _ k _ (by rfl) ((own_below HO.out.1 hbw3).alloc _) ⟨w3.heap.size, 0, none⟩ 1 1 [.int .i64 pi, .bool pd, .int .i64 pl, .slice ea' el ec', .int .i64 pz, .slice fa' fl fc'] (by rfl) (by rfl)
     (World.news_of_block (cs := #[.int .i64 pi, .bool pd, .int .i64 pl, .slice ea' el ec', .int .i64 pz, .slice fa' fl fc']) (t := 47) (fr := (0, 0)) (heap_alloc_new w3 _)) (by simp [Value.oneCell']) (by omega) (by unfold maxLen; omega) (by omega) (by have := hbw3.size; have := HJ.out.2.2.2.2.2; simp; omega) (w3.heap.size + 1) (by simp) ?_
   intro gg cap3 w6 hO6 hg6 hat hltg
   have hne : ∀ B, B < w.heap.size + 3 → some B ≠ (Value.slice a' k cap').ownBlock := fun B hB => row_ne HO.out.1 hB
   have hnw : some wr.heap.size ≠ (Value.slice a' k cap').ownBlock := fun e => by have := (HO.out.1.lt _ e.symm).2; omega
   have hx6 := ((HV.out.2.below hbV4 HV.out.2.lt).grown hg6 hnw).six
   have hbk0 : Below wr.heap.size wr (w3.alloc (.cells #[.int .i64 pi, .bool pd, .int .i64 pl, .slice ea' el ec', .int .i64 pz, .slice fa' fl fc'] 47)) := below_any HV.out.1 hbV4
   have hq6 := (HJ.out.2.2.1.below hbk0 HJ.out.2.2.1.lt).grown hg6 (hne _ (by omega))
   have hSX : w6.cell? ⟨wr.heap.size, 0, none⟩ = some (.int .i64 pi) ∧ w6.cell? ⟨wr.heap.size, 1, none⟩ = some (.bool pd) ∧ w6.cell? ⟨wr.heap.size, 2, none⟩ = some (.int .i64 pl) ∧ w6.cell? ⟨wr.heap.size, 3, none⟩ = some (.slice ea el ec) ∧ w6.cell? ⟨wr.heap.size, 4, none⟩ = some (.int .i64 pz) ∧ w6.cell? ⟨wr.heap.size, 4 + 1, none⟩ = some (.slice fa fl fc) ∧ w6.cell? ⟨w.heap.size + 2, 0, none⟩ = some (.slice a' k cap') := ⟨hx6.1, hx6.2.1, hx6.2.2.1, hx6.2.2.2.1, hx6.2.2.2.2.1, hx6.2.2.2.2.2, hq6.two.1⟩
   refine hK.out _ _ hSX ?_
   clear hK hSS
   have hSS := hSX
   refine AnyBut.step (i := 17) (by kernel_rfl) rfl (fun K hK => ?_)
   go_simp
   refine hK.out _ _ hSS ?_
   clear hK
   refine AnyBut.last (by kernel_rfl) (by kernel_rfl) rfl (fun K hK => ?_)
   obtain ⟨y0, y1, z0, z1⟩ := hq6.two
   go_simp
   refine hK.out _ _ ?_
   clear hK hSS hSX
   have hkA : Same (w.heap.size + 3) w3 (w3.alloc (.cells #[.int .i64 pi, .bool pd, .int .i64 pl, .slice ea' el ec', .int .i64 pz, .slice fa' fl fc'] 47)) := .alloc _ _ _
   have hwr := HJ.out.2.2.2.2.2
   have hVs : wr.heap.size < V.heap.size := HV.out.2.lt
   have hLO : LO (w.heap.size + 3) w3 p (.slice ea' el ec') (.slice fa' fl fc') := ⟨(hu2.below hb3).weaken (by omega), bksN.oweaken hbk (by have := hb2.size; omega), HEQ.out.2.2.2.1⟩
   have hown6 : ndsN.owns (w.heap.size + 3) w6 [.slice (some ⟨gg, 0, none⟩) (k + 1) cap3] (l.take (k + 1)) := by (
 rw [HTK.out.1]
 refine Shape.list_push (S := ndN) (ht := Tryz.underlying27) (hc := cells27) (us := [.int .i64 pi, .bool pd, .int .i64 pl, .slice ea' el ec', .int .i64 pz, .slice fa' fl fc']) (by decide) (HO.out.2.mono fun _ _ h => ndN.osame (ndN.obelow h hbw3) hkA) (by rw [HTK.out.2]; exact own_same (own_below HO.out.1 hbw3) hkA) ?_ hg6 (by rw [HTK.out.2]; exact hO6)
 have := nd_omk hLO
 rw [HEQ.out.2.2.1] at this
 exact ndN.osame this hkA)
   have hb6 : Below w.heap.size w w6 := below_row (below_any HJ.out.2.2.2.2.1 hbw3) (own_below HO.out.1 hbw3) hg6 (by omega) (by have := hbw3.size; omega)
   have hx0 := (HJ.out.1.below hbk0 HJ.out.1.lt).grown hg6 (hne _ (by omega))
   have hx1 := (HJ.out.2.1.below hbk0 HJ.out.2.1.lt).grown hg6 (hne _ (by omega))
   have hs6 : w.heap.size + 3 ≤ w6.heap.size := by have := hg6.size; have := hbw3.size; simp at *; omega
   have HBB : Hid (Box w6 w.heap.size 24 #[.slice a n c, .int .i64 nx] ∧ Box w6 (w.heap.size + 1) 29 #[.slice none 0 0, .int .i64 0] ∧ Box w6 (w.heap.size + 2) 29 #[.slice a' k cap', .int .i64 nx] ∧ ndsN.owns (w.heap.size + 3) w6 [.slice (some ⟨gg, 0, none⟩) (k + 1) cap3] (l.take (k + 1)) ∧ Below w.heap.size w w6 ∧ w.heap.size + 3 ≤ w6.heap.size) := ⟨hx0, hx1, hq6, hown6, hb6, hs6⟩
   clear hO6 hg6 hat hltg hne hnw hx6 hbk0 hq6 hkA hLO hown6 hb6 hx0 hx1 hs6 hu2 hu3 hbk hb2 hb3 hbV3 hbV4 hbw3 y0 y1 z0 z1 r0 r1 HXX HC2'
   go_wp2
   go_roundw
   case rel => exact ⟨k + 1, _, by omega, by go_num, HBB.out.1.other (by omega), HBB.out.2.1.other (by omega), HBB.out.2.2.1.set 0 _, ndsN.osame HBB.out.2.2.2.1 (.set (by omega)), HBB.out.2.2.2.2.1.setCell (p := ⟨w.heap.size + 2, 0, none⟩) (by simp) _, by simpa [World.setCell] using HBB.out.2.2.2.2.2⟩
   case measure => simp [intOf]; omega
 · obtain rfl : k = n := by omega
   have hT : l.take k = l := by rw [HL.out.2.1]; simp
   rw [hT] at HJ
   obtain ⟨a', cap', _, hv, -, -⟩ := Shape.list_own (S := ndN) (ht := Tryz.underlying27) (hc := cells27) HJ.out.2.2.2.1
   obtain rfl : v = _ := by simpa using hv
   have hE0 := HL.out.2.1
   rw [← hE0] at HJ
   obtain ⟨q0, q1, -, -⟩ := HJ.out.2.2.1.two
   obtain ⟨d0, d1, e0, e1⟩ := HJ.out.2.1.two
   clear hE0 hT hv
   go_wp2
   refine bodyPost_ret (v := .agg #[.slice a' k cap', .int .i64 nx]) (by simp [results, Tryz.results10, go_sem, *]) rfl (HPo.out _ _ ?_ ?_)
   · exact ndsN.oweaken (n := w.heap.size + 3) (ndsN.osame HJ.out.2.2.2.1 (.set2 (by omega))) (by omega)
   · exact below_set2 HJ.out.2.2.2.2.1 (by omega) _ _)
end Go.Proofs.YtopcefhncildnaaGreatDoor
namespace Go.Proofs.YtopcefhncildnaaGreatDoor
open Go.RowKit
open D (En ArgE)
open F (Fl bksN bksR flR flN)
theorem alike_nd {a b : List Nd} (hl : a.length = b.length) (h : ∀ (i : Nat), i < a.length → a[i]? = b[i]?) : a = b := by
 apply List.ext_getElem?
 intro i
 by_cases hi : i < a.length
 · exact h i hi
 · rw [List.getElem?_eq_none (by omega), List.getElem?_eq_none (by omega)]
theorem nd_ext {x y : Nd} (h1 : x.1 = y.1) (h2 : isD x = isD y) (h3 : lk x = lk y) (h4 : en x = en y) (h5 : fi x = fi y) : x = y := by
 obtain ⟨x1, x2, x3, x4, x5⟩ := x
 obtain ⟨y1, y2, y3, y4, y5⟩ := y
 obtain rfl : x1 = y1 := h1
 obtain rfl : x2 = y2 := h2
 obtain rfl : x3 = y3 := h3
 obtain rfl : x4 = y4 := h4
 obtain rfl : x5 = y5 := h5
 rfl
theorem AnyBut.two {P : Program} {ops : Array Oper} {Q : Exit → Act → World → Prop} {md : Region.Mode} {S : World → Prop} {t : Nat} {i j : Nat} {oi oj : Oper} {f : Nat} {listed : Array Bool} {a : Act} {w : World} (hr : Region.ready md ops listed = [i, j]) (ho : ops[i]? = some oi) (ho2 : ops[j]? = some oj)
   (h : ∀ K : Act → World → Prop, Shut (∀ a w, S w → AnyBut P md ops Q S t f (listed.setIfInBounds i true) a w → K a w) → if Region.wanted oi (yielded ops a.tmps) = true then Oper.wp P oi a w K Q else K (a.put oi.dst undef) w)
   (h2 : ∀ K : Act → World → Prop, Shut (∀ a w, S w → AnyBut P md ops Q S t f (listed.setIfInBounds j true) a w → K a w) → if Region.wanted oj (yielded ops a.tmps) = true then Oper.wp P oj a w K Q else K (a.put oj.dst undef) w) : AnyBut P md ops Q S t (f + 1) listed a w := by
 refine ⟨fun h0 => (by rw [hr] at h0; cases h0), fun k hk => ?_⟩
 rw [hr] at hk
 rcases List.mem_cons.1 hk with rfl | hk
 · exact wpOp_step ho fun K hK => h K fun a w hS hA => hK a w ⟨fun _ => hS, hA⟩
 · obtain rfl := List.mem_singleton.1 hk
   exact wpOp_step ho2 fun K hK => h2 K fun a w hS hA => hK a w ⟨fun _ => hS, hA⟩
theorem alike10_any (n1 n2 : Nat) (a1 a2 : Option Addr) (c1 c2 : Nat) (s1 s2 : St) (w : World) (h1 : ndsN.lies n1 w [.slice a1 s1.1.length c1] s1.1) (h2 : ndsR.lies n2 w [.slice a2 s2.1.length c2] s2.1) :
   Calls Tryz.prog 18 #[.agg #[.slice a1 s1.1.length c1, .int .i64 s1.2], .agg #[.slice a2 s2.1.length c2, .int .i64 s2.2]] w fun e w' => (∃ d : Int, e = .returned (.int .i64 d) ∧ ((s1 = s2 ∧ d = 0) ∨ (s1 ≠ s2 ∧ d = 1))) ∧ Below w.heap.size w w' := by
 obtain ⟨l1, x1⟩ := s1
 obtain ⟨l2, x2⟩ := s2
 simp only at h1 h2 ⊢
 have hr1 := run_len Tryz.underlying27 a1 l1.length c1
 have hr2 := run_len Tryz.underlying22 a2 l2.length c2
 have hm1 : l1.length ≤ maxLen := by
   obtain ⟨_, _, he, _, hm, _⟩ := Shape.list_len (S := ndN) (ht := Tryz.underlying27) (hc := cells27) h1
   exact hm
 unfold maxLen at hm1
 obtain ⟨W, hW⟩ := exa ((w.alloc (.cells #[.slice a1 l1.length c1, .int .i64 x1] 29)).alloc (.cells #[.slice a2 l2.length c2, .int .i64 x2] 24))
 have hb : Below w.heap.size w W := by rw [hW]; exact ((Below.refl _ w).alloc (Nat.le_refl _) _).alloc (by simp) _
 have hB1 : Box W w.heap.size 29 #[.slice a1 l1.length c1, .int .i64 x1] := by rw [hW]; exact (Box.new _ _ _).alloc _
 have hB2 : Box W (w.heap.size + 1) 24 #[.slice a2 l2.length c2, .int .i64 x2] := by (
 rw [hW]
 have := Box.new (w.alloc (.cells #[.slice a1 l1.length c1, .int .i64 x1] 29)) 24 #[.slice a2 l2.length c2, .int .i64 x2]
 rwa [World.size_alloc] at this)
 obtain ⟨p0, p1, _, _⟩ := hB1.two
 obtain ⟨q0, q1, _, _⟩ := hB2.two
 have HW : Hid (Below w.heap.size w W ∧ ndsN.lies n1 W [.slice a1 l1.length c1] l1 ∧ ndsR.lies n2 W [.slice a2 l2.length c2] l2 ∧ Box W w.heap.size 29 #[.slice a1 l1.length c1, .int .i64 x1] ∧ Box W (w.heap.size + 1) 24 #[.slice a2 l2.length c2, .int .i64 x2]) := ⟨hb, ndsN.below h1 hb, ndsR.below h2 hb, hB1, hB2⟩
 clear h1 h2 hb hB1 hB2
 by_cases hx : x1 = x2
 case neg => (
 have HZ : Hid ((l1, x1) ≠ (l2, x2)) := fun e => hx (congrArg Prod.snd e)
 obtain ⟨post, hpost⟩ : ∃ post : Ending → World → Prop, post = fun e w' => (∃ d : Int, e = .returned (.int .i64 d) ∧ (((l1, x1) = (l2, x2) ∧ d = 0) ∨ ((l1, x1) ≠ (l2, x2) ∧ d = 1))) ∧ Below w.heap.size w w' := ⟨_, rfl⟩
 rw [← hpost]
 have HPo : Hid (∀ w', Below w.heap.size w w' → post (.returned (.int .i64 1)) w') := fun w' h => by rw [hpost]; exact ⟨⟨1, rfl, .inr ⟨HZ.out, rfl⟩⟩, h⟩
 clear hpost
 rw [hW] at HW
 clear p0 p1 q0 q1 hW
 go_enter Tryz.func18, Tryz.ntmps18
 go_wp2
 exact HPo.out _ HW.out.1)
 subst hx
 by_cases hlen : l1.length = l2.length
 case neg => (
 have HZ : Hid ((l1, x1) ≠ (l2, x1)) := fun e => hlen (by rw [(Prod.mk.inj e).1])
 obtain ⟨post, hpost⟩ : ∃ post : Ending → World → Prop, post = fun e w' => (∃ d : Int, e = .returned (.int .i64 d) ∧ (((l1, x1) = (l2, x1) ∧ d = 0) ∨ ((l1, x1) ≠ (l2, x1) ∧ d = 1))) ∧ Below w.heap.size w w' := ⟨_, rfl⟩
 rw [← hpost]
 have HPo : Hid (∀ w', Below w.heap.size w w' → post (.returned (.int .i64 1)) w') := fun w' h => by rw [hpost]; exact ⟨⟨1, rfl, .inr ⟨HZ.out, rfl⟩⟩, h⟩
 clear hpost
 have hne : ¬ (l1.length : Int) = (l2.length : Int) := by omega
 rw [hW] at HW
 clear p0 p1 q0 q1 hW
 go_enter Tryz.func18, Tryz.ntmps18
 go_wp2
 exact HPo.out _ HW.out.1)
 obtain ⟨n, hn⟩ := exa (l1.length)
 have HN : Hid (n = l1.length ∧ n = l2.length) := ⟨hn, by omega⟩
 rw [← hlen] at HW hr2 hW q0 ⊢
 rw [← hn] at HW hr1 hr2 hm1 hW p0 q0 ⊢
 obtain ⟨post, hpost⟩ : ∃ post : Ending → World → Prop, post = fun e w' => (∃ d : Int, e = .returned (.int .i64 d) ∧ (((l1, x1) = (l2, x1) ∧ d = 0) ∨ ((l1, x1) ≠ (l2, x1) ∧ d = 1))) ∧ Below w.heap.size w w' := ⟨_, rfl⟩
 rw [← hpost]
 have HP1 : Hid (∀ w', l1 ≠ l2 → Below w.heap.size w w' → post (.returned (.int .i64 1)) w') := fun w' h0 h => by rw [hpost]; exact ⟨⟨1, rfl, .inr ⟨fun e => h0 (Prod.mk.inj e).1, rfl⟩⟩, h⟩
 have HP0 : Hid (∀ w', l1 = l2 → Below w.heap.size w w' → post (.returned (.int .i64 0)) w') := fun w' h0 h => by rw [hpost, h0]; exact ⟨⟨0, rfl, .inl ⟨rfl, rfl⟩⟩, h⟩
 rw [hW] at p0 p1 q0 q1
 clear hn hlen hpost
 go_enter Tryz.func18, Tryz.ntmps18
 go_wp2
 rw [← hW] at p0 p1 q0 q1 ⊢
 clear hW
 go_loopw [5] (fun i wr => ∃ k : Nat, k ≤ n ∧ i = .int .i64 k ∧ Hid (∀ (i : Nat), i < k → l1[i]? = l2[i]?) ∧ Hid (Below W.heap.size W wr)) (fun i _ => n - (intOf i).toNat)
 case atStart => exact ⟨0, Nat.zero_le _, rfl, fun i hi => by omega, Below.refl _ _⟩
 case round => (
 obtain ⟨k, hk, rfl, HK, HB⟩ := hrel
 have hbB1 := HW.out.2.2.2.1.below HB.out HW.out.2.2.2.1.lt
 have hbB2 := HW.out.2.2.2.2.below HB.out HW.out.2.2.2.2.lt
 clear p0 p1 q0 q1
 obtain ⟨p0, p1, -, -⟩ := hbB1.two
 obtain ⟨q0, q1, -, -⟩ := hbB2.two
 by_cases hlt : k < n
 · obtain ⟨x, hx⟩ := get_lt (l := l1) (k := k) (by rw [← HN.out.1]; exact hlt)
   obtain ⟨y, hy⟩ := get_lt (l := l2) (k := k) (by rw [← HN.out.2]; exact hlt)
   obtain ⟨b1, o1, e1, f1, hix1, hg1, hc1, hL1⟩ := nds_atN (ndsN.below HW.out.2.1 HB.out) k x hx
   obtain ⟨b2, o2, e2, f2, hix2, hg2, hc2, hL2⟩ := nds_atR (ndsR.below HW.out.2.2.1 HB.out) k y hy
   obtain ⟨i0, i1, i2, i3, i4, i5⟩ := nv_cells hc1
   obtain ⟨j0, j1, j2, j3, j4, j5⟩ := nv_cells hc2
   have hkn : (k : Int) < (n : Int) := by omega
   have HXY : Hid (l1[k]? = some x ∧ l2[k]? = some y ∧ LN n1 wr x e1 f1 ∧ LR n2 wr y e2 f2) := ⟨hx, hy, hL1, hL2⟩
   clear hx hy hL1 hL2 hc1 hc2 hbB1 hbB2
   obtain ⟨xi, hxi⟩ := exa (x.1)
   obtain ⟨xd, hxd⟩ := exa (isD x)
   obtain ⟨xl, hxl⟩ := exa (lk x)
   obtain ⟨xz, hxz⟩ := exa ((fi x).1)
   obtain ⟨yi, hyi⟩ := exa (y.1)
   obtain ⟨yd, hyd⟩ := exa (isD y)
   obtain ⟨yl, hyl⟩ := exa (lk y)
   obtain ⟨yz, hyz⟩ := exa ((fi y).1)
   have HE : Hid (xi = x.1 ∧ xd = isD x ∧ xl = lk x ∧ xz = (fi x).1 ∧ yi = y.1 ∧ yd = isD y ∧ yl = lk y ∧ yz = (fi y).1) := ⟨hxi, hxd, hxl, hxz, hyi, hyd, hyl, hyz⟩
   rw [← hxi] at i0
   rw [← hxd] at i1
   rw [← hxl] at i2
   rw [← hxz] at i4
   rw [← hyi] at j0
   rw [← hyd] at j1
   rw [← hyl] at j2
   rw [← hyz] at j4
   clear hxi hxd hxl hxz hyi hyd hyl hyz
   have HSb : Hid (∀ U, Below wr.heap.size wr U → U.cell? ⟨w.heap.size, 0, none⟩ = some (.slice a1 n c1) ∧ U.cell? ⟨w.heap.size + 1, 0, none⟩ = some (.slice a2 n c2) ∧ U.cell? ⟨b1, o1, none⟩ = some (.int .i64 xi) ∧ U.cell? ⟨b1, o1 + 1, none⟩ = some (.bool xd) ∧ U.cell? ⟨b1, o1 + 2, none⟩ = some (.int .i64 xl) ∧ U.cell? ⟨b1, o1 + 3, none⟩ = some e1 ∧ U.cell? ⟨b1, o1 + 4, none⟩ = some (.int .i64 xz) ∧ U.cell? ⟨b1, o1 + 5, none⟩ = some f1 ∧ U.cell? ⟨b2, o2, none⟩ = some (.int .i64 yi) ∧ U.cell? ⟨b2, o2 + 1, none⟩ = some (.bool yd) ∧ U.cell? ⟨b2, o2 + 2, none⟩ = some (.int .i64 yl) ∧ U.cell? ⟨b2, o2 + 3, none⟩ = some e2 ∧ U.cell? ⟨b2, o2 + 4, none⟩ = some (.int .i64 yz) ∧ U.cell? ⟨b2, o2 + 5, none⟩ = some f2) := fun U hU => by (
 have keep : ∀ (z : Addr) (v : Value), wr.cell? z = some v → U.cell? z = some v := fun z v hz => by rw [hU.cell (cell_lt hz)]; exact hz
 exact ⟨keep _ _ p0, keep _ _ q0, keep _ _ i0, keep _ _ i1, keep _ _ i2, keep _ _ i3, keep _ _ i4, keep _ _ i5, keep _ _ j0, keep _ _ j1, keep _ _ j2, keep _ _ j3, keep _ _ j4, keep _ _ j5⟩)
   obtain ⟨ea1, ec1, rfl, -⟩ := HXY.out.2.2.1.1.shape
   obtain ⟨ea2, ec2, rfl, -⟩ := HXY.out.2.2.2.1.shape
   obtain ⟨fa1, fc1, hfe1, -⟩ := Shape.list_len (S := F.bkN) (ht := Tryz.underlying43) (hc := F.cells43) HXY.out.2.2.1.2.1
   obtain rfl : f1 = _ := by simpa using hfe1
   obtain ⟨fa2, fc2, hfe2, -⟩ := Shape.list_len (S := F.bkR) (ht := Tryz.underlying97) (hc := F.cells97) HXY.out.2.2.2.2.1
   obtain rfl : f2 = _ := by simpa using hfe2
   clear hfe1 hfe2
   go_wp2
   have hSS := HSb.out wr.drew (Below.refl _ wr).drew
   clear p0 p1 q0 q1 i0 i1 i2 i3 i4 i5 j0 j1 j2 j3 j4 j5
   refine AnyBut.begin (fun U => U.cell? ⟨w.heap.size, 0, none⟩ = some (.slice a1 n c1) ∧ U.cell? ⟨w.heap.size + 1, 0, none⟩ = some (.slice a2 n c2) ∧ U.cell? ⟨b1, o1, none⟩ = some (.int .i64 xi) ∧ U.cell? ⟨b1, o1 + 1, none⟩ = some (.bool xd) ∧ U.cell? ⟨b1, o1 + 2, none⟩ = some (.int .i64 xl) ∧ U.cell? ⟨b1, o1 + 3, none⟩ = some (.slice ea1 (en x).length ec1) ∧ U.cell? ⟨b1, o1 + 4, none⟩ = some (.int .i64 xz) ∧ U.cell? ⟨b1, o1 + 5, none⟩ = some (.slice fa1 (fi x).2.length fc1) ∧ U.cell? ⟨b2, o2, none⟩ = some (.int .i64 yi) ∧ U.cell? ⟨b2, o2 + 1, none⟩ = some (.bool yd) ∧ U.cell? ⟨b2, o2 + 2, none⟩ = some (.int .i64 yl) ∧ U.cell? ⟨b2, o2 + 3, none⟩ = some (.slice ea2 (en y).length ec2) ∧ U.cell? ⟨b2, o2 + 4, none⟩ = some (.int .i64 yz) ∧ U.cell? ⟨b2, o2 + 5, none⟩ = some (.slice fa2 (fi y).2.length fc2)) 13 (by kernel_rfl) ?_
   refine ty 0 29 hSS ?_; simp only [ua,ub,uc,ud]
   refine ty 1 30 hSS ?_; simp only [ua,ub,uc,ud]
   refine ty 2 31 hSS ?_; simp only [ua,ub,uc,ud]
   refine ty 3 32 hSS ?_; simp only [ua,ub,uc,ud]
   refine ty 4 33 hSS ?_; simp only [ua,ub,uc,ud]
   refine ty 5 34 hSS ?_; simp only [ua,ub,uc,ud]
   refine ty 6 35 hSS ?_; simp only [ua,ub,uc,ud]
   refine ty 7 36 hSS ?_; simp only [ua,ub,uc,ud]
   refine ty 8 37 hSS ?_; simp only [ua,ub,uc,ud]
   refine ty 9 38 hSS ?_; simp only [ua,ub,uc,ud]
   refine AnyBut.two (i := 10) (j := 11) (by kernel_rfl) rfl rfl (fun K hK => ?_) (fun K hK => ?_)
   · go_simp
     refine hK.out _ _ (HSb.out _ ((Below.refl _ wr).drew.alloc (Nat.le_refl _) _)) ?_
     clear hK hSS
     refine AnyBut.step (i := 11) (by kernel_rfl) rfl (fun K hK => ?_)
     go_simp
     refine hK.out _ _ (HSb.out _ (((Below.refl _ wr).drew.alloc (Nat.le_refl _) _).alloc (by simp) _)) ?_
     clear hK
     refine AnyBut.step (i := 12) (by kernel_rfl) rfl (fun K hK => ?_)
     go_simp
     refine hK.out _ _ (HSb.out _ (((Below.refl _ wr).alloc (Nat.le_refl _) _).alloc (by simp) _).drew) ?_
     clear hK
     refine AnyBut.last (by kernel_rfl) (by kernel_rfl) rfl (fun K hK => ?_)
     go_simp
     refine hK.out _ _ ?_
     clear hK
     obtain ⟨V, hV⟩ := exa (((wr.alloc (.cells #[.int .i64 xi, .bool xd, .int .i64 xl, .slice ea1 (en x).length ec1, .int .i64 xz, .slice fa1 (fi x).2.length fc1] 47)).alloc (.cells #[.int .i64 yi, .bool yd, .int .i64 yl, .slice ea2 (en y).length ec2, .int .i64 yz, .slice fa2 (fi y).2.length fc2] 101)).drew)
     have hbV : Below wr.heap.size wr V := by rw [hV]; exact (((Below.refl _ wr).alloc (Nat.le_refl _) _).alloc (by simp) _).drew
     have hBx : Box V wr.heap.size 47 #[.int .i64 xi, .bool xd, .int .i64 xl, .slice ea1 (en x).length ec1, .int .i64 xz, .slice fa1 (fi x).2.length fc1] := by (
 rw [hV]
 exact Box.drew ((Box.new wr 47 _).alloc _))
     have hBy : Box V (wr.heap.size + 1) 101 #[.int .i64 yi, .bool yd, .int .i64 yl, .slice ea2 (en y).length ec2, .int .i64 yz, .slice fa2 (fi y).2.length fc2] := by (
 rw [hV]
 exact Box.drew (by have := Box.new (wr.alloc (.cells #[.int .i64 xi, .bool xd, .int .i64 xl, .slice ea1 (en x).length ec1, .int .i64 xz, .slice fa1 (fi x).2.length fc1] 47)) 101 #[.int .i64 yi, .bool yd, .int .i64 yl, .slice ea2 (en y).length ec2, .int .i64 yz, .slice fa2 (fi y).2.length fc2]; rwa [World.size_alloc] at this))
     rw [← hV]
     have HV : Hid (Below wr.heap.size wr V) := hbV
     obtain ⟨x0, x1', x2, x3, x4, x5⟩ := hBx.six
     obtain ⟨y0, y1, y2, y3, y4, y5⟩ := hBy.six
     have HC1 := D.alike_any n1 n2 _ _ (en x) (en y) V (HXY.out.2.2.1.1.below hbV) (HXY.out.2.2.2.1.below hbV)
     have HC2 : Hid (∀ q, Calls Tryz.prog 60 #[.agg #[.int .i64 xz, .slice fa1 (fi x).2.length fc1], .agg #[.int .i64 yz, .slice fa2 (fi y).2.length fc2]] (V.drewN q) fun e w' => e = .returned (.int .i64 (if fi x = fi y then 0 else 1)) ∧ Below (V.drewN q).heap.size (V.drewN q) w') := fun q => by (
 have h1 := (HXY.out.2.2.1.below (below_drewN hbV q)).file
 have h2 := (HXY.out.2.2.2.below (below_drewN hbV q)).file
 rw [← HE.out.2.2.2.1] at h1
 rw [← HE.out.2.2.2.2.2.2.2] at h2
 exact F.alike_any n1 n2 [_, _] [_, _] (fi x) (fi y) (V.drewN q) h1 h2)
     have HXNE : Hid (x ≠ y → l1 ≠ l2) := fun hne e => hne (by
       have h1 := HXY.out.1
       rw [e, HXY.out.2.1] at h1
       exact (Option.some.inj h1).symm)
     have HBV : Hid (∀ q, Below w.heap.size w (V.drewN q)) := fun q => below_any (below_any HW.out.1 HB.out) (below_drewN HV.out q)
     clear hV hbV hBx hBy HSb
     by_cases hi : xi = yi
     case neg => (
 clear HC1 HC2
 have hib : (xi == yi) = false := by simpa using hi
 go_wp2
 exact HP1.out _ (HXNE.out fun e => hi (by rw [HE.out.1, HE.out.2.2.2.2.1, e])) (HBV.out 0))
     subst hi
     by_cases hd : xd = yd
     case neg => (
 clear HC1 HC2
 have hdb : (xd == yd) = false := by simpa using hd
 go_wp2
 exact HP1.out _ (HXNE.out fun e => hd (by rw [HE.out.2.1, HE.out.2.2.2.2.2.1, e])) (HBV.out 0))
     subst hd
     by_cases hl : xl = yl
     case neg => (
 clear HC1 HC2
 have hlb : (xl == yl) = false := by simpa using hl
 go_wp2
 exact HP1.out _ (HXNE.out fun e => hl (by rw [HE.out.2.2.1, HE.out.2.2.2.2.2.2.1, e])) (HBV.out 0))
     subst hl
     obtain ⟨ex, hex⟩ := exa ((en x).length)
     obtain ⟨ey, hey⟩ := exa ((en y).length)
     obtain ⟨fx, hfx⟩ := exa ((fi x).2.length)
     obtain ⟨fy, hfy⟩ := exa ((fi y).2.length)
     rw [← hex] at x3 HC1 ⊢
     rw [← hey] at y3 HC1 ⊢
     rw [← hfx] at x5 HC2 ⊢
     rw [← hfy] at y5 HC2 ⊢
     clear hex hey hfx hfy
     by_cases he : en x = en y
     case neg => (
 rw [if_neg he] at HC1
 clear HC2
 go_wp2_with (go_at_call 59; refine HC1.mono ?_; rintro e w2 ⟨rfl, q, rfl⟩)
 exact HP1.out _ (HXNE.out fun e => he (by rw [e])) (HBV.out _))
     rw [if_pos he] at HC1
     have x4' : ∀ q, (V.drewN q).cell? ⟨wr.heap.size, 4, none⟩ = some (.int .i64 xz) := fun q => by simpa using x4
     have x5' : ∀ q, (V.drewN q).cell? ⟨wr.heap.size, 5, none⟩ = some (.slice fa1 fx fc1) := fun q => by simpa using x5
     by_cases hf : fi x = fi y
     case neg => (
 rw [if_neg hf] at HC2
 go_wp2_with (first | (go_at_call 59; refine HC1.mono ?_; rintro e w2 ⟨rfl, q, rfl⟩; have HC2' := HC2.out q; have HBq := HBV.out q) | (go_at_call 60; refine HC2'.mono ?_; rintro e w3 ⟨rfl, hb3⟩))
 exact HP1.out _ (HXNE.out fun e => hf (by rw [e])) (below_any HBq hb3))
     rw [if_pos hf] at HC2
     have HXE : Hid (x = y) := nd_ext (by rw [← HE.out.1, ← HE.out.2.2.2.2.1]) (by rw [← HE.out.2.1, ← HE.out.2.2.2.2.2.1]) (by rw [← HE.out.2.2.1, ← HE.out.2.2.2.2.2.2.1]) he hf
     go_wp2_with (first | (go_at_call 59; refine HC1.mono ?_; rintro e w2 ⟨rfl, q, rfl⟩; have HC2' := HC2.out q; have HBq : Hid (Below wr.heap.size wr (V.drewN q)) := below_drewN HV.out q) | (go_at_call 60; refine HC2'.mono ?_; rintro e w3 ⟨rfl, hb3⟩))
     have HBF : Hid (Below W.heap.size W w3) := below_any (below_any HB.out HBq.out) hb3
     clear hb3 HC1 HC2 HC2'
     go_roundw
     case rel => (
 refine ⟨k + 1, by omega, by go_num, fun i hi => ?_, HBF.out⟩
 by_cases e : i < k
 · exact HK.out i e
 · obtain rfl : i = k := by omega
   rw [HXY.out.1, HXY.out.2.1, HXE.out])
     case measure => simp [intOf]; omega
   · go_simp
     refine hK.out _ _ (HSb.out _ ((Below.refl _ wr).drew.alloc (Nat.le_refl _) _)) ?_
     clear hK hSS
     refine AnyBut.step (i := 10) (by kernel_rfl) rfl (fun K hK => ?_)
     go_simp
     refine hK.out _ _ (HSb.out _ (((Below.refl _ wr).drew.alloc (Nat.le_refl _) _).alloc (by simp) _)) ?_
     clear hK
     refine AnyBut.step (i := 12) (by kernel_rfl) rfl (fun K hK => ?_)
     go_simp
     refine hK.out _ _ (HSb.out _ (((Below.refl _ wr).alloc (Nat.le_refl _) _).alloc (by simp) _).drew) ?_
     clear hK
     refine AnyBut.last (by kernel_rfl) (by kernel_rfl) rfl (fun K hK => ?_)
     go_simp
     refine hK.out _ _ ?_
     clear hK
     obtain ⟨V, hV⟩ := exa (((wr.alloc (.cells #[.int .i64 yi, .bool yd, .int .i64 yl, .slice ea2 (en y).length ec2, .int .i64 yz, .slice fa2 (fi y).2.length fc2] 101)).alloc (.cells #[.int .i64 xi, .bool xd, .int .i64 xl, .slice ea1 (en x).length ec1, .int .i64 xz, .slice fa1 (fi x).2.length fc1] 47)).drew)
     have hbV : Below wr.heap.size wr V := by rw [hV]; exact (((Below.refl _ wr).alloc (Nat.le_refl _) _).alloc (by simp) _).drew
     have hBx : Box V (wr.heap.size + 1) 47 #[.int .i64 xi, .bool xd, .int .i64 xl, .slice ea1 (en x).length ec1, .int .i64 xz, .slice fa1 (fi x).2.length fc1] := by (
 rw [hV]
 exact Box.drew (by have := Box.new (wr.alloc (.cells #[.int .i64 yi, .bool yd, .int .i64 yl, .slice ea2 (en y).length ec2, .int .i64 yz, .slice fa2 (fi y).2.length fc2] 101)) 47 #[.int .i64 xi, .bool xd, .int .i64 xl, .slice ea1 (en x).length ec1, .int .i64 xz, .slice fa1 (fi x).2.length fc1]; rwa [World.size_alloc] at this))
     have hBy : Box V wr.heap.size 101 #[.int .i64 yi, .bool yd, .int .i64 yl, .slice ea2 (en y).length ec2, .int .i64 yz, .slice fa2 (fi y).2.length fc2] := by (
 rw [hV]
 exact Box.drew ((Box.new wr 101 _).alloc _))
     rw [← hV]
     have HV : Hid (Below wr.heap.size wr V) := hbV
     obtain ⟨x0, x1', x2, x3, x4, x5⟩ := hBx.six
     obtain ⟨y0, y1, y2, y3, y4, y5⟩ := hBy.six
     have HC1 := D.alike_any n1 n2 _ _ (en x) (en y) V (HXY.out.2.2.1.1.below hbV) (HXY.out.2.2.2.1.below hbV)
     have HC2 : Hid (∀ q, Calls Tryz.prog 60 #[.agg #[.int .i64 xz, .slice fa1 (fi x).2.length fc1], .agg #[.int .i64 yz, .slice fa2 (fi y).2.length fc2]] (V.drewN q) fun e w' => e = .returned (.int .i64 (if fi x = fi y then 0 else 1)) ∧ Below (V.drewN q).heap.size (V.drewN q) w') := fun q => by (
 have h1 := (HXY.out.2.2.1.below (below_drewN hbV q)).file
 have h2 := (HXY.out.2.2.2.below (below_drewN hbV q)).file
 rw [← HE.out.2.2.2.1] at h1
 rw [← HE.out.2.2.2.2.2.2.2] at h2
 exact F.alike_any n1 n2 [_, _] [_, _] (fi x) (fi y) (V.drewN q) h1 h2)
     have HXNE : Hid (x ≠ y → l1 ≠ l2) := fun hne e => hne (by
       have h1 := HXY.out.1
       rw [e, HXY.out.2.1] at h1
       exact (Option.some.inj h1).symm)
     have HBV : Hid (∀ q, Below w.heap.size w (V.drewN q)) := fun q => below_any (below_any HW.out.1 HB.out) (below_drewN HV.out q)
     clear hV hbV hBx hBy HSb
     by_cases hi : xi = yi
     case neg => (
 clear HC1 HC2
 have hib : (xi == yi) = false := by simpa using hi
 go_wp2
 exact HP1.out _ (HXNE.out fun e => hi (by rw [HE.out.1, HE.out.2.2.2.2.1, e])) (HBV.out 0))
     subst hi
     by_cases hd : xd = yd
     case neg => (
 clear HC1 HC2
 have hdb : (xd == yd) = false := by simpa using hd
 go_wp2
 exact HP1.out _ (HXNE.out fun e => hd (by rw [HE.out.2.1, HE.out.2.2.2.2.2.1, e])) (HBV.out 0))
     subst hd
     by_cases hl : xl = yl
     case neg => (
 clear HC1 HC2
 have hlb : (xl == yl) = false := by simpa using hl
 go_wp2
 exact HP1.out _ (HXNE.out fun e => hl (by rw [HE.out.2.2.1, HE.out.2.2.2.2.2.2.1, e])) (HBV.out 0))
     subst hl
     obtain ⟨ex, hex⟩ := exa ((en x).length)
     obtain ⟨ey, hey⟩ := exa ((en y).length)
     obtain ⟨fx, hfx⟩ := exa ((fi x).2.length)
     obtain ⟨fy, hfy⟩ := exa ((fi y).2.length)
     rw [← hex] at x3 HC1 ⊢
     rw [← hey] at y3 HC1 ⊢
     rw [← hfx] at x5 HC2 ⊢
     rw [← hfy] at y5 HC2 ⊢
     clear hex hey hfx hfy
     by_cases he : en x = en y
     case neg => (
 rw [if_neg he] at HC1
 clear HC2
 go_wp2_with (go_at_call 59; refine HC1.mono ?_; rintro e w2 ⟨rfl, q, rfl⟩)
 exact HP1.out _ (HXNE.out fun e => he (by rw [e])) (HBV.out _))
     rw [if_pos he] at HC1
     have x4' : ∀ q, (V.drewN q).cell? ⟨(wr.heap.size + 1), 4, none⟩ = some (.int .i64 xz) := fun q => by simpa using x4
     have x5' : ∀ q, (V.drewN q).cell? ⟨(wr.heap.size + 1), 5, none⟩ = some (.slice fa1 fx fc1) := fun q => by simpa using x5
     by_cases hf : fi x = fi y
     case neg => (
 rw [if_neg hf] at HC2
 go_wp2_with (first | (go_at_call 59; refine HC1.mono ?_; rintro e w2 ⟨rfl, q, rfl⟩; have HC2' := HC2.out q; have HBq := HBV.out q) | (go_at_call 60; refine HC2'.mono ?_; rintro e w3 ⟨rfl, hb3⟩))
 exact HP1.out _ (HXNE.out fun e => hf (by rw [e])) (below_any HBq hb3))
     rw [if_pos hf] at HC2
     have HXE : Hid (x = y) := nd_ext (by rw [← HE.out.1, ← HE.out.2.2.2.2.1]) (by rw [← HE.out.2.1, ← HE.out.2.2.2.2.2.1]) (by rw [← HE.out.2.2.1, ← HE.out.2.2.2.2.2.2.1]) he hf
     go_wp2_with (first | (go_at_call 59; refine HC1.mono ?_; rintro e w2 ⟨rfl, q, rfl⟩; have HC2' := HC2.out q; have HBq : Hid (Below wr.heap.size wr (V.drewN q)) := below_drewN HV.out q) | (go_at_call 60; refine HC2'.mono ?_; rintro e w3 ⟨rfl, hb3⟩))
     have HBF : Hid (Below W.heap.size W w3) := below_any (below_any HB.out HBq.out) hb3
     clear hb3 HC1 HC2 HC2'
     go_roundw
     case rel => (
 refine ⟨k + 1, by omega, by go_num, fun i hi => ?_, HBF.out⟩
 by_cases e : i < k
 · exact HK.out i e
 · obtain rfl : i = k := by omega
   rw [HXY.out.1, HXY.out.2.1, HXE.out])
     case measure => simp [intOf]; omega
 · obtain rfl : k = n := by omega
   go_wp2
   exact HP0.out _ (alike_nd (by have := HN.out; omega) (fun i hi => HK.out i (by rw [HN.out.1]; exact hi))) (below_any HW.out.1 HB.out))
end Go.Proofs.YtopcefhncildnaaGreatDoor
namespace Go.Proofs.YtopcefhncildnaaGreatDoor
open Go.RowKit
open D (En ArgE OwnE evs)
open F (Fl bksR flR txt mk)
attribute [local go_sem ↓] Go.wp_at_zero Go.wp_at_succ
theorem push_allR {ops : Array Oper} {rest : List Oper} {o : Oper} {a : Act} {Q : Exit → Act → World → Prop} (hgd : o.guard = none) (s x : Operand) (ho : o.op = .call { callee := .builtin .append, args := #[s, x], argTypes := #[96, 96] })
   (base n1 : Nat) (v u : Value) (l m : List En) (w : World) (hs : a.eval s = v) (hO : OwnE 162 base w v l) (hx : a.eval x = u) (hA : ArgE n1 w u m) (hlen : l.length + m.length ≤ 100000) (hb : base ≤ w.heap.size)
   (h : ∀ v' w', OwnE 162 base w' v' (l ++ m) → w.grownBy w' v.ownBlock → wpList Tryz.prog ops Q rest (a.put o.dst v') w') : wpList Tryz.prog ops Q (o :: rest) a w := by
 obtain ⟨i3, hi3, hz0, hz1, hz2⟩ := info_parts D.Tryz.info162
 obtain ⟨hl, ⟨rfl, h0⟩ | ⟨ad, cap, rfl, hc, hm, _, hcell⟩⟩ := hA.1
 · obtain rfl := List.eq_nil_of_length_eq_zero h0
   refine wpList_append_own_none hgd s x 96 ho base 162 i3 2 Tryz.underlying96 hi3 v l.length (evs l) hs hO.1 hx ?_
   exact h v w (by simpa using hO) ⟨rfl, rfl, rfl, Nat.le_refl _, fun _ _ _ => rfl⟩
 · refine wpList_append_own _ hgd s x 96 ho base 162 i3 _ 2 24 Tryz.underlying96 hi3 hz0 hz1 hz2 rfl (by omega) v l.length (evs l) hs hO.1 ad m.length cap (evs m) hx (by rw [D.evs_length]) hcell (D.evs_one m) (by unfold maxLen; omega) (by omega) hb ?_
   intro v' w' h1 h2 _
   refine h v' w' ⟨?_, hO.2.append hA.2⟩ h2
   rw [List.length_append, D.evs_append]
   exact h1
theorem bks_agree {B0 B1 : Nat} {r : Option Nat} {w w' : World} {b : Value} {bs : List F.Bk} {base : Nat} (h : bksR.lies base w [b] bs) (hb : B1 ≤ base) (hr : ∀ g, r = some g → g < base) (ha : Agree B0 B1 r w w') : bksR.lies 0 w' [b] bs :=
 bksR.weaken (bksR.keep h fun k h1 h2 => ha k (fun e => by have := hr k e.symm; omega) h2 (.inr (by omega))) (Nat.zero_le _)
theorem ens_agree {B0 B1 : Nat} {r : Option Nat} {w w' : World} {e : Value} {es : List En} {base : Nat} (h : ArgE base w e es) (hb : B1 ≤ base) (hr : ∀ g, r = some g → g < base) (ha : Agree B0 B1 r w w') : ArgE 0 w' e es :=
 (h.keep fun k h1 h2 => ha k (fun e => by have := hr k e.symm; omega) h2 (.inr (by omega))).weaken (Nat.zero_le _)
theorem bks_nil {n : Nat} {w : World} {b : Value} (h : bksR.lies n w [b] []) (w' : World) : bksR.lies 0 w' [b] [] := by
 obtain ⟨v, vss, hv, hC, hE⟩ := h
 cases vss with
 | cons _ _ => exact hE.elim
 | nil => (
 refine ⟨v, [], hv, ⟨hC.1, ?_⟩, trivial⟩
 rcases hC.2 with ⟨h1, h2⟩ | ⟨x, cap, h1, h2, h3, _, _⟩
 · exact .inl ⟨h1, h2⟩
 · exact .inr ⟨x, cap, h1, h2, h3, Nat.zero_le _, fun i u hu => by simp at hu⟩)
theorem OR.weaken {B0 B1 B2 : Nat} {w : World} {v : Value} {l : List Nd} (h : OR B0 B1 w v l) (hB : B2 ≤ B1) : OR B0 B2 w v l := by
 obtain ⟨vss, h1, h2⟩ := h
 exact ⟨vss, own_weaken h1 hB, h2.mono fun _ _ ⟨e, b, h3, h4⟩ => ⟨e, b, h3, h4.1, fun w' ha => h4.2 w' fun k k1 k2 k3 => ha k k1 k2 (k3.imp id fun h => by omega)⟩⟩
theorem OR.owns {B0 B1 : Nat} {w : World} {v : Value} {l : List Nd} (h : OR B0 B1 w v l) : ∀ g, v.ownBlock = some g → B1 ≤ g ∧ g < w.heap.size := fun g hg => by
 obtain ⟨vss, h1, _⟩ := h
 exact h1.lt g hg
theorem rown_any (n0 : Nat) (w0 : World) (a : Option Addr) (c : Nat) (s : St) (hK : Wk s) (w : World) (hb0 : Below w0.heap.size w0 w) (hA : ndsR.lies n0 w0 [.slice a s.1.length c] s.1) :
   Calls Tryz.prog 55 #[.agg #[.slice a s.1.length c, .int .i64 s.2]] w fun e w' => (∃ v', e = .returned (.agg #[v', .int .i64 s.2]) ∧ OR w0.heap.size w.heap.size w' v' s.1) ∧ Below w.heap.size w w' := by
 have hS := hK.small
 obtain ⟨i3, hi3, hz30, hz31, hz32⟩ := info_parts Tryz.info101
 have HKK : Hid (∀ p ∈ s.1, (isD p = true → fi p = (0, [])) ∧ (isD p = false → F.chk (fi p) = true)) := fun p hp => ⟨fun hd => (hK.dirs p hp hd).2, fun hd => (hK.files p hp hd).2⟩
 obtain ⟨l, nx⟩ := s
 simp only at hA hS HKK ⊢
 obtain ⟨n, hn⟩ := exa (l.length)
 have HL : Hid (ndsR.lies n0 w0 [.slice a n c] l ∧ n = l.length ∧ n ≤ 4096 ∧ Small l ∧ Below w0.heap.size w0 w) := ⟨by rw [hn]; exact hA, hn, by rw [hn]; exact hS.1, hS, hb0⟩
 have hn4 : n ≤ 4096 := HL.out.2.2.1
 have hl1 := run_len Tryz.underlying22 a n c
 obtain ⟨post, hpost⟩ : ∃ post : Ending → World → Prop, post = fun e w' => (∃ v', e = .returned (.agg #[v', .int .i64 nx]) ∧ OR w0.heap.size w.heap.size w' v' l) ∧ Below w.heap.size w w' := ⟨_, rfl⟩
 have HPo : Hid (∀ v' w', OR w0.heap.size w.heap.size w' v' l → Below w.heap.size w w' → post (.returned (.agg #[v', .int .i64 nx])) w') := fun v' w' h1 h2 => by rw [hpost]; exact ⟨⟨v', rfl, h1⟩, h2⟩
 rw [← hpost, ← hn]
 clear hA hS hn hpost hb0 hK
 go_enter Tryz.func55, Tryz.ntmps55
 go_wp2
 go_loopw [4] (fun i wr => ∃ (k : Nat) (v : Value), k ≤ n ∧ i = .int .i64 k ∧ Hid (Box wr w.heap.size 24 #[.slice a n c, .int .i64 nx] ∧ Box wr (w.heap.size + 1) 24 #[.slice none 0 0, .int .i64 0] ∧ Box wr (w.heap.size + 2) 24 #[v, .int .i64 nx] ∧
   OR w0.heap.size (w.heap.size + 3) wr v (l.take k) ∧ Below w.heap.size w wr ∧ w.heap.size + 3 ≤ wr.heap.size)) (fun i _ => n - (intOf i).toNat)
 case atStart => (
 refine ⟨0, _, Nat.zero_le _, rfl, ?_, ?_, ?_, OR.nil _ _ _, ?_, ?_⟩
 · exact ((Box.new w 24 _).alloc _).alloc _
 · have := (Box.new (w.alloc (.cells #[.slice a n c, .int .i64 nx] 24)) 24 #[.slice none 0 0, .int .i64 0]).alloc (.cells #[.slice none 0 0, .int .i64 nx] 24)
   simpa using this
 · have := Box.new ((w.alloc (.cells #[.slice a n c, .int .i64 nx] 24)).alloc (.cells #[.slice none 0 0, .int .i64 0] 24)) 24 #[.slice none 0 0, .int .i64 nx]
   simpa using this
 · exact (((Below.refl _ w).alloc (Nat.le_refl _) _).alloc (by simp) _).alloc (by simp; omega) _
 · simp)
 case round => (
 obtain ⟨k, v, hk, rfl, HJ⟩ := hrel
 obtain ⟨r0, r1, -, -⟩ := HJ.out.1.two
 by_cases hlt : k < n
 · obtain ⟨p, hp⟩ := get_lt (l := l) (k := k) (by rw [← HL.out.2.1]; exact hlt)
   have HB0 : Hid (Below w0.heap.size w0 wr) := HL.out.2.2.2.2.trans (HJ.out.2.2.2.2.1.mono HL.out.2.2.2.2.size)
   obtain ⟨b, o, e, f, hix, -, hcs, hLN⟩ := nds_atR (ndsR.below HL.out.1 HB0.out) k p hp
   have HTK : Hid (l.take (k + 1) = l.take k ++ [p] ∧ (l.take k).length = k) := ⟨take_snoc hp, by have := HL.out.2.1; rw [List.length_take]; omega⟩
   obtain ⟨c0, c1, c2, c3, c4, c5⟩ := nv_cells hcs
   obtain ⟨ea, ec, rfl, -, -⟩ := hLN.1.1.shape
   obtain ⟨fa, fc, hfe, -, -⟩ := Shape.list_len (S := F.bkR) (ht := Tryz.underlying97) (hc := F.cells97) hLN.2.1
   obtain rfl : f = _ := by simpa using hfe
   have hpl0 := List.mem_of_getElem? hp
   have HP : Hid (LR n0 wr p (.slice ea (en p).length ec) (.slice fa (fi p).2.length fc) ∧ (en p).length ≤ 4096) := ⟨hLN, (HL.out.2.2.2.1.2 p hpl0).1⟩
   have HKP : Hid ((isD p = true → fi p = (0, [])) ∧ (isD p = false → F.chk (fi p) = true)) := HKK.out p hpl0
   obtain ⟨V, hV⟩ := exa (wr.alloc (.cells #[.int .i64 p.1, .bool (isD p), .int .i64 (lk p), .slice ea (en p).length ec, .int .i64 (fi p).1, .slice fa (fi p).2.length fc] 101))
   have HV : Hid (Below wr.heap.size wr V ∧ Box V wr.heap.size 101 #[.int .i64 p.1, .bool (isD p), .int .i64 (lk p), .slice ea (en p).length ec, .int .i64 (fi p).1, .slice fa (fi p).2.length fc]) := ⟨by rw [hV]; exact (Below.refl _ _).alloc (Nat.le_refl _) _, by rw [hV]; exact Box.new _ _ _⟩
   have HAE : Hid (ArgE n0 V (.slice ea (en p).length ec) (en p)) := HP.out.1.1.below HV.out.1
   have hki : (k : Int) < (n : Int) := by omega
   have g3 := HV.out.2.cell 3 rfl
   rw [hV] at g3
   obtain ⟨el, hel⟩ := exa ((en p).length)
   obtain ⟨fl, hfl⟩ := exa ((fi p).2.length)
   obtain ⟨pi, hpi⟩ := exa (p.1)
   obtain ⟨pd, hpd⟩ := exa (isD p)
   obtain ⟨pl, hpl⟩ := exa (lk p)
   obtain ⟨pz, hpz⟩ := exa ((fi p).1)
   have HEQ : Hid (el = (en p).length ∧ fl = (fi p).2.length ∧ (∀ e f, nv p e f = [.int .i64 pi, .bool pd, .int .i64 pl, e, .int .i64 pz, f]) ∧ NOk p ∧ pz = (fi p).1 ∧ pd = isD p) := ⟨hel, hfl, fun e f => by rw [hpi, hpd, hpl, hpz]; rfl, HP.out.1.2.2, hpz, hpd⟩
   rw [← hel] at c3 g3 HV hV HAE HP
   rw [← hfl] at c5 g3 HV hV HP
   rw [← hpi] at c0 g3 HV hV
   rw [← hpd] at c1 g3 HV hV
   rw [← hpl] at c2 g3 HV hV
   rw [← hpz] at c4 g3 HV hV
   clear hcs hLN hp hfe hel hfl hpi hpd hpl hpz hpl0
   obtain ⟨a', cap', rfl⟩ := HJ.out.2.2.2.1.shape
   rw [HTK.out.2] at HJ
   obtain ⟨vss, hown0, hEE⟩ := HJ.out.2.2.2.1
   rw [HTK.out.2] at hown0
   have HEE : Hid (Each (fun us q => ∃ e b, us = nv q e b ∧ PR w0.heap.size (w.heap.size + 3) (Value.slice a' k cap').ownBlock wr q e b) vss (l.take k)) := hEE
   have HVB : Hid (∀ g', (Value.slice a' k cap').ownBlock = some g' → g' < wr.heap.size) := fun g' hg' => (hown0.lt g' hg').2
   have HROW : Hid (∀ W, Below wr.heap.size wr W → W.ownsRow (w.heap.size + 3) 101 6 (.slice a' k cap') k vss.flatten ∧ W.cell? ⟨w.heap.size + 2, 0, none⟩ = some (.slice a' k cap')) := fun W hW => ⟨own_below hown0 hW, (HJ.out.2.2.1.below hW (by have := HJ.out.2.2.2.2.2; omega)).two.1⟩
   clear hown0 hEE
   cases hpd : pd
   case true => (
 subst hpd
 have hf0 : fi p = (0, []) := HKP.out.1 HEQ.out.2.2.2.2.2.symm
 go_wp2_with (at_builtin; first
   | (rw [← hW3, HB3.out.2.2.2.2.2]
      clear hW3 hx0
      have HH5 : Hid (Box W3 w.heap.size 24 #[.slice a n c, .int .i64 nx] ∧ Box W3 (w.heap.size + 1) 24 #[.slice none 0 0, .int .i64 0] ∧ Box W3 (w.heap.size + 2) 24 #[.slice a' k cap', .int .i64 nx] ∧ W3.ownsRow (w.heap.size + 3) 101 6 (.slice a' k cap') k vss.flatten ∧ Below w.heap.size w W3 ∧ w.heap.size + 3 ≤ W3.heap.size) :=
        ⟨HJ.out.1.below HB3.out.2.1 (by have := HJ.out.2.2.2.2.2; omega), HJ.out.2.1.below HB3.out.2.1 (by have := HJ.out.2.2.2.2.2; omega), HJ.out.2.2.1.below HB3.out.2.1 (by have := HJ.out.2.2.2.2.2; omega), hown0, below_any HJ.out.2.2.2.2.1 HB3.out.2.1, by have := HB3.out.2.1.size; have := HJ.out.2.2.2.2.2; omega⟩
      refine push_row (by rfl) _ _ 22 101 (by rfl) Tryz.underlying22 Tryz.info101 rfl (by omega) (w.heap.size + 3) _ vss.flatten k [.int .i64 pi, .bool true, .int .i64 pl, .slice ea' el ec', .int .i64 pz, .slice fa fl fc] rfl (by simp [Value.oneCell']) W3 (by rfl) HH5.out.2.2.2.1 (by rfl) (by omega) (by omega) HH5.out.2.2.2.2.2 ?_
      intro g cap w6 hO6 hg6 hgr6 hlt6
      have hbx6 := (Box.alloc HH5.out.2.2.1 (.cells #[.int .i64 pi, .bool true, .int .i64 pl, .slice ea' el ec', .int .i64 pz, .slice fa fl fc] 101)).grown hg6 (row_ne HH5.out.2.2.2.1 (by omega))
      have y0 := hbx6.cell 0 rfl
      have y1 := hbx6.frozen 0)
   | (rw [← hV]
      clear hV g3 c0 c1 c2 c3 c4 c5 hix
      refine push_allR (by rfl) _ _ (by rfl) V.heap.size n0 (.slice none 0 0) (.slice ea el ec) [] (en p) V (by rfl) ⟨World.ownsRow_nil _ _ _ _, fun _ h => by cases h⟩ (by rfl) HAE.out (by have := HP.out.2; have := HEQ.out.1; simp; omega) (Nat.le_refl _) ?_
      intro e' w2 hO2 hg2
      rw [List.nil_append] at hO2
      obtain ⟨ea', ec', rfl⟩ := hO2.shape
      have hE0 := HEQ.out.1
      rw [← hE0] at hO2 ⊢
      have hB2 := HV.out.2.grown hg2 (by simp [Value.ownBlock])
      have f3 := hB2.frozen 3
      have g3 := hB2.cell 3 rfl
      have hVs : wr.heap.size < V.heap.size := HV.out.2.lt
      have hbw2 : Below wr.heap.size wr w2 := HV.out.1.grown hg2 (by have := HV.out.1.size; omega) (fun j hj => by simp [Value.ownBlock] at hj)
      obtain ⟨W3, hW3⟩ := exa (w2.setCell ⟨wr.heap.size, 3, none⟩ (.slice ea' el ec'))
      have hB3 : Box W3 wr.heap.size 101 #[.int .i64 pi, .bool true, .int .i64 pl, .slice ea' el ec', .int .i64 pz, .slice fa fl fc] := by rw [hW3]; exact hB2.set 3 _
      have hsz3 : w2.heap.size = W3.heap.size := by rw [hW3]; simp [World.setCell]
      have HB3 : Hid (Box W3 wr.heap.size 101 #[.int .i64 pi, .bool true, .int .i64 pl, .slice ea' el ec', .int .i64 pz, .slice fa fl fc] ∧ Below wr.heap.size wr W3 ∧ OwnE 162 V.heap.size W3 (.slice ea' el ec') (en p) ∧ V.heap.size ≤ W3.heap.size ∧ wr.heap.size < V.heap.size ∧ w2.heap.size = W3.heap.size) :=
        ⟨hB3, by rw [hW3]; exact hbw2.setCell (p := ⟨wr.heap.size, 3, none⟩) (Nat.le_refl _) _, by rw [hW3]; exact hO2.same (.set hVs), by rw [hW3]; simpa [World.setCell] using hg2.size, hVs, hsz3⟩
      obtain ⟨q0, q1, q2, q3, q4, q5⟩ := hB3.six
      rw [hW3] at q0 q1 q2 q3 q4 q5
      clear hO2 hB2 hg2 hbw2 hVs HV HAE hE0 hB3 hsz3
      obtain ⟨hown0, hx0⟩ := HROW.out W3 HB3.out.2.1
      rw [hW3] at hx0))
 have h1 : ∀ g', (Value.slice a' k cap').ownBlock = some g' → g' < wr.heap.size := HVB.out
 have hbA : Below W3.heap.size W3 (W3.alloc (.cells #[.int .i64 pi, .bool true, .int .i64 pl, .slice ea' el ec', .int .i64 pz, .slice fa fl fc] 101)) := (Below.refl _ _).alloc (Nat.le_refl _) _
 have HPR : Hid (PR w0.heap.size (w.heap.size + 3) (Value.slice a' k cap').ownBlock W3 p (.slice ea' el ec') (.slice fa fl fc)) := by (
 refine ⟨HEQ.out.2.2.2.1, fun w' ha => ⟨?_, ?_⟩⟩
 · exact ens_agree (base := V.heap.size) HB3.out.2.2.1.arg (by have := HB3.out.2.2.2.2.1; have := HJ.out.2.2.2.2.2; omega) (fun g hg => by have := (hown0.lt g hg).2; have := h1 g hg; have := HB3.out.2.2.2.2.1; omega) ha
 · have h3 := HP.out.1.2.1
   rw [hf0] at h3 ⊢
   exact bks_nil h3 w')
 have hown6 : OR w0.heap.size (w.heap.size + 3) w6 (.slice (some ⟨g, 0, none⟩) (k + 1) cap) (l.take (k + 1)) := by (
 rw [HTK.out.1]
 refine OR.push (v := .slice a' k cap') (e := .slice ea' el ec') (b := .slice fa fl fc) (vss := vss) (HEE.out.mono fun us q ⟨e, b, h3, h4⟩ => ⟨e, b, h3, h4.to fun _ hz => (hz.below hbA).below HB3.out.2.1⟩) (HPR.out.to fun _ hz => hz.below hbA) hg6 (fun g' hg' => ?_) (by rw [HTK.out.2, HEQ.out.2.2.1]; exact hO6)
 have e1 : g = g' := by simpa [Value.ownBlock] using hg'
 subst e1
 rcases hgr6 with h | h
 · exact .inl h
 · exact .inr (by rw [h]; simp))
 have hb6 : Below w.heap.size w w6 := below_row HH5.out.2.2.2.2.1 HH5.out.2.2.2.1 hg6 (by omega) (by have := HH5.out.2.2.2.2.2; omega)
 have hx0 := (Box.alloc HH5.out.1 (.cells #[.int .i64 pi, .bool true, .int .i64 pl, .slice ea' el ec', .int .i64 pz, .slice fa fl fc] 101)).grown hg6 (row_ne HH5.out.2.2.2.1 (by omega))
 have hx1 := (Box.alloc HH5.out.2.1 (.cells #[.int .i64 pi, .bool true, .int .i64 pl, .slice ea' el ec', .int .i64 pz, .slice fa fl fc] 101)).grown hg6 (row_ne HH5.out.2.2.2.1 (by omega))
 refine ⟨⟨k + 1, _, by omega, by go_num, hx0.other (by omega), hx1.other (by omega), hbx6.set 0 _, hown6.set ⟨by have := HL.out.2.2.2.2.size; omega, by omega⟩, hb6.setCell (p := ⟨w.heap.size + 2, 0, none⟩) (by simp) _, ?_⟩, by simp [intOf]; omega⟩
 have := hg6.size
 have := HH5.out.2.2.2.2.2
 simp [World.setCell] at *
 omega)
   case false => (
 subst hpd
 have HCK : Hid (F.chk (fi p) = true) := HKP.out.2 HEQ.out.2.2.2.2.2.symm
 have HTX : Hid (∀ W, Below wr.heap.size wr W → Calls Tryz.prog 108 #[.agg #[.int .i64 pz, .slice fa fl fc]] W fun e w' => (∃ v, e = .returned v ∧ Own1 W.heap.size w' v (F.rtext (fi p))) ∧ Below W.heap.size W w') := fun W hW => by (
 have h1 := (HP.out.1.below hW).file
 rw [← HEQ.out.2.2.2.2.1] at h1
 exact F.rtext_any n0 [_, _] (fi p) W h1 (F.chk_iff.1 HCK.out).1)
 go_wp2_with (first
   | (at_builtin
      first
      | (rw [← hW5, HB5.out.2.2.2.2.2.1]
         clear hW5 hx0
         have HH5 : Hid (Box W5 w.heap.size 24 #[.slice a n c, .int .i64 nx] ∧ Box W5 (w.heap.size + 1) 24 #[.slice none 0 0, .int .i64 0] ∧ Box W5 (w.heap.size + 2) 24 #[.slice a' k cap', .int .i64 nx] ∧ W5.ownsRow (w.heap.size + 3) 101 6 (.slice a' k cap') k vss.flatten ∧ Below w.heap.size w W5 ∧ w.heap.size + 3 ≤ W5.heap.size) :=
           ⟨HJ.out.1.below HB5.out.2.1 (by have := HJ.out.2.2.2.2.2; omega), HJ.out.2.1.below HB5.out.2.1 (by have := HJ.out.2.2.2.2.2; omega), HJ.out.2.2.1.below HB5.out.2.1 (by have := HJ.out.2.2.2.2.2; omega), hown0, below_any HJ.out.2.2.2.2.1 HB5.out.2.1, by have := HB5.out.2.1.size; have := HJ.out.2.2.2.2.2; omega⟩
         refine push_row (by rfl) _ _ 22 101 (by rfl) Tryz.underlying22 Tryz.info101 rfl (by omega) (w.heap.size + 3) _ vss.flatten k [.int .i64 pi, .bool false, .int .i64 pl, .slice ea' el ec', .int .i64 pz, .slice fa' fl fc'] rfl (by simp [Value.oneCell']) W5 (by rfl) HH5.out.2.2.2.1 (by rfl) (by omega) (by omega) HH5.out.2.2.2.2.2 ?_
         intro g cap w6 hO6 hg6 hgr6 hlt6
         have hbx6 := (Box.alloc HH5.out.2.2.1 (.cells #[.int .i64 pi, .bool false, .int .i64 pl, .slice ea' el ec', .int .i64 pz, .slice fa' fl fc'] 101)).grown hg6 (row_ne HH5.out.2.2.2.1 (by omega))
         have y0 := hbx6.cell 0 rfl
         have y1 := hbx6.frozen 0)
      | (rw [← hV]
         clear hV g3 c0 c1 c2 c3 c4 c5 hix
         refine push_allR (by rfl) _ _ (by rfl) V.heap.size n0 (.slice none 0 0) (.slice ea el ec) [] (en p) V (by rfl) ⟨World.ownsRow_nil _ _ _ _, fun _ h => by cases h⟩ (by rfl) HAE.out (by have := HP.out.2; have := HEQ.out.1; simp; omega) (Nat.le_refl _) ?_
         intro e' w2 hO2 hg2
         rw [List.nil_append] at hO2
         obtain ⟨ea', ec', rfl⟩ := hO2.shape
         have hE0 := HEQ.out.1
         rw [← hE0] at hO2 ⊢
         have hB2 := HV.out.2.grown hg2 (by simp [Value.ownBlock])
         have f3 := hB2.frozen 3
         have g3 := hB2.cell 3 rfl
         have hVs : wr.heap.size < V.heap.size := HV.out.2.lt
         have hbw2 : Below wr.heap.size wr w2 := HV.out.1.grown hg2 (by have := HV.out.1.size; omega) (fun j hj => by simp [Value.ownBlock] at hj)
         obtain ⟨W3, hW3⟩ := exa (w2.setCell ⟨wr.heap.size, 3, none⟩ (.slice ea' el ec'))
         have hB3 : Box W3 wr.heap.size 101 #[.int .i64 pi, .bool false, .int .i64 pl, .slice ea' el ec', .int .i64 pz, .slice fa fl fc] := by rw [hW3]; exact hB2.set 3 _
         have hsz3 : w2.heap.size = W3.heap.size := by rw [hW3]; simp [World.setCell]
         have HB3 : Hid (Box W3 wr.heap.size 101 #[.int .i64 pi, .bool false, .int .i64 pl, .slice ea' el ec', .int .i64 pz, .slice fa fl fc] ∧ Below wr.heap.size wr W3 ∧ OwnE 162 V.heap.size W3 (.slice ea' el ec') (en p) ∧ V.heap.size ≤ W3.heap.size ∧ wr.heap.size < V.heap.size ∧ w2.heap.size = W3.heap.size) :=
           ⟨hB3, by rw [hW3]; exact hbw2.setCell (p := ⟨wr.heap.size, 3, none⟩) (Nat.le_refl _) _, by rw [hW3]; exact hO2.same (.set hVs), by rw [hW3]; simpa [World.setCell] using hg2.size, hVs, hsz3⟩
         obtain ⟨q0, q1, q2, q3, q4, q5⟩ := hB3.six
         rw [hW3] at q0 q1 q2 q3 q4 q5
         clear hO2 hB2 hg2 hbw2 hVs HV HAE hE0 hB3 hsz3
         have HCT := HTX.out W3 HB3.out.2.1))
   | (go_at_call 108
      rw [← hW3]
      refine HCT.mono ?_
      rintro e w3 ⟨⟨v3, rfl, hv3⟩, hb3⟩
      have HB4 : Hid (Below W3.heap.size W3 w3 ∧ Arg W3.heap.size w3 v3 (F.rtext (fi p))) := ⟨hb3, hv3.arg⟩
      have hlen3 : (F.rtext (fi p)).length ≤ 2432 := by (
 rw [F.rtext_txt HCK.out, F.txt_length]
 have := (F.chk_iff.1 HCK.out).1
 omega)
      have HCM := F.made_any _ v3 (F.rtext (fi p)) w3 hv3.arg hlen3
      rw [F.rtext_txt HCK.out, F.mk_txt HCK.out] at HCM
      clear HCT hv3 hb3 hlen3)
   | (go_at_call 107
      refine HCM.mono ?_
      rintro e w4 ⟨⟨us4, rfl, hf4⟩, hb4⟩
      obtain ⟨fa', fc', rfl, hbk4, -, -⟩ := F.fl_viewR hf4
      have hE1 := HEQ.out.2.1
      have hE2 := HEQ.out.2.2.2.2.1
      rw [← hE1] at hbk4 ⊢
      rw [← hE2]
      have hbw4 : Below W3.heap.size W3 w4 := below_any HB4.out.1 hb4
      have hB4 := HB3.out.1.below hbw4 HB3.out.1.lt
      obtain ⟨q0, q1, q2, q3, q4, q5⟩ := hB4.six
      have f4 := hB4.frozen 4
      have f5 := hB4.frozen 5
      obtain ⟨W5, hW5⟩ := exa ((w4.setCell ⟨wr.heap.size, 4, none⟩ (.int .i64 pz)).setCell ⟨wr.heap.size, 5, none⟩ (.slice fa' fl fc'))
      have hB5 : Box W5 wr.heap.size 101 #[.int .i64 pi, .bool false, .int .i64 pl, .slice ea' el ec', .int .i64 pz, .slice fa' fl fc'] := by rw [hW5]; exact (hB4.set 4 _).set 5 _
      have HB5 : Hid (Box W5 wr.heap.size 101 #[.int .i64 pi, .bool false, .int .i64 pl, .slice ea' el ec', .int .i64 pz, .slice fa' fl fc'] ∧ Below wr.heap.size wr W5 ∧ OwnE 162 V.heap.size W5 (.slice ea' el ec') (en p) ∧ bksR.lies w3.heap.size W5 [.slice fa' fl fc'] (fi p).2 ∧ wr.heap.size < V.heap.size ∧ w4.heap.size = W5.heap.size ∧ V.heap.size ≤ w3.heap.size) := by (
 have hlt := HB3.out.2.2.2.2.1
 have hlt3 : wr.heap.size < w3.heap.size := by have := HB4.out.1.size; have := HB3.out.1.lt; omega
 refine ⟨hB5, ?_, ?_, ?_, hlt, ?_, ?_⟩
 · rw [hW5]; exact ((below_any HB3.out.2.1 hbw4).setCell (p := ⟨wr.heap.size, 4, none⟩) (Nat.le_refl _) _).setCell (p := ⟨wr.heap.size, 5, none⟩) (Nat.le_refl _) _
 · rw [hW5]; exact ((HB3.out.2.2.1.below hbw4).same (.set hlt)).same (.set hlt)
 · rw [hW5]; exact bksR.keep (bksR.keep hbk4 (.set hlt3)) (.set hlt3)
 · rw [hW5]; simp [World.setCell]
 · have := HB4.out.1.size; have := HB3.out.2.2.2.1; omega)
      obtain ⟨d0, d1, d2, d3, d4, d5⟩ := hB5.six
      obtain ⟨hown0, hx0⟩ := HROW.out W5 HB5.out.2.1
      rw [hW5] at hx0 d0 d1 d2 d3 d4 d5
      clear hf4 hb4 hbk4 hE1 hE2 hbw4 hB4 hB5 HCM))
 have h1 : ∀ g', (Value.slice a' k cap').ownBlock = some g' → g' < wr.heap.size := HVB.out
 have hbA : Below W5.heap.size W5 (W5.alloc (.cells #[.int .i64 pi, .bool false, .int .i64 pl, .slice ea' el ec', .int .i64 pz, .slice fa' fl fc'] 101)) := (Below.refl _ _).alloc (Nat.le_refl _) _
 have HPR : Hid (PR w0.heap.size (w.heap.size + 3) (Value.slice a' k cap').ownBlock W5 p (.slice ea' el ec') (.slice fa' fl fc')) := by (
 refine ⟨HEQ.out.2.2.2.1, fun w' ha => ⟨?_, ?_⟩⟩
 · exact ens_agree (base := V.heap.size) HB5.out.2.2.1.arg (by have := HB5.out.2.2.2.2.1; have := HJ.out.2.2.2.2.2; omega) (fun g hg => by have := h1 g hg; have := HB5.out.2.2.2.2.1; omega) ha
 · exact bks_agree (base := w3.heap.size) HB5.out.2.2.2.1 (by have := HB5.out.2.2.2.2.1; have := HB5.out.2.2.2.2.2.2; have := HJ.out.2.2.2.2.2; omega) (fun g hg => by have := h1 g hg; have := HB5.out.2.2.2.2.1; have := HB5.out.2.2.2.2.2.2; omega) ha)
 have hown6 : OR w0.heap.size (w.heap.size + 3) w6 (.slice (some ⟨g, 0, none⟩) (k + 1) cap) (l.take (k + 1)) := by (
 rw [HTK.out.1]
 refine OR.push (v := .slice a' k cap') (e := .slice ea' el ec') (b := .slice fa' fl fc') (vss := vss) (HEE.out.mono fun us q ⟨e, b, h3, h4⟩ => ⟨e, b, h3, h4.to fun _ hz => (hz.below hbA).below HB5.out.2.1⟩) (HPR.out.to fun _ hz => hz.below hbA) hg6 (fun g' hg' => ?_) (by rw [HTK.out.2, HEQ.out.2.2.1]; exact hO6)
 have e1 : g = g' := by simpa [Value.ownBlock] using hg'
 subst e1
 rcases hgr6 with h | h
 · exact .inl h
 · exact .inr (by rw [h]; simp))
 have hb6 : Below w.heap.size w w6 := below_row HH5.out.2.2.2.2.1 HH5.out.2.2.2.1 hg6 (by omega) (by have := HH5.out.2.2.2.2.2; omega)
 have hx0 := (Box.alloc HH5.out.1 (.cells #[.int .i64 pi, .bool false, .int .i64 pl, .slice ea' el ec', .int .i64 pz, .slice fa' fl fc'] 101)).grown hg6 (row_ne HH5.out.2.2.2.1 (by omega))
 have hx1 := (Box.alloc HH5.out.2.1 (.cells #[.int .i64 pi, .bool false, .int .i64 pl, .slice ea' el ec', .int .i64 pz, .slice fa' fl fc'] 101)).grown hg6 (row_ne HH5.out.2.2.2.1 (by omega))
 refine ⟨⟨k + 1, _, by omega, by go_num, hx0.other (by omega), hx1.other (by omega), hbx6.set 0 _, hown6.set ⟨by have := HL.out.2.2.2.2.size; omega, by omega⟩, hb6.setCell (p := ⟨w.heap.size + 2, 0, none⟩) (by simp) _, ?_⟩, by simp [intOf]; omega⟩
 have := hg6.size
 have := HH5.out.2.2.2.2.2
 simp [World.setCell] at *
 omega)
 · obtain rfl : k = n := by omega
   have hT : l.take k = l := by rw [HL.out.2.1]; simp
   rw [hT] at HJ
   obtain ⟨a', cap', rfl⟩ := HJ.out.2.2.2.1.shape
   have hE0 := HL.out.2.1
   rw [← hE0] at HJ
   obtain ⟨q0, q1, -, -⟩ := HJ.out.2.2.1.two
   obtain ⟨d0, d1, e0, e1⟩ := HJ.out.2.1.two
   clear hE0 hT
   go_wp2
   refine bodyPost_ret (v := .agg #[.slice a' k cap', .int .i64 nx]) (by simp [results, Tryz.results55, go_sem, *]) rfl (HPo.out _ _ ?_ ?_)
   · have hlo := HL.out.2.2.2.2.size
     exact ((HJ.out.2.2.2.1.set ⟨by omega, by omega⟩).set ⟨by omega, by omega⟩).weaken (by omega)
   · exact below_set2 HJ.out.2.2.2.2.1 (by omega) _ _)
end Go.Proofs.YtopcefhncildnaaGreatDoor
namespace Go.Proofs.YtopcefhncildnaaGreatDoor
open Go.RowKit
open D (En ArgE OwnE evs)
open F (bksR)
def AgX (X : Nat → Prop) (w w' : World) : Prop := ∀ k, ¬ X k → k < w.heap.size → w'.heap[k]? = w.heap[k]?
def PX (X : Nat → Prop) (w : World) (p : Nd) (e b : Value) : Prop := NOk p ∧ ∀ w', AgX X w w' → ArgE 0 w' e (en p) ∧ bksR.lies 0 w' [b] (fi p).2
theorem PX.to {X X' : Nat → Prop} {w w' : World} {p : Nd} {e b : Value} (h : PX X w p e b) (ha : ∀ w'', AgX X' w' w'' → AgX X w w'') : PX X' w' p e b := ⟨h.1, fun w'' h2 => h.2 w'' (ha w'' h2)⟩
theorem PX.lr {X : Nat → Prop} {w : World} {p : Nd} {e b : Value} (h : PX X w p e b) : LR 0 w p e b := ⟨(h.2 w (fun _ _ _ => rfl)).1, (h.2 w (fun _ _ _ => rfl)).2, h.1⟩
def WX (X : Nat → Prop) (v : Value) (k : Nat) : Prop := X k ∨ v.ownBlock = some k
def RX (X : Nat → Prop) (base : Nat) (w : World) (v : Value) (l : List Nd) : Prop := ∃ vss, w.ownsRow base 101 6 v l.length vss.flatten ∧ Each (fun us p => ∃ e b, us = nv p e b ∧ PX (WX X v) w p e b) vss l
theorem RX.of_or {B0 B1 : Nat} {w : World} {v : Value} {l : List Nd} (h : OR B0 B1 w v l) : RX (fun k => B0 ≤ k ∧ k < B1) B1 w v l := by
 obtain ⟨vss, h1, h2⟩ := h
 refine ⟨vss, h1, h2.mono fun _ _ ⟨e, b, h3, h4, h5⟩ => ⟨e, b, h3, h4, fun w' ha => h5 w' fun k k1 k2 k3 => ha k ?_ k2⟩⟩
 rintro (⟨c1, c2⟩ | c)
 · omega
 · exact k1 c.symm
theorem RX.or {X : Nat → Prop} {base B0 B1 : Nat} {w : World} {v : Value} {l : List Nd} (h : RX X base w v l) (hX : ∀ k, B0 ≤ k → k < B1 → X k) (hB : B1 ≤ base) : OR B0 B1 w v l := by
 obtain ⟨vss, h1, h2⟩ := h
 refine ⟨vss, own_weaken h1 hB, h2.mono fun _ _ ⟨e, b, h3, h4, h5⟩ => ⟨e, b, h3, h4, fun w' ha => h5 w' fun k k1 k2 => ha k (fun c => k1 (.inr c.symm)) k2 ?_⟩⟩
 apply Classical.byContradiction
 intro c
 exact k1 (.inl (hX k (by omega) (by omega)))
theorem RX.more {X X' : Nat → Prop} {base : Nat} {w w' : World} {v : Value} {l : List Nd} (h : RX X base w v l) (hb : Below w.heap.size w w') (hX : ∀ k, X' k → X k ∨ w.heap.size ≤ k) : RX X' base w' v l := by
 obtain ⟨vss, h1, h2⟩ := h
 refine ⟨vss, own_below h1 hb, h2.mono fun _ _ ⟨e, b, h3, h4⟩ => ⟨e, b, h3, h4.to fun w'' ha k k1 k2 => ?_⟩⟩
 rw [ha k ?_ (by have := hb.size; omega), hb.block k k2]
 rintro (c | c)
 · rcases hX k c with c | c
   · exact k1 (.inl c)
   · omega
 · exact k1 (.inr c)
theorem RX.below {X : Nat → Prop} {base : Nat} {w w' : World} {v : Value} {l : List Nd} (h : RX X base w v l) (hb : Below w.heap.size w w') : RX X base w' v l := h.more hb fun _ => .inl
theorem RX.set {X : Nat → Prop} {base : Nat} {w : World} {v : Value} {l : List Nd} {B : Nat} (h : RX X base w v l) (hB : X B) (hne : v.ownBlock ≠ some B) (j : Nat) (x : Value) : RX X base (w.setCell ⟨B, j, none⟩ x) v l := by
 obtain ⟨vss, h1, h2⟩ := h
 refine ⟨vss, h1.kept (grown_set w B j x) (.inr hne), h2.mono fun _ _ ⟨e, b, h3, h4⟩ => ⟨e, b, h3, h4.to fun w'' ha k k1 k2 => ?_⟩⟩
 rw [ha k k1 (by simpa [World.setCell] using k2)]
 exact Below.heap_setCell _ _ _ _ fun e => k1 (.inl (by simp only at e; rw [e]; exact hB))
theorem RX.weaken {X : Nat → Prop} {base m : Nat} {w : World} {v : Value} {l : List Nd} (h : RX X base w v l) (hm : m ≤ base) : RX X m w v l := by
 obtain ⟨vss, h1, h2⟩ := h
 exact ⟨vss, own_weaken h1 hm, h2⟩
theorem RX.nil (X : Nat → Prop) (base : Nat) (w : World) : RX X base w (.slice none 0 0) [] := ⟨[], World.ownsRow_nil _ _ _ _, trivial⟩
theorem RX.shape {X : Nat → Prop} {base : Nat} {w : World} {v : Value} {l : List Nd} (h : RX X base w v l) : ∃ a c, v = .slice a l.length c := by
 obtain ⟨_, h1, _⟩ := h
 exact own_shape h1
theorem RX.lt {X : Nat → Prop} {base : Nat} {w : World} {v : Value} {l : List Nd} (h : RX X base w v l) : ∀ g, v.ownBlock = some g → base ≤ g ∧ g < w.heap.size := fun g hg => by
 obtain ⟨_, h1, _⟩ := h
 exact h1.lt g hg
theorem RX.lies {X : Nat → Prop} {base : Nat} {w : World} {v : Value} {l : List Nd} (h : RX X base w v l) : ndsR.lies 0 w [v] l := by
 obtain ⟨vss, h1, h2⟩ := h
 exact ⟨v, vss, rfl, (Cells.own h1).weaken (Nat.zero_le _), h2.mono fun _ _ ⟨e, b, e1, h4⟩ => by rw [e1]; exact nd_mkR h4.lr⟩
theorem RX.at {X : Nat → Prop} {base : Nat} {w : World} {v : Value} {l : List Nd} (h : RX X base w v l) (i : Nat) (p : Nd) (hp : l[i]? = some p) :
   ∃ g cap ea ec fa fc, v = .slice (some ⟨g, 0, none⟩) l.length cap ∧ base ≤ g ∧ g < w.heap.size ∧ (∀ W, (Instr.indexAt 22 v (.int .i64 i)).run Tryz.prog W = .ok (.pointer (some ⟨g, i * 6, none⟩)) W) ∧ PX (WX X v) w p (.slice ea (en p).length ec) (.slice fa (fi p).2.length fc) ∧
     ∀ W, Below w.heap.size w W → (W.cell? ⟨g, i * 6, none⟩ = some (.int .i64 p.1) ∧ W.cell? ⟨g, i * 6 + 1, none⟩ = some (.bool (isD p)) ∧ W.cell? ⟨g, i * 6 + 2, none⟩ = some (.int .i64 (lk p)) ∧ W.cell? ⟨g, i * 6 + 3, none⟩ = some (.slice ea (en p).length ec) ∧ W.cell? ⟨g, i * 6 + 4, none⟩ = some (.int .i64 (fi p).1) ∧ W.cell? ⟨g, i * 6 + 5, none⟩ = some (.slice fa (fi p).2.length fc)) ∧ (∀ j, W.frozen? ⟨g, j, none⟩ = false) ∧
       ∀ (j : Nat) u p' e' f', j < 6 → (nv p (.slice ea (en p).length ec) (.slice fa (fi p).2.length fc)).set j u = nv p' e' f' → PX (WX X v) W p' e' f' → RX X base (W.setCell ⟨g, i * 6 + j, none⟩ u) v (l.set i p') := by
 obtain ⟨i0, hi0, _, hz, _⟩ := info_parts Tryz.info101
 obtain ⟨vss, hC0, hE0⟩ := h
 obtain ⟨us, hu, e, f, rfl, hL0⟩ := hE0.get hp
 have hi : i < l.length := (List.getElem?_eq_some_iff.1 hp).1
 obtain ⟨ea, ec, rfl, -⟩ := hL0.lr.1.shape
 obtain ⟨fa, fc, hfe, -, -⟩ := Shape.list_len (S := F.bkR) (ht := Tryz.underlying97) (hc := F.cells97) hL0.lr.2.1
 obtain rfl : f = _ := by simpa using hfe
 obtain ⟨g, cap, rfl⟩ : ∃ g cap, v = .slice (some ⟨g, 0, none⟩) l.length cap := by (
 rcases hC0.2 with ⟨_, h0⟩ | ⟨g, cap, cur, h', _⟩
 · omega
 · exact ⟨g, cap, h'⟩)
 have hsz : ∀ us ∈ vss, us.length = 6 := fun us h => by
   obtain ⟨q, _, e, b, rfl, _⟩ := hE0.left h
   exact nv_len _ _ _
 have hob : (Value.slice (some ⟨g, 0, none⟩) l.length cap).ownBlock = some g := rfl
 have hlt := hC0.lt g hob
 refine ⟨g, cap, ea, ec, fa, fc, rfl, hlt.1, hlt.2, fun W => ?_, hL0, fun W hW => ?_⟩
 · have := run_index (size := 6) Tryz.underlying22 hi0 hz g 0 l.length cap i hi W
   simpa using this
 have hC := own_below hC0 hW
 have hcell : ∀ (j : Nat) u, (nv p (.slice ea (en p).length ec) (.slice fa (fi p).2.length fc))[j]? = some u → W.cell? ⟨g, i * 6 + j, none⟩ = some u := fun j u hj => by
   have hc := hC.cells hob (i * 6 + j) u (flat_get hsz hu hj)
   rwa [add_plain, Nat.zero_add] at hc
 refine ⟨⟨hcell 0 _ rfl, hcell 1 _ rfl, hcell 2 _ rfl, hcell 3 _ rfl, hcell 4 _ rfl, hcell 5 _ rfl⟩, fun j => hC.frozenAt j, fun j u p' e' f' hj hset hL' => ?_⟩
 obtain ⟨h1, h2⟩ := hC.stored (i * 6 + j) u
 rw [flat_set hsz hu hj, hset] at h1
 have key : ∀ w'', AgX (WX X (.slice (some ⟨g, 0, none⟩) l.length cap)) (W.setCell ⟨g, i * 6 + j, none⟩ u) w'' → AgX (WX X (.slice (some ⟨g, 0, none⟩) l.length cap)) W w'' := fun w'' ha k k1 k2 => by
   rw [ha k k1 (by simpa [World.setCell] using k2)]
   exact Below.heap_setCell _ _ _ _ fun e => k1 (.inr (by simp only at e; rw [e]; rfl))
 refine ⟨vss.set i (nv p' e' f'), by rw [List.length_set]; exact h1, Each.set i (hE0.mono fun us q ⟨e, b, h3, h4⟩ => ⟨e, b, h3, h4.to fun w'' ha k k1 k2 => ?_⟩) ⟨e', f', rfl, hL'.to key⟩⟩
 rw [key w'' ha k k1 (by have := hW.size; omega)]
 exact hW.block k k2
theorem RX.push {X : Nat → Prop} {base : Nat} {W w3 : World} {v v3 : Value} {l : List Nd} {p : Nd} {e b : Value} {vss : List (List Value)} (h2 : Each (fun us p => ∃ e b, us = nv p e b ∧ PX (WX X v) W p e b) vss l) (hp : PX (WX X v) W p e b) (hg : W.grownBy w3 v.ownBlock)
   (hv : ∀ g, v3.ownBlock = some g → v.ownBlock = some g ∨ W.heap.size ≤ g) (hO : w3.ownsRow base 101 6 v3 (l.length + 1) (vss.flatten ++ nv p e b)) : RX X base w3 v3 (l ++ [p]) := by
 have key : ∀ w'', AgX (WX X v3) w3 w'' → AgX (WX X v) W w'' := fun w'' ha k k1 k2 => by (
 rw [ha k ?_ (by have := hg.size; omega)]
 · exact hg.block k k2 fun c => k1 (.inr c.symm)
 · rintro (c | c)
   · exact k1 (.inl c)
   · rcases hv k c with c | c
     · exact k1 (.inr c)
     · omega)
 refine ⟨vss ++ [nv p e b], ?_, ?_⟩
 · rw [List.length_append, flat_snoc]; exact hO
 · exact Each.snoc (h2.mono fun us q ⟨e, b, h3, h4⟩ => ⟨e, b, h3, h4.to key⟩) ⟨e, b, rfl, hp.to key⟩
theorem ens_px {X : Nat → Prop} {w w' : World} {e : Value} {es : List En} {base : Nat} (h : ArgE base w e es) (hX : ∀ k, X k → k < base ∨ w.heap.size ≤ k) (ha : AgX X w w') : ArgE 0 w' e es :=
 (h.keep fun k h1 h2 => ha k (fun c => by have := hX k c; omega) h2).weaken (Nat.zero_le _)
theorem bks_px {X : Nat → Prop} {w w' : World} {b : Value} {bs : List F.Bk} {base : Nat} (h : bksR.lies base w [b] bs) (hX : ∀ k, X k → k < base ∨ w.heap.size ≤ k) (ha : AgX X w w') : bksR.lies 0 w' [b] bs :=
 bksR.weaken (bksR.keep h fun k h1 h2 => ha k (fun c => by have := hX k c; omega) h2) (Nat.zero_le _)
def TellsR (B0 : Nat) (T : Int → St → Prop) (w : World) (e : Ending) (w' : World) : Prop := (∃ (v : Value) (k : Int) (S : St), e = .returned (.tuple #[.agg #[v, .int .i64 S.2], .int .i64 k]) ∧ T k S ∧ OR B0 w.heap.size w' v S.1) ∧ Below w.heap.size w w'
end Go.Proofs.YtopcefhncildnaaGreatDoor
