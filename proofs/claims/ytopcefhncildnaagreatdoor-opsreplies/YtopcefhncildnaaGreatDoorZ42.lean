/-
  A copy of a state, in memory of its own.
  ops: a copy of a state, in memory of its own.
-/
import Derived.Test.YtopcefhncildnaaGreatDoorZ33
import Derived.Test.YtopcefhncildnaaGreatDoorZ37
import Derived.Test.YtopcefhncildnaaGreatDoorZ41
set_option maxRecDepth 100000
set_option maxHeartbeats 4000000
namespace Go.Proofs.YtopcefhncildnaaGreatDoor
open Go.RowKit
open D (En ArgE OwnE EOks EOk ev evs)
open F (Bk bkN bksN bks_atN bk_omk)
def Small (l : List Nd) : Prop := l.length ≤ 4096 ∧ ∀ p ∈ l, (en p).length ≤ 4096 ∧ (∀ e ∈ en p, e.1.size ≤ 16) ∧ (fi p).2.length ≤ 4096 ∧ ∀ b ∈ (fi p).2, b.2.length ≤ 4096
theorem copied_any (n0 : Nat) (a : Option Addr) (c : Nat) (s : St) (w : World) (hA : ndsN.lies n0 w [.slice a s.1.length c] s.1) (hS : Small s.1) :
   Calls Tryz.prog 97 #[.agg #[.slice a s.1.length c, .int .i64 s.2]] w fun e w' => (∃ v', e = .returned (.agg #[v', .int .i64 s.2]) ∧ ndsN.owns w.heap.size w' [v'] s.1) ∧ Below w.heap.size w w' := by
 obtain ⟨l, nx⟩ := s
 obtain ⟨i3, hi3, hz30, hz31, hz32⟩ := info_parts Tryz.info47
 simp only at hA hS ⊢
 obtain ⟨n, hn⟩ := exa (l.length)
 have HL : Hid (ndsN.lies n0 w [.slice a n c] l ∧ n = l.length ∧ n ≤ 4096 ∧ Small l) := ⟨by rw [hn]; exact hA, hn, by rw [hn]; exact hS.1, hS⟩
 have hn4 : n ≤ 4096 := HL.out.2.2.1
 have hl1 := run_len Tryz.underlying27 a n c
 obtain ⟨post, hpost⟩ : ∃ post : Ending → World → Prop, post = fun e w' => (∃ v', e = .returned (.agg #[v', .int .i64 nx]) ∧ ndsN.owns w.heap.size w' [v'] l) ∧ Below w.heap.size w w' := ⟨_, rfl⟩
 have HPo : Hid (∀ v' w', ndsN.owns w.heap.size w' [v'] l → Below w.heap.size w w' → post (.returned (.agg #[v', .int .i64 nx])) w') := fun v' w' h1 h2 => by rw [hpost]; exact ⟨⟨v', rfl, h1⟩, h2⟩
 rw [← hpost, ← hn]
 clear hA hS hn hpost
 go_enter Tryz.func97, Tryz.ntmps97
 go_wp2
 go_loopw [12] (fun i wr => ∃ (k : Nat) (v : Value), k ≤ n ∧ i = .int .i64 k ∧ Hid (Box wr w.heap.size 29 #[.slice a n c, .int .i64 nx] ∧ Box wr (w.heap.size + 1) 29 #[.slice none 0 0, .int .i64 0] ∧ Box wr (w.heap.size + 2) 29 #[v, .int .i64 nx] ∧
   ndsN.owns (w.heap.size + 3) wr [v] (l.take k) ∧ Below w.heap.size w wr ∧ w.heap.size + 3 ≤ wr.heap.size)) (fun i _ => n - (intOf i).toNat)
 case atStart => (
 refine ⟨0, _, Nat.zero_le _, rfl, ?_, ?_, ?_, Shape.list_nil ndN 27 Tryz.underlying27 cells27 _ _, ?_, ?_⟩
 · exact ((Box.new w 29 _).alloc _).alloc _
 · have := (Box.new (w.alloc (.cells #[.slice a n c, .int .i64 nx] 29)) 29 #[.slice none 0 0, .int .i64 0]).alloc (.cells #[.slice none 0 0, .int .i64 nx] 29)
   simpa using this
 · have := Box.new ((w.alloc (.cells #[.slice a n c, .int .i64 nx] 29)).alloc (.cells #[.slice none 0 0, .int .i64 0] 29)) 29 #[.slice none 0 0, .int .i64 nx]
   simpa using this
 · exact (((Below.refl _ w).alloc (Nat.le_refl _) _).alloc (by simp) _).alloc (by simp; omega) _
 · simp)
 case round => (
 obtain ⟨k, v, hk, rfl, HJ⟩ := hrel
 by_cases hlt : k < n
 · obtain ⟨p, hp⟩ := get_lt (l := l) (k := k) (by rw [← HL.out.2.1]; exact hlt)
   obtain ⟨b, o, e, f, hix, -, hcs, hLN⟩ := nds_atN (ndsN.below HL.out.1 HJ.out.2.2.2.2.1) k p hp
   obtain ⟨c0, c1, c2, c3, c4, c5⟩ := nv_cells hcs
   have HTK : Hid (l.take (k + 1) = l.take k ++ [p] ∧ (l.take k).length = k) := ⟨take_snoc hp, by have := HL.out.2.1; rw [List.length_take]; omega⟩
   obtain ⟨ea, ec, rfl, -, -⟩ := hLN.1.1.shape
   obtain ⟨fa, fc, hfe, -, -⟩ := Shape.list_len (S := bkN) (ht := Tryz.underlying43) (hc := F.cells43) hLN.2.1
   obtain rfl : f = _ := by simpa using hfe
   have HP : Hid (LN n0 wr p (.slice ea (en p).length ec) (.slice fa (fi p).2.length fc) ∧ Small l ∧ p ∈ l) := ⟨hLN, HL.out.2.2.2, List.mem_of_getElem? hp⟩
   obtain ⟨V, hV⟩ := exa (wr.alloc (.cells #[.int .i64 p.1, .bool (isD p), .int .i64 (lk p), .slice ea (en p).length ec, .int .i64 (fi p).1, .slice fa (fi p).2.length fc] 47))
   have HV : Hid (Below wr.heap.size wr V ∧ Box V wr.heap.size 47 #[.int .i64 p.1, .bool (isD p), .int .i64 (lk p), .slice ea (en p).length ec, .int .i64 (fi p).1, .slice fa (fi p).2.length fc]) := ⟨by rw [hV]; exact (Below.refl _ _).alloc (Nat.le_refl _) _, by rw [hV]; exact Box.new _ _ _⟩
   have HC := copiedEntries_any n0 ea ec (en p) V (HP.out.1.1.below HV.out.1) (HP.out.2.1.2 p HP.out.2.2).2.1 (HP.out.2.1.2 p HP.out.2.2).1
   have HCB : Hid (∀ W, Below wr.heap.size wr W → Calls Tryz.prog 165 #[.slice fa (fi p).2.length fc] W fun e w' => (∃ v', e = .returned v' ∧ bksN.owns W.heap.size w' [v'] (fi p).2) ∧ Below W.heap.size W w') := fun W hW => copiedBlocks_any n0 fa fc (fi p).2 W (HP.out.1.below hW).2.1 (HP.out.2.1.2 p HP.out.2.2).2.2.2 (HP.out.2.1.2 p HP.out.2.2).2.2.1
   have hki : (k : Int) < (n : Int) := by omega
   have g3 := HV.out.2.cell 3 rfl
   rw [hV] at g3
   obtain ⟨el, hel⟩ := exa ((en p).length)
   obtain ⟨fl, hfl⟩ := exa ((fi p).2.length)
   obtain ⟨pi, hpi⟩ := exa (p.1)
   obtain ⟨pd, hpd⟩ := exa (isD p)
   obtain ⟨pl, hpl⟩ := exa (lk p)
   obtain ⟨pz, hpz⟩ := exa ((fi p).1)
   have HEQ : Hid (el = (en p).length ∧ fl = (fi p).2.length ∧ (∀ e f, nv p e f = [.int .i64 pi, .bool pd, .int .i64 pl, e, .int .i64 pz, f]) ∧ NOk p) := ⟨hel, hfl, fun e f => by rw [hpi, hpd, hpl, hpz]; rfl, HP.out.1.2.2⟩
   rw [← hel] at c3 HC g3 HV hV
   rw [← hfl] at c5 HCB g3 HV hV
   rw [← hpi] at c0 g3 HV hV
   rw [← hpd] at c1 g3 HV hV
   rw [← hpl] at c2 g3 HV hV
   rw [← hpz] at c4 g3 HV hV
   clear hcs hLN hp hfe hel hfl hpi hpd hpl hpz HP
   go_wp2_with fail
   rw [← hV]
   clear hV g3 c0 c1 c2 c3 c4 c5 hix
   refine HC.mono ?_
   rintro e w2 ⟨⟨e', rfl, he'⟩, hb2⟩
   obtain ⟨ea', ec', rfl⟩ := he'.shape
   have hE0 := HEQ.out.1
   rw [← hE0] at he' ⊢
   have hB2 := HV.out.2.below hb2 HV.out.2.lt
   obtain ⟨W3, hW3⟩ := exa (w2.setCell ⟨wr.heap.size, 3, none⟩ (.slice ea' el ec'))
   have hB3 : Box W3 wr.heap.size 47 #[.int .i64 pi, .bool pd, .int .i64 pl, .slice ea' el ec', .int .i64 pz, .slice fa fl fc] := by rw [hW3]; exact hB2.set 3 _
   have hVs : wr.heap.size < V.heap.size := HV.out.2.lt
   have HB3 : Hid (Box W3 wr.heap.size 47 #[.int .i64 pi, .bool pd, .int .i64 pl, .slice ea' el ec', .int .i64 pz, .slice fa fl fc] ∧ Below wr.heap.size wr W3 ∧ OwnE 49 V.heap.size W3 (.slice ea' el ec') (en p) ∧ V.heap.size ≤ W3.heap.size ∧ wr.heap.size < V.heap.size) :=
     ⟨hB3, by rw [hW3]; exact (below_any HV.out.1 hb2).setCell (p := ⟨wr.heap.size, 3, none⟩) (Nat.le_refl _) _, by rw [hW3]; exact he'.same (.set hVs), by rw [hW3]; simpa [World.setCell] using hb2.size, hVs⟩
   have f3 := hB2.frozen 3
   have g3 := hB2.cell 3 rfl
   have g5 := hB3.cell 5 rfl
   rw [hW3] at g5
   have HC2 := HCB.out W3 HB3.out.2.1
   clear hE0 he' hB2 hB3 hVs hb2 HC HCB HV
   go_wp2_with fail
   rw [← hW3]
   clear hW3 f3 g3 g5
   refine HC2.mono ?_
   rintro e w4 ⟨⟨f', rfl, hf'⟩, hb4⟩
   obtain ⟨fa', fc', _, hfe, -, -⟩ := Shape.list_own (S := bkN) (ht := Tryz.underlying43) (hc := F.cells43) hf'
   obtain rfl : f' = _ := by simpa using hfe
   have hE0 := HEQ.out.2.1
   rw [← hE0] at hf' ⊢
   have hB4 := HB3.out.1.below hb4 HB3.out.1.lt
   obtain ⟨W5, hW5⟩ := exa (w4.setCell ⟨wr.heap.size, 5, none⟩ (.slice fa' fl fc'))
   have hB5 : Box W5 wr.heap.size 47 #[.int .i64 pi, .bool pd, .int .i64 pl, .slice ea' el ec', .int .i64 pz, .slice fa' fl fc'] := by rw [hW5]; exact hB4.set 5 _
   have hb5 : Below wr.heap.size wr W5 := by rw [hW5]; exact (below_any HB3.out.2.1 hb4).setCell (p := ⟨wr.heap.size, 5, none⟩) (Nat.le_refl _) _
   have hbw : w.heap.size + 3 ≤ wr.heap.size := HJ.out.2.2.2.2.2
   have HLO : Hid (LO (w.heap.size + 3) W5 p (.slice ea' el ec') (.slice fa' fl fc')) := by (
 refine ⟨?_, ?_, HEQ.out.2.2.2⟩
 · rw [hW5]
   exact (((HB3.out.2.2.1.below hb4).same (.set HB3.out.2.2.2.2)).weaken (by have := HB3.out.2.2.2.2; omega))
 · rw [hW5]
   exact bksN.oweaken (bksN.osame hf' (.set HB3.out.1.lt)) (by have := HB3.out.2.2.2; omega))
   obtain ⟨v', vss, hv, hown0, hEE⟩ := HJ.out.2.2.2.1
   obtain rfl : v = v' := by simpa using hv
   rw [HTK.out.2] at hown0
   obtain ⟨a', cap', rfl⟩ := own_shape hown0
   have HH5 : Hid (Below wr.heap.size wr W5 ∧ Box W5 w.heap.size 29 #[.slice a n c, .int .i64 nx] ∧ Box W5 (w.heap.size + 1) 29 #[.slice none 0 0, .int .i64 0] ∧ Box W5 (w.heap.size + 2) 29 #[.slice a' k cap', .int .i64 nx] ∧ W5.ownsRow (w.heap.size + 3) 47 6 (.slice a' k cap') k vss.flatten ∧ Each (ndN.owns (w.heap.size + 3) W5) vss (l.take k) ∧ Below w.heap.size w W5 ∧ w.heap.size + 3 ≤ W5.heap.size) :=
     ⟨hb5, HJ.out.1.below hb5 (by omega), HJ.out.2.1.below hb5 (by omega), HJ.out.2.2.1.below hb5 (by omega), own_below hown0 hb5, hEE.mono fun _ _ h => ndN.obelow h hb5, below_any HJ.out.2.2.2.2.1 hb5, by have := hb5.size; omega⟩
   have HSZ : Hid (w4.heap.size = W5.heap.size) := by rw [hW5]; show _ = _; simp [World.setCell]
   have f5 := hB4.frozen 5
   have g5 := hB4.cell 5 rfl
   obtain ⟨d0, d1, d2, d3, d4, d5⟩ := hB5.six
   obtain ⟨x0, x1, -, -⟩ := HH5.out.2.2.2.1.two
   rw [hW5] at d0 d1 d2 d3 d4 d5 x0
   clear hE0 hf' hfe hB4 hb4 hB5 hb5 hbw hown0 hEE hv HC2 HB3 x1
   go_wp2_with (at_builtin; rw [← hW5, HSZ.out]; clear hW5 d0 d1 d2 d3 d4 d5 x0 f5 g5; refine push_row (by rfl) _ _ 27 47 (by rfl) Tryz.underlying27 Tryz.info47 rfl (by omega) (w.heap.size + 3) _ vss.flatten k [.int .i64 pi, .bool pd, .int .i64 pl, .slice ea' el ec', .int .i64 pz, .slice fa' fl fc'] rfl (by simp [Value.oneCell']) W5 (by rfl) HH5.out.2.2.2.2.1 (by rfl) (by omega) (by omega) HH5.out.2.2.2.2.2.2.2 ?_; intro g cap w6 hO6 hg6 hgr6 hlt6; have hbx6 := (Box.alloc HH5.out.2.2.2.1 (.cells #[.int .i64 pi, .bool pd, .int .i64 pl, .slice ea' el ec', .int .i64 pz, .slice fa' fl fc'] 47)).grown hg6 (row_ne HH5.out.2.2.2.2.1 (by omega)); have y0 := hbx6.cell 0 rfl; have y1 := hbx6.frozen 0)
   have hkA : Same (w.heap.size + 3) W5 (W5.alloc (.cells #[.int .i64 pi, .bool pd, .int .i64 pl, .slice ea' el ec', .int .i64 pz, .slice fa' fl fc'] 47)) := .alloc _ _ _
   have hown6 : ndsN.owns (w.heap.size + 3) w6 [.slice (some ⟨g, 0, none⟩) (k + 1) cap] (l.take (k + 1)) := by (
 rw [HTK.out.1]
 refine Shape.list_push (S := ndN) (ht := Tryz.underlying27) (hc := cells27) (us := [.int .i64 pi, .bool pd, .int .i64 pl, .slice ea' el ec', .int .i64 pz, .slice fa' fl fc']) (by decide) (HH5.out.2.2.2.2.2.1.mono fun _ _ h => ndN.osame h hkA) (by rw [HTK.out.2]; exact own_same HH5.out.2.2.2.2.1 hkA) ?_ hg6 (by rw [HTK.out.2]; exact hO6)
 have := nd_omk HLO.out
 rw [HEQ.out.2.2.1] at this
 exact ndN.osame this hkA)
   have hb6 : Below w.heap.size w w6 := below_row HH5.out.2.2.2.2.2.2.1 HH5.out.2.2.2.2.1 hg6 (by omega) (by have := HH5.out.2.2.2.2.2.2.2; omega)
   have hx0 := (Box.alloc HH5.out.2.1 (.cells #[.int .i64 pi, .bool pd, .int .i64 pl, .slice ea' el ec', .int .i64 pz, .slice fa' fl fc'] 47)).grown hg6 (row_ne HH5.out.2.2.2.2.1 (by omega))
   have hx1 := (Box.alloc HH5.out.2.2.1 (.cells #[.int .i64 pi, .bool pd, .int .i64 pl, .slice ea' el ec', .int .i64 pz, .slice fa' fl fc'] 47)).grown hg6 (row_ne HH5.out.2.2.2.2.1 (by omega))
   refine ⟨⟨k + 1, _, by omega, by go_num, hx0.other (by omega), hx1.other (by omega), hbx6.set 0 _, ndsN.osame hown6 (.set (by omega)), hb6.setCell (p := ⟨w.heap.size + 2, 0, none⟩) (by simp) _, ?_⟩, by simp [intOf]; omega⟩
   have := hg6.size
   have := HH5.out.2.2.2.2.2.2.2
   simp [World.setCell] at *
   omega
 · obtain rfl : k = n := by omega
   have hT : l.take k = l := by rw [HL.out.2.1]; simp
   rw [hT] at HJ
   obtain ⟨a', cap', _, hv, -, -⟩ := Shape.list_own (S := ndN) (ht := Tryz.underlying27) (hc := cells27) HJ.out.2.2.2.1
   obtain rfl : v = _ := by simpa using hv
   have hE0 := HL.out.2.1
   rw [← hE0] at HJ
   obtain ⟨q0, q1, -, -⟩ := HJ.out.2.2.1.two
   obtain ⟨d0, d1, e0, e1⟩ := HJ.out.2.1.two
   clear hE0 hT hv
   go_wp2
   refine bodyPost_ret (v := .agg #[.slice a' k cap', .int .i64 nx]) (by simp [results, Tryz.results97, go_sem, *]) rfl (HPo.out _ _ ?_ ?_)
   · exact ndsN.oweaken (n := w.heap.size + 3) (ndsN.osame HJ.out.2.2.2.1 (.set2 (by omega))) (by omega)
   · exact below_set2 HJ.out.2.2.2.2.1 (by omega) _ _)
theorem rise_len : ∀ {l : List Bk} {lo : Int}, F.Rise l → lo ≤ 76 → (∀ b ∈ l, lo ≤ b.1 ∧ b.1 < 76) → (l.length : Int) + lo ≤ 76
 | [], lo, _, hlo, _ => by simp; omega
 | b :: r, lo, h, hlo, ha => by (
 have h' := List.pairwise_cons.1 h
 have hb := ha b (List.mem_cons_self ..)
 have := rise_len (lo := b.1 + 1) h'.2 (by omega) fun q hq => ⟨by have := h'.1 q hq; omega, (ha q (List.mem_cons_of_mem _ hq)).2⟩
 simp only [List.length_cons]
 omega)
theorem Wk.small {s : St} (h : Wk s) : Small s.1 := by
 refine ⟨by have := h.len; omega, fun p hp => ?_⟩
 cases hd : isD p
 · obtain ⟨h1, h2⟩ := h.files p hp hd
   rw [h1]
   refine ⟨by simp, fun e he => by simp at he, ?_, fun b hb => by have := (F.chk_key h2 hb).2.2; omega⟩
   have := rise_len (lo := 0) (F.chk_iff.1 h2).2.2 (by omega) fun b hb => ⟨(F.chk_key h2 hb).1, (F.chk_key h2 hb).2.1⟩
   omega
 · obtain ⟨h1, h2⟩ := h.dirs p hp hd
   rw [h2]
   refine ⟨by have := h1.1; omega, fun e he => ?_, by simp, fun b hb => by simp at hb⟩
   obtain ⟨i, hi⟩ := List.getElem?_of_mem he
   have := (D.good_at h1.2 hi).1
   simp [D.nameOk] at this
   omega
end Go.Proofs.YtopcefhncildnaaGreatDoor
namespace Go.Proofs.YtopcefhncildnaaGreatDoor.K
open Go.RowKit
open D (En ArgE OwnE EOks EOk ev evs)
open F (Bk bkN bksN bks_atN bk_omk)
theorem copied_any (n0 : Nat) (a : Option Addr) (c : Nat) (s : St) (w : World) (hA : ndsN.lies n0 w [.slice a s.1.length c] s.1) (hS : Small s.1) :
   Calls Tryz.prog 62 #[.agg #[.slice a s.1.length c, .int .i64 s.2]] w fun e w' => (∃ v', e = .returned (.agg #[v', .int .i64 s.2]) ∧ ndsN.owns w.heap.size w' [v'] s.1) ∧ Below w.heap.size w w' := by
 obtain ⟨l, nx⟩ := s
 obtain ⟨i3, hi3, hz30, hz31, hz32⟩ := info_parts Tryz.info47
 simp only at hA hS ⊢
 obtain ⟨n, hn⟩ := exa (l.length)
 have HL : Hid (ndsN.lies n0 w [.slice a n c] l ∧ n = l.length ∧ n ≤ 4096 ∧ Small l) := ⟨by rw [hn]; exact hA, hn, by rw [hn]; exact hS.1, hS⟩
 have hn4 : n ≤ 4096 := HL.out.2.2.1
 have hl1 := run_len Tryz.underlying27 a n c
 obtain ⟨post, hpost⟩ : ∃ post : Ending → World → Prop, post = fun e w' => (∃ v', e = .returned (.agg #[v', .int .i64 nx]) ∧ ndsN.owns w.heap.size w' [v'] l) ∧ Below w.heap.size w w' := ⟨_, rfl⟩
 have HPo : Hid (∀ v' w', ndsN.owns w.heap.size w' [v'] l → Below w.heap.size w w' → post (.returned (.agg #[v', .int .i64 nx])) w') := fun v' w' h1 h2 => by rw [hpost]; exact ⟨⟨v', rfl, h1⟩, h2⟩
 rw [← hpost, ← hn]
 clear hA hS hn hpost
 go_enter Tryz.func62, Tryz.ntmps62
 go_wp2
 go_loopw [12] (fun i wr => ∃ (k : Nat) (v : Value), k ≤ n ∧ i = .int .i64 k ∧ Hid (Box wr w.heap.size 29 #[.slice a n c, .int .i64 nx] ∧ Box wr (w.heap.size + 1) 29 #[.slice none 0 0, .int .i64 0] ∧ Box wr (w.heap.size + 2) 29 #[v, .int .i64 nx] ∧
   ndsN.owns (w.heap.size + 3) wr [v] (l.take k) ∧ Below w.heap.size w wr ∧ w.heap.size + 3 ≤ wr.heap.size)) (fun i _ => n - (intOf i).toNat)
 case atStart => (
 refine ⟨0, _, Nat.zero_le _, rfl, ?_, ?_, ?_, Shape.list_nil ndN 27 Tryz.underlying27 cells27 _ _, ?_, ?_⟩
 · exact ((Box.new w 29 _).alloc _).alloc _
 · have := (Box.new (w.alloc (.cells #[.slice a n c, .int .i64 nx] 29)) 29 #[.slice none 0 0, .int .i64 0]).alloc (.cells #[.slice none 0 0, .int .i64 nx] 29)
   simpa using this
 · have := Box.new ((w.alloc (.cells #[.slice a n c, .int .i64 nx] 29)).alloc (.cells #[.slice none 0 0, .int .i64 0] 29)) 29 #[.slice none 0 0, .int .i64 nx]
   simpa using this
 · exact (((Below.refl _ w).alloc (Nat.le_refl _) _).alloc (by simp) _).alloc (by simp; omega) _
 · simp)
 case round => (
 obtain ⟨k, v, hk, rfl, HJ⟩ := hrel
 by_cases hlt : k < n
 · obtain ⟨p, hp⟩ := get_lt (l := l) (k := k) (by rw [← HL.out.2.1]; exact hlt)
   obtain ⟨b, o, e, f, hix, -, hcs, hLN⟩ := nds_atN (ndsN.below HL.out.1 HJ.out.2.2.2.2.1) k p hp
   obtain ⟨c0, c1, c2, c3, c4, c5⟩ := nv_cells hcs
   have HTK : Hid (l.take (k + 1) = l.take k ++ [p] ∧ (l.take k).length = k) := ⟨take_snoc hp, by have := HL.out.2.1; rw [List.length_take]; omega⟩
   obtain ⟨ea, ec, rfl, -, -⟩ := hLN.1.1.shape
   obtain ⟨fa, fc, hfe, -, -⟩ := Shape.list_len (S := bkN) (ht := Tryz.underlying43) (hc := F.cells43) hLN.2.1
   obtain rfl : f = _ := by simpa using hfe
   have HP : Hid (LN n0 wr p (.slice ea (en p).length ec) (.slice fa (fi p).2.length fc) ∧ Small l ∧ p ∈ l) := ⟨hLN, HL.out.2.2.2, List.mem_of_getElem? hp⟩
   obtain ⟨V, hV⟩ := exa (wr.alloc (.cells #[.int .i64 p.1, .bool (isD p), .int .i64 (lk p), .slice ea (en p).length ec, .int .i64 (fi p).1, .slice fa (fi p).2.length fc] 47))
   have HV : Hid (Below wr.heap.size wr V ∧ Box V wr.heap.size 47 #[.int .i64 p.1, .bool (isD p), .int .i64 (lk p), .slice ea (en p).length ec, .int .i64 (fi p).1, .slice fa (fi p).2.length fc]) := ⟨by rw [hV]; exact (Below.refl _ _).alloc (Nat.le_refl _) _, by rw [hV]; exact Box.new _ _ _⟩
   have HC := copiedEntries_any n0 ea ec (en p) V (HP.out.1.1.below HV.out.1) (HP.out.2.1.2 p HP.out.2.2).2.1 (HP.out.2.1.2 p HP.out.2.2).1
   have HCB : Hid (∀ W, Below wr.heap.size wr W → Calls Tryz.prog 120 #[.slice fa (fi p).2.length fc] W fun e w' => (∃ v', e = .returned v' ∧ bksN.owns W.heap.size w' [v'] (fi p).2) ∧ Below W.heap.size W w') := fun W hW => copiedBlocks_any n0 fa fc (fi p).2 W (HP.out.1.below hW).2.1 (HP.out.2.1.2 p HP.out.2.2).2.2.2 (HP.out.2.1.2 p HP.out.2.2).2.2.1
   have hki : (k : Int) < (n : Int) := by omega
   have g3 := HV.out.2.cell 3 rfl
   rw [hV] at g3
   obtain ⟨el, hel⟩ := exa ((en p).length)
   obtain ⟨fl, hfl⟩ := exa ((fi p).2.length)
   obtain ⟨pi, hpi⟩ := exa (p.1)
   obtain ⟨pd, hpd⟩ := exa (isD p)
   obtain ⟨pl, hpl⟩ := exa (lk p)
   obtain ⟨pz, hpz⟩ := exa ((fi p).1)
   have HEQ : Hid (el = (en p).length ∧ fl = (fi p).2.length ∧ (∀ e f, nv p e f = [.int .i64 pi, .bool pd, .int .i64 pl, e, .int .i64 pz, f]) ∧ NOk p) := ⟨hel, hfl, fun e f => by rw [hpi, hpd, hpl, hpz]; rfl, HP.out.1.2.2⟩
   rw [← hel] at c3 HC g3 HV hV
   rw [← hfl] at c5 HCB g3 HV hV
   rw [← hpi] at c0 g3 HV hV
   rw [← hpd] at c1 g3 HV hV
   rw [← hpl] at c2 g3 HV hV
   rw [← hpz] at c4 g3 HV hV
   clear hcs hLN hp hfe hel hfl hpi hpd hpl hpz HP
   go_wp2_with fail
   rw [← hV]
   clear hV g3 c0 c1 c2 c3 c4 c5 hix
   refine HC.mono ?_
   rintro e w2 ⟨⟨e', rfl, he'⟩, hb2⟩
   obtain ⟨ea', ec', rfl⟩ := he'.shape
   have hE0 := HEQ.out.1
   rw [← hE0] at he' ⊢
   have hB2 := HV.out.2.below hb2 HV.out.2.lt
   obtain ⟨W3, hW3⟩ := exa (w2.setCell ⟨wr.heap.size, 3, none⟩ (.slice ea' el ec'))
   have hB3 : Box W3 wr.heap.size 47 #[.int .i64 pi, .bool pd, .int .i64 pl, .slice ea' el ec', .int .i64 pz, .slice fa fl fc] := by rw [hW3]; exact hB2.set 3 _
   have hVs : wr.heap.size < V.heap.size := HV.out.2.lt
   have HB3 : Hid (Box W3 wr.heap.size 47 #[.int .i64 pi, .bool pd, .int .i64 pl, .slice ea' el ec', .int .i64 pz, .slice fa fl fc] ∧ Below wr.heap.size wr W3 ∧ OwnE 49 V.heap.size W3 (.slice ea' el ec') (en p) ∧ V.heap.size ≤ W3.heap.size ∧ wr.heap.size < V.heap.size) :=
     ⟨hB3, by rw [hW3]; exact (below_any HV.out.1 hb2).setCell (p := ⟨wr.heap.size, 3, none⟩) (Nat.le_refl _) _, by rw [hW3]; exact he'.same (.set hVs), by rw [hW3]; simpa [World.setCell] using hb2.size, hVs⟩
   have f3 := hB2.frozen 3
   have g3 := hB2.cell 3 rfl
   have g5 := hB3.cell 5 rfl
   rw [hW3] at g5
   have HC2 := HCB.out W3 HB3.out.2.1
   clear hE0 he' hB2 hB3 hVs hb2 HC HCB HV
   go_wp2_with fail
   rw [← hW3]
   clear hW3 f3 g3 g5
   refine HC2.mono ?_
   rintro e w4 ⟨⟨f', rfl, hf'⟩, hb4⟩
   obtain ⟨fa', fc', _, hfe, -, -⟩ := Shape.list_own (S := bkN) (ht := Tryz.underlying43) (hc := F.cells43) hf'
   obtain rfl : f' = _ := by simpa using hfe
   have hE0 := HEQ.out.2.1
   rw [← hE0] at hf' ⊢
   have hB4 := HB3.out.1.below hb4 HB3.out.1.lt
   obtain ⟨W5, hW5⟩ := exa (w4.setCell ⟨wr.heap.size, 5, none⟩ (.slice fa' fl fc'))
   have hB5 : Box W5 wr.heap.size 47 #[.int .i64 pi, .bool pd, .int .i64 pl, .slice ea' el ec', .int .i64 pz, .slice fa' fl fc'] := by rw [hW5]; exact hB4.set 5 _
   have hb5 : Below wr.heap.size wr W5 := by rw [hW5]; exact (below_any HB3.out.2.1 hb4).setCell (p := ⟨wr.heap.size, 5, none⟩) (Nat.le_refl _) _
   have hbw : w.heap.size + 3 ≤ wr.heap.size := HJ.out.2.2.2.2.2
   have HLO : Hid (LO (w.heap.size + 3) W5 p (.slice ea' el ec') (.slice fa' fl fc')) := by (
 refine ⟨?_, ?_, HEQ.out.2.2.2⟩
 · rw [hW5]
   exact (((HB3.out.2.2.1.below hb4).same (.set HB3.out.2.2.2.2)).weaken (by have := HB3.out.2.2.2.2; omega))
 · rw [hW5]
   exact bksN.oweaken (bksN.osame hf' (.set HB3.out.1.lt)) (by have := HB3.out.2.2.2; omega))
   obtain ⟨v', vss, hv, hown0, hEE⟩ := HJ.out.2.2.2.1
   obtain rfl : v = v' := by simpa using hv
   rw [HTK.out.2] at hown0
   obtain ⟨a', cap', rfl⟩ := own_shape hown0
   have HH5 : Hid (Below wr.heap.size wr W5 ∧ Box W5 w.heap.size 29 #[.slice a n c, .int .i64 nx] ∧ Box W5 (w.heap.size + 1) 29 #[.slice none 0 0, .int .i64 0] ∧ Box W5 (w.heap.size + 2) 29 #[.slice a' k cap', .int .i64 nx] ∧ W5.ownsRow (w.heap.size + 3) 47 6 (.slice a' k cap') k vss.flatten ∧ Each (ndN.owns (w.heap.size + 3) W5) vss (l.take k) ∧ Below w.heap.size w W5 ∧ w.heap.size + 3 ≤ W5.heap.size) :=
     ⟨hb5, HJ.out.1.below hb5 (by omega), HJ.out.2.1.below hb5 (by omega), HJ.out.2.2.1.below hb5 (by omega), own_below hown0 hb5, hEE.mono fun _ _ h => ndN.obelow h hb5, below_any HJ.out.2.2.2.2.1 hb5, by have := hb5.size; omega⟩
   have HSZ : Hid (w4.heap.size = W5.heap.size) := by rw [hW5]; show _ = _; simp [World.setCell]
   have f5 := hB4.frozen 5
   have g5 := hB4.cell 5 rfl
   obtain ⟨d0, d1, d2, d3, d4, d5⟩ := hB5.six
   obtain ⟨x0, x1, -, -⟩ := HH5.out.2.2.2.1.two
   rw [hW5] at d0 d1 d2 d3 d4 d5 x0
   clear hE0 hf' hfe hB4 hb4 hB5 hb5 hbw hown0 hEE hv HC2 HB3 x1
   go_wp2_with (at_builtin; rw [← hW5, HSZ.out]; clear hW5 d0 d1 d2 d3 d4 d5 x0 f5 g5; refine push_row (by rfl) _ _ 27 47 (by rfl) Tryz.underlying27 Tryz.info47 rfl (by omega) (w.heap.size + 3) _ vss.flatten k [.int .i64 pi, .bool pd, .int .i64 pl, .slice ea' el ec', .int .i64 pz, .slice fa' fl fc'] rfl (by simp [Value.oneCell']) W5 (by rfl) HH5.out.2.2.2.2.1 (by rfl) (by omega) (by omega) HH5.out.2.2.2.2.2.2.2 ?_; intro g cap w6 hO6 hg6 hgr6 hlt6; have hbx6 := (Box.alloc HH5.out.2.2.2.1 (.cells #[.int .i64 pi, .bool pd, .int .i64 pl, .slice ea' el ec', .int .i64 pz, .slice fa' fl fc'] 47)).grown hg6 (row_ne HH5.out.2.2.2.2.1 (by omega)); have y0 := hbx6.cell 0 rfl; have y1 := hbx6.frozen 0)
   have hkA : Same (w.heap.size + 3) W5 (W5.alloc (.cells #[.int .i64 pi, .bool pd, .int .i64 pl, .slice ea' el ec', .int .i64 pz, .slice fa' fl fc'] 47)) := .alloc _ _ _
   have hown6 : ndsN.owns (w.heap.size + 3) w6 [.slice (some ⟨g, 0, none⟩) (k + 1) cap] (l.take (k + 1)) := by (
 rw [HTK.out.1]
 refine Shape.list_push (S := ndN) (ht := Tryz.underlying27) (hc := cells27) (us := [.int .i64 pi, .bool pd, .int .i64 pl, .slice ea' el ec', .int .i64 pz, .slice fa' fl fc']) (by decide) (HH5.out.2.2.2.2.2.1.mono fun _ _ h => ndN.osame h hkA) (by rw [HTK.out.2]; exact own_same HH5.out.2.2.2.2.1 hkA) ?_ hg6 (by rw [HTK.out.2]; exact hO6)
 have := nd_omk HLO.out
 rw [HEQ.out.2.2.1] at this
 exact ndN.osame this hkA)
   have hb6 : Below w.heap.size w w6 := below_row HH5.out.2.2.2.2.2.2.1 HH5.out.2.2.2.2.1 hg6 (by omega) (by have := HH5.out.2.2.2.2.2.2.2; omega)
   have hx0 := (Box.alloc HH5.out.2.1 (.cells #[.int .i64 pi, .bool pd, .int .i64 pl, .slice ea' el ec', .int .i64 pz, .slice fa' fl fc'] 47)).grown hg6 (row_ne HH5.out.2.2.2.2.1 (by omega))
   have hx1 := (Box.alloc HH5.out.2.2.1 (.cells #[.int .i64 pi, .bool pd, .int .i64 pl, .slice ea' el ec', .int .i64 pz, .slice fa' fl fc'] 47)).grown hg6 (row_ne HH5.out.2.2.2.2.1 (by omega))
   refine ⟨⟨k + 1, _, by omega, by go_num, hx0.other (by omega), hx1.other (by omega), hbx6.set 0 _, ndsN.osame hown6 (.set (by omega)), hb6.setCell (p := ⟨w.heap.size + 2, 0, none⟩) (by simp) _, ?_⟩, by simp [intOf]; omega⟩
   have := hg6.size
   have := HH5.out.2.2.2.2.2.2.2
   simp [World.setCell] at *
   omega
 · obtain rfl : k = n := by omega
   have hT : l.take k = l := by rw [HL.out.2.1]; simp
   rw [hT] at HJ
   obtain ⟨a', cap', _, hv, -, -⟩ := Shape.list_own (S := ndN) (ht := Tryz.underlying27) (hc := cells27) HJ.out.2.2.2.1
   obtain rfl : v = _ := by simpa using hv
   have hE0 := HL.out.2.1
   rw [← hE0] at HJ
   obtain ⟨q0, q1, -, -⟩ := HJ.out.2.2.1.two
   obtain ⟨d0, d1, e0, e1⟩ := HJ.out.2.1.two
   clear hE0 hT hv
   go_wp2
   refine bodyPost_ret (v := .agg #[.slice a' k cap', .int .i64 nx]) (by simp [results, Tryz.results62, go_sem, *]) rfl (HPo.out _ _ ?_ ?_)
   · exact ndsN.oweaken (n := w.heap.size + 3) (ndsN.osame HJ.out.2.2.2.1 (.set2 (by omega))) (by omega)
   · exact below_set2 HJ.out.2.2.2.2.1 (by omega) _ _)
end Go.Proofs.YtopcefhncildnaaGreatDoor.K
