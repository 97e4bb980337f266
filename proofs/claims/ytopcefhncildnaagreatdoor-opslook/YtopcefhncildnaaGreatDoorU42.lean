/-
  A copy of a state, in memory of its own.
  What fs.change answers at an op that is known.
  fs.enlist and fs.strike: a name into a directory, and out of it.
  ops: a copy of a state, in memory of its own.
-/
import Derived.Test.YtopcefhncildnaaGreatDoorU33
import Derived.Test.YtopcefhncildnaaGreatDoorU37
import Derived.Test.YtopcefhncildnaaGreatDoorU41
set_option maxRecDepth 100000
set_option maxHeartbeats 4000000
namespace Go.Proofs.YtopcefhncildnaaGreatDoor
open Go.RowKit
open D (En ArgE OwnE EOks EOk ev evs)
open F (Bk bkN bksN bks_atN bk_omk)
def Small (l : List Nd) : Prop := l.length ≤ 4096 ∧ ∀ p ∈ l, (en p).length ≤ 4096 ∧ (∀ e ∈ en p, e.1.size ≤ 16) ∧ (fi p).2.length ≤ 4096 ∧ ∀ b ∈ (fi p).2, b.2.length ≤ 4096
theorem copied_any (n0 : Nat) (a : Option Addr) (c : Nat) (s : St) (w : World) (hA : ndsN.lies n0 w [.slice a s.1.length c] s.1) (hS : Small s.1) :
   Calls Tryz.prog 97 #[.agg #[.slice a s.1.length c, .int .i64 s.2]] w fun e w' => (∃ v', e = .returned (.agg #[v', .int .i64 s.2]) ∧ ndsN.owns w.heap.size w' [v'] s.1) ∧ Below w.heap.size w w' := by
 obtain ⟨l, nx⟩ := s
 obtain ⟨i3, hi3, hz30, hz31, hz32⟩ := info_parts Tryz.info47
 simp only at hA hS ⊢
 obtain ⟨n, hn⟩ := exa (l.length)
 have HL : Hid (ndsN.lies n0 w [.slice a n c] l ∧ n = l.length ∧ n ≤ 4096 ∧ Small l) := ⟨by rw [hn]; exact hA, hn, by rw [hn]; exact hS.1, hS⟩
 have hn4 : n ≤ 4096 := HL.out.2.2.1
 have hl1 := run_len Tryz.underlying27 a n c
 obtain ⟨post, hpost⟩ : ∃ post : Ending → World → Prop, post = fun e w' => (∃ v', e = .returned (.agg #[v', .int .i64 nx]) ∧ ndsN.owns w.heap.size w' [v'] l) ∧ Below w.heap.size w w' := ⟨_, rfl⟩
 have HPo : Hid (∀ v' w', ndsN.owns w.heap.size w' [v'] l → Below w.heap.size w w' → post (.returned (.agg #[v', .int .i64 nx])) w') := fun v' w' h1 h2 => by rw [hpost]; exact ⟨⟨v', rfl, h1⟩, h2⟩
 rw [← hpost, ← hn]
 clear hA hS hn hpost
 go_enter Tryz.func97, Tryz.ntmps97
 go_wp2
 go_loopw [12] (fun i wr => ∃ (k : Nat) (v : Value), k ≤ n ∧ i = .int .i64 k ∧ Hid (Box wr w.heap.size 29 #[.slice a n c, .int .i64 nx] ∧ Box wr (w.heap.size + 1) 29 #[.slice none 0 0, .int .i64 0] ∧ Box wr (w.heap.size + 2) 29 #[v, .int .i64 nx] ∧
   ndsN.owns (w.heap.size + 3) wr [v] (l.take k) ∧ Below w.heap.size w wr ∧ w.heap.size + 3 ≤ wr.heap.size)) (fun i _ => n - (intOf i).toNat)
 case atStart => (
 refine ⟨0, _, Nat.zero_le _, rfl, ?_, ?_, ?_, Shape.list_nil ndN 27 Tryz.underlying27 cells27 _ _, ?_, ?_⟩
 · exact ((Box.new w 29 _).alloc _).alloc _
 · have := (Box.new (w.alloc (.cells #[.slice a n c, .int .i64 nx] 29)) 29 #[.slice none 0 0, .int .i64 0]).alloc (.cells #[.slice none 0 0, .int .i64 nx] 29)
   simpa using this
 · have := Box.new ((w.alloc (.cells #[.slice a n c, .int .i64 nx] 29)).alloc (.cells #[.slice none 0 0, .int .i64 0] 29)) 29 #[.slice none 0 0, .int .i64 nx]
   simpa using this
 · exact (((Below.refl _ w).alloc (Nat.le_refl _) _).alloc (by simp) _).alloc (by simp; omega) _
 · simp)
 case round => (
 obtain ⟨k, v, hk, rfl, HJ⟩ := hrel
 by_cases hlt : k < n
 · obtain ⟨p, hp⟩ := get_lt (l := l) (k := k) (by rw [← HL.out.2.1]; exact hlt)
   obtain ⟨b, o, e, f, hix, -, hcs, hLN⟩ := nds_atN (ndsN.below HL.out.1 HJ.out.2.2.2.2.1) k p hp
   obtain ⟨c0, c1, c2, c3, c4, c5⟩ := nv_cells hcs
   have HTK : Hid (l.take (k + 1) = l.take k ++ [p] ∧ (l.take k).length = k) := ⟨take_snoc hp, by have := HL.out.2.1; rw [List.length_take]; omega⟩
   obtain ⟨ea, ec, rfl, -, -⟩ := hLN.1.1.shape
   obtain ⟨fa, fc, hfe, -, -⟩ := Shape.list_len (S := bkN) (ht := Tryz.underlying43) (hc := F.cells43) hLN.2.1
   obtain rfl : f = _ := by simpa using hfe
   have HP : Hid (LN n0 wr p (.slice ea (en p).length ec) (.slice fa (fi p).2.length fc) ∧ Small l ∧ p ∈ l) := ⟨hLN, HL.out.2.2.2, List.mem_of_getElem? hp⟩
   obtain ⟨V, hV⟩ := exa (wr.alloc (.cells #[.int .i64 p.1, .bool (isD p), .int .i64 (lk p), .slice ea (en p).length ec, .int .i64 (fi p).1, .slice fa (fi p).2.length fc] 47))
   have HV : Hid (Below wr.heap.size wr V ∧ Box V wr.heap.size 47 #[.int .i64 p.1, .bool (isD p), .int .i64 (lk p), .slice ea (en p).length ec, .int .i64 (fi p).1, .slice fa (fi p).2.length fc]) := ⟨by rw [hV]; exact (Below.refl _ _).alloc (Nat.le_refl _) _, by rw [hV]; exact Box.new _ _ _⟩
   have HC := copiedEntries_any n0 ea ec (en p) V (HP.out.1.1.below HV.out.1) (HP.out.2.1.2 p HP.out.2.2).2.1 (HP.out.2.1.2 p HP.out.2.2).1
   have HCB : Hid (∀ W, Below wr.heap.size wr W → Calls Tryz.prog 165 #[.slice fa (fi p).2.length fc] W fun e w' => (∃ v', e = .returned v' ∧ bksN.owns W.heap.size w' [v'] (fi p).2) ∧ Below W.heap.size W w') := fun W hW => copiedBlocks_any n0 fa fc (fi p).2 W (HP.out.1.below hW).2.1 (HP.out.2.1.2 p HP.out.2.2).2.2.2 (HP.out.2.1.2 p HP.out.2.2).2.2.1
   have hki : (k : Int) < (n : Int) := by omega
   have g3 := HV.out.2.cell 3 rfl
   rw [hV] at g3
   obtain ⟨el, hel⟩ := exa ((en p).length)
   obtain ⟨fl, hfl⟩ := exa ((fi p).2.length)
   obtain ⟨pi, hpi⟩ := exa (p.1)
   obtain ⟨pd, hpd⟩ := exa (isD p)
   obtain ⟨pl, hpl⟩ := exa (lk p)
   obtain ⟨pz, hpz⟩ := exa ((fi p).1)
   have HEQ : Hid (el = (en p).length ∧ fl = (fi p).2.length ∧ (∀ e f, nv p e f = [.int .i64 pi, .bool pd, .int .i64 pl, e, .int .i64 pz, f]) ∧ NOk p) := ⟨hel, hfl, fun e f => by rw [hpi, hpd, hpl, hpz]; rfl, HP.out.1.2.2⟩
   rw [← hel] at c3 HC g3 HV hV
   rw [← hfl] at c5 HCB g3 HV hV
   rw [← hpi] at c0 g3 HV hV
   rw [← hpd] at c1 g3 HV hV
   rw [← hpl] at c2 g3 HV hV
   rw [← hpz] at c4 g3 HV hV
   clear hcs hLN hp hfe hel hfl hpi hpd hpl hpz HP
   go_wp2_with fail
   rw [← hV]
   clear hV g3 c0 c1 c2 c3 c4 c5 hix
   refine HC.mono ?_
   rintro e w2 ⟨⟨e', rfl, he'⟩, hb2⟩
   obtain ⟨ea', ec', rfl⟩ := he'.shape
   have hE0 := HEQ.out.1
   rw [← hE0] at he' ⊢
   have hB2 := HV.out.2.below hb2 HV.out.2.lt
   obtain ⟨W3, hW3⟩ := exa (w2.setCell ⟨wr.heap.size, 3, none⟩ (.slice ea' el ec'))
   have hB3 : Box W3 wr.heap.size 47 #[.int .i64 pi, .bool pd, .int .i64 pl, .slice ea' el ec', .int .i64 pz, .slice fa fl fc] := by rw [hW3]; exact hB2.set 3 _
   have hVs : wr.heap.size < V.heap.size := HV.out.2.lt
   have HB3 : Hid (Box W3 wr.heap.size 47 #[.int .i64 pi, .bool pd, .int .i64 pl, .slice ea' el ec', .int .i64 pz, .slice fa fl fc] ∧ Below wr.heap.size wr W3 ∧ OwnE 49 V.heap.size W3 (.slice ea' el ec') (en p) ∧ V.heap.size ≤ W3.heap.size ∧ wr.heap.size < V.heap.size) :=
     ⟨hB3, by rw [hW3]; exact (below_any HV.out.1 hb2).setCell (p := ⟨wr.heap.size, 3, none⟩) (Nat.le_refl _) _, by rw [hW3]; exact he'.same (.set hVs), by rw [hW3]; simpa [World.setCell] using hb2.size, hVs⟩
   have f3 := hB2.frozen 3
   have g3 := hB2.cell 3 rfl
   have g5 := hB3.cell 5 rfl
   rw [hW3] at g5
   have HC2 := HCB.out W3 HB3.out.2.1
   clear hE0 he' hB2 hB3 hVs hb2 HC HCB HV
   go_wp2_with fail
   rw [← hW3]
   clear hW3 f3 g3 g5
   refine HC2.mono ?_
   rintro e w4 ⟨⟨f', rfl, hf'⟩, hb4⟩
   obtain ⟨fa', fc', _, hfe, -, -⟩ := Shape.list_own (S := bkN) (ht := Tryz.underlying43) (hc := F.cells43) hf'
   obtain rfl : f' = _ := by simpa using hfe
   have hE0 := HEQ.out.2.1
   rw [← hE0] at hf' ⊢
   have hB4 := HB3.out.1.below hb4 HB3.out.1.lt
   obtain ⟨W5, hW5⟩ := exa (w4.setCell ⟨wr.heap.size, 5, none⟩ (.slice fa' fl fc'))
   have hB5 : Box W5 wr.heap.size 47 #[.int .i64 pi, .bool pd, .int .i64 pl, .slice ea' el ec', .int .i64 pz, .slice fa' fl fc'] := by rw [hW5]; exact hB4.set 5 _
   have hb5 : Below wr.heap.size wr W5 := by rw [hW5]; exact (below_any HB3.out.2.1 hb4).setCell (p := ⟨wr.heap.size, 5, none⟩) (Nat.le_refl _) _
   have hbw : w.heap.size + 3 ≤ wr.heap.size := HJ.out.2.2.2.2.2
   have HLO : Hid (LO (w.heap.size + 3) W5 p (.slice ea' el ec') (.slice fa' fl fc')) := by (
 refine ⟨?_, ?_, HEQ.out.2.2.2⟩
 · rw [hW5]
   exact (((HB3.out.2.2.1.below hb4).same (.set HB3.out.2.2.2.2)).weaken (by have := HB3.out.2.2.2.2; omega))
 · rw [hW5]
   exact bksN.oweaken (bksN.osame hf' (.set HB3.out.1.lt)) (by have := HB3.out.2.2.2; omega))
   obtain ⟨v', vss, hv, hown0, hEE⟩ := HJ.out.2.2.2.1
   obtain rfl : v = v' := by simpa using hv
   rw [HTK.out.2] at hown0
   obtain ⟨a', cap', rfl⟩ := own_shape hown0
   have HH5 : Hid (Below wr.heap.size wr W5 ∧ Box W5 w.heap.size 29 #[.slice a n c, .int .i64 nx] ∧ Box W5 (w.heap.size + 1) 29 #[.slice none 0 0, .int .i64 0] ∧ Box W5 (w.heap.size + 2) 29 #[.slice a' k cap', .int .i64 nx] ∧ W5.ownsRow (w.heap.size + 3) 47 6 (.slice a' k cap') k vss.flatten ∧ Each (ndN.owns (w.heap.size + 3) W5) vss (l.take k) ∧ Below w.heap.size w W5 ∧ w.heap.size + 3 ≤ W5.heap.size) :=
     ⟨hb5, HJ.out.1.below hb5 (by omega), HJ.out.2.1.below hb5 (by omega), HJ.out.2.2.1.below hb5 (by omega), own_below hown0 hb5, hEE.mono fun _ _ h => ndN.obelow h hb5, below_any HJ.out.2.2.2.2.1 hb5, by have := hb5.size; omega⟩
   have HSZ : Hid (w4.heap.size = W5.heap.size) := by rw [hW5]; show _ = _; simp [World.setCell]
   have f5 := hB4.frozen 5
   have g5 := hB4.cell 5 rfl
   obtain ⟨d0, d1, d2, d3, d4, d5⟩ := hB5.six
   obtain ⟨x0, x1, -, -⟩ := HH5.out.2.2.2.1.two
   rw [hW5] at d0 d1 d2 d3 d4 d5 x0
   clear hE0 hf' hfe hB4 hb4 hB5 hb5 hbw hown0 hEE hv HC2 HB3 x1
   go_wp2_with (at_builtin; rw [← hW5, HSZ.out]; clear hW5 d0 d1 d2 d3 d4 d5 x0 f5 g5; refine push_row (by rfl) _ _ 27 47 (by rfl) Tryz.underlying27 Tryz.info47 rfl (by omega) (w.heap.size + 3) _ vss.flatten k [.int .i64 pi, .bool pd, .int .i64 pl, .slice ea' el ec', .int .i64 pz, .slice fa' fl fc'] rfl (by simp [Value.oneCell']) W5 (by rfl) HH5.out.2.2.2.2.1 (by rfl) (by omega) (by omega) HH5.out.2.2.2.2.2.2.2 ?_; intro g cap w6 hO6 hg6 hgr6 hlt6; have hbx6 := (Box.alloc HH5.out.2.2.2.1 (.cells #[.int .i64 pi, .bool pd, .int .i64 pl, .slice ea' el ec', .int .i64 pz, .slice fa' fl fc'] 47)).grown hg6 (row_ne HH5.out.2.2.2.2.1 (by omega)); have y0 := hbx6.cell 0 rfl; have y1 := hbx6.frozen 0)
   have hkA : Same (w.heap.size + 3) W5 (W5.alloc (.cells #[.int .i64 pi, .bool pd, .int .i64 pl, .slice ea' el ec', .int .i64 pz, .slice fa' fl fc'] 47)) := .alloc _ _ _
   have hown6 : ndsN.owns (w.heap.size + 3) w6 [.slice (some ⟨g, 0, none⟩) (k + 1) cap] (l.take (k + 1)) := by (
 rw [HTK.out.1]
 refine Shape.list_push (S := ndN) (ht := Tryz.underlying27) (hc := cells27) (us := [.int .i64 pi, .bool pd, .int .i64 pl, .slice ea' el ec', .int .i64 pz, .slice fa' fl fc']) (by decide) (HH5.out.2.2.2.2.2.1.mono fun _ _ h => ndN.osame h hkA) (by rw [HTK.out.2]; exact own_same HH5.out.2.2.2.2.1 hkA) ?_ hg6 (by rw [HTK.out.2]; exact hO6)
 have := nd_omk HLO.out
 rw [HEQ.out.2.2.1] at this
 exact ndN.osame this hkA)
   have hb6 : Below w.heap.size w w6 := below_row HH5.out.2.2.2.2.2.2.1 HH5.out.2.2.2.2.1 hg6 (by omega) (by have := HH5.out.2.2.2.2.2.2.2; omega)
   have hx0 := (Box.alloc HH5.out.2.1 (.cells #[.int .i64 pi, .bool pd, .int .i64 pl, .slice ea' el ec', .int .i64 pz, .slice fa' fl fc'] 47)).grown hg6 (row_ne HH5.out.2.2.2.2.1 (by omega))
   have hx1 := (Box.alloc HH5.out.2.2.1 (.cells #[.int .i64 pi, .bool pd, .int .i64 pl, .slice ea' el ec', .int .i64 pz, .slice fa' fl fc'] 47)).grown hg6 (row_ne HH5.out.2.2.2.2.1 (by omega))
   refine ⟨⟨k + 1, _, by omega, by go_num, hx0.other (by omega), hx1.other (by omega), hbx6.set 0 _, ndsN.osame hown6 (.set (by omega)), hb6.setCell (p := ⟨w.heap.size + 2, 0, none⟩) (by simp) _, ?_⟩, by simp [intOf]; omega⟩
   have := hg6.size
   have := HH5.out.2.2.2.2.2.2.2
   simp [World.setCell] at *
   omega
 · obtain rfl : k = n := by omega
   have hT : l.take k = l := by rw [HL.out.2.1]; simp
   rw [hT] at HJ
   obtain ⟨a', cap', _, hv, -, -⟩ := Shape.list_own (S := ndN) (ht := Tryz.underlying27) (hc := cells27) HJ.out.2.2.2.1
   obtain rfl : v = _ := by simpa using hv
   have hE0 := HL.out.2.1
   rw [← hE0] at HJ
   obtain ⟨q0, q1, -, -⟩ := HJ.out.2.2.1.two
   obtain ⟨d0, d1, e0, e1⟩ := HJ.out.2.1.two
   clear hE0 hT hv
   go_wp2
   refine bodyPost_ret (v := .agg #[.slice a' k cap', .int .i64 nx]) (by simp [results, Tryz.results97, go_sem, *]) rfl (HPo.out _ _ ?_ ?_)
   · exact ndsN.oweaken (n := w.heap.size + 3) (ndsN.osame HJ.out.2.2.2.1 (.set2 (by omega))) (by omega)
   · exact below_set2 HJ.out.2.2.2.2.1 (by omega) _ _)
theorem rise_len : ∀ {l : List Bk} {lo : Int}, F.Rise l → lo ≤ 76 → (∀ b ∈ l, lo ≤ b.1 ∧ b.1 < 76) → (l.length : Int) + lo ≤ 76
 | [], lo, _, hlo, _ => by simp; omega
 | b :: r, lo, h, hlo, ha => by (
 have h' := List.pairwise_cons.1 h
 have hb := ha b (List.mem_cons_self ..)
 have := rise_len (lo := b.1 + 1) h'.2 (by omega) fun q hq => ⟨by have := h'.1 q hq; omega, (ha q (List.mem_cons_of_mem _ hq)).2⟩
 simp only [List.length_cons]
 omega)
theorem Wk.small {s : St} (h : Wk s) : Small s.1 := by
 refine ⟨by have := h.len; omega, fun p hp => ?_⟩
 cases hd : isD p
 · obtain ⟨h1, h2⟩ := h.files p hp hd
   rw [h1]
   refine ⟨by simp, fun e he => by simp at he, ?_, fun b hb => by have := (F.chk_key h2 hb).2.2; omega⟩
   have := rise_len (lo := 0) (F.chk_iff.1 h2).2.2 (by omega) fun b hb => ⟨(F.chk_key h2 hb).1, (F.chk_key h2 hb).2.1⟩
   omega
 · obtain ⟨h1, h2⟩ := h.dirs p hp hd
   rw [h2]
   refine ⟨by have := h1.1; omega, fun e he => ?_, by simp, fun b hb => by simp at hb⟩
   obtain ⟨i, hi⟩ := List.getElem?_of_mem he
   have := (D.good_at h1.2 hi).1
   simp [D.nameOk] at this
   omega
end Go.Proofs.YtopcefhncildnaaGreatDoor
namespace Go.Proofs.YtopcefhncildnaaGreatDoor
open Go.RowKit
open P (ArgT OwnT tv serr sval)
def StayL (B : Nat) (V : World) (v : Value) (ps : List ByteArray) : Prop := ∀ (i : Nat) (p : ByteArray), ps[i]? = some p → ∃ b o a c, (∀ W, (Instr.indexAt 106 v (.int .i64 i)).run Tryz.prog W = .ok (.pointer (some ⟨b, o, none⟩)) W) ∧ (∀ w', Below B V w' → w'.cell? ⟨b, o, none⟩ = some (.slice a (sval p).length c)) ∧ Stay B V (.slice a (sval p).length c) (sval p)
theorem StayL.of {base : Nat} {w V : World} {v : Value} {ps : List ByteArray} (h : OwnL base w v ps) (hV : Below w.heap.size w V) : StayL w.heap.size V v ps := fun i p hp => by
 obtain ⟨b, o, a, c, h1, h2, h3⟩ := h.at i p hp
 refine ⟨b, o, a, c, h1, fun w' hb => ?_, (Stay.of h3).below hV⟩
 rw [(hV.trans hb).cell (p := ⟨b, o, none⟩) (cell_lt h2)]
 exact h2
def ML (n : Nat) (w : World) (S : Nat) (s : St) : Prop := ∃ v, Box w S 29 #[v, .int .i64 s.2] ∧ ndsN.lies n w [v] s.1
theorem MS.ml {n : Nat} {w : World} {S : Nat} {s : St} (h : MS n w S s) : ML n w S s := by
 obtain ⟨v, h1, h2⟩ := h
 exact ⟨v, h1, ndsN.olies h2⟩
def Changed (s : St) (ps : List ByteArray) (K : Int) (s' : St) (w : World) (e : Ending) (w' : World) : Prop :=
 ((∃ k, e = .returned (.tuple #[.agg #[.slice none 0 0, .int .i64 0], .int .i64 k]) ∧ ((¬ Ok s ∧ k = 9) ∨ (Ok s ∧ psE ps ≠ 0 ∧ k = psE ps) ∨ (Ok s ∧ psE ps = 0 ∧ K ≠ 0 ∧ k = K))) ∨
  (∃ v, e = .returned (.tuple #[.agg #[v, .int .i64 s'.2], .int .i64 0]) ∧ Ok s ∧ psE ps = 0 ∧ K = 0 ∧ ndsN.lies w.heap.size w' [v] s'.1)) ∧ Below w.heap.size w w'
theorem change0_any (F : Nat) (hF : ∀ args w, (callFunc F args).run Tryz.prog w = .ok (.enter F args) w) (n0 n1 : Nat) (a : Option Addr) (c : Nat) (s : St) (av : Option Addr) (cv : Nat) (ps : List ByteArray) (hps : ps.length ≤ 2) (w : World) (hA : ndsN.lies n0 w [.slice a s.1.length c] s.1) (hX : ArgT n1 w (.slice av ps.length cv) ps) (hg : Glob w) (K : Int) (s' : St)
   (hdo : Ok s → psE ps = 0 → ∀ V v2 B S, Below w.heap.size w V → w.heap.size ≤ B → B ≤ S → StayL B V v2 ps → MS B V S s → Calls Tryz.prog F #[.pointer (some ⟨S, 0, none⟩), v2] V fun e w' => (∃ E, e = .returned E ∧ EV K E) ∧ Below B V w' ∧ (K = 0 → ML B w' S s')) :
   Calls Tryz.prog 48 #[.agg #[.slice a s.1.length c, .int .i64 s.2], .func (.func F) #[] #[], .slice av ps.length cv] w (Changed s ps K s' w) := by
 obtain ⟨l, nx⟩ := s
 simp only at hA hdo ⊢
 obtain ⟨W1, hW1⟩ := exa (w.alloc (.cells #[.slice a l.length c, .int .i64 nx] 29))
 obtain ⟨W2, hW2⟩ := exa (W1.alloc (.cells #[.slice none 0 0, .int .i64 0] 29))
 have hb1 : Below w.heap.size w W1 := by rw [hW1]; exact (Below.refl _ w).alloc (Nat.le_refl _) _
 have hb2 : Below w.heap.size w W2 := by rw [hW2]; exact hb1.alloc hb1.size _
 have hs1 : W1.heap.size = w.heap.size + 1 := by rw [hW1]; exact Array.size_push _
 have hBS : Box W2 w.heap.size 29 #[.slice a l.length c, .int .i64 nx] := by
   have : Box W1 w.heap.size 29 #[.slice a l.length c, .int .i64 nx] := by rw [hW1]; exact Box.new _ _ _
   rw [hW2]; exact this.alloc _
 have hBR : Box W2 (w.heap.size + 1) 29 #[.slice none 0 0, .int .i64 0] := by rw [hW2, ← hs1]; exact Box.new _ _ _
 have HC := prepare_any n0 n1 a c (l, nx) av cv ps hps W2 (ndsN.below hA hb2) (hX.below hb2)
 simp only at HC
 have HG : Hid (Glob w) := hg
 have HW : Hid (Below w.heap.size w W2 ∧ Box W2 w.heap.size 29 #[.slice a l.length c, .int .i64 nx] ∧ Box W2 (w.heap.size + 1) 29 #[.slice none 0 0, .int .i64 0]) := ⟨hb2, hBS, hBR⟩
 have HDO : Hid (Ok (l, nx) → psE ps = 0 → ∀ V v2 B S, Below w.heap.size w V → w.heap.size ≤ B → B ≤ S → StayL B V v2 ps → MS B V S (l, nx) → Calls Tryz.prog F #[.pointer (some ⟨S, 0, none⟩), v2] V fun e w' => (∃ E, e = .returned E ∧ EV K E) ∧ Below B V w' ∧ (K = 0 → ML B w' S s')) := hdo
 have HA : Hid (ndsN.lies n0 w [.slice a l.length c] l) := hA
 obtain ⟨post, hpost⟩ : ∃ post : Ending → World → Prop, post = Changed (l, nx) ps K s' w := ⟨_, rfl⟩
 have HPo : Hid ((∀ k w', ((¬ Ok (l, nx) ∧ k = 9) ∨ (Ok (l, nx) ∧ psE ps ≠ 0 ∧ k = psE ps) ∨ (Ok (l, nx) ∧ psE ps = 0 ∧ K ≠ 0 ∧ k = K)) → Below w.heap.size w w' → post (.returned (.tuple #[.agg #[.slice none 0 0, .int .i64 0], .int .i64 k])) w') ∧ (∀ v w', Ok (l, nx) → psE ps = 0 → K = 0 → ndsN.lies w.heap.size w' [v] s'.1 → Below w.heap.size w w' → post (.returned (.tuple #[.agg #[v, .int .i64 s'.2], .int .i64 0])) w')) :=
   ⟨fun k w' h1 h2 => by rw [hpost]; exact ⟨.inl ⟨k, rfl, h1⟩, h2⟩, fun v w' h1 h2 h3 h4 h5 => by rw [hpost]; exact ⟨.inr ⟨v, rfl, h1, h2, h3, h4⟩, h5⟩⟩
 rw [← hpost]
 obtain ⟨n, hn⟩ := exa (l.length)
 rw [← hn] at HC HW hW1 HA ⊢
 have HN : Hid (n = l.length) := hn
 obtain ⟨m, hm⟩ := exa (ps.length)
 rw [← hm] at HC ⊢
 obtain ⟨g0, g1, -, -⟩ := HW.out.2.1.two
 rw [hW2, hW1] at g0 g1
 clear hA hb1 hb2 hs1 hBS hBR hX hg hdo hn hm hpost hps
 go_enter Tryz.func48, Tryz.ntmps48
 go_wp2_with fail
 rw [← hW1, ← hW2]
 clear hW1 hW2 g0 g1
 refine HC.mono ?_
 rintro e w1 ⟨⟨v, E, rfl, hr⟩, hb1⟩
 have HB1 : Hid (Below w.heap.size w w1 ∧ Box w1 w.heap.size 29 #[.slice a n c, .int .i64 nx] ∧ Box w1 (w.heap.size + 1) 29 #[.slice none 0 0, .int .i64 0]) := ⟨below_any HW.out.1 hb1, HW.out.2.1.below hb1 HW.out.2.1.lt, HW.out.2.2.below hb1 HW.out.2.2.lt⟩
 have HGW : Hid (Glob w1) := HG.out.below HB1.out.1 HG.out.lt
 have bad : ∀ k E W', EV k E → k ≠ 0 → Glob W' → Calls Tryz.prog 96 #[E] W' fun e w' => e = .returned (.int .i64 k) ∧ Below W'.heap.size W' w' := fun k E W' hE hk hG => by (
 rcases hE with ⟨h0, _⟩ | ⟨_, a2, l2, c2, s2, rfl⟩
 · exact absurd h0 hk
 · exact numberOf_ref a2 l2 c2 k s2 W' hG)
 have HBAD : Hid (∀ k E W', EV k E → k ≠ 0 → Glob W' → Calls Tryz.prog 96 #[E] W' fun e w' => e = .returned (.int .i64 k) ∧ Below W'.heap.size W' w') := bad
 clear bad
 by_cases hz : E = .nilIface
 case neg => (
 have hEk : ∃ k, k ≠ 0 ∧ EV k E ∧ ((¬ Ok (l, nx) ∧ k = 9) ∨ (Ok (l, nx) ∧ psE ps ≠ 0 ∧ k = psE ps) ∨ (Ok (l, nx) ∧ psE ps = 0 ∧ K ≠ 0 ∧ k = K)) := by (
 rcases hr with ⟨ho, hE⟩ | ⟨ho, hp, hE⟩ | ⟨ho, hp, hE, hL⟩
 · exact ⟨9, by decide, hE, .inl ⟨ho, rfl⟩⟩
 · exact ⟨_, hp, hE, .inr (.inl ⟨ho, hp, rfl⟩)⟩
 · exact absurd hE hz)
 obtain ⟨k, hk, hE, hwhy⟩ := hEk
 have hnn := HBAD.out k E w1 hE hk HGW.out
 have HY : Hid ((¬ Ok (l, nx) ∧ k = 9) ∨ (Ok (l, nx) ∧ psE ps ≠ 0 ∧ k = psE ps) ∨ (Ok (l, nx) ∧ psE ps = 0 ∧ K ≠ 0 ∧ k = K)) := hwhy
 obtain ⟨a2, l2, c2, s2, rfl⟩ : ∃ a2 l2 c2 s2, E = refV (.slice a2 l2 c2) k s2 := by (
 rcases hE with ⟨h0, _⟩ | ⟨_, a2, l2, c2, s2, h⟩
 · exact absurd h0 hk
 · exact ⟨a2, l2, c2, s2, h⟩)
 clear hE hk hwhy hr hz hb1 HC
 go_wp2_with fail
 refine hnn.mono ?_
 rintro e w2 ⟨rfl, hb2⟩
 have hR := HB1.out.2.2.below hb2 HB1.out.2.2.lt
 obtain ⟨d0, d1, e0, e1⟩ := hR.two
 have HF : Hid (Below w.heap.size w w2) := below_any HB1.out.1 hb2
 clear hR hb2 hnn
 go_wp2
 refine bodyPost_ret (v := .tuple #[.agg #[.slice none 0 0, .int .i64 0], .int .i64 k]) (by simp [results, Tryz.results48, go_sem, *]) rfl (HPo.out.1 k _ HY.out ?_)
 exact below_set2 HF.out (by omega) _ _)
 case pos => (
 subst hz
 have hOO : Ok (l, nx) ∧ psE ps = 0 ∧ OwnL W2.heap.size w1 v ps := by (
 rcases hr with ⟨ho, hE⟩ | ⟨ho, hp, hE⟩ | ⟨ho, hp, -, hL⟩
 · rcases hE with ⟨h0, _⟩ | ⟨_, _, _, _, _, h⟩
   · omega
   · exact absurd h (by intro h; cases h)
 · rcases hE with ⟨h0, _⟩ | ⟨_, _, _, _, _, h⟩
   · exact absurd h0 hp
   · exact absurd h (by intro h; cases h)
 · exact ⟨ho, hp, hL⟩)
 have HOO : Hid (Ok (l, nx) ∧ psE ps = 0 ∧ OwnL W2.heap.size w1 v ps) := hOO
 have HCP := copied_any n0 a c (l, nx) w1 (by have := HA.out; rw [HN.out] at this; exact ndsN.below this HB1.out.1) hOO.1.wk.small
 simp only at HCP
 have hE0 := HN.out
 rw [← hE0] at HCP
 obtain ⟨g0, g1, -, -⟩ := HB1.out.2.1.two
 clear hE0 hOO hr hb1 HC
 go_wp2_with fail
 refine HCP.mono ?_
 rintro e w2 ⟨⟨v', rfl, hv'⟩, hb2⟩
 obtain ⟨a', c', _, hve, -, -⟩ := Shape.list_own (S := ndN) (ht := Tryz.underlying27) (hc := cells27) hv'
 obtain rfl : v' = _ := by simpa using hve
 have hE0 := HN.out
 simp only at hv' ⊢
 rw [← hE0] at hv' ⊢
 obtain ⟨V, hV⟩ := exa (w2.alloc (.cells #[.slice a' n c', .int .i64 nx] 29))
 have hbV : Below w1.heap.size w1 V := by rw [hV]; exact hb2.alloc hb2.size _
 have hMS : MS w1.heap.size V w2.heap.size (l, nx) := ⟨.slice a' n c', by rw [hV]; exact Box.new _ _ _, by rw [hV]; exact ndsN.osame hv' (.alloc _ _ _)⟩
 have HCD := HDO.out HOO.out.1 HOO.out.2.1 V v w1.heap.size w2.heap.size (below_any HB1.out.1 hbV) HB1.out.1.size hb2.size (StayL.of HOO.out.2.2 hbV) hMS
 have HBV : Hid (Below w1.heap.size w1 V) := hbV
 clear hE0 hve hv' hb2 hbV hMS g0 g1 HCP
 go_wp2_with fail
 rw [← hV]
 clear hV
 refine HCD.mono ?_
 rintro e w3 ⟨⟨E, rfl, hE⟩, hb3, hM3⟩
 have hb13 : Below w1.heap.size w1 w3 := HBV.out.trans hb3
 have hR := HB1.out.2.2.below hb13 HB1.out.2.2.lt
 have HB3 : Hid (Below w.heap.size w w3 ∧ Glob w3 ∧ Box w3 (w.heap.size + 1) 29 #[.slice none 0 0, .int .i64 0]) := ⟨below_any HB1.out.1 hb13, HG.out.below (below_any HB1.out.1 hb13) HG.out.lt, hR⟩
 have HM3 : Hid (K = 0 → ML w1.heap.size w3 w2.heap.size s') := hM3
 clear hb3 hb13 hM3 HCD
 by_cases hK : K = 0
 · have HK : Hid (K = 0) := hK
   obtain rfl : E = .nilIface := by (
 rcases hE with ⟨_, h⟩ | ⟨h, _⟩
 · exact h
 · exact absurd hK h)
   obtain ⟨v3, hB, hO⟩ := HM3.out hK
   obtain ⟨a3, c3, hve, -, -⟩ := Shape.list_len (S := ndN) (ht := Tryz.underlying27) (hc := cells27) hO
   obtain rfl : v3 = _ := by simpa using hve
   have HO : Hid (ndsN.lies w1.heap.size w3 [.slice a3 s'.1.length c3] s'.1 ∧ w.heap.size + 2 ≤ w1.heap.size) := ⟨hO, by have := HB1.out.2.2.lt; omega⟩
   obtain ⟨q0, q1, -, -⟩ := hB.two
   obtain ⟨d0, d1, e0, e1⟩ := hR.two
   obtain ⟨n', hn'⟩ := exa (s'.1.length)
   obtain ⟨nx', hnx'⟩ := exa (s'.2)
   rw [← hn'] at q0 HO
   rw [← hnx'] at q1 HPo
   clear hE hR hB hO hve hK hn' hnx'
   go_wp2
   refine bodyPost_ret (v := .tuple #[.agg #[.slice a3 n' c3, .int .i64 nx'], .int .i64 0]) (by simp [results, Tryz.results48, go_sem, *]) rfl (HPo.out.2 _ _ HOO.out.1 HOO.out.2.1 HK.out ?_ ?_)
   · exact ndsN.weaken (n := w1.heap.size) (ndsN.keep HO.out.1 (.set2 (by have := HO.out.2; omega))) (by have := HO.out.2; omega)
   · exact below_set2 HB3.out.1 (by omega) _ _
 · have hnn := HBAD.out K E w3 hE hK HB3.out.2.1
   have HK : Hid (K ≠ 0) := hK
   obtain ⟨a2, l2, c2, s2, rfl⟩ : ∃ a2 l2 c2 s2, E = refV (.slice a2 l2 c2) K s2 := by (
 rcases hE with ⟨h0, _⟩ | ⟨_, a2, l2, c2, s2, h⟩
 · exact absurd h0 hK
 · exact ⟨a2, l2, c2, s2, h⟩)
   clear hE hK hR
   go_wp2_with fail
   refine hnn.mono ?_
   rintro e w4 ⟨rfl, hb4⟩
   have hR := HB3.out.2.2.below hb4 HB3.out.2.2.lt
   obtain ⟨d0, d1, e0, e1⟩ := hR.two
   have HF : Hid (Below w.heap.size w w4) := below_any HB3.out.1 hb4
   clear hR hb4 hnn
   go_wp2
   refine bodyPost_ret (v := .tuple #[.agg #[.slice none 0 0, .int .i64 0], .int .i64 K]) (by simp [results, Tryz.results48, go_sem, *]) rfl (HPo.out.1 K _ (.inr (.inr ⟨HOO.out.1, HOO.out.2.1, HK.out, rfl⟩)) ?_)
   exact below_set2 HF.out (by omega) _ _)
theorem change1_any (F : Nat) (hF : ∀ args w, (callFunc F args).run Tryz.prog w = .ok (.enter F args) w) (c1 : Value) (n0 n1 : Nat) (a : Option Addr) (c : Nat) (s : St) (av : Option Addr) (cv : Nat) (ps : List ByteArray) (hps : ps.length ≤ 2) (w : World) (hA : ndsN.lies n0 w [.slice a s.1.length c] s.1) (hX : ArgT n1 w (.slice av ps.length cv) ps) (hg : Glob w) (K : Int) (s' : St)
   (hdo : Ok s → psE ps = 0 → ∀ V v2 B S, Below w.heap.size w V → w.heap.size ≤ B → B ≤ S → StayL B V v2 ps → MS B V S s → Calls Tryz.prog F #[.pointer (some ⟨S, 0, none⟩), v2, c1] V fun e w' => (∃ E, e = .returned E ∧ EV K E) ∧ Below B V w' ∧ (K = 0 → ML B w' S s')) :
   Calls Tryz.prog 48 #[.agg #[.slice a s.1.length c, .int .i64 s.2], .func (.func F) #[] #[c1], .slice av ps.length cv] w (Changed s ps K s' w) := by
 obtain ⟨l, nx⟩ := s
 simp only at hA hdo ⊢
 obtain ⟨W1, hW1⟩ := exa (w.alloc (.cells #[.slice a l.length c, .int .i64 nx] 29))
 obtain ⟨W2, hW2⟩ := exa (W1.alloc (.cells #[.slice none 0 0, .int .i64 0] 29))
 have hb1 : Below w.heap.size w W1 := by rw [hW1]; exact (Below.refl _ w).alloc (Nat.le_refl _) _
 have hb2 : Below w.heap.size w W2 := by rw [hW2]; exact hb1.alloc hb1.size _
 have hs1 : W1.heap.size = w.heap.size + 1 := by rw [hW1]; exact Array.size_push _
 have hBS : Box W2 w.heap.size 29 #[.slice a l.length c, .int .i64 nx] := by
   have : Box W1 w.heap.size 29 #[.slice a l.length c, .int .i64 nx] := by rw [hW1]; exact Box.new _ _ _
   rw [hW2]; exact this.alloc _
 have hBR : Box W2 (w.heap.size + 1) 29 #[.slice none 0 0, .int .i64 0] := by rw [hW2, ← hs1]; exact Box.new _ _ _
 have HC := prepare_any n0 n1 a c (l, nx) av cv ps hps W2 (ndsN.below hA hb2) (hX.below hb2)
 simp only at HC
 have HG : Hid (Glob w) := hg
 have HW : Hid (Below w.heap.size w W2 ∧ Box W2 w.heap.size 29 #[.slice a l.length c, .int .i64 nx] ∧ Box W2 (w.heap.size + 1) 29 #[.slice none 0 0, .int .i64 0]) := ⟨hb2, hBS, hBR⟩
 have HDO : Hid (Ok (l, nx) → psE ps = 0 → ∀ V v2 B S, Below w.heap.size w V → w.heap.size ≤ B → B ≤ S → StayL B V v2 ps → MS B V S (l, nx) → Calls Tryz.prog F #[.pointer (some ⟨S, 0, none⟩), v2, c1] V fun e w' => (∃ E, e = .returned E ∧ EV K E) ∧ Below B V w' ∧ (K = 0 → ML B w' S s')) := hdo
 have HA : Hid (ndsN.lies n0 w [.slice a l.length c] l) := hA
 obtain ⟨post, hpost⟩ : ∃ post : Ending → World → Prop, post = Changed (l, nx) ps K s' w := ⟨_, rfl⟩
 have HPo : Hid ((∀ k w', ((¬ Ok (l, nx) ∧ k = 9) ∨ (Ok (l, nx) ∧ psE ps ≠ 0 ∧ k = psE ps) ∨ (Ok (l, nx) ∧ psE ps = 0 ∧ K ≠ 0 ∧ k = K)) → Below w.heap.size w w' → post (.returned (.tuple #[.agg #[.slice none 0 0, .int .i64 0], .int .i64 k])) w') ∧ (∀ v w', Ok (l, nx) → psE ps = 0 → K = 0 → ndsN.lies w.heap.size w' [v] s'.1 → Below w.heap.size w w' → post (.returned (.tuple #[.agg #[v, .int .i64 s'.2], .int .i64 0])) w')) :=
   ⟨fun k w' h1 h2 => by rw [hpost]; exact ⟨.inl ⟨k, rfl, h1⟩, h2⟩, fun v w' h1 h2 h3 h4 h5 => by rw [hpost]; exact ⟨.inr ⟨v, rfl, h1, h2, h3, h4⟩, h5⟩⟩
 rw [← hpost]
 obtain ⟨n, hn⟩ := exa (l.length)
 rw [← hn] at HC HW hW1 HA ⊢
 have HN : Hid (n = l.length) := hn
 obtain ⟨m, hm⟩ := exa (ps.length)
 rw [← hm] at HC ⊢
 obtain ⟨g0, g1, -, -⟩ := HW.out.2.1.two
 rw [hW2, hW1] at g0 g1
 clear hA hb1 hb2 hs1 hBS hBR hX hg hdo hn hm hpost hps
 go_enter Tryz.func48, Tryz.ntmps48
 go_wp2_with fail
 rw [← hW1, ← hW2]
 clear hW1 hW2 g0 g1
 refine HC.mono ?_
 rintro e w1 ⟨⟨v, E, rfl, hr⟩, hb1⟩
 have HB1 : Hid (Below w.heap.size w w1 ∧ Box w1 w.heap.size 29 #[.slice a n c, .int .i64 nx] ∧ Box w1 (w.heap.size + 1) 29 #[.slice none 0 0, .int .i64 0]) := ⟨below_any HW.out.1 hb1, HW.out.2.1.below hb1 HW.out.2.1.lt, HW.out.2.2.below hb1 HW.out.2.2.lt⟩
 have HGW : Hid (Glob w1) := HG.out.below HB1.out.1 HG.out.lt
 have bad : ∀ k E W', EV k E → k ≠ 0 → Glob W' → Calls Tryz.prog 96 #[E] W' fun e w' => e = .returned (.int .i64 k) ∧ Below W'.heap.size W' w' := fun k E W' hE hk hG => by (
 rcases hE with ⟨h0, _⟩ | ⟨_, a2, l2, c2, s2, rfl⟩
 · exact absurd h0 hk
 · exact numberOf_ref a2 l2 c2 k s2 W' hG)
 have HBAD : Hid (∀ k E W', EV k E → k ≠ 0 → Glob W' → Calls Tryz.prog 96 #[E] W' fun e w' => e = .returned (.int .i64 k) ∧ Below W'.heap.size W' w') := bad
 clear bad
 by_cases hz : E = .nilIface
 case neg => (
 have hEk : ∃ k, k ≠ 0 ∧ EV k E ∧ ((¬ Ok (l, nx) ∧ k = 9) ∨ (Ok (l, nx) ∧ psE ps ≠ 0 ∧ k = psE ps) ∨ (Ok (l, nx) ∧ psE ps = 0 ∧ K ≠ 0 ∧ k = K)) := by (
 rcases hr with ⟨ho, hE⟩ | ⟨ho, hp, hE⟩ | ⟨ho, hp, hE, hL⟩
 · exact ⟨9, by decide, hE, .inl ⟨ho, rfl⟩⟩
 · exact ⟨_, hp, hE, .inr (.inl ⟨ho, hp, rfl⟩)⟩
 · exact absurd hE hz)
 obtain ⟨k, hk, hE, hwhy⟩ := hEk
 have hnn := HBAD.out k E w1 hE hk HGW.out
 have HY : Hid ((¬ Ok (l, nx) ∧ k = 9) ∨ (Ok (l, nx) ∧ psE ps ≠ 0 ∧ k = psE ps) ∨ (Ok (l, nx) ∧ psE ps = 0 ∧ K ≠ 0 ∧ k = K)) := hwhy
 obtain ⟨a2, l2, c2, s2, rfl⟩ : ∃ a2 l2 c2 s2, E = refV (.slice a2 l2 c2) k s2 := by (
 rcases hE with ⟨h0, _⟩ | ⟨_, a2, l2, c2, s2, h⟩
 · exact absurd h0 hk
 · exact ⟨a2, l2, c2, s2, h⟩)
 clear hE hk hwhy hr hz hb1 HC
 go_wp2_with fail
 refine hnn.mono ?_
 rintro e w2 ⟨rfl, hb2⟩
 have hR := HB1.out.2.2.below hb2 HB1.out.2.2.lt
 obtain ⟨d0, d1, e0, e1⟩ := hR.two
 have HF : Hid (Below w.heap.size w w2) := below_any HB1.out.1 hb2
 clear hR hb2 hnn
 go_wp2
 refine bodyPost_ret (v := .tuple #[.agg #[.slice none 0 0, .int .i64 0], .int .i64 k]) (by simp [results, Tryz.results48, go_sem, *]) rfl (HPo.out.1 k _ HY.out ?_)
 exact below_set2 HF.out (by omega) _ _)
 case pos => (
 subst hz
 have hOO : Ok (l, nx) ∧ psE ps = 0 ∧ OwnL W2.heap.size w1 v ps := by (
 rcases hr with ⟨ho, hE⟩ | ⟨ho, hp, hE⟩ | ⟨ho, hp, -, hL⟩
 · rcases hE with ⟨h0, _⟩ | ⟨_, _, _, _, _, h⟩
   · omega
   · exact absurd h (by intro h; cases h)
 · rcases hE with ⟨h0, _⟩ | ⟨_, _, _, _, _, h⟩
   · exact absurd h0 hp
   · exact absurd h (by intro h; cases h)
 · exact ⟨ho, hp, hL⟩)
 have HOO : Hid (Ok (l, nx) ∧ psE ps = 0 ∧ OwnL W2.heap.size w1 v ps) := hOO
 have HCP := copied_any n0 a c (l, nx) w1 (by have := HA.out; rw [HN.out] at this; exact ndsN.below this HB1.out.1) hOO.1.wk.small
 simp only at HCP
 have hE0 := HN.out
 rw [← hE0] at HCP
 obtain ⟨g0, g1, -, -⟩ := HB1.out.2.1.two
 clear hE0 hOO hr hb1 HC
 go_wp2_with fail
 refine HCP.mono ?_
 rintro e w2 ⟨⟨v', rfl, hv'⟩, hb2⟩
 obtain ⟨a', c', _, hve, -, -⟩ := Shape.list_own (S := ndN) (ht := Tryz.underlying27) (hc := cells27) hv'
 obtain rfl : v' = _ := by simpa using hve
 have hE0 := HN.out
 simp only at hv' ⊢
 rw [← hE0] at hv' ⊢
 obtain ⟨V, hV⟩ := exa (w2.alloc (.cells #[.slice a' n c', .int .i64 nx] 29))
 have hbV : Below w1.heap.size w1 V := by rw [hV]; exact hb2.alloc hb2.size _
 have hMS : MS w1.heap.size V w2.heap.size (l, nx) := ⟨.slice a' n c', by rw [hV]; exact Box.new _ _ _, by rw [hV]; exact ndsN.osame hv' (.alloc _ _ _)⟩
 have HCD := HDO.out HOO.out.1 HOO.out.2.1 V v w1.heap.size w2.heap.size (below_any HB1.out.1 hbV) HB1.out.1.size hb2.size (StayL.of HOO.out.2.2 hbV) hMS
 have HBV : Hid (Below w1.heap.size w1 V) := hbV
 clear hE0 hve hv' hb2 hbV hMS g0 g1 HCP
 go_wp2_with fail
 rw [← hV]
 clear hV
 refine HCD.mono ?_
 rintro e w3 ⟨⟨E, rfl, hE⟩, hb3, hM3⟩
 have hb13 : Below w1.heap.size w1 w3 := HBV.out.trans hb3
 have hR := HB1.out.2.2.below hb13 HB1.out.2.2.lt
 have HB3 : Hid (Below w.heap.size w w3 ∧ Glob w3 ∧ Box w3 (w.heap.size + 1) 29 #[.slice none 0 0, .int .i64 0]) := ⟨below_any HB1.out.1 hb13, HG.out.below (below_any HB1.out.1 hb13) HG.out.lt, hR⟩
 have HM3 : Hid (K = 0 → ML w1.heap.size w3 w2.heap.size s') := hM3
 clear hb3 hb13 hM3 HCD
 by_cases hK : K = 0
 · have HK : Hid (K = 0) := hK
   obtain rfl : E = .nilIface := by (
 rcases hE with ⟨_, h⟩ | ⟨h, _⟩
 · exact h
 · exact absurd hK h)
   obtain ⟨v3, hB, hO⟩ := HM3.out hK
   obtain ⟨a3, c3, hve, -, -⟩ := Shape.list_len (S := ndN) (ht := Tryz.underlying27) (hc := cells27) hO
   obtain rfl : v3 = _ := by simpa using hve
   have HO : Hid (ndsN.lies w1.heap.size w3 [.slice a3 s'.1.length c3] s'.1 ∧ w.heap.size + 2 ≤ w1.heap.size) := ⟨hO, by have := HB1.out.2.2.lt; omega⟩
   obtain ⟨q0, q1, -, -⟩ := hB.two
   obtain ⟨d0, d1, e0, e1⟩ := hR.two
   obtain ⟨n', hn'⟩ := exa (s'.1.length)
   obtain ⟨nx', hnx'⟩ := exa (s'.2)
   rw [← hn'] at q0 HO
   rw [← hnx'] at q1 HPo
   clear hE hR hB hO hve hK hn' hnx'
   go_wp2
   refine bodyPost_ret (v := .tuple #[.agg #[.slice a3 n' c3, .int .i64 nx'], .int .i64 0]) (by simp [results, Tryz.results48, go_sem, *]) rfl (HPo.out.2 _ _ HOO.out.1 HOO.out.2.1 HK.out ?_ ?_)
   · exact ndsN.weaken (n := w1.heap.size) (ndsN.keep HO.out.1 (.set2 (by have := HO.out.2; omega))) (by have := HO.out.2; omega)
   · exact below_set2 HB3.out.1 (by omega) _ _
 · have hnn := HBAD.out K E w3 hE hK HB3.out.2.1
   have HK : Hid (K ≠ 0) := hK
   obtain ⟨a2, l2, c2, s2, rfl⟩ : ∃ a2 l2 c2 s2, E = refV (.slice a2 l2 c2) K s2 := by (
 rcases hE with ⟨h0, _⟩ | ⟨_, a2, l2, c2, s2, h⟩
 · exact absurd h0 hK
 · exact ⟨a2, l2, c2, s2, h⟩)
   clear hE hK hR
   go_wp2_with fail
   refine hnn.mono ?_
   rintro e w4 ⟨rfl, hb4⟩
   have hR := HB3.out.2.2.below hb4 HB3.out.2.2.lt
   obtain ⟨d0, d1, e0, e1⟩ := hR.two
   have HF : Hid (Below w.heap.size w w4) := below_any HB3.out.1 hb4
   clear hR hb4 hnn
   go_wp2
   refine bodyPost_ret (v := .tuple #[.agg #[.slice none 0 0, .int .i64 0], .int .i64 K]) (by simp [results, Tryz.results48, go_sem, *]) rfl (HPo.out.1 K _ (.inr (.inr ⟨HOO.out.1, HOO.out.2.1, HK.out, rfl⟩)) ?_)
   exact below_set2 HF.out (by omega) _ _)
theorem change2_any (F : Nat) (hF : ∀ args w, (callFunc F args).run Tryz.prog w = .ok (.enter F args) w) (c1 : Value) (c2 : Value) (n0 n1 : Nat) (a : Option Addr) (c : Nat) (s : St) (av : Option Addr) (cv : Nat) (ps : List ByteArray) (hps : ps.length ≤ 2) (w : World) (hA : ndsN.lies n0 w [.slice a s.1.length c] s.1) (hX : ArgT n1 w (.slice av ps.length cv) ps) (hg : Glob w) (K : Int) (s' : St)
   (hdo : Ok s → psE ps = 0 → ∀ V v2 B S, Below w.heap.size w V → w.heap.size ≤ B → B ≤ S → StayL B V v2 ps → MS B V S s → Calls Tryz.prog F #[.pointer (some ⟨S, 0, none⟩), v2, c1, c2] V fun e w' => (∃ E, e = .returned E ∧ EV K E) ∧ Below B V w' ∧ (K = 0 → ML B w' S s')) :
   Calls Tryz.prog 48 #[.agg #[.slice a s.1.length c, .int .i64 s.2], .func (.func F) #[] #[c1, c2], .slice av ps.length cv] w (Changed s ps K s' w) := by
 obtain ⟨l, nx⟩ := s
 simp only at hA hdo ⊢
 obtain ⟨W1, hW1⟩ := exa (w.alloc (.cells #[.slice a l.length c, .int .i64 nx] 29))
 obtain ⟨W2, hW2⟩ := exa (W1.alloc (.cells #[.slice none 0 0, .int .i64 0] 29))
 have hb1 : Below w.heap.size w W1 := by rw [hW1]; exact (Below.refl _ w).alloc (Nat.le_refl _) _
 have hb2 : Below w.heap.size w W2 := by rw [hW2]; exact hb1.alloc hb1.size _
 have hs1 : W1.heap.size = w.heap.size + 1 := by rw [hW1]; exact Array.size_push _
 have hBS : Box W2 w.heap.size 29 #[.slice a l.length c, .int .i64 nx] := by
   have : Box W1 w.heap.size 29 #[.slice a l.length c, .int .i64 nx] := by rw [hW1]; exact Box.new _ _ _
   rw [hW2]; exact this.alloc _
 have hBR : Box W2 (w.heap.size + 1) 29 #[.slice none 0 0, .int .i64 0] := by rw [hW2, ← hs1]; exact Box.new _ _ _
 have HC := prepare_any n0 n1 a c (l, nx) av cv ps hps W2 (ndsN.below hA hb2) (hX.below hb2)
 simp only at HC
 have HG : Hid (Glob w) := hg
 have HW : Hid (Below w.heap.size w W2 ∧ Box W2 w.heap.size 29 #[.slice a l.length c, .int .i64 nx] ∧ Box W2 (w.heap.size + 1) 29 #[.slice none 0 0, .int .i64 0]) := ⟨hb2, hBS, hBR⟩
 have HDO : Hid (Ok (l, nx) → psE ps = 0 → ∀ V v2 B S, Below w.heap.size w V → w.heap.size ≤ B → B ≤ S → StayL B V v2 ps → MS B V S (l, nx) → Calls Tryz.prog F #[.pointer (some ⟨S, 0, none⟩), v2, c1, c2] V fun e w' => (∃ E, e = .returned E ∧ EV K E) ∧ Below B V w' ∧ (K = 0 → ML B w' S s')) := hdo
 have HA : Hid (ndsN.lies n0 w [.slice a l.length c] l) := hA
 obtain ⟨post, hpost⟩ : ∃ post : Ending → World → Prop, post = Changed (l, nx) ps K s' w := ⟨_, rfl⟩
 have HPo : Hid ((∀ k w', ((¬ Ok (l, nx) ∧ k = 9) ∨ (Ok (l, nx) ∧ psE ps ≠ 0 ∧ k = psE ps) ∨ (Ok (l, nx) ∧ psE ps = 0 ∧ K ≠ 0 ∧ k = K)) → Below w.heap.size w w' → post (.returned (.tuple #[.agg #[.slice none 0 0, .int .i64 0], .int .i64 k])) w') ∧ (∀ v w', Ok (l, nx) → psE ps = 0 → K = 0 → ndsN.lies w.heap.size w' [v] s'.1 → Below w.heap.size w w' → post (.returned (.tuple #[.agg #[v, .int .i64 s'.2], .int .i64 0])) w')) :=
   ⟨fun k w' h1 h2 => by rw [hpost]; exact ⟨.inl ⟨k, rfl, h1⟩, h2⟩, fun v w' h1 h2 h3 h4 h5 => by rw [hpost]; exact ⟨.inr ⟨v, rfl, h1, h2, h3, h4⟩, h5⟩⟩
 rw [← hpost]
 obtain ⟨n, hn⟩ := exa (l.length)
 rw [← hn] at HC HW hW1 HA ⊢
 have HN : Hid (n = l.length) := hn
 obtain ⟨m, hm⟩ := exa (ps.length)
 rw [← hm] at HC ⊢
 obtain ⟨g0, g1, -, -⟩ := HW.out.2.1.two
 rw [hW2, hW1] at g0 g1
 clear hA hb1 hb2 hs1 hBS hBR hX hg hdo hn hm hpost hps
 go_enter Tryz.func48, Tryz.ntmps48
 go_wp2_with fail
 rw [← hW1, ← hW2]
 clear hW1 hW2 g0 g1
 refine HC.mono ?_
 rintro e w1 ⟨⟨v, E, rfl, hr⟩, hb1⟩
 have HB1 : Hid (Below w.heap.size w w1 ∧ Box w1 w.heap.size 29 #[.slice a n c, .int .i64 nx] ∧ Box w1 (w.heap.size + 1) 29 #[.slice none 0 0, .int .i64 0]) := ⟨below_any HW.out.1 hb1, HW.out.2.1.below hb1 HW.out.2.1.lt, HW.out.2.2.below hb1 HW.out.2.2.lt⟩
 have HGW : Hid (Glob w1) := HG.out.below HB1.out.1 HG.out.lt
 have bad : ∀ k E W', EV k E → k ≠ 0 → Glob W' → Calls Tryz.prog 96 #[E] W' fun e w' => e = .returned (.int .i64 k) ∧ Below W'.heap.size W' w' := fun k E W' hE hk hG => by (
 rcases hE with ⟨h0, _⟩ | ⟨_, a2, l2, c2, s2, rfl⟩
 · exact absurd h0 hk
 · exact numberOf_ref a2 l2 c2 k s2 W' hG)
 have HBAD : Hid (∀ k E W', EV k E → k ≠ 0 → Glob W' → Calls Tryz.prog 96 #[E] W' fun e w' => e = .returned (.int .i64 k) ∧ Below W'.heap.size W' w') := bad
 clear bad
 by_cases hz : E = .nilIface
 case neg => (
 have hEk : ∃ k, k ≠ 0 ∧ EV k E ∧ ((¬ Ok (l, nx) ∧ k = 9) ∨ (Ok (l, nx) ∧ psE ps ≠ 0 ∧ k = psE ps) ∨ (Ok (l, nx) ∧ psE ps = 0 ∧ K ≠ 0 ∧ k = K)) := by (
 rcases hr with ⟨ho, hE⟩ | ⟨ho, hp, hE⟩ | ⟨ho, hp, hE, hL⟩
 · exact ⟨9, by decide, hE, .inl ⟨ho, rfl⟩⟩
 · exact ⟨_, hp, hE, .inr (.inl ⟨ho, hp, rfl⟩)⟩
 · exact absurd hE hz)
 obtain ⟨k, hk, hE, hwhy⟩ := hEk
 have hnn := HBAD.out k E w1 hE hk HGW.out
 have HY : Hid ((¬ Ok (l, nx) ∧ k = 9) ∨ (Ok (l, nx) ∧ psE ps ≠ 0 ∧ k = psE ps) ∨ (Ok (l, nx) ∧ psE ps = 0 ∧ K ≠ 0 ∧ k = K)) := hwhy
 obtain ⟨a2, l2, c2, s2, rfl⟩ : ∃ a2 l2 c2 s2, E = refV (.slice a2 l2 c2) k s2 := by (
 rcases hE with ⟨h0, _⟩ | ⟨_, a2, l2, c2, s2, h⟩
 · exact absurd h0 hk
 · exact ⟨a2, l2, c2, s2, h⟩)
 clear hE hk hwhy hr hz hb1 HC
 go_wp2_with fail
 refine hnn.mono ?_
 rintro e w2 ⟨rfl, hb2⟩
 have hR := HB1.out.2.2.below hb2 HB1.out.2.2.lt
 obtain ⟨d0, d1, e0, e1⟩ := hR.two
 have HF : Hid (Below w.heap.size w w2) := below_any HB1.out.1 hb2
 clear hR hb2 hnn
 go_wp2
 refine bodyPost_ret (v := .tuple #[.agg #[.slice none 0 0, .int .i64 0], .int .i64 k]) (by simp [results, Tryz.results48, go_sem, *]) rfl (HPo.out.1 k _ HY.out ?_)
 exact below_set2 HF.out (by omega) _ _)
 case pos => (
 subst hz
 have hOO : Ok (l, nx) ∧ psE ps = 0 ∧ OwnL W2.heap.size w1 v ps := by (
 rcases hr with ⟨ho, hE⟩ | ⟨ho, hp, hE⟩ | ⟨ho, hp, -, hL⟩
 · rcases hE with ⟨h0, _⟩ | ⟨_, _, _, _, _, h⟩
   · omega
   · exact absurd h (by intro h; cases h)
 · rcases hE with ⟨h0, _⟩ | ⟨_, _, _, _, _, h⟩
   · exact absurd h0 hp
   · exact absurd h (by intro h; cases h)
 · exact ⟨ho, hp, hL⟩)
 have HOO : Hid (Ok (l, nx) ∧ psE ps = 0 ∧ OwnL W2.heap.size w1 v ps) := hOO
 have HCP := copied_any n0 a c (l, nx) w1 (by have := HA.out; rw [HN.out] at this; exact ndsN.below this HB1.out.1) hOO.1.wk.small
 simp only at HCP
 have hE0 := HN.out
 rw [← hE0] at HCP
 obtain ⟨g0, g1, -, -⟩ := HB1.out.2.1.two
 clear hE0 hOO hr hb1 HC
 go_wp2_with fail
 refine HCP.mono ?_
 rintro e w2 ⟨⟨v', rfl, hv'⟩, hb2⟩
 obtain ⟨a', c', _, hve, -, -⟩ := Shape.list_own (S := ndN) (ht := Tryz.underlying27) (hc := cells27) hv'
 obtain rfl : v' = _ := by simpa using hve
 have hE0 := HN.out
 simp only at hv' ⊢
 rw [← hE0] at hv' ⊢
 obtain ⟨V, hV⟩ := exa (w2.alloc (.cells #[.slice a' n c', .int .i64 nx] 29))
 have hbV : Below w1.heap.size w1 V := by rw [hV]; exact hb2.alloc hb2.size _
 have hMS : MS w1.heap.size V w2.heap.size (l, nx) := ⟨.slice a' n c', by rw [hV]; exact Box.new _ _ _, by rw [hV]; exact ndsN.osame hv' (.alloc _ _ _)⟩
 have HCD := HDO.out HOO.out.1 HOO.out.2.1 V v w1.heap.size w2.heap.size (below_any HB1.out.1 hbV) HB1.out.1.size hb2.size (StayL.of HOO.out.2.2 hbV) hMS
 have HBV : Hid (Below w1.heap.size w1 V) := hbV
 clear hE0 hve hv' hb2 hbV hMS g0 g1 HCP
 go_wp2_with fail
 rw [← hV]
 clear hV
 refine HCD.mono ?_
 rintro e w3 ⟨⟨E, rfl, hE⟩, hb3, hM3⟩
 have hb13 : Below w1.heap.size w1 w3 := HBV.out.trans hb3
 have hR := HB1.out.2.2.below hb13 HB1.out.2.2.lt
 have HB3 : Hid (Below w.heap.size w w3 ∧ Glob w3 ∧ Box w3 (w.heap.size + 1) 29 #[.slice none 0 0, .int .i64 0]) := ⟨below_any HB1.out.1 hb13, HG.out.below (below_any HB1.out.1 hb13) HG.out.lt, hR⟩
 have HM3 : Hid (K = 0 → ML w1.heap.size w3 w2.heap.size s') := hM3
 clear hb3 hb13 hM3 HCD
 by_cases hK : K = 0
 · have HK : Hid (K = 0) := hK
   obtain rfl : E = .nilIface := by (
 rcases hE with ⟨_, h⟩ | ⟨h, _⟩
 · exact h
 · exact absurd hK h)
   obtain ⟨v3, hB, hO⟩ := HM3.out hK
   obtain ⟨a3, c3, hve, -, -⟩ := Shape.list_len (S := ndN) (ht := Tryz.underlying27) (hc := cells27) hO
   obtain rfl : v3 = _ := by simpa using hve
   have HO : Hid (ndsN.lies w1.heap.size w3 [.slice a3 s'.1.length c3] s'.1 ∧ w.heap.size + 2 ≤ w1.heap.size) := ⟨hO, by have := HB1.out.2.2.lt; omega⟩
   obtain ⟨q0, q1, -, -⟩ := hB.two
   obtain ⟨d0, d1, e0, e1⟩ := hR.two
   obtain ⟨n', hn'⟩ := exa (s'.1.length)
   obtain ⟨nx', hnx'⟩ := exa (s'.2)
   rw [← hn'] at q0 HO
   rw [← hnx'] at q1 HPo
   clear hE hR hB hO hve hK hn' hnx'
   go_wp2
   refine bodyPost_ret (v := .tuple #[.agg #[.slice a3 n' c3, .int .i64 nx'], .int .i64 0]) (by simp [results, Tryz.results48, go_sem, *]) rfl (HPo.out.2 _ _ HOO.out.1 HOO.out.2.1 HK.out ?_ ?_)
   · exact ndsN.weaken (n := w1.heap.size) (ndsN.keep HO.out.1 (.set2 (by have := HO.out.2; omega))) (by have := HO.out.2; omega)
   · exact below_set2 HB3.out.1 (by omega) _ _
 · have hnn := HBAD.out K E w3 hE hK HB3.out.2.1
   have HK : Hid (K ≠ 0) := hK
   obtain ⟨a2, l2, c2, s2, rfl⟩ : ∃ a2 l2 c2 s2, E = refV (.slice a2 l2 c2) K s2 := by (
 rcases hE with ⟨h0, _⟩ | ⟨_, a2, l2, c2, s2, h⟩
 · exact absurd h0 hK
 · exact ⟨a2, l2, c2, s2, h⟩)
   clear hE hK hR
   go_wp2_with fail
   refine hnn.mono ?_
   rintro e w4 ⟨rfl, hb4⟩
   have hR := HB3.out.2.2.below hb4 HB3.out.2.2.lt
   obtain ⟨d0, d1, e0, e1⟩ := hR.two
   have HF : Hid (Below w.heap.size w w4) := below_any HB3.out.1 hb4
   clear hR hb4 hnn
   go_wp2
   refine bodyPost_ret (v := .tuple #[.agg #[.slice none 0 0, .int .i64 0], .int .i64 K]) (by simp [results, Tryz.results48, go_sem, *]) rfl (HPo.out.1 K _ (.inr (.inr ⟨HOO.out.1, HOO.out.2.1, HK.out, rfl⟩)) ?_)
   exact below_set2 HF.out (by omega) _ _)
end Go.Proofs.YtopcefhncildnaaGreatDoor
namespace Go.Proofs.YtopcefhncildnaaGreatDoor
open Go.RowKit
open D (En ArgE OwnE EOks EOk ev evs aerr aval rerr rval ins del)
open P (ArgT OwnT tv serr sval)
theorem enlist_any (n n1 : Nat) (v : Value) (l : List Nd) (nx : Int) (hU : Ups l) (hl : l.length ≤ 100000) (k : Nat) (p : Nd) (hp : l[k]? = some p) (av : Option Addr) (cv : Nat) (xs : List ByteArray) (hne : xs ≠ []) (i : Int) (hi : I64 i) (w : World) (hO : ndsN.owns n w [v] l) (hX : ArgT n1 w (.slice av xs.length cv) xs) :
   Calls Tryz.prog 110 #[.agg #[v, .int .i64 nx], .int .i64 p.1, .slice av xs.length cv, .int .i64 i] w fun e w' => (∃ E, e = .returned E ∧ EV (aerr (en p) (lst xs, i)) E) ∧ w.grownBy w' v.ownBlock ∧ (aerr (en p) (lst xs, i) = 0 → ndsN.owns n w' [v] (ch l p.1 (wE (ins (en p) (lst xs, i))))) ∧ (aerr (en p) (lst xs, i) ≠ 0 → Below w.heap.size w w') := by
 obtain ⟨g, cap, e, f, rfl, hng, hgw, hix, hPu⟩ := nds_own_at hO k p hp
 obtain ⟨W, hW⟩ := exa (w.alloc (.cells #[.slice (some ⟨g, 0, none⟩) l.length cap, .int .i64 nx] 29))
 have hbW : Below w.heap.size w W := by rw [hW]; exact (Below.refl _ w).alloc (Nat.le_refl _) _
 have hBS : Box W w.heap.size 29 #[.slice (some ⟨g, 0, none⟩) l.length cap, .int .i64 nx] := by rw [hW]; exact Box.new _ _ _
 have HCU := (cut_any n1 av cv xs W (hX.below hbW) hne).mono (R' := fun e w' => (∃ a n c, e = .returned (.tuple #[.slice a n c, .string (lst xs)])) ∧ Below W.heap.size W w') fun e w' h => by
   obtain ⟨⟨a, n, c, h1, _⟩, q, h2⟩ := h
   exact ⟨⟨a, n, c, h1⟩, by rw [h2]; exact below_drewN (Below.refl _ _) q⟩
 have HND : Hid (∀ V, Below w.heap.size w V → Calls Tryz.prog 159 #[.agg #[.slice (some ⟨g, 0, none⟩) l.length cap, .int .i64 nx], .int .i64 p.1] V fun e w' => e = .returned (.pointer (some ⟨g, k * 6, none⟩)) ∧ Below V.heap.size V w') := fun V hV => node_any n _ nx l hU k p hp g (k * 6) V (ndsN.olies (ndsN.obelow hO hV)) hl hix
 have HPU : Hid (∀ V, Below w.heap.size w V → Puts n (.slice (some ⟨g, 0, none⟩) l.length cap) l k p g e f V) := hPu
 have HWW : Hid (Below w.heap.size w W ∧ Box W w.heap.size 29 #[.slice (some ⟨g, 0, none⟩) l.length cap, .int .i64 nx] ∧ n ≤ g ∧ g < w.heap.size) := ⟨hbW, hBS, hng, hgw⟩
 have HEO : Hid (EOk (lst xs, i) ∧ Ups l ∧ l[k]? = some p) := ⟨⟨hX.2 _ (lst_mem hne), hi⟩, hU, hp⟩
 obtain ⟨post, hpost⟩ : ∃ post : Ending → World → Prop, post = fun e w' => (∃ E, e = .returned E ∧ EV (aerr (en p) (lst xs, i)) E) ∧ w.grownBy w' (Value.slice (some ⟨g, 0, none⟩) l.length cap).ownBlock ∧ (aerr (en p) (lst xs, i) = 0 → ndsN.owns n w' [.slice (some ⟨g, 0, none⟩) l.length cap] (ch l p.1 (wE (ins (en p) (lst xs, i))))) ∧ (aerr (en p) (lst xs, i) ≠ 0 → Below w.heap.size w w') := ⟨_, rfl⟩
 have HPo : Hid (∀ E w', EV (aerr (en p) (lst xs, i)) E → w.grownBy w' (some g) → (aerr (en p) (lst xs, i) = 0 → ndsN.owns n w' [.slice (some ⟨g, 0, none⟩) l.length cap] (ch l p.1 (wE (ins (en p) (lst xs, i))))) → (aerr (en p) (lst xs, i) ≠ 0 → Below w.heap.size w w') → post (.returned E) w') := fun E w' h1 h2 h3 h4 => by rw [hpost]; exact ⟨⟨E, rfl, h1⟩, h2, h3, h4⟩
 rw [← hpost]
 obtain ⟨g0, g1, -, -⟩ := hBS.two
 obtain ⟨L, hL⟩ := exa (l.length)
 obtain ⟨m, hm⟩ := exa (xs.length)
 obtain ⟨y, hy⟩ := exa (lst xs)
 obtain ⟨pi, hpi⟩ := exa (p.1)
 rw [← hL] at HND HPU HWW HPo hW g0 ⊢
 rw [← hm] at HCU ⊢
 rw [← hy] at HCU HEO HPo
 rw [← hpi] at HND ⊢
 clear hO hX hix hPu hbW hBS hpost hne hi hp hU hl hL hm hy hpi hng hgw
 go_enter Tryz.func110, Tryz.ntmps110
 go_wp2_with fail
 rw [← hW]
 clear hW
 refine HCU.mono ?_
 rintro e1 w1 ⟨⟨ca, cn, cc, rfl⟩, hb1⟩
 have HB1 : Hid (Below w.heap.size w w1) := below_any HWW.out.1 hb1
 have HCN := HND.out w1 HB1.out
 obtain ⟨h0, h1, -, -⟩ := (HWW.out.2.1.below hb1 HWW.out.2.1.lt).two
 clear hb1 g0 g1 HCU
 go_wp2_with fail
 refine HCN.mono ?_
 rintro e2 w2 ⟨rfl, hb2⟩
 have HB2 : Hid (Below w.heap.size w w2) := below_any HB1.out hb2
 have hP := HPU.out w2 HB2.out
 obtain ⟨ea, ec, rfl⟩ := hP.2.2.1.1.shape
 obtain ⟨-, -, -, c3, -, -⟩ := nv_cells hP.1
 have HAD := D.add_any n _ (en p) (y, i) w2 hP.2.2.1.1.arg HEO.out.1
 obtain ⟨el, hel⟩ := exa ((en p).length)
 rw [← hel] at c3 HAD HPU
 simp only at HAD
 clear hb2 hP h0 h1 HCN hel
 go_wp2_with fail
 refine HAD.mono ?_
 rintro e3 w3 ⟨⟨v', rfl, hv'⟩, hb3⟩
 obtain ⟨va, vc, rfl⟩ := hv'.shape
 have HB3 : Hid (Below w.heap.size w w3) := below_any HB2.out hb3
 have hP := HPU.out w3 HB3.out
 by_cases hz : aerr (en p) (y, i) = 0
 · have ha : aval (en p) (y, i) = ins (en p) (y, i) := if_pos hz
   rw [ha] at hv' ⊢
   have hfz := hP.2.1 (k * 6 + 3)
   obtain ⟨-, -, -, c3, -, -⟩ := nv_cells hP.1
   have hfin := hP.2.2.2 3 (.slice va (ins (en p) (y, i)).length vc) (wE (ins (en p) (y, i)) p) _ _ (by omega) rfl ⟨hv'.weaken (by have := HWW.out.2.2; have := HB2.out.size; omega), hP.2.2.1.2⟩
   rw [set_ch HEO.out.2.1 HEO.out.2.2] at hfin
   have HFI : Hid (aerr (en p) (y, i) = 0 ∧ ndsN.owns n (w3.setCell ⟨g, k * 6 + 3, none⟩ (.slice va (ins (en p) (y, i)).length vc)) [.slice (some ⟨g, 0, none⟩) L cap] (ch l p.1 (wE (ins (en p) (y, i)))) ∧ w.grownBy (w3.setCell ⟨g, k * 6 + 3, none⟩ (.slice va (ins (en p) (y, i)).length vc)) (some g)) :=
     ⟨hz, hfin.1, (grown_below HB3.out _).trans hfin.2.2⟩
   clear hfin hP hv' hb3 HAD ha
   rw [hz]
   generalize (ins (en p) (y, i)).length = vl at HFI ⊢
   clear hz
   go_wp2
   exact HPo.out _ _ (by rw [HFI.out.1]; exact ev_nil) HFI.out.2.2 (fun _ => HFI.out.2.1) (fun h => absurd HFI.out.1 h)
 · have hr := refuse_bad (aerr (en p) (y, i)) hz av m cv w3
   have HZ : Hid (aerr (en p) (y, i) ≠ 0) := hz
   generalize aerr (en p) (y, i) = ae at hr hz HPo HZ ⊢
   generalize (aval (en p) (y, i)).length = vl at hv' ⊢
   clear hP hv' hb3 HAD
   go_wp2_with fail
   refine hr.mono ?_
   rintro e4 w4 ⟨rfl, rfl⟩
   go_wp2
   exact HPo.out _ _ (ev_ref HZ.out _ _ _ _) (grown_below HB3.out _) (fun h => absurd h HZ.out) (fun _ => HB3.out)
theorem strike_any (n n1 : Nat) (v : Value) (s : St) (hK : Wk s) (k : Nat) (p : Nd) (hp : s.1[k]? = some p) (av : Option Addr) (cv : Nat) (xs : List ByteArray) (hne : xs ≠ []) (hw : wlk s.1 1 (ahd xs) = (p.1, 0)) (hd : isD p = true) (ht : D.there (en p) (lst xs) = true) (w : World) (hO : ndsN.owns n w [v] s.1) (hX : ArgT n1 w (.slice av xs.length cv) xs) :
   Calls Tryz.prog 223 #[.agg #[v, .int .i64 s.2], .slice av xs.length cv] w fun e w' => e = .returned (.tuple #[]) ∧ w.grownBy w' v.ownBlock ∧ ndsN.owns n w' [v] (ch s.1 p.1 (wE (del (en p) (lst xs)))) := by
 obtain ⟨l, nx⟩ := s
 simp only at hp hw hO ⊢
 obtain ⟨g, cap, e, f, rfl, hng, hgw, hix, hPu⟩ := nds_own_at hO k p hp
 obtain ⟨W, hW⟩ := exa (w.alloc (.cells #[.slice (some ⟨g, 0, none⟩) l.length cap, .int .i64 nx] 29))
 have hbW : Below w.heap.size w W := by rw [hW]; exact (Below.refl _ w).alloc (Nat.le_refl _) _
 have hBS : Box W w.heap.size 29 #[.slice (some ⟨g, 0, none⟩) l.length cap, .int .i64 nx] := by rw [hW]; exact Box.new _ _ _
 have HCU := (cut_any n1 av cv xs W (hX.below hbW) hne).mono (R' := fun e w' => (∃ a n c, e = .returned (.tuple #[.slice a n c, .string (lst xs)]) ∧ n = (ahd xs).length ∧ ArgT n1 w' (.slice a n c) (ahd xs)) ∧ Below W.heap.size W w') fun e w' h => by (
 obtain ⟨⟨a, n, c, h1, h3, h4⟩, q, h2⟩ := h
 have hb : Below W.heap.size W w' := by rw [h2]; exact below_drewN (Below.refl _ _) q
 exact ⟨⟨a, n, c, h1, h3, h4.below hb⟩, hb⟩)
 have HND : Hid (∀ V, Below w.heap.size w V → Calls Tryz.prog 159 #[.agg #[.slice (some ⟨g, 0, none⟩) l.length cap, .int .i64 nx], .int .i64 p.1] V fun e w' => e = .returned (.pointer (some ⟨g, k * 6, none⟩)) ∧ Below V.heap.size V w') := fun V hV => node_any n _ nx l hK.up k p hp g (k * 6) V (ndsN.olies (ndsN.obelow hO hV)) (by have := hK.len; simp only at this; omega) hix
 have HWK : Hid (∀ V a m c, Below w.heap.size w V → m = (ahd xs).length → ArgT n1 V (.slice a m c) (ahd xs) → Calls Tryz.prog 158 #[.agg #[.slice (some ⟨g, 0, none⟩) l.length cap, .int .i64 nx], .slice a m c] V fun e w' => (∃ E, e = .returned (.tuple #[.int .i64 p.1, E])) ∧ Below V.heap.size V w') := fun V a m c hV hm hA => by (
 subst hm
 have := walk_any n n1 (some ⟨g, 0, none⟩) cap (l, nx) hK a c (ahd xs) V (ndsN.olies (ndsN.obelow hO hV)) hA
 simp only [hw] at this
 exact this.mono fun e w' h => ⟨by obtain ⟨⟨E, h, _⟩, _⟩ := h; exact ⟨E, h⟩, h.2⟩)
 have HPU : Hid (∀ V, Below w.heap.size w V → Puts n (.slice (some ⟨g, 0, none⟩) l.length cap) l k p g e f V) := hPu
 have HWW : Hid (Below w.heap.size w W ∧ Box W w.heap.size 29 #[.slice (some ⟨g, 0, none⟩) l.length cap, .int .i64 nx] ∧ n ≤ g ∧ g < w.heap.size) := ⟨hbW, hBS, hng, hgw⟩
 have hz : rerr (en p) (lst xs) = 0 := by unfold rerr; rw [if_pos (hK.dirs p (List.mem_of_getElem? hp) hd).1, if_pos ht]
 have ha : rval (en p) (lst xs) = del (en p) (lst xs) := if_pos hz
 have HEO : Hid (Ups l ∧ l[k]? = some p ∧ rerr (en p) (lst xs) = 0 ∧ rval (en p) (lst xs) = del (en p) (lst xs)) := ⟨hK.up, hp, hz, ha⟩
 obtain ⟨post, hpost⟩ : ∃ post : Ending → World → Prop, post = fun e w' => e = .returned (.tuple #[]) ∧ w.grownBy w' (Value.slice (some ⟨g, 0, none⟩) l.length cap).ownBlock ∧ ndsN.owns n w' [.slice (some ⟨g, 0, none⟩) l.length cap] (ch l p.1 (wE (del (en p) (lst xs)))) := ⟨_, rfl⟩
 have HPo : Hid (∀ w', w.grownBy w' (some g) → ndsN.owns n w' [.slice (some ⟨g, 0, none⟩) l.length cap] (ch l p.1 (wE (del (en p) (lst xs)))) → post (.returned (.tuple #[])) w') := fun w' h2 h3 => by rw [hpost]; exact ⟨rfl, h2, h3⟩
 rw [← hpost]
 obtain ⟨g0, g1, -, -⟩ := hBS.two
 obtain ⟨L, hL⟩ := exa (l.length)
 obtain ⟨m, hm⟩ := exa (xs.length)
 obtain ⟨y, hy⟩ := exa (lst xs)
 obtain ⟨pi, hpi⟩ := exa (p.1)
 rw [← hL] at HND HPU HWW HPo hW g0 HWK ⊢
 rw [← hm] at HCU ⊢
 rw [← hy] at HCU HEO HPo
 rw [← hpi] at HND HWK
 clear hO hX hix hPu hbW hBS hpost hne hp hK hL hm hy hpi hng hgw hz ha ht hd hw
 go_enter Tryz.func223, Tryz.ntmps223
 go_wp2_with fail
 rw [← hW]
 clear hW
 refine HCU.mono ?_
 rintro e1 w1 ⟨⟨ca, cn, cc, rfl, hcn, hcA⟩, hb1⟩
 have HB1 : Hid (Below w.heap.size w w1) := below_any HWW.out.1 hb1
 have HCW := HWK.out w1 ca cn cc HB1.out hcn hcA
 have HBX1 : Hid (Box w1 w.heap.size 29 #[.slice (some ⟨g, 0, none⟩) L cap, .int .i64 nx]) := HWW.out.2.1.below hb1 HWW.out.2.1.lt
 obtain ⟨h0, h1, -, -⟩ := HBX1.out.two
 clear hb1 g0 g1 HCU hcn hcA
 go_wp2_with fail
 refine HCW.mono ?_
 rintro e2 w2 ⟨⟨E2, rfl⟩, hb2⟩
 have HB2 : Hid (Below w.heap.size w w2) := below_any HB1.out hb2
 have HCN := HND.out w2 HB2.out
 obtain ⟨h0', h1', -, -⟩ := (HBX1.out.below hb2 HBX1.out.lt).two
 clear hb2 h0 h1 HCW
 go_wp2_with fail
 refine HCN.mono ?_
 rintro e3 w3 ⟨rfl, hb3⟩
 have HB3 : Hid (Below w.heap.size w w3) := below_any HB2.out hb3
 have hP := HPU.out w3 HB3.out
 obtain ⟨ea, ec, rfl⟩ := hP.2.2.1.1.shape
 obtain ⟨-, -, -, c3, -, -⟩ := nv_cells hP.1
 have HAD := D.remove_any n _ (en p) y w3 hP.2.2.1.1.arg
 rw [HEO.out.2.2.1, HEO.out.2.2.2] at HAD
 obtain ⟨el, hel⟩ := exa ((en p).length)
 rw [← hel] at c3 HAD HPU
 clear hb3 hP h0' h1' HCN hel
 go_wp2_with fail
 refine HAD.mono ?_
 rintro e4 w4 ⟨⟨v', rfl, hv'⟩, hb4⟩
 obtain ⟨va, vc, rfl⟩ := hv'.shape
 have HB4 : Hid (Below w.heap.size w w4) := below_any HB3.out hb4
 have hP := HPU.out w4 HB4.out
 have hfz := hP.2.1 (k * 6 + 3)
 obtain ⟨-, -, -, d3, -, -⟩ := nv_cells hP.1
 have hfin := hP.2.2.2 3 (.slice va (del (en p) y).length vc) (wE (del (en p) y) p) _ _ (by omega) rfl ⟨hv'.weaken (by have := HWW.out.2.2; have := HB3.out.size; omega), hP.2.2.1.2⟩
 rw [set_ch HEO.out.1 HEO.out.2.1] at hfin
 have HFI : Hid (ndsN.owns n (w4.setCell ⟨g, k * 6 + 3, none⟩ (.slice va (del (en p) y).length vc)) [.slice (some ⟨g, 0, none⟩) L cap] (ch l p.1 (wE (del (en p) y))) ∧ w.grownBy (w4.setCell ⟨g, k * 6 + 3, none⟩ (.slice va (del (en p) y).length vc)) (some g)) :=
   ⟨hfin.1, (grown_below HB4.out _).trans hfin.2.2⟩
 clear hfin hP hv' hb4 HAD c3
 generalize (del (en p) y).length = vl at HFI ⊢
 go_wp2
 go_end0
 exact HPo.out _ HFI.out.2 HFI.out.1
end Go.Proofs.YtopcefhncildnaaGreatDoor
namespace Go.Proofs.YtopcefhncildnaaGreatDoor.K
open Go.RowKit
open D (En ArgE OwnE EOks EOk ev evs)
open F (Bk bkN bksN bks_atN bk_omk)
theorem copied_any (n0 : Nat) (a : Option Addr) (c : Nat) (s : St) (w : World) (hA : ndsN.lies n0 w [.slice a s.1.length c] s.1) (hS : Small s.1) :
   Calls Tryz.prog 62 #[.agg #[.slice a s.1.length c, .int .i64 s.2]] w fun e w' => (∃ v', e = .returned (.agg #[v', .int .i64 s.2]) ∧ ndsN.owns w.heap.size w' [v'] s.1) ∧ Below w.heap.size w w' := by
 obtain ⟨l, nx⟩ := s
 obtain ⟨i3, hi3, hz30, hz31, hz32⟩ := info_parts Tryz.info47
 simp only at hA hS ⊢
 obtain ⟨n, hn⟩ := exa (l.length)
 have HL : Hid (ndsN.lies n0 w [.slice a n c] l ∧ n = l.length ∧ n ≤ 4096 ∧ Small l) := ⟨by rw [hn]; exact hA, hn, by rw [hn]; exact hS.1, hS⟩
 have hn4 : n ≤ 4096 := HL.out.2.2.1
 have hl1 := run_len Tryz.underlying27 a n c
 obtain ⟨post, hpost⟩ : ∃ post : Ending → World → Prop, post = fun e w' => (∃ v', e = .returned (.agg #[v', .int .i64 nx]) ∧ ndsN.owns w.heap.size w' [v'] l) ∧ Below w.heap.size w w' := ⟨_, rfl⟩
 have HPo : Hid (∀ v' w', ndsN.owns w.heap.size w' [v'] l → Below w.heap.size w w' → post (.returned (.agg #[v', .int .i64 nx])) w') := fun v' w' h1 h2 => by rw [hpost]; exact ⟨⟨v', rfl, h1⟩, h2⟩
 rw [← hpost, ← hn]
 clear hA hS hn hpost
 go_enter Tryz.func62, Tryz.ntmps62
 go_wp2
 go_loopw [12] (fun i wr => ∃ (k : Nat) (v : Value), k ≤ n ∧ i = .int .i64 k ∧ Hid (Box wr w.heap.size 29 #[.slice a n c, .int .i64 nx] ∧ Box wr (w.heap.size + 1) 29 #[.slice none 0 0, .int .i64 0] ∧ Box wr (w.heap.size + 2) 29 #[v, .int .i64 nx] ∧
   ndsN.owns (w.heap.size + 3) wr [v] (l.take k) ∧ Below w.heap.size w wr ∧ w.heap.size + 3 ≤ wr.heap.size)) (fun i _ => n - (intOf i).toNat)
 case atStart => (
 refine ⟨0, _, Nat.zero_le _, rfl, ?_, ?_, ?_, Shape.list_nil ndN 27 Tryz.underlying27 cells27 _ _, ?_, ?_⟩
 · exact ((Box.new w 29 _).alloc _).alloc _
 · have := (Box.new (w.alloc (.cells #[.slice a n c, .int .i64 nx] 29)) 29 #[.slice none 0 0, .int .i64 0]).alloc (.cells #[.slice none 0 0, .int .i64 nx] 29)
   simpa using this
 · have := Box.new ((w.alloc (.cells #[.slice a n c, .int .i64 nx] 29)).alloc (.cells #[.slice none 0 0, .int .i64 0] 29)) 29 #[.slice none 0 0, .int .i64 nx]
   simpa using this
 · exact (((Below.refl _ w).alloc (Nat.le_refl _) _).alloc (by simp) _).alloc (by simp; omega) _
 · simp)
 case round => (
 obtain ⟨k, v, hk, rfl, HJ⟩ := hrel
 by_cases hlt : k < n
 · obtain ⟨p, hp⟩ := get_lt (l := l) (k := k) (by rw [← HL.out.2.1]; exact hlt)
   obtain ⟨b, o, e, f, hix, -, hcs, hLN⟩ := nds_atN (ndsN.below HL.out.1 HJ.out.2.2.2.2.1) k p hp
   obtain ⟨c0, c1, c2, c3, c4, c5⟩ := nv_cells hcs
   have HTK : Hid (l.take (k + 1) = l.take k ++ [p] ∧ (l.take k).length = k) := ⟨take_snoc hp, by have := HL.out.2.1; rw [List.length_take]; omega⟩
   obtain ⟨ea, ec, rfl, -, -⟩ := hLN.1.1.shape
   obtain ⟨fa, fc, hfe, -, -⟩ := Shape.list_len (S := bkN) (ht := Tryz.underlying43) (hc := F.cells43) hLN.2.1
   obtain rfl : f = _ := by simpa using hfe
   have HP : Hid (LN n0 wr p (.slice ea (en p).length ec) (.slice fa (fi p).2.length fc) ∧ Small l ∧ p ∈ l) := ⟨hLN, HL.out.2.2.2, List.mem_of_getElem? hp⟩
   obtain ⟨V, hV⟩ := exa (wr.alloc (.cells #[.int .i64 p.1, .bool (isD p), .int .i64 (lk p), .slice ea (en p).length ec, .int .i64 (fi p).1, .slice fa (fi p).2.length fc] 47))
   have HV : Hid (Below wr.heap.size wr V ∧ Box V wr.heap.size 47 #[.int .i64 p.1, .bool (isD p), .int .i64 (lk p), .slice ea (en p).length ec, .int .i64 (fi p).1, .slice fa (fi p).2.length fc]) := ⟨by rw [hV]; exact (Below.refl _ _).alloc (Nat.le_refl _) _, by rw [hV]; exact Box.new _ _ _⟩
   have HC := copiedEntries_any n0 ea ec (en p) V (HP.out.1.1.below HV.out.1) (HP.out.2.1.2 p HP.out.2.2).2.1 (HP.out.2.1.2 p HP.out.2.2).1
   have HCB : Hid (∀ W, Below wr.heap.size wr W → Calls Tryz.prog 120 #[.slice fa (fi p).2.length fc] W fun e w' => (∃ v', e = .returned v' ∧ bksN.owns W.heap.size w' [v'] (fi p).2) ∧ Below W.heap.size W w') := fun W hW => copiedBlocks_any n0 fa fc (fi p).2 W (HP.out.1.below hW).2.1 (HP.out.2.1.2 p HP.out.2.2).2.2.2 (HP.out.2.1.2 p HP.out.2.2).2.2.1
   have hki : (k : Int) < (n : Int) := by omega
   have g3 := HV.out.2.cell 3 rfl
   rw [hV] at g3
   obtain ⟨el, hel⟩ := exa ((en p).length)
   obtain ⟨fl, hfl⟩ := exa ((fi p).2.length)
   obtain ⟨pi, hpi⟩ := exa (p.1)
   obtain ⟨pd, hpd⟩ := exa (isD p)
   obtain ⟨pl, hpl⟩ := exa (lk p)
   obtain ⟨pz, hpz⟩ := exa ((fi p).1)
   have HEQ : Hid (el = (en p).length ∧ fl = (fi p).2.length ∧ (∀ e f, nv p e f = [.int .i64 pi, .bool pd, .int .i64 pl, e, .int .i64 pz, f]) ∧ NOk p) := ⟨hel, hfl, fun e f => by rw [hpi, hpd, hpl, hpz]; rfl, HP.out.1.2.2⟩
   rw [← hel] at c3 HC g3 HV hV
   rw [← hfl] at c5 HCB g3 HV hV
   rw [← hpi] at c0 g3 HV hV
   rw [← hpd] at c1 g3 HV hV
   rw [← hpl] at c2 g3 HV hV
   rw [← hpz] at c4 g3 HV hV
   clear hcs hLN hp hfe hel hfl hpi hpd hpl hpz HP
   go_wp2_with fail
   rw [← hV]
   clear hV g3 c0 c1 c2 c3 c4 c5 hix
   refine HC.mono ?_
   rintro e w2 ⟨⟨e', rfl, he'⟩, hb2⟩
   obtain ⟨ea', ec', rfl⟩ := he'.shape
   have hE0 := HEQ.out.1
   rw [← hE0] at he' ⊢
   have hB2 := HV.out.2.below hb2 HV.out.2.lt
   obtain ⟨W3, hW3⟩ := exa (w2.setCell ⟨wr.heap.size, 3, none⟩ (.slice ea' el ec'))
   have hB3 : Box W3 wr.heap.size 47 #[.int .i64 pi, .bool pd, .int .i64 pl, .slice ea' el ec', .int .i64 pz, .slice fa fl fc] := by rw [hW3]; exact hB2.set 3 _
   have hVs : wr.heap.size < V.heap.size := HV.out.2.lt
   have HB3 : Hid (Box W3 wr.heap.size 47 #[.int .i64 pi, .bool pd, .int .i64 pl, .slice ea' el ec', .int .i64 pz, .slice fa fl fc] ∧ Below wr.heap.size wr W3 ∧ OwnE 49 V.heap.size W3 (.slice ea' el ec') (en p) ∧ V.heap.size ≤ W3.heap.size ∧ wr.heap.size < V.heap.size) :=
     ⟨hB3, by rw [hW3]; exact (below_any HV.out.1 hb2).setCell (p := ⟨wr.heap.size, 3, none⟩) (Nat.le_refl _) _, by rw [hW3]; exact he'.same (.set hVs), by rw [hW3]; simpa [World.setCell] using hb2.size, hVs⟩
   have f3 := hB2.frozen 3
   have g3 := hB2.cell 3 rfl
   have g5 := hB3.cell 5 rfl
   rw [hW3] at g5
   have HC2 := HCB.out W3 HB3.out.2.1
   clear hE0 he' hB2 hB3 hVs hb2 HC HCB HV
   go_wp2_with fail
   rw [← hW3]
   clear hW3 f3 g3 g5
   refine HC2.mono ?_
   rintro e w4 ⟨⟨f', rfl, hf'⟩, hb4⟩
   obtain ⟨fa', fc', _, hfe, -, -⟩ := Shape.list_own (S := bkN) (ht := Tryz.underlying43) (hc := F.cells43) hf'
   obtain rfl : f' = _ := by simpa using hfe
   have hE0 := HEQ.out.2.1
   rw [← hE0] at hf' ⊢
   have hB4 := HB3.out.1.below hb4 HB3.out.1.lt
   obtain ⟨W5, hW5⟩ := exa (w4.setCell ⟨wr.heap.size, 5, none⟩ (.slice fa' fl fc'))
   have hB5 : Box W5 wr.heap.size 47 #[.int .i64 pi, .bool pd, .int .i64 pl, .slice ea' el ec', .int .i64 pz, .slice fa' fl fc'] := by rw [hW5]; exact hB4.set 5 _
   have hb5 : Below wr.heap.size wr W5 := by rw [hW5]; exact (below_any HB3.out.2.1 hb4).setCell (p := ⟨wr.heap.size, 5, none⟩) (Nat.le_refl _) _
   have hbw : w.heap.size + 3 ≤ wr.heap.size := HJ.out.2.2.2.2.2
   have HLO : Hid (LO (w.heap.size + 3) W5 p (.slice ea' el ec') (.slice fa' fl fc')) := by (
 refine ⟨?_, ?_, HEQ.out.2.2.2⟩
 · rw [hW5]
   exact (((HB3.out.2.2.1.below hb4).same (.set HB3.out.2.2.2.2)).weaken (by have := HB3.out.2.2.2.2; omega))
 · rw [hW5]
   exact bksN.oweaken (bksN.osame hf' (.set HB3.out.1.lt)) (by have := HB3.out.2.2.2; omega))
   obtain ⟨v', vss, hv, hown0, hEE⟩ := HJ.out.2.2.2.1
   obtain rfl : v = v' := by simpa using hv
   rw [HTK.out.2] at hown0
   obtain ⟨a', cap', rfl⟩ := own_shape hown0
   have HH5 : Hid (Below wr.heap.size wr W5 ∧ Box W5 w.heap.size 29 #[.slice a n c, .int .i64 nx] ∧ Box W5 (w.heap.size + 1) 29 #[.slice none 0 0, .int .i64 0] ∧ Box W5 (w.heap.size + 2) 29 #[.slice a' k cap', .int .i64 nx] ∧ W5.ownsRow (w.heap.size + 3) 47 6 (.slice a' k cap') k vss.flatten ∧ Each (ndN.owns (w.heap.size + 3) W5) vss (l.take k) ∧ Below w.heap.size w W5 ∧ w.heap.size + 3 ≤ W5.heap.size) :=
     ⟨hb5, HJ.out.1.below hb5 (by omega), HJ.out.2.1.below hb5 (by omega), HJ.out.2.2.1.below hb5 (by omega), own_below hown0 hb5, hEE.mono fun _ _ h => ndN.obelow h hb5, below_any HJ.out.2.2.2.2.1 hb5, by have := hb5.size; omega⟩
   have HSZ : Hid (w4.heap.size = W5.heap.size) := by rw [hW5]; show _ = _; simp [World.setCell]
   have f5 := hB4.frozen 5
   have g5 := hB4.cell 5 rfl
   obtain ⟨d0, d1, d2, d3, d4, d5⟩ := hB5.six
   obtain ⟨x0, x1, -, -⟩ := HH5.out.2.2.2.1.two
   rw [hW5] at d0 d1 d2 d3 d4 d5 x0
   clear hE0 hf' hfe hB4 hb4 hB5 hb5 hbw hown0 hEE hv HC2 HB3 x1
   go_wp2_with (at_builtin; rw [← hW5, HSZ.out]; clear hW5 d0 d1 d2 d3 d4 d5 x0 f5 g5; refine push_row (by rfl) _ _ 27 47 (by rfl) Tryz.underlying27 Tryz.info47 rfl (by omega) (w.heap.size + 3) _ vss.flatten k [.int .i64 pi, .bool pd, .int .i64 pl, .slice ea' el ec', .int .i64 pz, .slice fa' fl fc'] rfl (by simp [Value.oneCell']) W5 (by rfl) HH5.out.2.2.2.2.1 (by rfl) (by omega) (by omega) HH5.out.2.2.2.2.2.2.2 ?_; intro g cap w6 hO6 hg6 hgr6 hlt6; have hbx6 := (Box.alloc HH5.out.2.2.2.1 (.cells #[.int .i64 pi, .bool pd, .int .i64 pl, .slice ea' el ec', .int .i64 pz, .slice fa' fl fc'] 47)).grown hg6 (row_ne HH5.out.2.2.2.2.1 (by omega)); have y0 := hbx6.cell 0 rfl; have y1 := hbx6.frozen 0)
   have hkA : Same (w.heap.size + 3) W5 (W5.alloc (.cells #[.int .i64 pi, .bool pd, .int .i64 pl, .slice ea' el ec', .int .i64 pz, .slice fa' fl fc'] 47)) := .alloc _ _ _
   have hown6 : ndsN.owns (w.heap.size + 3) w6 [.slice (some ⟨g, 0, none⟩) (k + 1) cap] (l.take (k + 1)) := by (
 rw [HTK.out.1]
 refine Shape.list_push (S := ndN) (ht := Tryz.underlying27) (hc := cells27) (us := [.int .i64 pi, .bool pd, .int .i64 pl, .slice ea' el ec', .int .i64 pz, .slice fa' fl fc']) (by decide) (HH5.out.2.2.2.2.2.1.mono fun _ _ h => ndN.osame h hkA) (by rw [HTK.out.2]; exact own_same HH5.out.2.2.2.2.1 hkA) ?_ hg6 (by rw [HTK.out.2]; exact hO6)
 have := nd_omk HLO.out
 rw [HEQ.out.2.2.1] at this
 exact ndN.osame this hkA)
   have hb6 : Below w.heap.size w w6 := below_row HH5.out.2.2.2.2.2.2.1 HH5.out.2.2.2.2.1 hg6 (by omega) (by have := HH5.out.2.2.2.2.2.2.2; omega)
   have hx0 := (Box.alloc HH5.out.2.1 (.cells #[.int .i64 pi, .bool pd, .int .i64 pl, .slice ea' el ec', .int .i64 pz, .slice fa' fl fc'] 47)).grown hg6 (row_ne HH5.out.2.2.2.2.1 (by omega))
   have hx1 := (Box.alloc HH5.out.2.2.1 (.cells #[.int .i64 pi, .bool pd, .int .i64 pl, .slice ea' el ec', .int .i64 pz, .slice fa' fl fc'] 47)).grown hg6 (row_ne HH5.out.2.2.2.2.1 (by omega))
   refine ⟨⟨k + 1, _, by omega, by go_num, hx0.other (by omega), hx1.other (by omega), hbx6.set 0 _, ndsN.osame hown6 (.set (by omega)), hb6.setCell (p := ⟨w.heap.size + 2, 0, none⟩) (by simp) _, ?_⟩, by simp [intOf]; omega⟩
   have := hg6.size
   have := HH5.out.2.2.2.2.2.2.2
   simp [World.setCell] at *
   omega
 · obtain rfl : k = n := by omega
   have hT : l.take k = l := by rw [HL.out.2.1]; simp
   rw [hT] at HJ
   obtain ⟨a', cap', _, hv, -, -⟩ := Shape.list_own (S := ndN) (ht := Tryz.underlying27) (hc := cells27) HJ.out.2.2.2.1
   obtain rfl : v = _ := by simpa using hv
   have hE0 := HL.out.2.1
   rw [← hE0] at HJ
   obtain ⟨q0, q1, -, -⟩ := HJ.out.2.2.1.two
   obtain ⟨d0, d1, e0, e1⟩ := HJ.out.2.1.two
   clear hE0 hT hv
   go_wp2
   refine bodyPost_ret (v := .agg #[.slice a' k cap', .int .i64 nx]) (by simp [results, Tryz.results62, go_sem, *]) rfl (HPo.out _ _ ?_ ?_)
   · exact ndsN.oweaken (n := w.heap.size + 3) (ndsN.osame HJ.out.2.2.2.1 (.set2 (by omega))) (by omega)
   · exact below_set2 HJ.out.2.2.2.2.1 (by omega) _ _)
end Go.Proofs.YtopcefhncildnaaGreatDoor.K
