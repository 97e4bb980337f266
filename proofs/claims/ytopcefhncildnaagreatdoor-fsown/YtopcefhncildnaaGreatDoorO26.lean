/-
  Where the node of a number stands among nodes in order: the comparison, the library's search by it, fs.place and fs.node.
  What the program tells of nodes one by one: their numbers, what their kind may have, how many links they may have.
  What the program tells of each node's kind: directories and files that may be, and how many links each may have.
  The document's place and named: where the first node of a number stands, and how many entries name one; for every state.
-/
import Derived.Test.YtopcefhncildnaaGreatDoorO09
import Derived.Test.YtopcefhncildnaaGreatDoorO25
set_option maxRecDepth 100000
set_option maxHeartbeats 8000000
namespace Go.Proofs.YtopcefhncildnaaGreatDoor
open Go.RowKit
open F (cmpI)
def posn (l : List Nd) (i : Int) : Nat := l.countP fun n => decide (n.1 < i)
def hasn (l : List Nd) (i : Int) : Bool := l.any fun n => decide (n.1 = i)
theorem posn_le (l : List Nd) (i : Int) : posn l i ≤ l.length := List.countP_le_length
theorem posn_none {l : List Nd} {i : Int} (h : ∀ n ∈ l, ¬ n.1 < i) : posn l i = 0 := by
 unfold posn
 rw [List.countP_eq_zero]
 intro p hp
 simpa using h p hp
theorem posn_at {l : List Nd} (hU : Ups l) (x : Int) : ∀ {i : Nat} {p : Nd}, l[i]? = some p → (p.1 < x ↔ i < posn l x) := by
 induction l with
 | nil => intro i p h; simp at h
 | cons q r ih => (
 obtain ⟨h1, h2⟩ := List.pairwise_cons.1 hU
 intro i p h
 by_cases hq : q.1 < x
 · have e : posn (q :: r) x = posn r x + 1 := by simp [posn, hq]
   rw [e]
   cases i with
   | zero => (
 simp at h
 subst h
 simp [hq])
   | succ i => (
 simp at h
 rw [ih h2 h]
 omega)
 · have hr : ∀ p ∈ q :: r, ¬ p.1 < x := fun p hp => by
     rcases List.mem_cons.1 hp with rfl | hp
     · exact hq
     · have := h1 p hp; omega
   rw [posn_none hr]
   have := hr p (List.mem_of_getElem? h)
   omega)
theorem hasn_iff {l : List Nd} {i : Int} : hasn l i = true ↔ ∃ n ∈ l, n.1 = i := by simp [hasn]
theorem posn_mem {l : List Nd} (hU : Ups l) {k : Nat} {p : Nd} (h : l[k]? = some p) : posn l p.1 = k := by
 have h1 : ¬ k < posn l p.1 := fun c => by have := (posn_at hU p.1 h).2 c; omega
 have hlt := (List.getElem?_eq_some_iff.1 h).1
 rcases Nat.lt_or_ge (posn l p.1) k with c | c
 · obtain ⟨q, hq⟩ := get_lt (l := l) (k := posn l p.1) (by omega)
   have h2 : q.1 < p.1 := by (
 obtain ⟨a1, b1⟩ := List.getElem?_eq_some_iff.1 hq
 obtain ⟨a2, b2⟩ := List.getElem?_eq_some_iff.1 h
 have := List.pairwise_iff_getElem.1 hU _ _ a1 a2 c
 rwa [b1, b2] at this)
   have := (posn_at hU p.1 hq).1 h2
   omega
 · omega
theorem hasn_end {l : List Nd} (hU : Ups l) {i : Int} (h : posn l i = l.length) : hasn l i = false := by
 rw [Bool.eq_false_iff]
 intro hc
 obtain ⟨n, hn, rfl⟩ := hasn_iff.1 hc
 obtain ⟨k, hk⟩ := List.getElem?_of_mem hn
 have h1 := posn_mem hU hk
 have := (List.getElem?_eq_some_iff.1 hk).1
 omega
theorem hasn_at {l : List Nd} (hU : Ups l) {i : Int} {p : Nd} (hp : l[posn l i]? = some p) : hasn l i = decide (cmpI p.1 i = 0) := by
 have hge : ¬ p.1 < i := fun c => by have := (posn_at hU i hp).1 c; omega
 unfold cmpI
 rw [if_neg hge]
 by_cases h : i < p.1
 · rw [if_pos h, decide_eq_false (by decide), Bool.eq_false_iff]
   intro hc
   obtain ⟨n, hn, rfl⟩ := hasn_iff.1 hc
   obtain ⟨k, hk⟩ := List.getElem?_of_mem hn
   have h1 := posn_mem hU hk
   rw [h1, hk] at hp
   simp at hp
   rw [hp] at h
   omega
 · rw [if_neg h, hasn_iff.2 ⟨p, List.mem_of_getElem? hp, by omega⟩]
   rfl
theorem LN.shape {n : Nat} {w : World} {p : Nd} {e f : Value} (h : LN n w p e f) : ∃ ea ec fa fc, e = .slice ea (en p).length ec ∧ f = .slice fa (fi p).2.length fc := by
 obtain ⟨ea, ec, rfl, _⟩ := h.1.shape
 obtain ⟨fa, fc, hf, _⟩ := Shape.list_len (S := F.bkN) (ht := Tryz.underlying43) (hc := F.cells43) h.2.1
 exact ⟨ea, ec, fa, fc, rfl, by simpa using hf⟩
def NV (n0 : Nat) (v : Value) (l : List Nd) (V : World) : Prop := ∀ (i : Nat) (p : Nd), l[i]? = some p → ∃ b o ea el ec fa fl fc, (∀ W, (Instr.indexAt 27 v (.int .i64 i)).run Tryz.prog W = .ok (.pointer (some ⟨b, o, none⟩)) W) ∧
   (V.cell? ⟨b, o, none⟩ = some (.int .i64 p.1) ∧ V.cell? ⟨b, o + 1, none⟩ = some (.bool p.2.1) ∧ V.cell? ⟨b, o + 2, none⟩ = some (.int .i64 p.2.2.1) ∧ V.cell? ⟨b, o + 3, none⟩ = some (.slice ea el ec) ∧ V.cell? ⟨b, o + 4, none⟩ = some (.int .i64 p.2.2.2.2.1) ∧ V.cell? ⟨b, o + 5, none⟩ = some (.slice fa fl fc)) ∧ LN n0 V p (.slice ea el ec) (.slice fa fl fc) ∧ n0 ≤ b ∧ el = (en p).length ∧ fl = (fi p).2.length
theorem nds_view {n0 : Nat} {w : World} {v : Value} {l : List Nd} (h : ndsN.lies n0 w [v] l) : ∀ V, Below w.heap.size w V → NV n0 v l V := fun V hV i p hp => by
 obtain ⟨b, o, e, f, hix, hb, hc, hL⟩ := nds_atN (ndsN.below h hV) i p hp
 obtain ⟨ea, ec, fa, fc, rfl, rfl⟩ := hL.shape
 exact ⟨b, o, ea, _, ec, fa, _, fc, hix, nv_cells hc, hL, hb, rfl, rfl⟩
def NW (n0 : Nat) (v : Value) (l : List Nd) (w : World) : Prop := ∀ (i : Nat) (p : Nd), l[i]? = some p → ∃ b o ea el ec fa fl fc, (∀ W, (Instr.indexAt 27 v (.int .i64 i)).run Tryz.prog W = .ok (.pointer (some ⟨b, o, none⟩)) W) ∧ n0 ≤ b ∧ el = (en p).length ∧ fl = (fi p).2.length ∧
   ∀ V, Below w.heap.size w V → (V.cell? ⟨b, o, none⟩ = some (.int .i64 p.1) ∧ V.cell? ⟨b, o + 1, none⟩ = some (.bool p.2.1) ∧ V.cell? ⟨b, o + 2, none⟩ = some (.int .i64 p.2.2.1) ∧ V.cell? ⟨b, o + 3, none⟩ = some (.slice ea el ec) ∧ V.cell? ⟨b, o + 4, none⟩ = some (.int .i64 p.2.2.2.2.1) ∧ V.cell? ⟨b, o + 5, none⟩ = some (.slice fa fl fc)) ∧ LN n0 V p (.slice ea el ec) (.slice fa fl fc)
theorem nds_all {n0 : Nat} {w : World} {v : Value} {l : List Nd} (h : ndsN.lies n0 w [v] l) : NW n0 v l w := fun i p hp => by
 obtain ⟨b, o, e, f, hix, hb, hc, hL⟩ := nds_atN h i p hp
 obtain ⟨ea, ec, fa, fc, rfl, rfl⟩ := hL.shape
 refine ⟨b, o, ea, _, ec, fa, _, fc, hix, hb, rfl, rfl, fun V hV => ⟨nv_cells fun j u hu => ?_, hL.below hV⟩⟩
 have h1 := hc j u hu
 rw [hV.cell (p := ⟨b, o + j, none⟩) (cell_lt h1)]
 exact h1
theorem cmp_any (a : Int) (d : Bool) (k : Int) (e : Value) (z : Int) (f : Value) (i : Int) (w : World) :
   Calls Tryz.prog 262 #[.agg #[.int .i64 a, .bool d, .int .i64 k, e, .int .i64 z, f], .int .i64 i] w fun r w' => r = .returned (.int .i64 (cmpI a i)) ∧ Below w.heap.size w w' := by
 have HC := fun W' => F.compare_any a i W'
 generalize cmpI a i = r at HC ⊢
 go_enter Tryz.func262, Tryz.ntmps262
 go_wp2_with (go_at_call 156; refine (HC _).mono ?_; rintro e w' ⟨rfl, rfl⟩)
 go_ret
 exact ⟨rfl, (Below.refl _ w).alloc (Nat.le_refl _) _⟩
theorem search_any (n0 : Nat) (v : Value) (l : List Nd) (hU : Ups l) (x : Int) (w : World) (hA : ndsN.lies n0 w [v] l) (hn : l.length ≤ 100000) :
   Calls Tryz.prog 208 #[v, .int .i64 x, .func (.func 262) #[] #[]] w fun e w' => e = .returned (.tuple #[.int .i64 (posn l x), .bool (hasn l x)]) ∧ Below w.heap.size w w' := by
 have HV : Hid (∀ V, Below w.heap.size w V → NV n0 v l V) := nds_view hA
 have HU : Hid (∀ {i : Nat} {p : Nd}, l[i]? = some p → (p.1 < x ↔ i < posn l x)) := posn_at hU x
 have HH : Hid (Ups l) := hU
 have hpl := posn_le l x
 obtain ⟨a, cp, hv, _⟩ := Shape.list_len (S := ndN) (ht := Tryz.underlying27) (hc := cells27) hA
 obtain rfl : v = .slice a l.length cp := by simpa using hv
 obtain ⟨n, hnn⟩ := exa (l.length)
 have hl1 := run_len Tryz.underlying27 a l.length cp
 obtain ⟨c, hc⟩ := exa (posn l x)
 have HN : Hid (n = l.length ∧ c = posn l x) := ⟨hnn, hc⟩
 obtain ⟨h9, hh9⟩ := exa (hasn l x)
 have H9 : Hid (h9 = hasn l x) := hh9
 rw [← hh9]
 rw [← hnn] at hn hpl hl1 HV ⊢
 rw [← hc] at hpl HU ⊢
 clear hA hU hnn hc hv hh9
 go_enter Tryz.func208, Tryz.ntmps208
 go_wp2
 go_loopg [9, 10] n (fun kx s5 s6 wr => ∃ (lo hi : Nat), s5 = .int .i64 lo ∧ s6 = .int .i64 hi ∧ lo ≤ c ∧ c ≤ hi ∧ hi ≤ n ∧ hi - lo ≤ kx ∧ Below w.heap.size w wr)
 case atStart => exact ⟨0, n, rfl, rfl, Nat.zero_le _, hpl, Nat.le_refl _, by omega, Below.refl _ _⟩
 case round => (
 obtain ⟨lo, hi, rfl, rfl, h1, h2, h3, h4, hB⟩ := hrel
 have HB : Hid (Below w.heap.size w wr) := hB
 clear hB
 by_cases hlt : lo < hi
 · obtain ⟨m, hm⟩ := exa ((lo + hi) / 2)
   obtain ⟨p, hp⟩ := get_lt (l := l) (k := m) (by rw [← HN.out.1]; omega)
   obtain ⟨b, o, ea, el, ec, fa, fl, fc, hix, ⟨c0, c1, c2, c3, c4, c5⟩, -⟩ := HV.out wr HB.out m p hp
   have hiff := HU.out hp
   rw [show (m : Int) = ((lo : Int) + (hi : Int)) / 2 by omega] at hix
   obtain ⟨p1, p2, p3, p4, p5, p6⟩ := p
   simp only at c0 c1 c2 c3 c4 c5 hiff
   have hcall := cmp_any p1 p2 p3 (.slice ea el ec) p5 (.slice fa fl fc) x wr
   by_cases hb : p1 < x
   · have hlt2 : m < c := hiff.1 hb
     rw [show cmpI p1 x = -1 from if_pos hb] at hcall
     clear hb hiff hp HU
     go_wp2_with (go_at_call 262; refine hcall.mono ?_; rintro e w' ⟨rfl, hb1⟩)
     go_roundg (hi - (m + 1))
     case measure => omega
     case rel => exact ⟨m + 1, hi, by rw [show ((lo : Int) + (hi : Int)) / 2 + 1 = ((m + 1 : Nat) : Int) by omega], rfl, hlt2, h2, h3, Nat.le_refl _, below_any HB.out hb1⟩
   · have hge : c ≤ m := by
       rcases Nat.lt_or_ge m c with h | h
       · exact absurd (hiff.2 h) hb
       · exact h
     have hz : ¬ cmpI p1 x < 0 := by unfold cmpI; rw [if_neg hb]; split <;> omega
     generalize cmpI p1 x = r at hcall hz
     clear hb hiff hp HU
     go_wp2_with (go_at_call 262; refine hcall.mono ?_; rintro e w' ⟨rfl, hb1⟩)
     go_roundg (m - lo)
     case measure => omega
     case rel => exact ⟨lo, m, rfl, by rw [show ((lo : Int) + (hi : Int)) / 2 = (m : Int) by omega], h1, hge, by omega, Nat.le_refl _, below_any HB.out hb1⟩
 · obtain rfl : lo = c := by omega
   by_cases hend : lo = n
   · have h0 : h9 = false := by rw [H9.out]; exact hasn_end HH.out (by rw [← HN.out.2, ← HN.out.1]; exact hend)
     subst h0
     subst hend
     go_wp2
     go_ret2
     exact ⟨rfl, HB.out⟩
   · obtain ⟨p, hp⟩ := get_lt (l := l) (k := lo) (by rw [← HN.out.1]; omega)
     obtain ⟨b, o, ea, el, ec, fa, fl, fc, hix, ⟨c0, c1, c2, c3, c4, c5⟩, -⟩ := HV.out wr HB.out lo p hp
     have h0 : h9 = decide (cmpI p.1 x = 0) := by rw [H9.out]; exact hasn_at HH.out (by rw [← HN.out.2]; exact hp)
     obtain ⟨p1, p2, p3, p4, p5, p6⟩ := p
     simp only at c0 c1 c2 c3 c4 c5 h0
     have hcall := cmp_any p1 p2 p3 (.slice ea el ec) p5 (.slice fa fl fc) x wr
     have hlo : (lo : Int) < (n : Int) := by omega
     generalize cmpI p1 x = r at hcall h0
     subst h0
     clear hp HU
     go_wp2_with (go_at_call 262; refine hcall.mono ?_; rintro e w' ⟨rfl, hb1⟩)
     go_ret2
     exact ⟨rfl, below_any HB.out hb1⟩)
theorem place_any (n0 : Nat) (v : Value) (l : List Nd) (hU : Ups l) (x : Int) (w : World) (hA : ndsN.lies n0 w [v] l) (hn : l.length ≤ 100000) :
   Calls Tryz.prog 204 #[v, .int .i64 x] w fun e w' => e = .returned (.tuple #[.int .i64 (posn l x), .bool (hasn l x)]) ∧ Below w.heap.size w w' := by
 have HC := search_any n0 v l hU x w hA hn
 clear hA
 go_enter Tryz.func204, Tryz.ntmps204
 go_wp2_with (go_at_call 208; refine HC.mono ?_; rintro e w' ⟨rfl, hb1⟩)
 go_ret2
 exact ⟨rfl, hb1⟩
theorem node_any (n0 : Nat) (v : Value) (nx : Int) (l : List Nd) (hU : Ups l) (k : Nat) (p : Nd) (hp : l[k]? = some p) (b o : Nat) (w : World) (hA : ndsN.lies n0 w [v] l) (hn : l.length ≤ 100000)
   (hix : ∀ W, (Instr.indexAt 27 v (.int .i64 k)).run Tryz.prog W = .ok (.pointer (some ⟨b, o, none⟩)) W) :
   Calls Tryz.prog 159 #[.agg #[v, .int .i64 nx], .int .i64 p.1] w fun e w' => e = .returned (.pointer (some ⟨b, o, none⟩)) ∧ Below w.heap.size w w' := by
 obtain ⟨W, hW⟩ := exa (w.alloc (.cells #[v, .int .i64 nx] 29))
 have hB0 : Below w.heap.size w W := by rw [hW]; exact (Below.refl _ w).alloc (Nat.le_refl _) _
 have HC := place_any n0 v l hU p.1 W (ndsN.below hA hB0) hn
 rw [posn_mem hU hp] at HC
 generalize hasn l p.1 = hb at HC
 have HX : Hid (Box W w.heap.size 29 #[v, .int .i64 nx] ∧ Below w.heap.size w W) := ⟨by rw [hW]; exact Box.new _ _ _, hB0⟩
 obtain ⟨i, hi⟩ := exa (p.1)
 rw [← hi] at HC ⊢
 clear hA hB0 hU hp hi
 go_enter Tryz.func159, Tryz.ntmps159
 go_wp2_with fail
 rw [← hW]
 clear hW
 refine HC.mono ?_
 rintro e w1 ⟨rfl, hb1⟩
 have hX1 := HX.out.1.below hb1 HX.out.1.lt
 obtain ⟨g0, g1, _, _⟩ := hX1.two
 clear hX1
 go_wp2
 go_ret
 exact ⟨rfl, below_any HX.out.2 hb1⟩
end Go.Proofs.YtopcefhncildnaaGreatDoor
namespace Go.Proofs.YtopcefhncildnaaGreatDoor
open Go.RowKit
open D (En ArgE Chk)
open F (Fl chk)
theorem Box.six {w : World} {B : Nat} {t : TypeId} {a b c d e f : Value} (h : Box w B t #[a, b, c, d, e, f]) : w.cell? ⟨B, 0, none⟩ = some a ∧ w.cell? ⟨B, 1, none⟩ = some b ∧ w.cell? ⟨B, 2, none⟩ = some c ∧ w.cell? ⟨B, 3, none⟩ = some d ∧ w.cell? ⟨B, 4, none⟩ = some e ∧ w.cell? ⟨B, 5, none⟩ = some f := ⟨h.cell 0 rfl, h.cell 1 rfl, h.cell 2 rfl, h.cell 3 rfl, h.cell 4 rfl, h.cell 5 rfl⟩
def lastI (l : List Nd) : Int := match l.getLast? with | some p => p.1 | none => 0
theorem lastI_nil : lastI [] = 0 := rfl
theorem lastI_snoc (l : List Nd) (p : Nd) : lastI (l ++ [p]) = p.1 := by simp [lastI]
theorem lastI_take {l : List Nd} {k : Nat} {p : Nd} (hp : l[k]? = some p) : lastI (l.take (k + 1)) = p.1 := by rw [take_snoc hp, lastI_snoc]
theorem lastI_le {l : List Nd} (h : Ups l) {q : Nd} (hq : q ∈ l) : q.1 ≤ lastI l := by
 rcases List.eq_nil_or_concat l with rfl | ⟨m, p, rfl⟩
 · cases hq
 · simp only [List.concat_eq_append] at h hq ⊢
   rw [lastI_snoc]
   rcases List.mem_append.1 hq with hq | hq
   · exact Int.le_of_lt ((List.pairwise_append.1 h).2.2 q hq p (by simp))
   · rw [List.mem_singleton.1 hq]; exact Int.le_refl _
def Nums (nx : Int) (l : List Nd) : Prop := Ups l ∧ ∀ n ∈ l, 1 ≤ n.1 ∧ n.1 < nx
theorem nums_nil (nx : Int) : Nums nx [] := ⟨List.Pairwise.nil, fun _ h => by cases h⟩
theorem nums_snoc {nx : Int} {l : List Nd} {p : Nd} (h : Nums nx l) (h1 : lastI l < p.1) (h2 : p.1 < nx) (h0 : 0 ≤ lastI l) : Nums nx (l ++ [p]) := by
 refine ⟨List.pairwise_append.2 ⟨h.1, List.pairwise_singleton _ _, fun a ha b hb => ?_⟩, fun n hn => ?_⟩
 · rw [List.mem_singleton.1 hb]
   have := lastI_le h.1 ha
   omega
 · rcases List.mem_append.1 hn with hn | hn
   · exact h.2 n hn
   · rw [List.mem_singleton.1 hn]; omega
theorem nums_last {nx : Int} {l : List Nd} {k : Nat} {p : Nd} (h : Nums nx l) (hp : l[k]? = some p) : lastI (l.take k) < p.1 := by
 have h1 : Ups (l.take (k + 1)) := List.Pairwise.sublist (List.take_sublist ..) h.1
 rw [take_snoc hp] at h1
 rcases List.eq_nil_or_concat (l.take k) with e | ⟨m, q, e⟩
 · rw [e, lastI_nil]
   have := (h.2 p (List.mem_of_getElem? hp)).1
   omega
 · rw [e, List.concat_eq_append] at h1 ⊢
   rw [lastI_snoc]
   exact (List.pairwise_append.1 h1).2.2 q (by simp) p (by simp)
theorem lastI_pos {nx : Int} {l : List Nd} (h : Nums nx l) : 0 ≤ lastI l := by
 rcases List.eq_nil_or_concat l with rfl | ⟨m, p, rfl⟩
 · exact Int.le_refl _
 · simp only [List.concat_eq_append] at h ⊢
   rw [lastI_snoc]
   have := (h.2 p (by simp)).1
   omega
def Says (e : Ending) (P : Prop) : Prop := ∃ t, e = .returned (.bool t) ∧ (t = true ↔ P)
theorem says_no {P : Prop} (h : ¬ P) : Says (.returned (.bool false)) P := ⟨false, rfl, ⟨fun c => (by cases c), fun c => absurd c h⟩⟩
theorem says_yes {P : Prop} (h : P) : Says (.returned (.bool true)) P := ⟨true, rfl, ⟨fun _ => h, fun _ => rfl⟩⟩
theorem says_is {P : Prop} {t : Bool} (h : t = true ↔ P) : Says (.returned (.bool t)) P := ⟨t, rfl, h⟩
def NumsOk (s : St) : Prop := (2 ≤ s.2 ∧ s.2 ≤ 2147483647) ∧ s.1.length ≤ 128 ∧ Nums s.2 s.1 ∧ ∃ p, s.1[0]? = some p ∧ p.1 = 1 ∧ isD p = true
theorem numbers_any (n0 : Nat) (a : Option Addr) (c : Nat) (s : St) (w : World) (hA : ndsN.lies n0 w [.slice a s.1.length c] s.1) :
   Calls Tryz.prog 140 #[.agg #[.slice a s.1.length c, .int .i64 s.2]] w fun e w' => Says e (NumsOk s) ∧ Below w.heap.size w w' := by
 obtain ⟨l, nx⟩ := s
 simp only at hA ⊢
 have HV : Hid (∀ V, Below w.heap.size w V → NV n0 (.slice a l.length c) l V) := nds_view hA
 obtain ⟨n, hn⟩ := exa (l.length)
 have hl1 := run_len Tryz.underlying27 a l.length c
 rw [← hn] at hl1 HV ⊢
 have HN : Hid (n = l.length) := hn
 obtain ⟨W, hW⟩ := exa (w.alloc (.cells #[.slice a n c, .int .i64 nx] 29))
 have HW : Hid (Below w.heap.size w W ∧ Box W w.heap.size 29 #[.slice a n c, .int .i64 nx]) := ⟨by rw [hW]; exact (Below.refl _ w).alloc (Nat.le_refl _) _, by rw [hW]; exact Box.new _ _ _⟩
 obtain ⟨g0, g1, _, _⟩ := HW.out.2.two
 rw [hW] at g0 g1
 clear hA hn
 by_cases h1 : nx ≤ 1
 · have HF : Hid (¬ NumsOk (l, nx)) := fun h => by have := h.1.1; simp only at this; omega
   go_enter Tryz.func140, Tryz.ntmps140
   go_wp2
   rw [← hW]
   go_ret
   exact ⟨says_no HF.out, HW.out.1⟩
 by_cases h2 : 2147483647 < nx
 · have HF : Hid (¬ NumsOk (l, nx)) := fun h => by have := h.1.2; simp only at this; omega
   go_enter Tryz.func140, Tryz.ntmps140
   go_wp2
   rw [← hW]
   go_ret
   exact ⟨says_no HF.out, HW.out.1⟩
 by_cases h3 : n = 0
 · have HF : Hid (¬ NumsOk (l, nx)) := fun h => by
     obtain ⟨p, hp, _⟩ := h.2.2.2
     have := (List.getElem?_eq_some_iff.1 hp).1
     have := HN.out
     simp only at *
     omega
   subst h3
   go_enter Tryz.func140, Tryz.ntmps140
   go_wp2
   rw [← hW]
   go_ret
   exact ⟨says_no HF.out, HW.out.1⟩
 have h3i : ¬ (n : Int) = 0 := by omega
 by_cases h4 : 128 < n
 · have HF : Hid (¬ NumsOk (l, nx)) := fun h => by
     have := h.2.1
     have := HN.out
     simp only at *
     omega
   have h4i : (128 : Int) < (n : Int) := by omega
   go_enter Tryz.func140, Tryz.ntmps140
   go_wp2
   rw [← hW]
   go_ret
   exact ⟨says_no HF.out, HW.out.1⟩
 have h4i : ¬ (128 : Int) < (n : Int) := by omega
 go_enter Tryz.func140, Tryz.ntmps140
 go_wp2
 rw [← hW]
 clear hW g0 g1
 go_loopw [3, 29] (fun s i wr => ∃ (k : Nat), k ≤ n ∧ i = .int .i64 k ∧ s = .int .i64 (lastI (l.take k)) ∧ Nums nx (l.take k) ∧ Below W.heap.size W wr) (fun _ i _ => n - (intOf i).toNat)
 case atStart => exact ⟨0, Nat.zero_le _, rfl, rfl, nums_nil nx, Below.refl _ _⟩
 case round => (
 obtain ⟨k, hk, rfl, rfl, hF, hbel⟩ := hrel
 obtain ⟨g0, g1, _, _⟩ := (HW.out.2.below hbel HW.out.2.lt).two
 by_cases hlt : k < n
 · obtain ⟨p, hp⟩ := get_lt (l := l) (k := k) (by rw [← HN.out]; exact hlt)
   obtain ⟨b, o, ea, el, ec, fa, fl, fc, hix, ⟨c0, c1, c2, c3, c4, c5⟩, -⟩ := HV.out wr (below_any HW.out.1 hbel) k p hp
   have hki : (k : Int) < (n : Int) := by omega
   obtain ⟨p1, p2, p3, p4, p5, p6⟩ := p
   simp only at c0 c1 c2 c3 c4 c5
   have HP : Hid (l[k]? = some (p1, p2, p3, p4, p5, p6) ∧ Nums nx (l.take k) ∧ Below W.heap.size W wr) := ⟨hp, hF, hbel⟩
   obtain ⟨ls, hls⟩ := exa (lastI (l.take k))
   rw [← hls]
   have HLS : Hid (ls = lastI (l.take k)) := hls
   obtain ⟨V, hV⟩ := exa (wr.alloc (.cells #[.int .i64 p1, .bool p2, .int .i64 p3, .slice ea el ec, .int .i64 p5, .slice fa fl fc] 47))
   have HVV : Hid (Below W.heap.size W V) := by show Below _ _ _; rw [hV]; exact below_any hbel ((Below.refl _ wr).alloc (Nat.le_refl _) _)
   clear hp hF hbel hls
   by_cases ha : p1 ≤ ls
   · have HB : Hid (¬ NumsOk (l, nx)) := fun h => by
       have := nums_last h.2.2.1 HP.out.1
       rw [← HLS.out] at this
       simp only at this
       omega
     go_wp2
     rw [← hV]
     go_ret
     exact ⟨says_no HB.out, below_any HW.out.1 HVV.out⟩
   by_cases hb : nx ≤ p1
   · have HB : Hid (¬ NumsOk (l, nx)) := fun h => by
       have := (h.2.2.1.2 _ (List.mem_of_getElem? HP.out.1)).2
       simp only at this
       omega
     have g1' : V.cell? ⟨w.heap.size, 1, none⟩ = some (.int .i64 nx) := by (
 obtain ⟨_, q1, _⟩ := (HW.out.2.below HVV.out HW.out.2.lt).two
 exact q1)
     rw [hV] at g1'
     go_wp2
     rw [← hV]
     go_ret
     exact ⟨says_no HB.out, below_any HW.out.1 HVV.out⟩
   have HF : Hid (Nums nx (l.take (k + 1)) ∧ lastI (l.take (k + 1)) = p1) := ⟨by rw [take_snoc HP.out.1]; exact nums_snoc HP.out.2.1 (by rw [← HLS.out]; simp only; omega) (by simp only; omega) (lastI_pos HP.out.2.1), lastI_take HP.out.1⟩
   have g1' : V.cell? ⟨w.heap.size, 1, none⟩ = some (.int .i64 nx) := by (
 obtain ⟨_, q1, _⟩ := (HW.out.2.below HVV.out HW.out.2.lt).two
 exact q1)
   rw [hV] at g1'
   go_wp2
   rw [← hV]
   go_roundw
   case rel => exact ⟨k + 1, by omega, by go_num, by rw [HF.out.2], HF.out.1, HVV.out⟩
   case measure => simp [intOf]; omega
 · obtain rfl : k = n := by omega
   rw [List.take_of_length_le (by rw [HN.out]; exact Nat.le_refl _)] at hF
   obtain ⟨p, hp⟩ := get_lt (l := l) (k := 0) (by rw [← HN.out]; omega)
   obtain ⟨b, o, ea, el, ec, fa, fl, fc, hix, ⟨c0, c1, c2, c3, c4, c5⟩, -⟩ := HV.out wr (below_any HW.out.1 hbel) 0 p hp
   have hix : ∀ W, (Instr.indexAt 27 (.slice a k c) (.int .i64 0)).run Tryz.prog W = .ok (.pointer (some ⟨b, o, none⟩)) W := hix
   have HP : Hid (l[0]? = some p ∧ Nums nx l ∧ Below W.heap.size W wr) := ⟨hp, hF, hbel⟩
   obtain ⟨p1, p2, p3, p4, p5, p6⟩ := p
   simp only at c0 c1
   clear hp hF hbel c2 c3 c4 c5
   by_cases ha : p1 = 1
   · subst ha
     have HB : Hid (p2 = true ↔ NumsOk (l, nx)) := by (
 refine ⟨fun h => ⟨by simp only; omega, by have := HN.out; simp only; omega, HP.out.2.1, _, HP.out.1, rfl, h⟩, fun h => ?_⟩
 obtain ⟨q, hq, _, hd⟩ := h.2.2.2
 have := HP.out.1.symm.trans hq
 simp only [Option.some.injEq] at this
 rw [← this] at hd
 exact hd)
     go_wp2
     go_ret
     exact ⟨says_is HB.out, below_any HW.out.1 HP.out.2.2⟩
   · have HB : Hid (¬ NumsOk (l, nx)) := fun h => by
       obtain ⟨q, hq, hd, _⟩ := h.2.2.2
       have := HP.out.1.symm.trans hq
       simp only [Option.some.injEq] at this
       rw [← this] at hd
       exact ha hd
     go_wp2
     go_ret
     exact ⟨says_no HB.out, below_any HW.out.1 HP.out.2.2⟩)
end Go.Proofs.YtopcefhncildnaaGreatDoor
namespace Go.Proofs.YtopcefhncildnaaGreatDoor
open Go.RowKit
open D (En ArgE Chk)
open F (Fl chk)
theorem mayBeDir_any (n0 : Nat) (p1 : Int) (p2 : Bool) (p3 : Int) (p4 : List En) (p5 : Int) (p6 : List F.Bk) (ea : Option Addr) (el ec : Nat) (fa : Option Addr) (fl fc : Nat) (w : World) (hL : LN n0 w (p1, p2, p3, p4, p5, p6) (.slice ea el ec) (.slice fa fl fc)) (hfl : fl = p6.length) :
   Calls Tryz.prog 202 #[.agg #[.int .i64 p1, .bool p2, .int .i64 p3, .slice ea el ec, .int .i64 p5, .slice fa fl fc]] w fun e w' => e = .returned (.bool (decide (Chk p4 ∧ ((p5, p6) : Fl) = (0, [])))) ∧ Below w.heap.size w w' := by
 obtain ⟨W, hW⟩ := exa (w.alloc (.cells #[.int .i64 p1, .bool p2, .int .i64 p3, .slice ea el ec, .int .i64 p5, .slice fa fl fc] 47))
 have HW : Hid (Below w.heap.size w W ∧ Box W w.heap.size 47 #[.int .i64 p1, .bool p2, .int .i64 p3, .slice ea el ec, .int .i64 p5, .slice fa fl fc]) := ⟨by rw [hW]; exact (Below.refl _ w).alloc (Nat.le_refl _) _, by rw [hW]; exact Box.new _ _ _⟩
 have HC := D.check_any n0 _ p4 W (hL.1.below HW.out.1)
 have hl1 := run_len Tryz.underlying43 fa fl fc
 have hfl0 : fl = 0 ↔ p6 = [] := by rw [hfl]; exact List.length_eq_zero_iff
 clear hL hfl
 by_cases hck : Chk p4
 · rw [D.cerr_ok hck] at HC
   by_cases h5 : p5 = 0
   · subst h5
     by_cases h6 : p6 = []
     · have hz := hfl0.2 h6
       subst hz
       rw [decide_eq_true (⟨hck, by rw [h6]⟩ : Chk p4 ∧ ((0, p6) : Fl) = (0, []))]
       clear hck hfl0 h6
       go_enter Tryz.func202, Tryz.ntmps202
       go_wp2_with fail
       rw [← hW]
       clear hW
       refine HC.mono ?_
       rintro e w1 ⟨rfl, hb1⟩
       obtain ⟨g0, g1, g2, g3, g4, g5⟩ := (HW.out.2.below hb1 HW.out.2.lt).six
       go_wp2
       go_ret
       exact ⟨rfl, below_any HW.out.1 hb1⟩
     · have hz : ¬ (fl : Int) = 0 := fun c => h6 (hfl0.1 (by omega))
       have hzb : ((fl : Int) == 0) = false := by simpa using hz
       rw [decide_eq_false (fun c : Chk p4 ∧ ((0, p6) : Fl) = (0, []) => h6 (Prod.mk.inj c.2).2)]
       clear hck hfl0 h6
       go_enter Tryz.func202, Tryz.ntmps202
       go_wp2_with fail
       rw [← hW]
       clear hW
       refine HC.mono ?_
       rintro e w1 ⟨rfl, hb1⟩
       obtain ⟨g0, g1, g2, g3, g4, g5⟩ := (HW.out.2.below hb1 HW.out.2.lt).six
       go_wp2
       go_ret
       exact ⟨by simp, below_any HW.out.1 hb1⟩
   · rw [decide_eq_false (fun c : Chk p4 ∧ ((p5, p6) : Fl) = (0, []) => h5 (Prod.mk.inj c.2).1)]
     clear hck hfl0
     go_enter Tryz.func202, Tryz.ntmps202
     go_wp2_with fail
     rw [← hW]
     clear hW
     refine HC.mono ?_
     rintro e w1 ⟨rfl, hb1⟩
     obtain ⟨g0, g1, g2, g3, g4, g5⟩ := (HW.out.2.below hb1 HW.out.2.lt).six
     go_wp2
     go_ret
     exact ⟨rfl, below_any HW.out.1 hb1⟩
 · rw [D.cerr_bad hck] at HC
   rw [decide_eq_false (fun c : Chk p4 ∧ ((p5, p6) : Fl) = (0, []) => hck c.1)]
   clear hck hfl0
   go_enter Tryz.func202, Tryz.ntmps202
   go_wp2_with fail
   rw [← hW]
   clear hW
   refine HC.mono ?_
   rintro e w1 ⟨rfl, hb1⟩
   go_wp2
   go_ret
   exact ⟨rfl, below_any HW.out.1 hb1⟩
theorem mayBeFile_any (n0 : Nat) (p1 : Int) (p2 : Bool) (p3 : Int) (p4 : List En) (p5 : Int) (p6 : List F.Bk) (ea : Option Addr) (el ec : Nat) (fa : Option Addr) (fl fc : Nat) (w : World) (hL : LN n0 w (p1, p2, p3, p4, p5, p6) (.slice ea el ec) (.slice fa fl fc)) (hel : el = p4.length) :
   Calls Tryz.prog 203 #[.agg #[.int .i64 p1, .bool p2, .int .i64 p3, .slice ea el ec, .int .i64 p5, .slice fa fl fc]] w fun e w' => e = .returned (.bool (decide (p4 = [] ∧ chk (p5, p6) = true))) ∧ Below w.heap.size w w' := by
 obtain ⟨W, hW⟩ := exa (w.alloc (.cells #[.int .i64 p1, .bool p2, .int .i64 p3, .slice ea el ec, .int .i64 p5, .slice fa fl fc] 47))
 have HW : Hid (Below w.heap.size w W ∧ Box W w.heap.size 47 #[.int .i64 p1, .bool p2, .int .i64 p3, .slice ea el ec, .int .i64 p5, .slice fa fl fc]) := ⟨by rw [hW]; exact (Below.refl _ w).alloc (Nat.le_refl _) _, by rw [hW]; exact Box.new _ _ _⟩
 have HC := F.check_any n0 _ (p5, p6) W (hL.below HW.out.1).file
 have hl1 := run_len Tryz.underlying42 ea el ec
 have hel0 : el = 0 ↔ p4 = [] := by rw [hel]; exact List.length_eq_zero_iff
 clear hL hel
 by_cases h4 : p4 = []
 · have hz := hel0.2 h4
   subst hz
   have hd : decide (p4 = [] ∧ chk (p5, p6) = true) = chk (p5, p6) := by
     cases chk (p5, p6) <;> simp [h4]
   rw [hd]
   unfold F.cerr at HC
   cases hck : chk (p5, p6)
   · rw [if_neg (by rw [hck]; decide)] at HC
     clear hck hel0 h4 hd
     go_enter Tryz.func203, Tryz.ntmps203
     go_wp2_with fail
     rw [← hW]
     clear hW
     refine HC.mono ?_
     rintro e w1 ⟨rfl, hb1⟩
     go_wp2
     go_ret
     exact ⟨rfl, below_any HW.out.1 hb1⟩
   · rw [if_pos hck] at HC
     clear hck hel0 h4 hd
     go_enter Tryz.func203, Tryz.ntmps203
     go_wp2_with fail
     rw [← hW]
     clear hW
     refine HC.mono ?_
     rintro e w1 ⟨rfl, hb1⟩
     go_wp2
     go_ret
     exact ⟨rfl, below_any HW.out.1 hb1⟩
 · have hz : ¬ (el : Int) = 0 := fun c => h4 (hel0.1 (by omega))
   rw [decide_eq_false (fun c : p4 = [] ∧ chk (p5, p6) = true => h4 c.1)]
   clear hel0 h4 HC
   go_enter Tryz.func203, Tryz.ntmps203
   go_wp2
   rw [← hW]
   go_ret
   exact ⟨rfl, HW.out.1⟩
def least (p : Nd) : Int := if p.1 = 1 then 0 else 1
def most (p : Nd) : Int := if p.1 = 1 then 0 else if isD p = true then 1 else 16
theorem mayLink_any (p1 : Int) (p2 : Bool) (p3 : Int) (p4 : List En) (p5 : Int) (p6 : List F.Bk) (ea : Option Addr) (el ec : Nat) (fa : Option Addr) (fl fc : Nat) (w : World) :
   Calls Tryz.prog 205 #[.agg #[.int .i64 p1, .bool p2, .int .i64 p3, .slice ea el ec, .int .i64 p5, .slice fa fl fc]] w fun e w' => e = .returned (.tuple #[.int .i64 (least (p1, p2, p3, p4, p5, p6)), .int .i64 (most (p1, p2, p3, p4, p5, p6))]) ∧ Below w.heap.size w w' := by
 have HB := (Below.refl w.heap.size w).alloc (Nat.le_refl _) (.cells #[.int .i64 p1, .bool p2, .int .i64 p3, .slice ea el ec, .int .i64 p5, .slice fa fl fc] 47)
 by_cases h1 : p1 = 1
 · rw [show least (p1, p2, p3, p4, p5, p6) = 0 from if_pos h1, show most (p1, p2, p3, p4, p5, p6) = 0 from if_pos h1]
   subst h1
   go_enter Tryz.func205, Tryz.ntmps205
   go_wp2
   go_ret2
   exact ⟨rfl, HB⟩
 · rw [show least (p1, p2, p3, p4, p5, p6) = 1 from if_neg h1]
   cases p2
   · rw [show most (p1, false, p3, p4, p5, p6) = 16 by unfold most; rw [if_neg h1]; rfl]
     go_enter Tryz.func205, Tryz.ntmps205
     go_wp2
     go_ret2
     exact ⟨rfl, HB⟩
   · rw [show most (p1, true, p3, p4, p5, p6) = 1 by unfold most; rw [if_neg h1]; rfl]
     go_enter Tryz.func205, Tryz.ntmps205
     go_wp2
     go_ret2
     exact ⟨rfl, HB⟩
def NodeOk (p : Nd) : Prop := (isD p = true → Chk (en p) ∧ fi p = (0, [])) ∧ (isD p = false → en p = [] ∧ chk (fi p) = true)
theorem nodes_any (n0 : Nat) (a : Option Addr) (c : Nat) (l : List Nd) (nx : Int) (w : World) (hA : ndsN.lies n0 w [.slice a l.length c] l) (hlen : l.length ≤ 100000) :
   Calls Tryz.prog 141 #[.agg #[.slice a l.length c, .int .i64 nx]] w fun e w' => Says e (∀ p ∈ l, NodeOk p) ∧ Below w.heap.size w w' := by
 have HV : Hid (∀ V, Below w.heap.size w V → NV n0 (.slice a l.length c) l V) := nds_view hA
 obtain ⟨n, hn⟩ := exa (l.length)
 have hl1 := run_len Tryz.underlying27 a l.length c
 rw [← hn] at hl1 HV hlen ⊢
 have HN : Hid (n = l.length) := hn
 obtain ⟨W, hW⟩ := exa (w.alloc (.cells #[.slice a n c, .int .i64 nx] 29))
 have HW : Hid (Below w.heap.size w W ∧ Box W w.heap.size 29 #[.slice a n c, .int .i64 nx]) := ⟨by rw [hW]; exact (Below.refl _ w).alloc (Nat.le_refl _) _, by rw [hW]; exact Box.new _ _ _⟩
 obtain ⟨g0, g1, _, _⟩ := HW.out.2.two
 rw [hW] at g0 g1
 clear hA hn
 go_enter Tryz.func141, Tryz.ntmps141
 go_wp2
 rw [← hW]
 clear hW g0 g1
 go_loopw [8] (fun i wr => ∃ (k : Nat), k ≤ n ∧ i = .int .i64 k ∧ Hid (∀ p ∈ l.take k, NodeOk p) ∧ Below W.heap.size W wr) (fun i _ => n - (intOf i).toNat)
 case atStart => exact ⟨0, Nat.zero_le _, rfl, fun _ h => (by simp at h), Below.refl _ _⟩
 case round => (
 obtain ⟨k, hk, rfl, HF, hbel⟩ := hrel
 by_cases hlt : k < n
 · obtain ⟨p, hp⟩ := get_lt (l := l) (k := k) (by rw [← HN.out]; exact hlt)
   obtain ⟨b, o, ea, el, ec, fa, fl, fc, hix, ⟨c0, c1, c2, c3, c4, c5⟩, hL, _, hel, hfl⟩ := HV.out wr (below_any HW.out.1 hbel) k p hp
   have hki : (k : Int) < (n : Int) := by omega
   obtain ⟨p1, p2, p3, p4, p5, p6⟩ := p
   simp only at c0 c1 c2 c3 c4 c5
   have HP : Hid (l[k]? = some (p1, p2, p3, p4, p5, p6)) := hp
   obtain ⟨V, hV⟩ := exa (wr.alloc (.cells #[.int .i64 p1, .bool p2, .int .i64 p3, .slice ea el ec, .int .i64 p5, .slice fa fl fc] 47))
   have hbV : Below wr.heap.size wr V := by rw [hV]; exact (Below.refl _ wr).alloc (Nat.le_refl _) _
   have HVV : Hid (Below W.heap.size W V ∧ Box V wr.heap.size 47 #[.int .i64 p1, .bool p2, .int .i64 p3, .slice ea el ec, .int .i64 p5, .slice fa fl fc]) := ⟨below_any hbel hbV, by rw [hV]; exact Box.new _ _ _⟩
   have hm : (p1, p2, p3, p4, p5, p6) ∈ l := List.mem_of_getElem? hp
   have HM : Hid ((p1, p2, p3, p4, p5, p6) ∈ l) := hm
   have hg1 : ∀ q ∈ l.take (k + 1), q ∈ l.take k ∨ q = (p1, p2, p3, p4, p5, p6) := fun q hq => by (
 rw [take_snoc hp] at hq
 rcases List.mem_append.1 hq with h | h
 · exact .inl h
 · exact .inr (List.mem_singleton.1 h))
   have HG : Hid (∀ q ∈ l.take (k + 1), q ∈ l.take k ∨ q = (p1, p2, p3, p4, p5, p6)) := hg1
   have HD := mayBeDir_any n0 p1 p2 p3 p4 p5 p6 ea el ec fa fl fc V (hL.below hbV) hfl
   have HE := mayBeFile_any n0 p1 p2 p3 p4 p5 p6 ea el ec fa fl fc V (hL.below hbV) hel
   obtain ⟨q0, q1, q2, q3, q4, q5⟩ := HVV.out.2.six
   rw [hV] at q0 q1 q2 q3 q4 q5
   clear hp hbel hL hel hfl hbV hm hg1
   cases p2
   · by_cases hok : p4 = [] ∧ chk (p5, p6) = true
     · rw [decide_eq_true hok] at HE
       have HO : Hid (NodeOk (p1, false, p3, p4, p5, p6)) := ⟨fun c => (by cases c), fun _ => hok⟩
       clear hok HD
       go_wp2_with fail
       rw [← hV]
       clear hV q0 q1 q2 q3 q4 q5
       refine HE.mono ?_
       rintro e w1 ⟨rfl, hb1⟩
       go_wp2
       go_roundw
       case rel => exact ⟨k + 1, by omega, by go_num, fun q hq => (HG.out q hq).elim (HF.out q) (fun e => by rw [e]; exact HO.out), below_any HVV.out.1 hb1⟩
       case measure => simp [intOf]; omega
     · rw [decide_eq_false hok] at HE
       have HO : Hid (¬ ∀ p ∈ l, NodeOk p) := fun h => hok ((h _ HM.out).2 rfl)
       clear hok HD
       go_wp2_with fail
       rw [← hV]
       clear hV q0 q1 q2 q3 q4 q5
       refine HE.mono ?_
       rintro e w1 ⟨rfl, hb1⟩
       go_wp2
       go_ret
       exact ⟨says_no HO.out, below_any HW.out.1 (below_any HVV.out.1 hb1)⟩
   · by_cases hok : Chk p4 ∧ ((p5, p6) : Fl) = (0, [])
     · rw [decide_eq_true hok] at HD
       have HO : Hid (NodeOk (p1, true, p3, p4, p5, p6)) := ⟨fun _ => hok, fun c => (by cases c)⟩
       clear hok HE
       go_wp2_with fail
       rw [← hV]
       clear hV q0 q1 q2 q3 q4 q5
       refine HD.mono ?_
       rintro e w1 ⟨rfl, hb1⟩
       obtain ⟨q0, q1, q2, q3, q4, q5⟩ := (HVV.out.2.below hb1 HVV.out.2.lt).six
       go_wp2
       go_roundw
       case rel => exact ⟨k + 1, by omega, by go_num, fun q hq => (HG.out q hq).elim (HF.out q) (fun e => by rw [e]; exact HO.out), below_any HVV.out.1 hb1⟩
       case measure => simp [intOf]; omega
     · rw [decide_eq_false hok] at HD
       have HO : Hid (¬ ∀ p ∈ l, NodeOk p) := fun h => hok ((h _ HM.out).1 rfl)
       clear hok HE
       go_wp2_with fail
       rw [← hV]
       clear hV q0 q1 q2 q3 q4 q5
       refine HD.mono ?_
       rintro e w1 ⟨rfl, hb1⟩
       go_wp2
       go_ret
       exact ⟨says_no HO.out, below_any HW.out.1 (below_any HVV.out.1 hb1)⟩
 · obtain rfl : k = n := by omega
   have HO : Hid (∀ p ∈ l, NodeOk p) := fun p hp => HF.out p (by rw [List.take_of_length_le (by rw [HN.out]; exact Nat.le_refl _)]; exact hp)
   go_wp2
   go_ret
   exact ⟨says_yes HO.out, below_any HW.out.1 hbel⟩)
end Go.Proofs.YtopcefhncildnaaGreatDoor
namespace Go.Proofs.YtopcefhncildnaaGreatDoor
open Go.RowKit
open D (En ArgE)
def plc (l : List Nd) (i : Int) : Int := match l.findIdx? (fun n => n.1 == i) with | some k => (k : Int) | none => -1
theorem plc_none {l : List Nd} {i : Int} (h : ∀ n ∈ l, n.1 ≠ i) : plc l i = -1 := by
 unfold plc
 rw [List.findIdx?_eq_none_iff.2 (fun n hn => by simpa using h n hn)]
theorem plc_first {l : List Nd} {i : Int} {k : Nat} {p : Nd} (hp : l[k]? = some p) (e : p.1 = i) (h : ∀ (j : Nat) q, j < k → l[j]? = some q → q.1 ≠ i) : plc l i = (k : Int) := by
 unfold plc
 have : l.findIdx? (fun n => n.1 == i) = some k := by (
 rw [List.findIdx?_eq_some_iff_getElem]
 obtain ⟨h1, h2⟩ := List.getElem?_eq_some_iff.1 hp
 refine ⟨h1, by rw [h2]; simpa using e, fun j hj => ?_⟩
 have := h j _ hj (List.getElem?_eq_getElem (by omega))
 simpa using this)
 rw [this]
theorem plc_at {l : List Nd} {i : Int} (h : 0 ≤ plc l i) : ∃ (k : Nat) (p : Nd), plc l i = (k : Int) ∧ l[k]? = some p ∧ p.1 = i ∧ fd l i = some p := by
 unfold plc at h ⊢
 cases hf : l.findIdx? (fun n => n.1 == i) with
 | none => rw [hf] at h; simp at h
 | some k => (
 obtain ⟨h1, h2, h3⟩ := List.findIdx?_eq_some_iff_getElem.1 hf
 refine ⟨k, l[k], rfl, List.getElem?_eq_getElem h1, by simpa using h2, ?_⟩
 unfold fd
 rw [List.find?_eq_some_iff_getElem]
 exact ⟨h2, k, h1, rfl, fun j hj => by simpa using h3 j hj⟩)
theorem plc_neg {l : List Nd} {i : Int} (h : plc l i < 0) : plc l i = -1 ∧ fd l i = none ∧ ∀ n ∈ l, n.1 ≠ i := by
 unfold plc at h ⊢
 cases hf : l.findIdx? (fun n => n.1 == i) with
 | none => (
 have h1 := List.findIdx?_eq_none_iff.1 hf
 refine ⟨rfl, ?_, fun n hn => by simpa using h1 n hn⟩
 unfold fd
 rw [List.find?_eq_none]
 intro n hn
 have := h1 n hn
 simpa using this)
 | some k => rw [hf] at h; simp at h; omega
theorem plc_ups {l : List Nd} (hU : Ups l) {k : Nat} {p : Nd} (hp : l[k]? = some p) : plc l p.1 = (k : Int) :=
 plc_first hp rfl fun j q hj hq => by (
 obtain ⟨a1, b1⟩ := List.getElem?_eq_some_iff.1 hq
 obtain ⟨a2, b2⟩ := List.getElem?_eq_some_iff.1 hp
 have := List.pairwise_iff_getElem.1 hU _ _ a1 a2 hj
 rw [b1, b2] at this
 omega)
theorem rplace_any (n0 : Nat) (a : Option Addr) (c : Nat) (l : List Nd) (nx i : Int) (w : World) (hA : ndsR.lies n0 w [.slice a l.length c] l) :
   Calls Tryz.prog 105 #[.agg #[.slice a l.length c, .int .i64 nx], .int .i64 i] w fun e w' => e = .returned (.int .i64 (plc l i)) ∧ Below w.heap.size w w' := by
 have hl1 := run_len Tryz.underlying22 a l.length c
 have hm1 : l.length ≤ maxLen := by
   obtain ⟨_, _, he, _, hm, _⟩ := Shape.list_len (S := ndR) (ht := Tryz.underlying22) (hc := cells22) hA
   exact hm
 unfold maxLen at hm1
 obtain ⟨W, hW⟩ := exa (w.alloc (.cells #[.slice a l.length c, .int .i64 nx] 24))
 have hb : Below w.heap.size w W := by rw [hW]; exact (Below.refl _ w).alloc (Nat.le_refl _) _
 have hB : Box W w.heap.size 24 #[.slice a l.length c, .int .i64 nx] := by rw [hW]; exact Box.new _ _ _
 obtain ⟨p0, p1, -, -⟩ := hB.two
 have HW : Hid (Below w.heap.size w W ∧ ndsR.lies n0 W [.slice a l.length c] l) := ⟨hb, ndsR.below hA hb⟩
 obtain ⟨n, hn⟩ := exa (l.length)
 have HN : Hid (n = l.length) := hn
 obtain ⟨d, hd⟩ : ∃ d : Int, d = plc l i := ⟨_, rfl⟩
 have HD : Hid (d = plc l i) := hd
 rw [← hd]
 rw [← hn] at HW hl1 hm1 hW p0 ⊢
 rw [hW] at p0 p1
 clear hA hb hB hn hd
 go_enter Tryz.func105, Tryz.ntmps105
 go_wp2
 rw [← hW] at p0 p1 ⊢
 clear hW
 go_loopw [5] (fun v wr => ∃ k : Nat, k ≤ n ∧ v = .int .i64 k ∧ Hid (∀ (j : Nat) q, j < k → l[j]? = some q → q.1 ≠ i) ∧ wr = W) (fun v _ => n - (intOf v).toNat)
 case atStart => exact ⟨0, Nat.zero_le _, rfl, fun j q hj => by omega, rfl⟩
 case round => (
 obtain ⟨k, hk, rfl, HK, rfl⟩ := hrel
 by_cases hlt : k < n
 · obtain ⟨x, hx⟩ := get_lt (l := l) (k := k) (by rw [← HN.out]; exact hlt)
   obtain ⟨b1, o1, e1, f1, hix1, hg1, hc1, hL1⟩ := nds_atR HW.out.2 k x hx
   obtain ⟨i0, -⟩ := nv_cells hc1
   have hkn : (k : Int) < (n : Int) := by omega
   have HX : Hid (l[k]? = some x) := hx
   obtain ⟨xi, hxi⟩ := exa (x.1)
   have HXI : Hid (xi = x.1) := hxi
   rw [← hxi] at i0
   clear hx hL1 hc1 hxi
   by_cases he : xi = i
   · obtain rfl : d = (k : Int) := by rw [HD.out]; exact plc_first HX.out (by rw [← HXI.out]; exact he) HK.out
     subst he
     go_wp2
     go_ret
     exact ⟨rfl, HW.out.1⟩
   · go_wp2
     go_roundw
     case rel => (
 refine ⟨k + 1, by omega, by go_num, fun j q hj hq => ?_, by first | trivial | rfl⟩
 by_cases e : j < k
 · exact HK.out j q e hq
 · obtain rfl : j = k := by omega
   rw [HX.out] at hq
   cases hq
   rw [← HXI.out]; exact he)
     case measure => simp [intOf]; omega
 · obtain rfl : k = n := by omega
   obtain rfl : d = -1 := by (
 rw [HD.out]
 refine plc_none fun q hq => ?_
 obtain ⟨j, hj⟩ := List.getElem?_of_mem hq
 exact HK.out j q (by rw [HN.out]; exact (List.getElem?_eq_some_iff.1 hj).1) hj)
   go_wp2
   go_ret
   exact ⟨rfl, HW.out.1⟩)
theorem cP_take {es : List En} {k : Nat} {e : En} (h : es[k]? = some e) (i : Int) : cP (es.take (k + 1)) i = cP (es.take k) i + if e.2 = i then 1 else 0 := by
 rw [take_snoc h]
 unfold cP
 rw [List.countP_append]
 simp [List.countP_cons]
theorem cnt_take {l : List Nd} {k : Nat} {p : Nd} (h : l[k]? = some p) (i : Int) : cnt (l.take (k + 1)) i = cnt (l.take k) i + cP (en p) i := by
 rw [take_snoc h, cnt_append, cnt_cons]
 simp [cnt]
theorem cP_le (es : List En) (i : Int) : cP es i ≤ es.length := List.countP_le_length
theorem cnt_leM {l : List Nd} {M : Nat} (h : ∀ p ∈ l, (en p).length ≤ M) (i : Int) : cnt l i ≤ l.length * M := by
 induction l with
 | nil => simp [cnt]
 | cons p r ih => (
 rw [cnt_cons, List.length_cons, Nat.succ_mul]
 have h1 := ih fun q hq => h q (List.mem_cons_of_mem _ hq)
 have h2 := h p (List.mem_cons_self ..)
 have h3 := cP_le (en p) i
 omega)
theorem rnamed_any (n0 : Nat) (a : Option Addr) (c : Nat) (l : List Nd) (nx i : Int) (w : World) (hA : ndsR.lies n0 w [.slice a l.length c] l) (h128 : l.length ≤ 128) (hM : ∀ p ∈ l, (en p).length ≤ 140737488351232) :
   Calls Tryz.prog 244 #[.agg #[.slice a l.length c, .int .i64 nx], .int .i64 i] w fun e w' => e = .returned (.int .i64 (cnt l i)) ∧ Below w.heap.size w w' := by
 have hl1 := run_len Tryz.underlying22 a l.length c
 obtain ⟨W, hW⟩ := exa (w.alloc (.cells #[.slice a l.length c, .int .i64 nx] 24))
 have hb : Below w.heap.size w W := by rw [hW]; exact (Below.refl _ w).alloc (Nat.le_refl _) _
 have hB : Box W w.heap.size 24 #[.slice a l.length c, .int .i64 nx] := by rw [hW]; exact Box.new _ _ _
 obtain ⟨p0, p1, -, -⟩ := hB.two
 have HW : Hid (Below w.heap.size w W ∧ ndsR.lies n0 W [.slice a l.length c] l) := ⟨hb, ndsR.below hA hb⟩
 obtain ⟨n, hn⟩ := exa (l.length)
 have HN : Hid (n = l.length ∧ ∀ p ∈ l, (en p).length ≤ 140737488351232) := ⟨hn, hM⟩
 obtain ⟨d, hd⟩ : ∃ d : Nat, d = cnt l i := ⟨_, rfl⟩
 have HD : Hid (d = cnt l i) := hd
 rw [← hd]
 rw [← hn] at HW hl1 h128 hW p0 ⊢
 rw [hW] at p0 p1
 clear hA hb hB hn hd hM
 go_enter Tryz.func244, Tryz.ntmps244
 go_wp2
 rw [← hW] at p0 p1 ⊢
 clear hW
 go_loopw [5, 6] (fun u v wr => ∃ k m : Nat, k ≤ n ∧ v = .int .i64 k ∧ u = .int .i64 m ∧ Hid (m = cnt (l.take k) i) ∧ wr = W) (fun _ v _ => n - (intOf v).toNat)
 case atStart => exact ⟨0, 0, Nat.zero_le _, rfl, rfl, (show 0 = cnt (l.take 0) i by simp [cnt]), by first | trivial | rfl⟩
 case round => (
 obtain ⟨k, m, hk, rfl, rfl, HK, hwr⟩ := hrel
 obtain rfl := hwr.symm
 by_cases hlt : k < n
 · obtain ⟨x, hx⟩ := get_lt (l := l) (k := k) (by rw [← HN.out.1]; exact hlt)
   obtain ⟨b1, o1, e1, f1, hix1, hg1, hc1, hL1⟩ := nds_atR HW.out.2 k x hx
   obtain ⟨i0, i1, i2, i3, i4, i5⟩ := nv_cells hc1
   obtain ⟨ea, ec, rfl, -⟩ := hL1.1.shape
   have hl2 := run_len Tryz.underlying96 ea (en x).length ec
   have hkn : (k : Int) < (n : Int) := by omega
   have HX : Hid (l[k]? = some x ∧ ArgE n0 W (.slice ea (en x).length ec) (en x) ∧ (en x).length ≤ 140737488351232 ∧ m ≤ n * 140737488351232) := ⟨hx, hL1.1, HN.out.2 x (List.mem_of_getElem? hx), by
     rw [HK.out, HN.out.1]
     have h1 := cnt_leM (l := l.take k) (M := 140737488351232) (fun p hp => HN.out.2 p (List.mem_of_mem_take hp)) i
     have h2 : (l.take k).length ≤ l.length := by rw [List.length_take]; omega
     exact Nat.le_trans h1 (Nat.mul_le_mul_right _ h2)⟩
   obtain ⟨en', hen⟩ := exa ((en x).length)
   have HEN : Hid (en' = (en x).length) := hen
   rw [← hen] at i3 hl2
   have hme : en' ≤ 140737488351232 := by rw [HEN.out]; exact HX.out.2.2.1
   clear hx hL1 hc1 hen
   go_wp2
   go_loopw [5, 7] (fun u v wr => ∃ k2 m2 : Nat, k2 ≤ en' ∧ v = .int .i64 k2 ∧ u = .int .i64 m2 ∧ Hid (m2 = m + cP ((en x).take k2) i) ∧ wr = W) (fun _ v _ => en' - (intOf v).toNat)
   case atStart => exact ⟨0, m, Nat.zero_le _, rfl, rfl, (show m = m + cP ((en x).take 0) i by simp [cP]), by first | trivial | rfl⟩
   case round => (
 obtain ⟨k2, m2, hk2, rfl, rfl, HK2, hwr⟩ := hrel
 obtain rfl := hwr.symm
 by_cases hlt2 : k2 < en'
 · obtain ⟨y, hy⟩ := get_lt (l := en x) (k := k2) (by rw [← HEN.out]; exact hlt2)
   obtain ⟨b2, o2, hix2, -, g2, e2⟩ := HX.out.2.1.atR k2 y hy
   rw [← HEN.out] at hix2
   have hk2n : (k2 : Int) < (en' : Int) := by omega
   have HY : Hid ((en x)[k2]? = some y) := hy
   have hm2b : m2 < 20000000000000000 := by (
 have h1 := HX.out.2.2.2
 have h2 := HX.out.2.2.1
 have h3 := cP_le ((en x).take k2) i
 have h4 := HK2.out
 have h5 : ((en x).take k2).length ≤ (en x).length := by rw [List.length_take]; omega
 have h6 : n * 140737488351232 ≤ 128 * 140737488351232 := Nat.mul_le_mul_right _ h128
 omega)
   obtain ⟨ys, yi⟩ := y
   simp only at g2 e2
   clear hy
   by_cases he : yi = i
   · subst he
     go_wp2
     go_roundw
     case rel => (
 refine ⟨k2 + 1, m2 + 1, by omega, by go_num, by first | rfl | go_num, ?_, by first | trivial | rfl⟩
 show m2 + 1 = _
 rw [cP_take HY.out, if_pos rfl, HK2.out]; omega)
     case measure => simp [intOf]; omega
   · go_wp2
     go_roundw
     case rel => (
 refine ⟨k2 + 1, m2, by omega, by go_num, rfl, ?_, by first | trivial | rfl⟩
 show m2 = _
 rw [cP_take HY.out, if_neg he, HK2.out]; omega)
     case measure => simp [intOf]; omega
 · obtain rfl : k2 = en' := by omega
   go_wp2
   go_roundw
   case rel => (
 refine ⟨k + 1, m2, by omega, by go_num, rfl, ?_, by first | trivial | rfl⟩
 show m2 = _
 rw [cnt_take HX.out.1, HK2.out, HK.out, HEN.out, List.take_length])
   case measure => simp [intOf]; omega)
 · obtain rfl : k = n := by omega
   obtain rfl : m = d := by rw [HK.out, HD.out, HN.out.1, List.take_length]
   go_wp2
   go_ret
   exact ⟨rfl, HW.out.1⟩)
end Go.Proofs.YtopcefhncildnaaGreatDoor
