/-
  The document's mark: all nodes that ways of so many names meet, marked in a row of truths.
-/
import Derived.Test.YtopcefhncildnaaGreatDoorO28
import Derived.Test.YtopcefhncildnaaGreatDoorO29
set_option maxRecDepth 100000
set_option maxHeartbeats 8000000
namespace Go.Proofs.YtopcefhncildnaaGreatDoor
open Go.RowKit
open D (En ArgE)
def vis' (l : List Nd) : Nat → Int → List Int
 | 0, _ => []
 | k + 1, i => i :: (kid l i).flatMap fun e => vis' l k e.2
theorem vis'_eq {l : List Nd} : ∀ (k : Nat) (i : Int), vis' l (k + 1) i = vis l k i
 | 0, i => by simp [vis', vis]
 | k + 1, i => by (
 rw [vis', vis]
 congr 1
 congr 1
 funext e
 exact vis'_eq k e.2)
def rowB (l : List Nd) (M : Int → Bool) : Array Value := (l.map fun n => Value.bool (M n.1)).toArray
theorem rowB_at {l : List Nd} {M : Int → Bool} {k : Nat} {p : Nd} (h : l[k]? = some p) : (rowB l M)[k]? = some (.bool (M p.1)) := by simp [rowB, h]
theorem rowB_set {l : List Nd} (hU : Ups l) {M : Int → Bool} {k : Nat} {p : Nd} (h : l[k]? = some p) : (rowB l M).setIfInBounds k (.bool true) = rowB l (fun x => M x || decide (x = p.1)) := by
 apply Array.ext
 · simp [rowB]
 · intro j h1 h2
   have hj : j < l.length := by simpa [rowB] using h2
   by_cases e : k = j
   · subst e
     obtain ⟨h3, h4⟩ := List.getElem?_eq_some_iff.1 h
     simp [rowB, h4]
   · have hne : l[j].1 ≠ p.1 := fun c => e (by
       have h3 := plc_ups hU (k := j) (p := l[j]) (List.getElem?_eq_getElem hj)
       have h4 := plc_ups hU h
       rw [c] at h3
       omega)
     simp [rowB, e, hne]
structure Marked (w0 w : World) (g : Nat) (l : List Nd) (M : Int → Bool) : Prop where
 bel : Below w0.heap.size w0 w
 hi : w0.heap.size ≤ g
 box : Box w g 4 (rowB l M)
theorem Marked.below {w0 w w' : World} {g : Nat} {l : List Nd} {M : Int → Bool} (h : Marked w0 w g l M) (hb : Below w.heap.size w w') : Marked w0 w' g l M := ⟨below_any h.bel hb, h.hi, h.box.below hb h.box.lt⟩
theorem Tryz.info4' : (Tryz.prog.info? 4).map (fun i => (i.zero, i.size, i.bytes)) = some (some (.bool false), 1, 1) := by kernel_rfl
theorem rmark_out (n0 : Nat) (a : Option Addr) (c : Nat) (l : List Nd) (nx left i : Int) (v : Value) (hl : plc l i < 0 ∨ left < 0) (w : World) (hA : ndsR.lies n0 w [.slice a l.length c] l) :
   Calls Tryz.prog 179 #[.agg #[.slice a l.length c, .int .i64 nx], v, .int .i64 i, .int .i64 left] w fun r w' => r = .returned (.tuple #[]) ∧ Below w.heap.size w w' := by
 obtain ⟨W, hW⟩ := exa (w.alloc (.cells #[.slice a l.length c, .int .i64 nx] 24))
 have hbW : Below w.heap.size w W := by rw [hW]; exact (Below.refl _ w).alloc (Nat.le_refl _) _
 have HW : Hid (Below w.heap.size w W ∧ Box W w.heap.size 24 #[.slice a l.length c, .int .i64 nx]) := ⟨hbW, by rw [hW]; exact Box.new _ _ _⟩
 have HC := rplace_any n0 a c l nx i W (ndsR.below hA hbW)
 obtain ⟨pl, hpl⟩ := exa (plc l i)
 rw [← hpl] at HC hl
 obtain ⟨g0, g1, -, -⟩ := HW.out.2.two
 rw [hW] at g0 g1
 clear hA hbW hpl
 by_cases hp : pl < 0
 · go_enter Tryz.func179, Tryz.ntmps179
   go_wp2_with fail
   rw [← hW]
   clear hW g0 g1
   refine HC.mono ?_
   rintro e w1 ⟨rfl, hb1⟩
   have HB : Hid (Below w.heap.size w w1) := below_any HW.out.1 hb1
   clear hb1
   go_wp2
   refine bodyPost_ret (results_none rfl _ _ _) rfl ?_
   exact ⟨rfl, HB.out⟩
 · have hn : left < 0 := hl.elim (fun h => absurd h hp) id
   clear hl
   go_enter Tryz.func179, Tryz.ntmps179
   go_wp2_with fail
   rw [← hW]
   clear hW g0 g1
   refine HC.mono ?_
   rintro e w1 ⟨rfl, hb1⟩
   have HB : Hid (Below w.heap.size w w1) := below_any HW.out.1 hb1
   clear hb1
   go_wp2
   refine bodyPost_ret (results_none rfl _ _ _) rfl ?_
   exact ⟨rfl, HB.out⟩
theorem rmark_step (n0 : Nat) (a : Option Addr) (c : Nat) (l : List Nd) (nx : Int) (hU : Ups l) (k : Nat) (hk9 : k ≤ 100) (vs : Int → List Int) (at' : Nat) (p : Nd) (hp : l[at']? = some p) (h63 : (en p).length ≤ 140737488351232) (w0 w : World) (g : Nat) (M : Int → Bool) (hA : ndsR.lies n0 w0 [.slice a l.length c] l) (hR : Marked w0 w g l M)
   (hrec : ∀ e ∈ en p, ∀ V Mt, Marked w0 V g l Mt → Calls Tryz.prog 179 #[.agg #[.slice a l.length c, .int .i64 nx], .slice (some ⟨g, 0, none⟩) l.length l.length, .int .i64 e.2, .int .i64 ((k : Int) - 1)] V fun r w' => r = .returned (.tuple #[]) ∧ (∃ Mu, Marked w0 w' g l Mu ∧ ∀ x, Mu x = true ↔ Mt x = true ∨ x ∈ vs e.2) ∧ V.grownBy w' (some g)) :
   Calls Tryz.prog 179 #[.agg #[.slice a l.length c, .int .i64 nx], .slice (some ⟨g, 0, none⟩) l.length l.length, .int .i64 p.1, .int .i64 k] w fun r w' => r = .returned (.tuple #[]) ∧ (∃ M', Marked w0 w' g l M' ∧ ∀ x, M' x = true ↔ M x = true ∨ x = p.1 ∨ ∃ e ∈ en p, x ∈ vs e.2) ∧ w.grownBy w' (some g) := by
 obtain ⟨W, hW⟩ := exa (w.alloc (.cells #[.slice a l.length c, .int .i64 nx] 24))
 have hbW : Below w.heap.size w W := by rw [hW]; exact (Below.refl _ w).alloc (Nat.le_refl _) _
 have hBW : Box W w.heap.size 24 #[.slice a l.length c, .int .i64 nx] := by rw [hW]; exact Box.new _ _ _
 have hlt : g < w.heap.size := hR.box.lt
 have HW : Hid (Below w.heap.size w W ∧ Box W w.heap.size 24 #[.slice a l.length c, .int .i64 nx] ∧ Marked w0 W g l M ∧ g < w.heap.size) := ⟨hbW, hBW, hR.below hbW, hlt⟩
 have HC := rplace_any n0 a c l nx p.1 W (ndsR.below hA (below_any hR.bel hbW))
 rw [plc_ups hU hp] at HC
 obtain ⟨b, o, ee, ff, hix, -, hcs, hL⟩ := nds_atR hA at' p hp
 obtain ⟨-, -, -, c3, -, -⟩ := nv_cells hcs
 obtain ⟨ea, ec, rfl, -⟩ := hL.1.shape
 have HALL : Hid (∀ V, Below w0.heap.size w0 V → V.cell? ⟨b, o + 3, none⟩ = some (.slice ea (en p).length ec) ∧ ArgE n0 V (.slice ea (en p).length ec) (en p)) := fun V hV => ⟨by rw [hV.cell (cell_lt c3)]; exact c3, hL.1.below hV⟩
 obtain ⟨i4, hi4, hz4, hs4, -⟩ := info_parts Tryz.info4'
 have hix4 : ∀ W, (Instr.indexAt 259 (.slice (some ⟨g, 0, none⟩) l.length l.length) (.int .i64 at')).run Tryz.prog W = .ok (.pointer (some ⟨g, at', none⟩)) W := fun W => by
   have := run_index Tryz.underlying259 hi4 hs4 g 0 l.length l.length at' (List.getElem?_eq_some_iff.1 hp).1 W
   simpa using this
 have HR : Hid (∀ e ∈ en p, ∀ V Mt, Marked w0 V g l Mt → Calls Tryz.prog 179 #[.agg #[.slice a l.length c, .int .i64 nx], .slice (some ⟨g, 0, none⟩) l.length l.length, .int .i64 e.2, .int .i64 ((k : Int) - 1)] V fun r w' => r = .returned (.tuple #[]) ∧ (∃ Mu, Marked w0 w' g l Mu ∧ ∀ x, Mu x = true ↔ Mt x = true ∨ x ∈ vs e.2) ∧ V.grownBy w' (some g)) := hrec
 have HST : Hid (∀ V, Marked w0 V g l M → V.cell? ⟨g, at', none⟩ = some (.bool (M p.1)) ∧ V.frozen? ⟨g, at', none⟩ = false ∧ Marked w0 (V.setCell ⟨g, at', none⟩ (.bool true)) g l (fun x => M x || decide (x = p.1))) := fun V hV => by (
 refine ⟨hV.box.cell at' (rowB_at hp), hV.box.frozen at', ⟨hV.bel.setCell (p := ⟨g, at', none⟩) hV.hi _, hV.hi, ?_⟩⟩
 have := hV.box.set at' (.bool true)
 rwa [rowB_set hU hp] at this)
 obtain ⟨n, hn⟩ := exa (l.length)
 have hatn : (at' : Int) < (n : Int) := by have := (List.getElem?_eq_some_iff.1 hp).1; omega
 rw [← hn] at HW HC HR hW hix hix4 ⊢
 obtain ⟨es, hes⟩ := exa (en p)
 rw [← hes] at HALL HR h63 ⊢
 obtain ⟨el, hel⟩ := exa (es.length)
 rw [← hel] at HALL h63
 have HEL : Hid (el = es.length) := hel
 obtain ⟨pi, hpi⟩ := exa (p.1)
 rw [← hpi] at HC HST ⊢
 have hl2 := run_len Tryz.underlying96 ea el ec
 obtain ⟨g0, g1, -, -⟩ := HW.out.2.1.two
 rw [hW] at g0 g1
 clear hA hp hrec hcs hL c3 hbW hn hes hel hpi hU hR hBW hlt hi4 hz4 hs4 i4
 go_enter Tryz.func179, Tryz.ntmps179
 go_wp2_with fail
 rw [← hW]
 clear hW g0 g1
 refine HC.mono ?_
 rintro e w1 ⟨rfl, hb1⟩
 have hM1 := HW.out.2.2.1.below hb1
 obtain ⟨s0, s1, hM2⟩ := HST.out w1 hM1
 obtain ⟨W2, hW2⟩ := exa (w1.setCell ⟨g, at', none⟩ (.bool true))
 have hBB : Box W2 w.heap.size 24 #[.slice a n c, .int .i64 nx] := by rw [hW2]; exact (HW.out.2.1.below hb1 HW.out.2.1.lt).other (by have := HW.out.2.2.2; omega)
 have hg2 : w.grownBy W2 (some g) := by rw [hW2]; exact (grown_below (below_any HW.out.1 hb1) _).trans (grown_set _ _ _ _)
 have H3 : Hid (Marked w0 W2 g l (fun x => M x || decide (x = pi)) ∧ w.grownBy W2 (some g) ∧ Box W2 w.heap.size 24 #[.slice a n c, .int .i64 nx]) := ⟨by rw [hW2]; exact hM2, hg2, hBB⟩
 have c3 := (HALL.out W2 H3.out.1.bel).1
 obtain ⟨g0, g1, -, -⟩ := hBB.two
 rw [hW2] at c3 g0 g1
 clear hb1 HC hM1 hM2 hBB hg2
 go_wp2
 rw [← hW2]
 clear c3 g0 g1 hW2 s0 s1
 go_loopw [10] (fun i wr => ∃ (j : Nat) (Mt : Int → Bool), j ≤ el ∧ i = .int .i64 j ∧ Hid (Marked w0 wr g l Mt ∧ (∀ x, Mt x = true ↔ M x = true ∨ x = pi ∨ ∃ e ∈ es.take j, x ∈ vs e.2) ∧ w.grownBy wr (some g) ∧ Box wr w.heap.size 24 #[.slice a n c, .int .i64 nx])) (fun i _ => el - (intOf i).toNat)
 case atStart =>
   refine ⟨0, _, Nat.zero_le _, rfl, H3.out.1, fun x => ?_, H3.out.2.1, H3.out.2.2⟩
   simp
 case round => (
 obtain ⟨j, Mt, hj, rfl, HJ⟩ := hrel
 by_cases hjt : j < el
 · obtain ⟨e, he⟩ := get_lt (l := es) (k := j) (by rw [← HEL.out]; exact hjt)
   obtain ⟨be, oe, hixe, -, d0, d1⟩ := (HALL.out wr HJ.out.1.bel).2.atR j e he
   have hji : (j : Int) < (el : Int) := by omega
   have hm := List.mem_of_getElem? he
   obtain ⟨s, x⟩ := e
   simp only at d0 d1
   have HE : Hid (es[j]? = some (s, x)) := he
   have HCR := HR.out (s, x) hm wr.drew Mt (HJ.out.1.below (Below.refl _ wr).drew)
   obtain ⟨g0, g1, -, -⟩ := HJ.out.2.2.2.two
   have HS0 : wr.drew.cell? ⟨w.heap.size, 0, none⟩ = some (.slice a n c) ∧ wr.drew.cell? ⟨w.heap.size, 1, none⟩ = some (.int .i64 nx) ∧ wr.drew.cell? ⟨be, oe + 1, none⟩ = some (.int .i64 x) := ⟨g0, g1, d1⟩
   have HSC : Hid (∀ V, wr.drew.grownBy V (some g) → Below w0.heap.size w0 V → V.cell? ⟨w.heap.size, 0, none⟩ = some (.slice a n c) ∧ V.cell? ⟨w.heap.size, 1, none⟩ = some (.int .i64 nx) ∧ V.cell? ⟨be, oe + 1, none⟩ = some (.int .i64 x)) := fun V hV hb => by (
 have hB := IM.box (HJ.out.2.2.2.drew) hV (by have := HW.out.2.2.2; omega)
 obtain ⟨be', oe', hixe', -, -, d1'⟩ := (HALL.out V hb).2.atR j (s, x) he
 have hsame : (⟨be, oe, none⟩ : Addr) = ⟨be', oe', none⟩ := by (
 have h1 := hixe wr
 rw [hixe' wr] at h1
 simpa using h1.symm)
 obtain ⟨rfl, rfl⟩ : be = be' ∧ oe = oe' := by simpa using hsame
 exact ⟨hB.two.1, hB.two.2.1, d1'⟩)
   have hwk : IntKind.i64.wrap ((k : Int) - 1) = (k : Int) - 1 := wrap_i64 (by omega) (by omega)
   simp only at HCR
   clear he hm g0 g1 d0 d1
   go_wp2
   go_region_held3 (fun U => U.cell? ⟨w.heap.size, 0, none⟩ = some (.slice a n c) ∧ U.cell? ⟨w.heap.size, 1, none⟩ = some (.int .i64 nx) ∧ U.cell? ⟨be, oe + 1, none⟩ = some (.int .i64 x))
     (first | with_reducible exact HS1 | with_reducible exact HS0)
     ((first | (go_at_call 179; refine HCR.mono ?_; rintro e w2 ⟨rfl, ⟨Mu, hMu, hin⟩, hg2⟩; have HS1 := HSC.out w2 hg2 hMu.bel)))
   have HS : Hid (Marked w0 w2 g l Mu ∧ (∀ x, Mu x = true ↔ M x = true ∨ x = pi ∨ ∃ e ∈ es.take (j + 1), x ∈ vs e.2) ∧ w.grownBy w2 (some g) ∧ Box w2 w.heap.size 24 #[.slice a n c, .int .i64 nx]) := by (
 refine ⟨hMu, fun y => ?_, HJ.out.2.2.1.trans ((grown_below (Below.refl _ wr).drew _).trans hg2), IM.box (HJ.out.2.2.2.drew) hg2 (by have := HW.out.2.2.2; omega)⟩
 rw [hin y, HJ.out.2.1 y, take_snoc HE.out]
 constructor
 · rintro ((h | h | ⟨e, he, h⟩) | h)
   · exact .inl h
   · exact .inr (.inl h)
   · exact .inr (.inr ⟨e, List.mem_append_left _ he, h⟩)
   · exact .inr (.inr ⟨(s, x), List.mem_append_right _ (List.mem_singleton.2 rfl), h⟩)
 · rintro (h | h | ⟨e, he, h⟩)
   · exact .inl (.inl h)
   · exact .inl (.inr (.inl h))
   · rcases List.mem_append.1 he with he | he
     · exact .inl (.inr (.inr ⟨e, he, h⟩))
     · rw [List.mem_singleton.1 he] at h; exact .inr h)
   clear hMu hin hg2 HS0 HS1 hwk
   go_wp2
   go_roundw
   case rel => exact ⟨j + 1, Mu, by omega, by go_num, HS.out⟩
   case measure => simp [intOf]; omega
 · obtain rfl : j = el := by omega
   have HS : Hid (∃ M', Marked w0 wr g l M' ∧ ∀ x, M' x = true ↔ M x = true ∨ x = pi ∨ ∃ e ∈ es, x ∈ vs e.2) := ⟨Mt, HJ.out.1, by
     have := HJ.out.2.1
     rw [List.take_of_length_le (by rw [HEL.out]; exact Nat.le_refl _)] at this
     exact this⟩
   go_wp2
   go_end0
   exact ⟨rfl, HS.out, HJ.out.2.2.1⟩)
theorem rmark_any (n0 : Nat) (a : Option Addr) (c : Nat) (l : List Nd) (nx : Int) (hU : Ups l) (h63 : ∀ p ∈ l, (en p).length ≤ 140737488351232) (w0 : World) (g : Nat) (hA : ndsR.lies n0 w0 [.slice a l.length c] l) : ∀ (k : Nat), k ≤ 100 → ∀ (i : Int), (∃ n ∈ l, n.1 = i) → (∀ p ∈ l, ∀ e ∈ en p, ∃ m ∈ l, m.1 = e.2) → ∀ w M, Marked w0 w g l M →
   Calls Tryz.prog 179 #[.agg #[.slice a l.length c, .int .i64 nx], .slice (some ⟨g, 0, none⟩) l.length l.length, .int .i64 i, .int .i64 ((k : Int) - 1)] w fun r w' => r = .returned (.tuple #[]) ∧ (∃ M', Marked w0 w' g l M' ∧ ∀ x, M' x = true ↔ M x = true ∨ x ∈ vis' l k i) ∧ w.grownBy w' (some g)
 | 0, _, i, _, _, w, M, hR => (rmark_out n0 a c l nx _ i _ (.inr (by omega)) w (ndsR.below hA hR.bel)).mono fun r w' h => ⟨h.1, ⟨M, hR.below h.2, fun x => by simp [vis']⟩, grown_below h.2 _⟩
 | k + 1, hk, i, ⟨p, hp, hpi⟩, hnm, w, M, hR => by (
 rw [show ((k + 1 : Nat) : Int) - 1 = (k : Int) by omega, ← hpi]
 obtain ⟨at', hat⟩ := List.getElem?_of_mem hp
 refine (rmark_step n0 a c l nx hU k (by omega) (vis' l k) at' p hat (h63 p hp) w0 w g M hA hR fun e he V Mt hV => rmark_any n0 a c l nx hU h63 w0 g hA k (by omega) e.2 (hnm p hp e he) hnm V Mt hV).mono fun r w' h => ⟨h.1, ?_, h.2.2⟩
 obtain ⟨M', h1, h2⟩ := h.2.1
 refine ⟨M', h1, fun x => ?_⟩
 rw [h2 x, vis', kid_of hU hp]
 simp [List.mem_flatMap])
end Go.Proofs.YtopcefhncildnaaGreatDoor
