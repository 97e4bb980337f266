/-
  What the document's Take answers: the same as the program's.
-/
import Derived.Test.YtpecniajamgjiaaTake
import Derived.Test.YtpecniajamgjiaaBut
namespace Go.Proofs.Ytpecniajamgjiaa
open Go.RowKit

/-- What a state's variable, a packet in memory, and the memory that was there, are while a packet is taken. -/
def TS (w : World) (lim : Int) (a : Option Addr) (n c b o : Nat) (pf pt : Int) (a5 : Option Addr) (m c5 : Nat) (w' : World) : Prop :=
  w'.cell? ⟨w.heap.size, 0, none⟩ = some (.int .i64 lim) ∧ w'.cell? ⟨w.heap.size, 1, none⟩ = some (.slice a n c) ∧ w'.cell? ⟨b, o, none⟩ = some (.int .i64 pf) ∧ w'.cell? ⟨b, o + 1, none⟩ = some (.int .i64 pt) ∧ w'.cell? ⟨b, o + 2, none⟩ = some (.slice a5 m c5) ∧ Below w.heap.size w w'
theorem TS.set {w : World} {lim : Int} {a : Option Addr} {n c b o : Nat} {pf pt : Int} {a5 : Option Addr} {m c5 : Nat} {w' : World} {B i : Nat} {x : Value} (hb : b < w.heap.size) (hB : w.heap.size < B) (h : TS w lim a n c b o pf pt a5 m c5 w') : TS w lim a n c b o pf pt a5 m c5 (w'.setCell ⟨B, i, none⟩ x) := by
  obtain ⟨h1, h2, h3, h4, h5, h6⟩ := h
  have keep : ∀ (k j : Nat) (u : Value), k ≠ B → w'.cell? ⟨k, j, none⟩ = some u → (w'.setCell ⟨B, i, none⟩ x).cell? ⟨k, j, none⟩ = some u := fun k j u hk hu => by
    rw [World.cell?_of_block (Below.heap_setCell _ _ _ _ hk)]; exact hu
  exact ⟨keep _ _ _ (by omega) h1, keep _ _ _ (by omega) h2, keep _ _ _ (by omega) h3, keep _ _ _ (by omega) h4, keep _ _ _ (by omega) h5, h6.setCell (p := ⟨B, i, none⟩) (Nat.le_of_lt hB) _⟩

attribute [local go_sem ↓] Go.wp_at_zero Go.wp_at_succ

set_option maxRecDepth 100000 in
set_option maxHeartbeats 8000000 in
theorem rtake_any (n0 : Nat) (us : List Value) (s : St) (k : Int) (w : World) (h : stR.lies n0 w us s) (hki : I64 k) :
    Calls Try.prog 12 #[.agg us.toArray, .int .i64 k] w fun e w' => (∃ us' ps', e = .returned (.tuple #[.agg us'.toArray, .agg ps'.toArray, .int .i64 (terr s k)]) ∧ stR.owns w.heap.size w' us' (tst s k) ∧ pkF.owns w.heap.size w' ps' (tpk s k)) ∧ Below w.heap.size w w' := by
  obtain ⟨a, c, rfl, hL, hi, hm⟩ := st_viewR h
  obtain ⟨lim, l⟩ := s
  simp only at hL hi hm
  obtain ⟨n, hn⟩ : ∃ n, n = l.length := ⟨_, rfl⟩
  obtain ⟨W, hW⟩ : ∃ W, W = ((w.alloc (.cells #[.int .i64 lim, .slice a n c] 24)).alloc (.cells #[.int .i64 0, .slice none 0 0] 24)).alloc (.cells #[.int .i64 0, .int .i64 0, .slice none 0 0] 27) := ⟨_, rfl⟩
  have hb : Below w.heap.size w W := by
    rw [hW]; exact (((Below.refl _ w).alloc (Nat.le_refl _) _).alloc (by simp) _).alloc (by simp; omega) _
  have hB0 : Box W w.heap.size 24 #[.int .i64 lim, .slice a n c] := by
    rw [hW]; exact ((Box.new w 24 _).alloc _).alloc _
  have hB1 : Box W (w.heap.size + 1) 24 #[.int .i64 0, .slice none 0 0] := by
    rw [hW]
    have := (Box.new (w.alloc (.cells #[.int .i64 lim, .slice a n c] 24)) 24 #[.int .i64 0, .slice none 0 0]).alloc (.cells #[.int .i64 0, .int .i64 0, .slice none 0 0] 27)
    simpa using this
  have hB2 : Box W (w.heap.size + 2) 27 #[.int .i64 0, .int .i64 0, .slice none 0 0] := by
    rw [hW]
    have := Box.new ((w.alloc (.cells #[.int .i64 lim, .slice a n c] 24)).alloc (.cells #[.int .i64 0, .slice none 0 0] 24)) 27 #[.int .i64 0, .int .i64 0, .slice none 0 0]
    simpa using this
  have HW : Hid (Below w.heap.size w W ∧ Box W w.heap.size 24 #[.int .i64 lim, .slice a n c] ∧ Box W (w.heap.size + 1) 24 #[.int .i64 0, .slice none 0 0] ∧ Box W (w.heap.size + 2) 27 #[.int .i64 0, .int .i64 0, .slice none 0 0]) := ⟨hb, hB0, hB1, hB2⟩
  have HD : Hid (stR.lies n0 w [.int .i64 lim, .slice a n c] (lim, l) ∧ pksR.lies n0 w [.slice a n c] l) := by
    rw [hn]; exact ⟨h, hL⟩
  have HN : Hid (n = l.length) := hn
  have HC := there_any n0 _ (lim, l) k W (stR.below HD.out.1 hb)
  obtain ⟨te, hte⟩ : ∃ x, x = terr (lim, l) k := ⟨_, rfl⟩
  obtain ⟨S', hS'⟩ : ∃ x, x = tst (lim, l) k := ⟨_, rfl⟩
  obtain ⟨P', hP'⟩ : ∃ x, x = tpk (lim, l) k := ⟨_, rfl⟩
  have HTE : Hid (te = terr (lim, l) k ∧ S' = (if te = 0 then (lim, l.eraseIdx k.toNat) else zst) ∧ P' = (if te = 0 then (l[k.toNat]?).getD zpk else zpk)) := by
    refine ⟨hte, ?_, ?_⟩
    · rw [hS', hte]; rfl
    · rw [hP', hte]; rfl
  rw [← hte, ← hS', ← hP']
  rw [← hte] at HC
  simp only
  rw [← hn]
  clear h hL hi hm hb hB0 hB1 hB2 hn hte hS' hP'
  go_enter Try.func12, Try.ntmps12
  go_wp2_with fail
  rw [← hW]
  clear hW
  refine HC.mono ?_
  rintro e w2 ⟨rfl, hb2⟩
  have HB2 : Hid (Below W.heap.size W w2 ∧ Below w.heap.size w w2) := ⟨hb2, below_any HW.out.1 hb2⟩
  clear HC hb2
  by_cases ht0 : te = 0
  case neg =>
    obtain rfl : S' = zst := by rw [HTE.out.2.1, if_neg ht0]
    obtain rfl : P' = zpk := by rw [HTE.out.2.2, if_neg ht0]
    obtain ⟨d0, d1, d2, d3⟩ := (HW.out.2.2.1.below HB2.out.1 HW.out.2.2.1.lt).two
    obtain ⟨e0, e1, e2, e3, e4, e5⟩ := (HW.out.2.2.2.below HB2.out.1 HW.out.2.2.2.lt).three
    go_wp2
    refine bodyPost_ret (v := .tuple #[.agg #[.int .i64 0, .slice none 0 0], .agg #[.int .i64 0, .int .i64 0, .slice none 0 0], .int .i64 te]) (by simp [results, Try.results12, go_sem, *]) rfl ⟨⟨[_, _], [_, _, _], rfl, zst_ownR _ _, zpk_own _ _⟩, ?_⟩
    exact below_set3 (below_set2 HB2.out.2 (by omega) _ _) (by omega) _ _ _
  subst ht0
  obtain ⟨hc, hk0, hk1⟩ := terr_ok HTE.out.1.symm
  simp only at hk1
  obtain ⟨j, rfl⟩ : ∃ j : Nat, k = (j : Int) := ⟨k.toNat, by omega⟩
  have hjn : j < n := by rw [HN.out]; omega
  obtain ⟨p, hp⟩ := get_lt (l := l) (k := j) (by rw [← HN.out]; exact hjn)
  obtain rfl : S' = (lim, l.eraseIdx j) := by rw [HTE.out.2.1]; simp
  obtain rfl : P' = p := by rw [HTE.out.2.2]; simp [hp]
  have HFT := chk_fits hc
  simp only at HFT
  have HFI : Hid (Fits (lim, l)) := HFT.1
  have HOK : Hid (P'.2.2.length ≤ 4096) := okP_len ((chk_facts hc).2.2.2 P' (List.mem_of_getElem? hp))
  obtain ⟨b5, o5, a5, c5, hix5, z0, z1, z2, hA5, hf5, ht5⟩ := pks_atR HD.out.2 j P' hp
  obtain ⟨pf, pt, pd⟩ := P'
  simp only at z0 z1 z2 hA5 hf5 ht5
  have HAP : Hid (pkF.lies n0 w [.int .i64 pf, .int .i64 pt, .slice a5 pd.length c5] (pf, pt, pd)) := pk_mk (p := (pf, pt, pd)) hA5 hf5 ht5
  obtain ⟨m, hm'⟩ : ∃ m, m = pd.length := ⟨_, rfl⟩
  rw [← hm'] at z2 HAP
  simp only at HOK
  have HZ : Hid (w.cell? ⟨b5, o5, none⟩ = some (.int .i64 pf) ∧ w.cell? ⟨b5, o5 + 1, none⟩ = some (.int .i64 pt) ∧ w.cell? ⟨b5, o5 + 2, none⟩ = some (.slice a5 m c5) ∧ b5 < w.heap.size) := ⟨z0, z1, z2, cell_lt z0⟩
  have HZK : Hid (∀ w', Below w.heap.size w w' → w'.cell? ⟨b5, o5, none⟩ = some (.int .i64 pf) ∧ w'.cell? ⟨b5, o5 + 1, none⟩ = some (.int .i64 pt) ∧ w'.cell? ⟨b5, o5 + 2, none⟩ = some (.slice a5 m c5)) := fun w' hw => by
    refine ⟨?_, ?_, ?_⟩
    · rw [hw.cell HZ.out.2.2.2]; exact HZ.out.1
    · rw [hw.cell HZ.out.2.2.2]; exact HZ.out.2.1
    · rw [hw.cell HZ.out.2.2.2]; exact HZ.out.2.2.1
  have HC1 : Hid (∀ w', Below w.heap.size w w' → Calls Try.prog 33 #[.agg #[.int .i64 lim, .slice a n c], .int .i64 j] w' fun e w'' => (∃ us', e = .returned (.agg us'.toArray) ∧ stR.owns w'.heap.size w'' us' (lim, l.eraseIdx j)) ∧ Below w'.heap.size w' w'') := fun w' hw => by
    have := but_any n0 [.int .i64 lim, .slice a n c] (lim, l) j w' (stR.below HD.out.1 hw) HFI.out
    simp only at this
    rw [show but (j : Int) 0 l = l.eraseIdx j by have := but_erase l j 0; rw [Nat.zero_add] at this; exact this] at this
    exact this
  have HC2 : Hid (∀ w', Below w.heap.size w w' → Calls Try.prog 34 #[.agg #[.int .i64 pf, .int .i64 pt, .slice a5 m c5]] w' fun e w'' => (∃ us', e = .returned (.agg us'.toArray) ∧ pkF.owns w'.heap.size w'' us' (pf, pt, pd)) ∧ Below w'.heap.size w' w'') := fun w' hw =>
    copied34 n0 [.int .i64 pf, .int .i64 pt, .slice a5 m c5] (pf, pt, pd) w' (pkF.keep HAP.out (.of_below hw)) (by have := HOK.out; simp only; omega)
  obtain ⟨g0, g1, _, _⟩ := (HW.out.2.1.below HB2.out.1 HW.out.2.1.lt).two
  obtain ⟨d0, d1, d2, d3⟩ := (HW.out.2.2.1.below HB2.out.1 HW.out.2.2.1.lt).two
  obtain ⟨e0, e1, e2, e3, e4, e5⟩ := (HW.out.2.2.2.below HB2.out.1 HW.out.2.2.2.lt).three
  obtain ⟨y0, y1, y2⟩ := HZK.out w2 HB2.out.2
  have hbw := HB2.out.2.drew
  have HN1 : Hid ((l.eraseIdx j).length = n - 1) := by show _ = _; rw [List.length_eraseIdx_of_lt (by rw [← HN.out]; exact hjn), ← HN.out]
  clear HFT hc hk0 hk1 hp z0 z1 z2 hA5 hf5 ht5 hm'
  go_wp2
  clear d0 d1 d2 d3 e0 e1 e2 e3 e4 e5
  have HS2 : w2.drew.cell? ⟨w.heap.size, 0, none⟩ = some (.int .i64 lim) ∧ w2.drew.cell? ⟨w.heap.size, 1, none⟩ = some (.slice a n c) ∧ w2.drew.cell? ⟨b5, o5, none⟩ = some (.int .i64 pf) ∧ w2.drew.cell? ⟨b5, o5 + 1, none⟩ = some (.int .i64 pt) ∧ w2.drew.cell? ⟨b5, o5 + 2, none⟩ = some (.slice a5 m c5) ∧ Below w.heap.size w w2.drew := ⟨g0, g1, y0, y1, y2, hbw⟩
  go_region_held3 (fun w' => w'.cell? ⟨w.heap.size, 0, none⟩ = some (.int .i64 lim) ∧ w'.cell? ⟨w.heap.size, 1, none⟩ = some (.slice a n c) ∧ w'.cell? ⟨b5, o5, none⟩ = some (.int .i64 pf) ∧ w'.cell? ⟨b5, o5 + 1, none⟩ = some (.int .i64 pt) ∧ w'.cell? ⟨b5, o5 + 2, none⟩ = some (.slice a5 m c5) ∧ Below w.heap.size w w')
    (first | with_reducible exact HS4 | with_reducible exact HS3 | with_reducible exact HS2 | exact TS.set HZ.out.2.2.2 (by omega) (TS.set HZ.out.2.2.2 (by omega) HS4) | exact TS.set HZ.out.2.2.2 (by omega) (TS.set HZ.out.2.2.2 (by omega) (TS.set HZ.out.2.2.2 (by omega) (TS.set HZ.out.2.2.2 (by omega) (TS.set HZ.out.2.2.2 (by omega) HS4)))))
    (first
      | (go_simp
         with_reducible refine Calls.mono (HC1.out _ hbw) ?_
         rintro e w3 ⟨⟨u3, rfl, hO3⟩, hb3⟩
         obtain ⟨a3, c3, hu3, hO3', _⟩ := st_ownR hO3
         simp only at hu3 hO3'
         rw [HN1.out] at hu3 hO3'
         subst hu3
         have hbw3 : Below w.heap.size w w3 := below_any hbw hb3
         have hbW3 : Below W.heap.size W w3 := below_any HB2.out.1.drew hb3
         have HS3 : w3.cell? ⟨w.heap.size, 0, none⟩ = some (.int .i64 lim) ∧ w3.cell? ⟨w.heap.size, 1, none⟩ = some (.slice a n c) ∧ w3.cell? ⟨b5, o5, none⟩ = some (.int .i64 pf) ∧ w3.cell? ⟨b5, o5 + 1, none⟩ = some (.int .i64 pt) ∧ w3.cell? ⟨b5, o5 + 2, none⟩ = some (.slice a5 m c5) ∧ Below w.heap.size w w3 :=
           ⟨(HW.out.2.1.below hbW3 HW.out.2.1.lt).two.1, (HW.out.2.1.below hbW3 HW.out.2.1.lt).two.2.1, (HZK.out _ hbw3).1, (HZK.out _ hbw3).2.1, (HZK.out _ hbw3).2.2, hbw3⟩)
      | (go_simp
         with_reducible refine Calls.mono (HC2.out _ hbw3) ?_
         rintro e w4 ⟨⟨u4, rfl, hO4⟩, hb4⟩
         obtain ⟨a4, c4, hu4, hO4', _⟩ := pk_own hO4
         simp only at hu4 hO4'
         have hbw4 : Below w.heap.size w w4 := below_any hbw3 hb4
         have hbW4 : Below W.heap.size W w4 := below_any hbW3 hb4
         have HS4 : w4.cell? ⟨w.heap.size, 0, none⟩ = some (.int .i64 lim) ∧ w4.cell? ⟨w.heap.size, 1, none⟩ = some (.slice a n c) ∧ w4.cell? ⟨b5, o5, none⟩ = some (.int .i64 pf) ∧ w4.cell? ⟨b5, o5 + 1, none⟩ = some (.int .i64 pt) ∧ w4.cell? ⟨b5, o5 + 2, none⟩ = some (.slice a5 m c5) ∧ Below w.heap.size w w4 :=
           ⟨(HW.out.2.1.below hbW4 HW.out.2.1.lt).two.1, (HW.out.2.1.below hbW4 HW.out.2.1.lt).two.2.1, (HZK.out _ hbw4).1, (HZK.out _ hbw4).2.1, (HZK.out _ hbw4).2.2, hbw4⟩
         have HK4 : Hid (stR.owns w2.heap.size w4 [.int .i64 lim, .slice a3 (n - 1) c3] (lim, l.eraseIdx j) ∧ pkF.owns w3.heap.size w4 [.int .i64 pf, .int .i64 pt, .slice a4 pd.length c4] (pf, pt, pd) ∧ w2.heap.size ≤ w3.heap.size ∧ Below w.heap.size w w4) := ⟨stR.obelow hO3 hb4, by rw [← hu4]; exact hO4, by have := hb3.size; simpa using this, hbw4⟩
         subst hu4
         obtain ⟨d0, d1, d2, d3⟩ := (HW.out.2.2.1.below hbW4 HW.out.2.2.1.lt).two
         obtain ⟨e0, e1, e2, e3, e4, e5⟩ := (HW.out.2.2.2.below hbW4 HW.out.2.2.2.lt).three))
  have HLT : Hid (w.heap.size + 2 < w2.heap.size) := by have := HW.out.2.2.2.lt; have := HB2.out.1.size; show _ < _; omega
  clear hO3 hO3' hO4 hO4' hb3 hb4 hbw hbw3 hbw4 hbW3 hbW4 HS2 HS3 HS4
  go_wp2
  refine bodyPost_ret (v := .tuple #[.agg #[.int .i64 lim, .slice a3 (n - 1) c3], .agg #[.int .i64 pf, .int .i64 pt, .slice a4 pd.length c4], .int .i64 0]) (by simp [results, Try.results12, go_sem, *]) rfl ⟨⟨[_, _], [_, _, _], rfl, ?_, ?_⟩, ?_⟩
  · exact stR.oweaken (n := w2.heap.size) (stR.osame (stR.osame HK4.out.1 (.set2 (by have := HLT.out; omega))) (.set3 (by have := HLT.out; omega))) (by have := HLT.out; omega)
  · exact pkF.oweaken (n := w3.heap.size) (pkF.osame (pkF.osame HK4.out.2.1 (.set2 (by have := HLT.out; have := HK4.out.2.2.1; omega))) (.set3 (by have := HLT.out; have := HK4.out.2.2.1; omega))) (by have := HLT.out; have := HK4.out.2.2.1; omega)
  · exact below_set3 (below_set2 HK4.out.2.2.2 (by omega) _ _) (by omega) _ _ _

end Go.Proofs.Ytpecniajamgjiaa
