/-
  What Drop and Double answer, the program's and the document's.
-/
import Derived.Test.YtpecniajamgjiaaRefTake
import Derived.Test.YtpecniajamgjiaaRefSend
namespace Go.Proofs.Ytpecniajamgjiaa
open Go.RowKit

def derr (s : St) (k : Int) : Int := if terr s k = 0 then serr s ((s.2[k.toNat]?).getD zpk) else terr s k
def dis (s : St) (k : Int) : Bool := if terr s k = 0 then sis s ((s.2[k.toNat]?).getD zpk) else false
def dst (s : St) (k : Int) : St := if terr s k = 0 then sst s ((s.2[k.toNat]?).getD zpk) else zst

attribute [local go_sem ↓] Go.wp_at_zero Go.wp_at_succ

set_option maxHeartbeats 2000000 in
theorem drop_any (n0 : Nat) (us : List Value) (s : St) (k : Int) (w : World) (h : stN.lies n0 w us s) (hki : I64 k) :
    Calls Try.prog 13 #[.agg us.toArray, .int .i64 k] w fun e w' => (∃ us', e = .returned (.tuple #[.agg us'.toArray, .int .i64 (terr s k)]) ∧ stN.owns w.heap.size w' us' (tst s k)) ∧ Below w.heap.size w w' := by
  obtain ⟨a, c, rfl, hL, hi, hm⟩ := st_viewN h
  obtain ⟨W, hW⟩ : ∃ W, W = (w.alloc (.cells #[.int .i64 s.1, .slice a s.2.length c] 30)).alloc (.cells #[.int .i64 0, .slice none 0 0] 30) := ⟨_, rfl⟩
  have hb : Below w.heap.size w W := by
    rw [hW]; exact ((Below.refl _ w).alloc (Nat.le_refl _) _).alloc (by simp) _
  have hB1 : Box W (w.heap.size + 1) 30 #[.int .i64 0, .slice none 0 0] := by
    rw [hW]
    have := Box.new (w.alloc (.cells #[.int .i64 s.1, .slice a s.2.length c] 30)) 30 #[.int .i64 0, .slice none 0 0]
    rwa [World.size_alloc] at this
  have HW : Hid (Below w.heap.size w W ∧ Box W (w.heap.size + 1) 30 #[.int .i64 0, .slice none 0 0]) := ⟨hb, hB1⟩
  have HC := take_any n0 _ s k W (stN.below h hb) hki
  obtain ⟨te, hte⟩ : ∃ x, x = terr s k := ⟨_, rfl⟩
  obtain ⟨S', hS'⟩ : ∃ x, x = tst s k := ⟨_, rfl⟩
  obtain ⟨P', hP'⟩ : ∃ x, x = tpk s k := ⟨_, rfl⟩
  rw [← hte, ← hS', ← hP'] at HC
  rw [← hte, ← hS']
  obtain ⟨x0, hx0⟩ : ∃ x, x = s.1 := ⟨_, rfl⟩
  obtain ⟨n, hn⟩ : ∃ n, n = s.2.length := ⟨_, rfl⟩
  rw [← hx0, ← hn] at HC hW ⊢
  clear h hL hi hm hb hB1 hte hS' hP' hx0 hn
  go_enter Try.func13, Try.ntmps13
  go_wp2_with fail
  rw [← hW]
  clear hW
  refine HC.mono ?_
  rintro e w2 ⟨⟨u2, p2, rfl, hO2, hK2⟩, hb2⟩
  obtain ⟨a2, c2, rfl, _⟩ := st_ownN hO2
  obtain ⟨b2, d2, rfl, _⟩ := pk_own hK2
  have hR := HW.out.2.below hb2 HW.out.2.lt
  have hF := fun o o' => ((hR.alloc o).alloc o').two
  have HG : Hid (stN.owns W.heap.size w2 [.int .i64 S'.1, .slice a2 S'.2.length c2] S' ∧ Below w.heap.size w w2 ∧ w.heap.size + 1 < W.heap.size ∧ w.heap.size ≤ w2.heap.size) := ⟨hO2, below_any HW.out.1 hb2, HW.out.2.lt, (below_any HW.out.1 hb2).size⟩
  have hlt := hR.lt
  clear hO2 hK2 hb2 hR HC
  go_wp2
  refine bodyPost_ret (v := .tuple #[.agg #[.int .i64 S'.1, .slice a2 S'.2.length c2], .int .i64 te]) (by simp [results, Try.results13, go_sem, *]) rfl ⟨⟨[_, _], rfl, ?_⟩, ?_⟩
  · exact stN.oweaken (n := W.heap.size) (stN.osame (stN.osame (stN.osame HG.out.1 (.alloc _ _ _)) (.alloc _ _ _)) (.set2 HG.out.2.2.1)) (by have := HG.out.2.2.1; omega)
  · exact below_set2 ((HG.out.2.1.alloc HG.out.2.2.2 _).alloc (by have := HG.out.2.2.2; simp; omega) _) (by omega) _ _

set_option maxRecDepth 100000 in
set_option maxHeartbeats 4000000 in
theorem double_any (n0 : Nat) (us : List Value) (s : St) (k : Int) (w : World) (h : stN.lies n0 w us s) (hki : I64 k) :
    Calls Try.prog 15 #[.agg us.toArray, .int .i64 k] w fun e w' => (∃ us', e = .returned (.tuple #[.agg us'.toArray, .bool (dis s k), .int .i64 (derr s k)]) ∧ stN.owns w.heap.size w' us' (dst s k)) ∧ Below w.heap.size w w' := by
  obtain ⟨a, c, rfl, hL, hi, hm⟩ := st_viewN h
  obtain ⟨lim, l⟩ := s
  simp only at hL hi hm
  obtain ⟨n, hn⟩ : ∃ n, n = l.length := ⟨_, rfl⟩
  obtain ⟨W, hW⟩ : ∃ W, W = (w.alloc (.cells #[.int .i64 lim, .slice a n c] 30)).alloc (.cells #[.int .i64 0, .slice none 0 0] 30) := ⟨_, rfl⟩
  have hb : Below w.heap.size w W := by
    rw [hW]; exact ((Below.refl _ w).alloc (Nat.le_refl _) _).alloc (by simp) _
  have hB0 : Box W w.heap.size 30 #[.int .i64 lim, .slice a n c] := by rw [hW]; exact (Box.new w 30 _).alloc _
  have hB1 : Box W (w.heap.size + 1) 30 #[.int .i64 0, .slice none 0 0] := by
    rw [hW]
    have := Box.new (w.alloc (.cells #[.int .i64 lim, .slice a n c] 30)) 30 #[.int .i64 0, .slice none 0 0]
    rwa [World.size_alloc] at this
  have HW : Hid (Below w.heap.size w W ∧ Box W w.heap.size 30 #[.int .i64 lim, .slice a n c] ∧ Box W (w.heap.size + 1) 30 #[.int .i64 0, .slice none 0 0]) := ⟨hb, hB0, hB1⟩
  have HD : Hid (stN.lies n0 w [.int .i64 lim, .slice a n c] (lim, l) ∧ pksN.lies n0 w [.slice a n c] l) := by
    rw [hn]; exact ⟨h, hL⟩
  have HN : Hid (n = l.length) := hn
  have HC := place_any n0 _ (lim, l) k W (stN.below HD.out.1 hb)
  obtain ⟨te, hte⟩ : ∃ x, x = terr (lim, l) k := ⟨_, rfl⟩
  obtain ⟨de, hde⟩ : ∃ x, x = derr (lim, l) k := ⟨_, rfl⟩
  obtain ⟨di, hdi⟩ : ∃ x, x = dis (lim, l) k := ⟨_, rfl⟩
  obtain ⟨S', hS'⟩ : ∃ x, x = dst (lim, l) k := ⟨_, rfl⟩
  have HTE : Hid (te = terr (lim, l) k ∧ de = (if te = 0 then serr (lim, l) ((l[k.toNat]?).getD zpk) else te) ∧ di = (if te = 0 then sis (lim, l) ((l[k.toNat]?).getD zpk) else false) ∧ S' = (if te = 0 then sst (lim, l) ((l[k.toNat]?).getD zpk) else zst)) := by
    refine ⟨hte, ?_, ?_, ?_⟩
    · rw [hde, hte]; rfl
    · rw [hdi, hte]; rfl
    · rw [hS', hte]; rfl
  rw [← hde, ← hdi, ← hS']
  rw [← hte] at HC
  simp only
  rw [← hn]
  clear h hL hi hm hb hB0 hB1 hn hte hde hdi hS'
  go_enter Try.func15, Try.ntmps15
  go_wp2_with fail
  rw [← hW]
  clear hW
  refine HC.mono ?_
  rintro e w2 ⟨rfl, hb2⟩
  have HB2 : Hid (Below W.heap.size W w2 ∧ Below w.heap.size w w2) := ⟨hb2, below_any HW.out.1 hb2⟩
  clear HC hb2
  by_cases ht0 : te = 0
  case neg =>
    obtain rfl : di = false := by rw [HTE.out.2.2.1, if_neg ht0]
    obtain rfl : S' = zst := by rw [HTE.out.2.2.2, if_neg ht0]
    obtain rfl : de = te := by rw [HTE.out.2.1, if_neg ht0]
    obtain ⟨d0, d1, d2, d3⟩ := (HW.out.2.2.below HB2.out.1 HW.out.2.2.lt).two
    go_wp2
    refine bodyPost_ret (v := .tuple #[.agg #[.int .i64 0, .slice none 0 0], .bool false, .int .i64 de]) (by simp [results, Try.results15, go_sem, *]) rfl ⟨⟨[_, _], rfl, zst_ownN _ _⟩, ?_⟩
    exact below_set2 HB2.out.2 (by omega) _ _
  subst ht0
  obtain ⟨hc, hk0, hk1⟩ := terr_ok HTE.out.1.symm
  simp only at hk1
  obtain ⟨j, rfl⟩ : ∃ j : Nat, k = (j : Int) := ⟨k.toNat, by omega⟩
  have hjn : j < n := by rw [HN.out]; omega
  obtain ⟨p, hp⟩ := get_lt (l := l) (k := j) (by rw [← HN.out]; exact hjn)
  have HT2 : Hid (de = serr (lim, l) p ∧ di = sis (lim, l) p ∧ S' = sst (lim, l) p) := by
    refine ⟨?_, ?_, ?_⟩
    · rw [HTE.out.2.1]; simp [hp]
    · rw [HTE.out.2.2.1]; simp [hp]
    · rw [HTE.out.2.2.2]; simp [hp]
  obtain ⟨b5, o5, a5, c5, hix5, z0, z1, z2, hA5, hf5, ht5⟩ := pks_atN HD.out.2 j p hp
  obtain ⟨pf, pt, pd⟩ := p
  simp only at z0 z1 z2 hA5 hf5 ht5
  have HAP : Hid (pkF.lies n0 w [.int .i64 pf, .int .i64 pt, .slice a5 pd.length c5] (pf, pt, pd)) := pk_mk (p := (pf, pt, pd)) hA5 hf5 ht5
  obtain ⟨m, hm'⟩ : ∃ m, m = pd.length := ⟨_, rfl⟩
  rw [← hm'] at z2 HAP
  have kz : ∀ w', Below w.heap.size w w' → w'.cell? ⟨b5, o5, none⟩ = some (.int .i64 pf) ∧ w'.cell? ⟨b5, o5 + 1, none⟩ = some (.int .i64 pt) ∧ w'.cell? ⟨b5, o5 + 2, none⟩ = some (.slice a5 m c5) := fun w' hw => by
    refine ⟨?_, ?_, ?_⟩
    · rw [hw.cell (cell_lt z0)]; exact z0
    · rw [hw.cell (cell_lt z1)]; exact z1
    · rw [hw.cell (cell_lt z2)]; exact z2
  have HZK : Hid (∀ w', Below w.heap.size w w' → w'.cell? ⟨b5, o5, none⟩ = some (.int .i64 pf) ∧ w'.cell? ⟨b5, o5 + 1, none⟩ = some (.int .i64 pt) ∧ w'.cell? ⟨b5, o5 + 2, none⟩ = some (.slice a5 m c5)) := kz
  have HC1 : Hid (∀ w', Below w.heap.size w w' → Calls Try.prog 9 #[.agg #[.int .i64 lim, .slice a n c], .agg #[.int .i64 pf, .int .i64 pt, .slice a5 m c5]] w' fun e w'' => (∃ us', e = .returned (.tuple #[.agg us'.toArray, .bool di, .int .i64 de]) ∧ stN.owns w'.heap.size w'' us' S') ∧ Below w'.heap.size w' w'') := fun w' hw => by
    rw [HT2.out.1, HT2.out.2.1, HT2.out.2.2]
    exact send_any n0 n0 [.int .i64 lim, .slice a n c] [.int .i64 pf, .int .i64 pt, .slice a5 m c5] (lim, l) (pf, pt, pd) w' (stN.below HD.out.1 hw) (pkF.keep HAP.out (.of_below hw))
  have HZ : Hid (b5 < w.heap.size) := cell_lt z0
  obtain ⟨g0, g1, _, _⟩ := (HW.out.2.1.below HB2.out.1 HW.out.2.1.lt).two
  obtain ⟨y0, y1, y2⟩ := HZK.out w2 HB2.out.2
  have hbw := HB2.out.2.drew
  have HS2 : w2.drew.cell? ⟨w.heap.size, 0, none⟩ = some (.int .i64 lim) ∧ w2.drew.cell? ⟨w.heap.size, 1, none⟩ = some (.slice a n c) ∧ w2.drew.cell? ⟨b5, o5, none⟩ = some (.int .i64 pf) ∧ w2.drew.cell? ⟨b5, o5 + 1, none⟩ = some (.int .i64 pt) ∧ w2.drew.cell? ⟨b5, o5 + 2, none⟩ = some (.slice a5 m c5) ∧ Below w.heap.size w w2.drew := ⟨g0, g1, y0, y1, y2, hbw⟩
  have hji : (j : Int) < n := by omega
  clear hc hk0 hk1 hp z0 z1 z2 hA5 hf5 ht5 hm' kz HTE
  go_wp2
  go_region_held3 (fun w' => w'.cell? ⟨w.heap.size, 0, none⟩ = some (.int .i64 lim) ∧ w'.cell? ⟨w.heap.size, 1, none⟩ = some (.slice a n c) ∧ w'.cell? ⟨b5, o5, none⟩ = some (.int .i64 pf) ∧ w'.cell? ⟨b5, o5 + 1, none⟩ = some (.int .i64 pt) ∧ w'.cell? ⟨b5, o5 + 2, none⟩ = some (.slice a5 m c5) ∧ Below w.heap.size w w')
    (first | with_reducible exact HS3 | with_reducible exact HS2 | exact TS.set HZ.out (by omega) (TS.set HZ.out (by omega) HS3))
    ((go_simp
      with_reducible refine Calls.mono (HC1.out _ hbw) ?_
      rintro e w3 ⟨⟨u3, rfl, hO3⟩, hb3⟩
      obtain ⟨a3, c3, rfl, _⟩ := st_ownN hO3
      have hbw3 : Below w.heap.size w w3 := below_any hbw hb3
      have hbW3 : Below W.heap.size W w3 := below_any HB2.out.1.drew hb3
      have HS3 : w3.cell? ⟨w.heap.size, 0, none⟩ = some (.int .i64 lim) ∧ w3.cell? ⟨w.heap.size, 1, none⟩ = some (.slice a n c) ∧ w3.cell? ⟨b5, o5, none⟩ = some (.int .i64 pf) ∧ w3.cell? ⟨b5, o5 + 1, none⟩ = some (.int .i64 pt) ∧ w3.cell? ⟨b5, o5 + 2, none⟩ = some (.slice a5 m c5) ∧ Below w.heap.size w w3 :=
        ⟨(HW.out.2.1.below hbW3 HW.out.2.1.lt).two.1, (HW.out.2.1.below hbW3 HW.out.2.1.lt).two.2.1, (HZK.out _ hbw3).1, (HZK.out _ hbw3).2.1, (HZK.out _ hbw3).2.2, hbw3⟩
      have HK3 : Hid (stN.owns w2.heap.size w3 [.int .i64 S'.1, .slice a3 S'.2.length c3] S' ∧ Below w.heap.size w w3) := ⟨hO3, hbw3⟩
      obtain ⟨d0, d1, d2, d3⟩ := (HW.out.2.2.below hbW3 HW.out.2.2.lt).two))
  have HLT : Hid (w.heap.size + 1 < w2.heap.size) := by have := HW.out.2.2.lt; have := HB2.out.1.size; show _ < _; omega
  clear hO3 hb3 hbw hbw3 hbW3 HS2 HS3
  go_wp2
  refine bodyPost_ret (v := .tuple #[.agg #[.int .i64 S'.1, .slice a3 S'.2.length c3], .bool di, .int .i64 de]) (by simp [results, Try.results15, go_sem, *]) rfl ⟨⟨[_, _], rfl, ?_⟩, ?_⟩
  · exact stN.oweaken (n := w2.heap.size) (stN.osame HK3.out.1 (.set2 (by have := HLT.out; omega))) (by have := HLT.out; omega)
  · exact below_set2 HK3.out.2 (by omega) _ _

set_option maxHeartbeats 2000000 in
theorem rdrop_any (n0 : Nat) (us : List Value) (s : St) (k : Int) (w : World) (h : stR.lies n0 w us s) (hki : I64 k) :
    Calls Try.prog 14 #[.agg us.toArray, .int .i64 k] w fun e w' => (∃ us', e = .returned (.tuple #[.agg us'.toArray, .int .i64 (terr s k)]) ∧ stR.owns w.heap.size w' us' (tst s k)) ∧ Below w.heap.size w w' := by
  obtain ⟨a, c, rfl, hL, hi, hm⟩ := st_viewR h
  obtain ⟨W, hW⟩ : ∃ W, W = (w.alloc (.cells #[.int .i64 s.1, .slice a s.2.length c] 24)).alloc (.cells #[.int .i64 0, .slice none 0 0] 24) := ⟨_, rfl⟩
  have hb : Below w.heap.size w W := by
    rw [hW]; exact ((Below.refl _ w).alloc (Nat.le_refl _) _).alloc (by simp) _
  have hB1 : Box W (w.heap.size + 1) 24 #[.int .i64 0, .slice none 0 0] := by
    rw [hW]
    have := Box.new (w.alloc (.cells #[.int .i64 s.1, .slice a s.2.length c] 24)) 24 #[.int .i64 0, .slice none 0 0]
    rwa [World.size_alloc] at this
  have HW : Hid (Below w.heap.size w W ∧ Box W (w.heap.size + 1) 24 #[.int .i64 0, .slice none 0 0]) := ⟨hb, hB1⟩
  have HC := rtake_any n0 _ s k W (stR.below h hb) hki
  obtain ⟨te, hte⟩ : ∃ x, x = terr s k := ⟨_, rfl⟩
  obtain ⟨S', hS'⟩ : ∃ x, x = tst s k := ⟨_, rfl⟩
  obtain ⟨P', hP'⟩ : ∃ x, x = tpk s k := ⟨_, rfl⟩
  rw [← hte, ← hS', ← hP'] at HC
  rw [← hte, ← hS']
  obtain ⟨x0, hx0⟩ : ∃ x, x = s.1 := ⟨_, rfl⟩
  obtain ⟨n, hn⟩ : ∃ n, n = s.2.length := ⟨_, rfl⟩
  rw [← hx0, ← hn] at HC hW ⊢
  clear h hL hi hm hb hB1 hte hS' hP' hx0 hn
  go_enter Try.func14, Try.ntmps14
  go_wp2_with fail
  rw [← hW]
  clear hW
  refine HC.mono ?_
  rintro e w2 ⟨⟨u2, p2, rfl, hO2, hK2⟩, hb2⟩
  obtain ⟨a2, c2, rfl, _⟩ := st_ownR hO2
  obtain ⟨b2, d2, rfl, _⟩ := pk_own hK2
  have hR := HW.out.2.below hb2 HW.out.2.lt
  have hF := fun o o' => ((hR.alloc o).alloc o').two
  have HG : Hid (stR.owns W.heap.size w2 [.int .i64 S'.1, .slice a2 S'.2.length c2] S' ∧ Below w.heap.size w w2 ∧ w.heap.size + 1 < W.heap.size ∧ w.heap.size ≤ w2.heap.size) := ⟨hO2, below_any HW.out.1 hb2, HW.out.2.lt, (below_any HW.out.1 hb2).size⟩
  have hlt := hR.lt
  clear hO2 hK2 hb2 hR HC
  go_wp2
  refine bodyPost_ret (v := .tuple #[.agg #[.int .i64 S'.1, .slice a2 S'.2.length c2], .int .i64 te]) (by simp [results, Try.results14, go_sem, *]) rfl ⟨⟨[_, _], rfl, ?_⟩, ?_⟩
  · exact stR.oweaken (n := W.heap.size) (stR.osame (stR.osame (stR.osame HG.out.1 (.alloc _ _ _)) (.alloc _ _ _)) (.set2 HG.out.2.2.1)) (by have := HG.out.2.2.1; omega)
  · exact below_set2 ((HG.out.2.1.alloc HG.out.2.2.2 _).alloc (by have := HG.out.2.2.2; simp; omega) _) (by omega) _ _

set_option maxRecDepth 100000 in
set_option maxHeartbeats 4000000 in
theorem rdouble_any (n0 : Nat) (us : List Value) (s : St) (k : Int) (w : World) (h : stR.lies n0 w us s) (hki : I64 k) :
    Calls Try.prog 16 #[.agg us.toArray, .int .i64 k] w fun e w' => (∃ us', e = .returned (.tuple #[.agg us'.toArray, .bool (dis s k), .int .i64 (derr s k)]) ∧ stR.owns w.heap.size w' us' (dst s k)) ∧ Below w.heap.size w w' := by
  obtain ⟨a, c, rfl, hL, hi, hm⟩ := st_viewR h
  obtain ⟨lim, l⟩ := s
  simp only at hL hi hm
  obtain ⟨n, hn⟩ : ∃ n, n = l.length := ⟨_, rfl⟩
  obtain ⟨W, hW⟩ : ∃ W, W = (w.alloc (.cells #[.int .i64 lim, .slice a n c] 24)).alloc (.cells #[.int .i64 0, .slice none 0 0] 24) := ⟨_, rfl⟩
  have hb : Below w.heap.size w W := by
    rw [hW]; exact ((Below.refl _ w).alloc (Nat.le_refl _) _).alloc (by simp) _
  have hB0 : Box W w.heap.size 24 #[.int .i64 lim, .slice a n c] := by rw [hW]; exact (Box.new w 24 _).alloc _
  have hB1 : Box W (w.heap.size + 1) 24 #[.int .i64 0, .slice none 0 0] := by
    rw [hW]
    have := Box.new (w.alloc (.cells #[.int .i64 lim, .slice a n c] 24)) 24 #[.int .i64 0, .slice none 0 0]
    rwa [World.size_alloc] at this
  have HW : Hid (Below w.heap.size w W ∧ Box W w.heap.size 24 #[.int .i64 lim, .slice a n c] ∧ Box W (w.heap.size + 1) 24 #[.int .i64 0, .slice none 0 0]) := ⟨hb, hB0, hB1⟩
  have HD : Hid (stR.lies n0 w [.int .i64 lim, .slice a n c] (lim, l) ∧ pksR.lies n0 w [.slice a n c] l) := by
    rw [hn]; exact ⟨h, hL⟩
  have HN : Hid (n = l.length) := hn
  have HC := there_any n0 _ (lim, l) k W (stR.below HD.out.1 hb)
  obtain ⟨te, hte⟩ : ∃ x, x = terr (lim, l) k := ⟨_, rfl⟩
  obtain ⟨de, hde⟩ : ∃ x, x = derr (lim, l) k := ⟨_, rfl⟩
  obtain ⟨di, hdi⟩ : ∃ x, x = dis (lim, l) k := ⟨_, rfl⟩
  obtain ⟨S', hS'⟩ : ∃ x, x = dst (lim, l) k := ⟨_, rfl⟩
  have HTE : Hid (te = terr (lim, l) k ∧ de = (if te = 0 then serr (lim, l) ((l[k.toNat]?).getD zpk) else te) ∧ di = (if te = 0 then sis (lim, l) ((l[k.toNat]?).getD zpk) else false) ∧ S' = (if te = 0 then sst (lim, l) ((l[k.toNat]?).getD zpk) else zst)) := by
    refine ⟨hte, ?_, ?_, ?_⟩
    · rw [hde, hte]; rfl
    · rw [hdi, hte]; rfl
    · rw [hS', hte]; rfl
  rw [← hde, ← hdi, ← hS']
  rw [← hte] at HC
  simp only
  rw [← hn]
  clear h hL hi hm hb hB0 hB1 hn hte hde hdi hS'
  go_enter Try.func16, Try.ntmps16
  go_wp2_with fail
  rw [← hW]
  clear hW
  refine HC.mono ?_
  rintro e w2 ⟨rfl, hb2⟩
  have HB2 : Hid (Below W.heap.size W w2 ∧ Below w.heap.size w w2) := ⟨hb2, below_any HW.out.1 hb2⟩
  clear HC hb2
  by_cases ht0 : te = 0
  case neg =>
    obtain rfl : di = false := by rw [HTE.out.2.2.1, if_neg ht0]
    obtain rfl : S' = zst := by rw [HTE.out.2.2.2, if_neg ht0]
    obtain rfl : de = te := by rw [HTE.out.2.1, if_neg ht0]
    obtain ⟨d0, d1, d2, d3⟩ := (HW.out.2.2.below HB2.out.1 HW.out.2.2.lt).two
    go_wp2
    refine bodyPost_ret (v := .tuple #[.agg #[.int .i64 0, .slice none 0 0], .bool false, .int .i64 de]) (by simp [results, Try.results16, go_sem, *]) rfl ⟨⟨[_, _], rfl, zst_ownR _ _⟩, ?_⟩
    exact below_set2 HB2.out.2 (by omega) _ _
  subst ht0
  obtain ⟨hc, hk0, hk1⟩ := terr_ok HTE.out.1.symm
  simp only at hk1
  obtain ⟨j, rfl⟩ : ∃ j : Nat, k = (j : Int) := ⟨k.toNat, by omega⟩
  have hjn : j < n := by rw [HN.out]; omega
  obtain ⟨p, hp⟩ := get_lt (l := l) (k := j) (by rw [← HN.out]; exact hjn)
  have HT2 : Hid (de = serr (lim, l) p ∧ di = sis (lim, l) p ∧ S' = sst (lim, l) p) := by
    refine ⟨?_, ?_, ?_⟩
    · rw [HTE.out.2.1]; simp [hp]
    · rw [HTE.out.2.2.1]; simp [hp]
    · rw [HTE.out.2.2.2]; simp [hp]
  obtain ⟨b5, o5, a5, c5, hix5, z0, z1, z2, hA5, hf5, ht5⟩ := pks_atR HD.out.2 j p hp
  obtain ⟨pf, pt, pd⟩ := p
  simp only at z0 z1 z2 hA5 hf5 ht5
  have HAP : Hid (pkF.lies n0 w [.int .i64 pf, .int .i64 pt, .slice a5 pd.length c5] (pf, pt, pd)) := pk_mk (p := (pf, pt, pd)) hA5 hf5 ht5
  obtain ⟨m, hm'⟩ : ∃ m, m = pd.length := ⟨_, rfl⟩
  rw [← hm'] at z2 HAP
  have kz : ∀ w', Below w.heap.size w w' → w'.cell? ⟨b5, o5, none⟩ = some (.int .i64 pf) ∧ w'.cell? ⟨b5, o5 + 1, none⟩ = some (.int .i64 pt) ∧ w'.cell? ⟨b5, o5 + 2, none⟩ = some (.slice a5 m c5) := fun w' hw => by
    refine ⟨?_, ?_, ?_⟩
    · rw [hw.cell (cell_lt z0)]; exact z0
    · rw [hw.cell (cell_lt z1)]; exact z1
    · rw [hw.cell (cell_lt z2)]; exact z2
  have HZK : Hid (∀ w', Below w.heap.size w w' → w'.cell? ⟨b5, o5, none⟩ = some (.int .i64 pf) ∧ w'.cell? ⟨b5, o5 + 1, none⟩ = some (.int .i64 pt) ∧ w'.cell? ⟨b5, o5 + 2, none⟩ = some (.slice a5 m c5)) := kz
  have HC1 : Hid (∀ w', Below w.heap.size w w' → Calls Try.prog 10 #[.agg #[.int .i64 lim, .slice a n c], .agg #[.int .i64 pf, .int .i64 pt, .slice a5 m c5]] w' fun e w'' => (∃ us', e = .returned (.tuple #[.agg us'.toArray, .bool di, .int .i64 de]) ∧ stR.owns w'.heap.size w'' us' S') ∧ Below w'.heap.size w' w'') := fun w' hw => by
    rw [HT2.out.1, HT2.out.2.1, HT2.out.2.2]
    exact rsend_any n0 n0 [.int .i64 lim, .slice a n c] [.int .i64 pf, .int .i64 pt, .slice a5 m c5] (lim, l) (pf, pt, pd) w' (stR.below HD.out.1 hw) (pkF.keep HAP.out (.of_below hw))
  have HZ : Hid (b5 < w.heap.size) := cell_lt z0
  obtain ⟨g0, g1, _, _⟩ := (HW.out.2.1.below HB2.out.1 HW.out.2.1.lt).two
  obtain ⟨y0, y1, y2⟩ := HZK.out w2 HB2.out.2
  have hbw := HB2.out.2.drew
  have HS2 : w2.drew.cell? ⟨w.heap.size, 0, none⟩ = some (.int .i64 lim) ∧ w2.drew.cell? ⟨w.heap.size, 1, none⟩ = some (.slice a n c) ∧ w2.drew.cell? ⟨b5, o5, none⟩ = some (.int .i64 pf) ∧ w2.drew.cell? ⟨b5, o5 + 1, none⟩ = some (.int .i64 pt) ∧ w2.drew.cell? ⟨b5, o5 + 2, none⟩ = some (.slice a5 m c5) ∧ Below w.heap.size w w2.drew := ⟨g0, g1, y0, y1, y2, hbw⟩
  have hji : (j : Int) < n := by omega
  clear hc hk0 hk1 hp z0 z1 z2 hA5 hf5 ht5 hm' kz HTE
  go_wp2
  go_region_held3 (fun w' => w'.cell? ⟨w.heap.size, 0, none⟩ = some (.int .i64 lim) ∧ w'.cell? ⟨w.heap.size, 1, none⟩ = some (.slice a n c) ∧ w'.cell? ⟨b5, o5, none⟩ = some (.int .i64 pf) ∧ w'.cell? ⟨b5, o5 + 1, none⟩ = some (.int .i64 pt) ∧ w'.cell? ⟨b5, o5 + 2, none⟩ = some (.slice a5 m c5) ∧ Below w.heap.size w w')
    (first | with_reducible exact HS3 | with_reducible exact HS2 | exact TS.set HZ.out (by omega) (TS.set HZ.out (by omega) HS3))
    ((go_simp
      with_reducible refine Calls.mono (HC1.out _ hbw) ?_
      rintro e w3 ⟨⟨u3, rfl, hO3⟩, hb3⟩
      obtain ⟨a3, c3, rfl, _⟩ := st_ownR hO3
      have hbw3 : Below w.heap.size w w3 := below_any hbw hb3
      have hbW3 : Below W.heap.size W w3 := below_any HB2.out.1.drew hb3
      have HS3 : w3.cell? ⟨w.heap.size, 0, none⟩ = some (.int .i64 lim) ∧ w3.cell? ⟨w.heap.size, 1, none⟩ = some (.slice a n c) ∧ w3.cell? ⟨b5, o5, none⟩ = some (.int .i64 pf) ∧ w3.cell? ⟨b5, o5 + 1, none⟩ = some (.int .i64 pt) ∧ w3.cell? ⟨b5, o5 + 2, none⟩ = some (.slice a5 m c5) ∧ Below w.heap.size w w3 :=
        ⟨(HW.out.2.1.below hbW3 HW.out.2.1.lt).two.1, (HW.out.2.1.below hbW3 HW.out.2.1.lt).two.2.1, (HZK.out _ hbw3).1, (HZK.out _ hbw3).2.1, (HZK.out _ hbw3).2.2, hbw3⟩
      have HK3 : Hid (stR.owns w2.heap.size w3 [.int .i64 S'.1, .slice a3 S'.2.length c3] S' ∧ Below w.heap.size w w3) := ⟨hO3, hbw3⟩
      obtain ⟨d0, d1, d2, d3⟩ := (HW.out.2.2.below hbW3 HW.out.2.2.lt).two))
  have HLT : Hid (w.heap.size + 1 < w2.heap.size) := by have := HW.out.2.2.lt; have := HB2.out.1.size; show _ < _; omega
  clear hO3 hb3 hbw hbw3 hbW3 HS2 HS3
  go_wp2
  refine bodyPost_ret (v := .tuple #[.agg #[.int .i64 S'.1, .slice a3 S'.2.length c3], .bool di, .int .i64 de]) (by simp [results, Try.results16, go_sem, *]) rfl ⟨⟨[_, _], rfl, ?_⟩, ?_⟩
  · exact stR.oweaken (n := w2.heap.size) (stR.osame HK3.out.1 (.set2 (by have := HLT.out; omega))) (by have := HLT.out; omega)
  · exact below_set2 HK3.out.2 (by omega) _ _

end Go.Proofs.Ytpecniajamgjiaa
