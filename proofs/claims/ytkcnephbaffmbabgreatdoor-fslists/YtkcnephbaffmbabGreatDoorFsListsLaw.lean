/-
  FsLists, proved: for every state of the document and every path (as great as the form reads them): the call returns true, and changes nothing that was in memory; the one listed variable (the handle of the type of errors) starts as the program's text lays it, which the card ties.
-/
import Derived.Test.YtkcnephbaffmbabGreatDoorQ36
import Derived.Test.YtkcnephbaffmbabGreatDoorQ45
import Derived.Test.YtkcnephbaffmbabGreatDoorQ46
import Derived.Test.YtkcnephbaffmbabGreatDoorCards
import Derived.Test.YtkcnephbaffmbabGreatDoorTie
import Derived.Deep.DeepHandedRow
import Derived.ChangeMaps5
import Derived.Laws.Cover1
import Derived.Laws.Concat
namespace Go.Proofs.YtkcnephbaffmbabGreatDoor.fsLists
open Go.ChangeShapes Go.WideShapes Go.ChangeAt Go.RowKit Go.ChangeMaps
open P (serr sval ArgT OwnT)
set_option linter.unusedVariables false
theorem bad {s : St} {p : ByteArray} {O : List ByteArray} {k : Int} (h : Listed s p O k) (hk : k ≠ 0) : O = [] := by
  rcases h with ⟨_, b, _⟩ | ⟨_, _, c, _⟩ | ⟨_, _, c, d⟩
  · exact b
  · exact c
  · rw [c]; unfold lsO; rw [if_pos (by rw [← d]; exact hk)]
theorem cat_one (p : ByteArray) : p ++ (⟨#[47]⟩ : ByteArray) = P.bk (p.data.toList ++ [47]) := by
  rw [← P.bk_of (p ++ (⟨#[47]⟩ : ByteArray)), P.data_append]
theorem cat_two (p x : ByteArray) : P.bk (p.data.toList ++ [47]) ++ x = cat p x := by
  rw [← P.bk_of (P.bk (p.data.toList ++ [47]) ++ x), P.data_append, P.bk_data, List.append_assoc]
  rfl
set_option maxRecDepth 100000 in
set_option maxHeartbeats 16000000 in
theorem walk (us : List Value) (s : St) (p : ByteArray) (w : World) (hA : stR.lies 0 w us s) (hF : FitsS s.1) (hp : p.size ≤ maxLen) (hg : Glob w) :
    Calls Tryz.prog 5 #[.agg us.toArray, .string p] w fun e w' => e = .returned (.bool true) ∧ Below w.heap.size w w' := by
  obtain ⟨a, c, rfl, hs, hI, hm⟩ := st_viewR hA
  obtain ⟨l, nx⟩ := s
  simp only at hs hI hm hF ⊢
  obtain ⟨n, hn⟩ : ∃ n, n = l.length := ⟨_, rfl⟩
  rw [← hn] at hs ⊢
  have HG : Hid (∀ V, Below w.heap.size w V → Glob V) := fun V hV => hg.below hV hg.lt
  have H0 : Hid (ndsR.lies 0 w [.slice a n c] l ∧ n = l.length ∧ FitsS l ∧ p.size ≤ maxLen) := ⟨hs, hn, hF, hp⟩
  obtain ⟨V0, hV0⟩ : ∃ V, V = w.alloc (.cells #[.slice a n c, .int .i64 nx] 24) := ⟨_, rfl⟩
  have HB0 : Hid (Below w.heap.size w V0 ∧ Box V0 w.heap.size 24 #[.slice a n c, .int .i64 nx]) := ⟨by rw [hV0]; exact (Below.refl _ w).alloc (Nat.le_refl _) _, by rw [hV0]; exact Box.new _ _ _⟩
  clear hA hs hn hF hp hI hm hg
  have HC1 := alive_any V0 (HG.out _ HB0.out.1)
  go_enter Tryz.func5, Tryz.ntmps5
  go_wp2_with fail
  rw [← hV0]
  clear hV0
  refine HC1.mono ?_
  rintro e w1 ⟨rfl, hb1⟩
  have HL1 : Hid (Below V0.heap.size V0 w1) := hb1
  clear hb1 HC1
  have HC2 := of_f (nx := nx) H0.out.2.1 (ndsR.below H0.out.1 (below_any HB0.out.1 HL1.out)) H0.out.2.2.1
  obtain ⟨b0c0, b0c1, -, -⟩ := ((HB0.out.2).below HL1.out (HB0.out.2).lt).two
  go_wp2_with fail
  clear b0c0 b0c1
  refine HC2.mono ?_
  rintro e w2 ⟨⟨a2, c2, rfl, ho2⟩, hb2⟩
  have HL2 : Hid (Below w1.heap.size w1 w2 ∧ ndsN.lies w1.heap.size w2 [.slice a2 n c2] l) := ⟨hb2, ndsN.olies ho2⟩
  clear hb2 ho2 HC2
  have HC3 := list_f (nx := nx) H0.out.2.1 H0.out.2.2.2 HL2.out.2 (HG.out _ (below_any (below_any HB0.out.1 HL1.out) HL2.out.1))
  go_wp2_with fail
  refine HC3.mono ?_
  rintro e w3 ⟨⟨v3, O, k3, rfl, hv3, ht3⟩, hb3⟩
  obtain ⟨la, lc, rfl⟩ := hv3.shape
  obtain ⟨m, hm⟩ : ∃ m, m = O.length := ⟨_, rfl⟩
  rw [← hm] at hv3 ⊢
  have HL3 : Hid (Below w2.heap.size w2 w3 ∧ OwnT w2.heap.size w3 (.slice la m lc) O ∧ m = O.length ∧ Listed (l, nx) p O k3) := ⟨hb3, hv3, hm, ht3⟩
  have hr3 := run_len Tryz.underlying60 la m lc
  clear hb3 hv3 hm ht3 HC3
  by_cases hk3 : k3 = 0
  case neg =>
    obtain rfl : m = 0 := by rw [HL3.out.2.2.1, bad HL3.out.2.2.2 hk3]; rfl
    have HBF : Hid (Below w.heap.size w w3) := (below_any (below_any (below_any HB0.out.1 HL1.out) HL2.out.1) HL3.out.1)
    go_wp2_with (go_at_call 9; refine (num10_any _ _).mono ?_; rintro e v ⟨rfl, rfl⟩)
    go_ret
    exact ⟨rfl, HBF.out⟩
  subst hk3
  obtain ⟨f1, f2, f3, f4, f5⟩ := lists_law HL3.out.2.2.2
  have HF : Hid ((∀ (i j : Nat) x y, i < j → O[i]? = some x → O[j]? = some y → D.ltB x y = true) ∧ (∀ (i : Nat) x, O[i]? = some x → x.size ≤ 16 ∧ (p.size + 1 + x.size ≤ 128 → (∀ j k, Found (l, nx) (cat p x) j k → k = 0 ∧ 1 < j ∧ ∀ N k, Stated (l, nx) (cat p x) N k → k = 0 ∧ N.1 = j ∧ 1 ≤ lk N)))) := ⟨f4, f5⟩
  have HF1 : Hid (∀ N k, Stated (l, nx) p N k → k = 0 ∧ isD N = true ∧ (fi N).1 + ((en N).length : Int) = (O.length : Int)) := f1
  rw [← HL3.out.2.2.1] at f3
  clear f1 f4 f5
  have HC4 := of_f (nx := nx) H0.out.2.1 (ndsR.below H0.out.1 (below_any (below_any (below_any HB0.out.1 HL1.out) HL2.out.1) HL3.out.1)) H0.out.2.2.1
  obtain ⟨b0c0, b0c1, -, -⟩ := ((HB0.out.2).below (below_any (below_any HL1.out HL2.out.1) HL3.out.1) (HB0.out.2).lt).two
  go_wp2_with (go_at_call 9; refine (num10_any _ _).mono ?_; rintro e v ⟨rfl, rfl⟩)
  clear b0c0 b0c1
  refine HC4.mono ?_
  rintro e w4 ⟨⟨a4, c4, rfl, ho4⟩, hb4⟩
  have HL4 : Hid (Below w3.heap.size w3 w4 ∧ ndsN.lies w3.heap.size w4 [.slice a4 n c4] l) := ⟨hb4, ndsN.olies ho4⟩
  clear hb4 ho4 HC4
  have HC5 := stat_f (nx := nx) H0.out.2.1 H0.out.2.2.2 HL4.out.2 (HG.out _ (below_any (below_any (below_any (below_any HB0.out.1 HL1.out) HL2.out.1) HL3.out.1) HL4.out.1))
  go_wp2_with fail
  refine HC5.mono ?_
  rintro e w5 ⟨⟨N5, k5, rfl, ht5⟩, hb5⟩
  obtain ⟨rfl, hd5, hz5⟩ := HF1.out N5 k5 ht5
  rw [← HL3.out.2.2.1] at hz5
  rw [hd5, hz5]
  have HL5 : Hid (Below w4.heap.size w4 w5) := hb5
  obtain ⟨i5, hi5⟩ : ∃ i, i = N5.1 := ⟨_, rfl⟩
  obtain ⟨j5, hj5⟩ : ∃ i, i = lk N5 := ⟨_, rfl⟩
  rw [← hi5, ← hj5]
  clear hb5 hd5 hz5 ht5 HC5 HF1 hi5 hj5 N5
  go_wp2_with (go_at_call 9; refine (num10_any _ _).mono ?_; rintro e v ⟨rfl, rfl⟩)
  have HW5 : Hid (∀ V, Below w5.heap.size w5 V → Below w.heap.size w V ∧ V.cell? ⟨w.heap.size, 0, none⟩ = some (.slice a n c) ∧ V.cell? ⟨w.heap.size, 1, none⟩ = some (.int .i64 nx) ∧ ArgT w2.heap.size V (.slice la m lc) O) := fun V hV => by
    have hB := ((HB0.out.2).below (below_any (below_any (below_any (below_any HL1.out HL2.out.1) HL3.out.1) HL4.out.1) HL5.out) (HB0.out.2).lt)
    obtain ⟨z0, z1, -, -⟩ := (hB.below hV hB.lt).two
    exact ⟨below_any (below_any (below_any (below_any (below_any (below_any HB0.out.1 HL1.out) HL2.out.1) HL3.out.1) HL4.out.1) HL5.out) hV, z0, z1, (HL3.out.2.1.arg.below (below_any (below_any HL4.out.1 HL5.out) hV))⟩
  clear HB0 HL1 HL2 HL4 HL5
  go_loopw [12] (fun i wr => ∃ k : Nat, k ≤ m ∧ i = .int .i64 k ∧ Hid (Below w5.heap.size w5 wr)) (fun i _ => m - (intOf i).toNat)
  case atStart => exact ⟨0, Nat.zero_le _, rfl, Below.refl _ _⟩
  case round =>
    obtain ⟨k, hk, rfl, HJ⟩ := hrel
    by_cases hlt : k < m
    · obtain ⟨x, hx⟩ := get_lt (l := O) (k := k) (by rw [← HL3.out.2.2.1]; exact hlt)
      obtain ⟨b, o, hix, -, hc⟩ := (HW5.out wr HJ.out).2.2.2.at k x hx
      have hkm : (k : Int) < (m : Int) := by omega
      have hx16 := (HF.out.2 k x hx).1
      have HX : Hid (O[k]? = some x) := hx
      have HS5 : Hid (p.size + 1 + x.size ≤ 128 → (∀ j k, Found (l, nx) (cat p x) j k → k = 0 ∧ 1 < j ∧ ∀ N k, Stated (l, nx) (cat p x) N k → k = 0 ∧ N.1 = j ∧ 1 ≤ lk N)) := (HF.out.2 k x hx).2
      have hz0 : (p ++ (⟨#[47]⟩ : ByteArray)) = P.bk (p.data.toList ++ [47]) := cat_one p
      obtain ⟨p1, hp1⟩ : ∃ z, z = P.bk (p.data.toList ++ [47]) := ⟨_, rfl⟩
      obtain ⟨p2, hp2⟩ : ∃ z, z = cat p x := ⟨_, rfl⟩
      have hz1 : p1 ++ x = p2 := by rw [hp1, hp2]; exact cat_two p x
      have hs1 : p1.size = p.size + 1 := by rw [hp1, P.bk_size, List.length_append, ← Lib.size_eq]; rfl
      rw [← hp1] at hz0
      have hadd1 : ∀ W, (Op.stringOp .add p ⟨#[47]⟩).run Tryz.prog W = .ok (.string p1) W := fun W => by
        rw [run_string_add_sum W p ⟨#[47]⟩ (by have : (⟨#[47]⟩ : ByteArray).size = 1 := rfl; omega), hz0]
      have hadd2 : ∀ W, (Op.stringOp .add p1 x).run Tryz.prog W = .ok (.string p2) W := fun W => by
        rw [run_string_add_sum W p1 x (by omega), hz1]
      clear hz0 hz1
      have HP2 : Hid (p2 = cat p x ∧ p2.size = p.size + 1 + x.size) := ⟨hp2, by rw [hp2]; unfold cat; rw [P.bk_size, List.length_append, List.length_cons, ← Lib.size_eq, ← Lib.size_eq]; omega⟩
      obtain ⟨sp, hsp⟩ : ∃ z, z = p.size := ⟨_, rfl⟩
      obtain ⟨sx, hsx⟩ : ∃ z, z = x.size := ⟨_, rfl⟩
      have hspe := hsp.symm
      have hsxe := hsx.symm
      rw [← hsp] at f2 hs1
      rw [← hsx] at hx16
      have HSZ : Hid (sp = p.size ∧ sx = x.size) := ⟨hsp, hsx⟩
      clear hx hp1 hp2 hsp hsx
      cases k with
      | zero =>
        have hix0 : ∀ W, (Instr.indexAt 60 (.slice la m lc) (.int .i64 0)).run Tryz.prog W = .ok (.pointer (some ⟨b, o, none⟩)) W := hix
        go_wp2
        go_quiet (fail)
        generalize hwq : wr.drewN _ = wq
        have hwq := hwq.symm
        have HJQ : Hid (Below w5.heap.size w5 wq) := by rw [hwq]; exact below_drewN HJ.out _
        have HCU : Hid (∀ U, U = wq.drew → U.cell? ⟨b, o, none⟩ = some (.string x)) := fun U hU => by rw [hU, hwq]; simpa using hc
        have hc : wq.cell? ⟨b, o, none⟩ = some (.string x) := by rw [hwq]; simpa using hc
        clear hwq
        by_cases hlong : 128 < sp + 1 + sx
        case pos =>
          go_wp2
          go_roundw
          case rel => exact ⟨0 + 1, by omega, by go_num, HJQ.out⟩
          case measure => simp [intOf]; omega
        have HS6 := HS5.out (by have := HSZ.out; omega)
        have hsz2 : p2.size ≤ maxLen := by have h1 := HP2.out.2; have h2 := HSZ.out; unfold maxLen; omega
        rw [← HP2.out.1] at HS6
        have HS7 : Hid (∀ j k, Found (l, nx) p2 j k → k = 0 ∧ 1 < j ∧ ∀ N k, Stated (l, nx) p2 N k → k = 0 ∧ N.1 = j ∧ 1 ≤ lk N) := HS6
        clear HS6
        go_wp2
        obtain ⟨U, hU⟩ : ∃ U, U = wq.drew := ⟨_, rfl⟩
        have HU : Hid (Below w5.heap.size w5 U) := by rw [hU]; exact below_any HJQ.out (Below.refl _ wq).drew
        have HCO := of_f (nx := nx) H0.out.2.1 (ndsR.below H0.out.1 (HW5.out U HU.out).1) H0.out.2.2.1
        have HCF : Hid (∀ V a' c', Below w5.heap.size w5 V → ndsN.lies U.heap.size V [.slice a' n c'] l → Calls Tryz.prog 22 #[.agg #[.slice a' n c', .int .i64 nx], .string p2] V fun e w' => (∃ i k, e = .returned (.tuple #[.int .i64 i, .int .i64 k]) ∧ Found (l, nx) p2 i k) ∧ Below V.heap.size V w') := fun V a' c' hV hl => find_f H0.out.2.1 hsz2 hl (HG.out _ (HW5.out V hV).1)
        have HSX : Hid (∀ V, Below w5.heap.size w5 V → Below U.heap.size U V → V.cell? ⟨w.heap.size, 0, none⟩ = some (.slice a n c) ∧ V.cell? ⟨w.heap.size, 1, none⟩ = some (.int .i64 nx) ∧ V.cell? ⟨b, o, none⟩ = some (.string x)) := fun V hV hUV => ⟨(HW5.out V hV).2.1, (HW5.out V hV).2.2.1, by rw [hUV.cell (cell_lt (HCU.out U (by rw [hU]))), ]; exact HCU.out U (by rw [hU])⟩
        have HS0 := HSX.out U HU.out (Below.refl _ _)
        rw [hU] at HS0 HCO
        go_region_held3 (fun V => V.cell? ⟨w.heap.size, 0, none⟩ = some (.slice a n c) ∧ V.cell? ⟨w.heap.size, 1, none⟩ = some (.int .i64 nx) ∧ V.cell? ⟨b, o, none⟩ = some (.string x))
          (first | with_reducible exact HS2 | with_reducible exact HS1 | with_reducible exact HS0)
          ((first | (go_at_call 8; refine HCO.mono ?_; rintro e u1 ⟨⟨a6, c6, rfl, ho6⟩, hb6⟩; rw [← hU] at ho6 hb6; have HU1 : Hid (Below w5.heap.size w5 u1) := below_any HU.out hb6; have HS1 := HSX.out u1 HU1.out hb6; have HCF1 := HCF.out u1 a6 c6 HU1.out (ndsN.olies ho6)) | (go_at_call 22; refine HCF1.mono ?_; rintro e u2 ⟨⟨i7, k7, rfl, hf7⟩, hb7⟩; have HU2 : Hid (Below w5.heap.size w5 u2 ∧ Below U.heap.size U u2) := ⟨below_any HU1.out hb7, below_any hb6 hb7⟩; have HS2 := HSX.out u2 HU2.out.1 HU2.out.2)))
        obtain ⟨rfl, hi7, hS7⟩ := HS7.out i7 k7 hf7
        have HS8 : Hid (∀ N k, Stated (l, nx) p2 N k → k = 0 ∧ N.1 = i7 ∧ 1 ≤ lk N) := hS7
        have HCU2 : Hid (u2.cell? ⟨b, o, none⟩ = some (.string x)) := HS2.2.2
        clear hU HU HCO HCF HSX HS0 HS1 HS2 ho6 hb6 HU1 HCF1 hf7 hb7 hS7
        go_wp2
        obtain ⟨X, hX⟩ : ∃ U, U = u2.drew := ⟨_, rfl⟩
        have HXB : Hid (Below w5.heap.size w5 X) := by rw [hX]; exact below_any HU2.out.1 (Below.refl _ u2).drew
        have HCO := of_f (nx := nx) H0.out.2.1 (ndsR.below H0.out.1 (HW5.out X HXB.out).1) H0.out.2.2.1
        have HCT : Hid (∀ V a' c', Below w5.heap.size w5 V → ndsN.lies X.heap.size V [.slice a' n c'] l → Calls Tryz.prog 21 #[.agg #[.slice a' n c', .int .i64 nx], .string p2] V fun e w' => (∃ N k, e = .returned (.tuple #[.int .i64 N.1, .bool (isD N), .int .i64 ((fi N).1 + ((en N).length : Int)), .int .i64 (lk N), .int .i64 k]) ∧ Stated (l, nx) p2 N k) ∧ Below V.heap.size V w') := fun V a' c' hV hl => stat_f H0.out.2.1 hsz2 hl (HG.out _ (HW5.out V hV).1)
        have HSX : Hid (∀ V, Below w5.heap.size w5 V → Below X.heap.size X V → V.cell? ⟨w.heap.size, 0, none⟩ = some (.slice a n c) ∧ V.cell? ⟨w.heap.size, 1, none⟩ = some (.int .i64 nx) ∧ V.cell? ⟨b, o, none⟩ = some (.string x)) := fun V hV hUV => ⟨(HW5.out V hV).2.1, (HW5.out V hV).2.2.1, by
          have hcx : X.cell? ⟨b, o, none⟩ = some (.string x) := by rw [hX]; exact HCU2.out
          rw [hUV.cell (cell_lt hcx)]; exact hcx⟩
        have HS0 := HSX.out X HXB.out (Below.refl _ _)
        rw [hX] at HS0 HCO
        go_region_held3 (fun V => V.cell? ⟨w.heap.size, 0, none⟩ = some (.slice a n c) ∧ V.cell? ⟨w.heap.size, 1, none⟩ = some (.int .i64 nx) ∧ V.cell? ⟨b, o, none⟩ = some (.string x))
          (first | with_reducible exact HS2 | with_reducible exact HS1 | with_reducible exact HS0)
          ((first | (go_at_call 8; refine HCO.mono ?_; rintro e u3 ⟨⟨a8, c8, rfl, ho8⟩, hb8⟩; rw [← hX] at ho8 hb8; have HU3 : Hid (Below w5.heap.size w5 u3) := below_any HXB.out hb8; have HS1 := HSX.out u3 HU3.out hb8; have HCT1 := HCT.out u3 a8 c8 HU3.out (ndsN.olies ho8)) | (go_at_call 21; refine HCT1.mono ?_; rintro e u4 ⟨⟨N9, k9, rfl, hf9⟩, hb9⟩; have HU4 : Hid (Below w5.heap.size w5 u4 ∧ Below X.heap.size X u4) := ⟨below_any HU3.out hb9, below_any hb8 hb9⟩; have HS2 := HSX.out u4 HU4.out.1 HU4.out.2)))
        obtain ⟨rfl, hN9, hl9⟩ := HS8.out N9 k9 hf9
        rw [hN9]
        obtain ⟨l9, hl9e⟩ : ∃ z, z = lk N9 := ⟨_, rfl⟩
        obtain ⟨d9, hd9e⟩ : ∃ z, z = isD N9 := ⟨_, rfl⟩
        obtain ⟨z9, hz9e⟩ : ∃ z, z = (fi N9).1 + ((en N9).length : Int) := ⟨_, rfl⟩
        rw [← hl9e, ← hd9e, ← hz9e]
        rw [← hl9e] at hl9
        clear hX HXB HCO HCT HSX HS0 HS1 HS2 ho8 hb8 HU3 HCT1 hf9 hb9 hN9 hl9e hd9e hz9e HS8 N9
        go_wp2_with (go_at_call 9; refine (num10_any _ _).mono ?_; rintro e v ⟨rfl, rfl⟩)
        go_roundw
        case rel => exact ⟨0 + 1, by omega, by go_num, HU4.out.1⟩
        case measure => simp [intOf]; omega
      | succ j =>
        obtain ⟨y, hy⟩ := get_lt (l := O) (k := j) (by rw [← HL3.out.2.2.1]; omega)
        obtain ⟨b2, o2, hix2, -, hc2⟩ := (HW5.out wr HJ.out).2.2.2.at j y hy
        have hlt2 := HF.out.1 j (j + 1) y x (by omega) hy HX.out
        have hz2 : Op.bytesLess x.toList y.toList = false := D.ltB_asymm hlt2
        have hz3 : (x.toList == y.toList) = false := by
          rw [D.ba_eq]
          refine decide_eq_false fun e => ?_
          rw [e, D.ltB_irrefl] at hlt2
          cases hlt2
        have hix1 : ∀ W, (Instr.indexAt 60 (.slice la m lc) (.int .i64 ((j : Int) + 1))).run Tryz.prog W = .ok (.pointer (some ⟨b, o, none⟩)) W := hix
        have hwj : IntKind.i64.wrap (j : Int) = j := by rw [IntWalk.i64_left]; exact IntWalk.wrap64_in _ ⟨by omega, by omega⟩
        have hjn : (j : Int) < (m : Int) := by omega
        have hj0 : (0 : Int) ≤ (j : Int) := by omega
        have hj1 : (0 : Int) < (j : Int) + 1 := by omega
        clear hlt2 hy
        go_wp2
        go_quiet (fail)
        generalize hwq : wr.drewN _ = wq
        have hwq := hwq.symm
        have HJQ : Hid (Below w5.heap.size w5 wq) := by rw [hwq]; exact below_drewN HJ.out _
        have HCU : Hid (∀ U, U = wq.drew → U.cell? ⟨b, o, none⟩ = some (.string x)) := fun U hU => by rw [hU, hwq]; simpa using hc
        have hc : wq.cell? ⟨b, o, none⟩ = some (.string x) := by rw [hwq]; simpa using hc
        clear hwq hix2 hc2 hz2 hz3
        by_cases hlong : 128 < sp + 1 + sx
        case pos =>
          go_wp2
          go_roundw
          case rel => exact ⟨(j + 1) + 1, by omega, by go_num, HJQ.out⟩
          case measure => simp [intOf]; omega
        have HS6 := HS5.out (by have := HSZ.out; omega)
        have hsz2 : p2.size ≤ maxLen := by have h1 := HP2.out.2; have h2 := HSZ.out; unfold maxLen; omega
        rw [← HP2.out.1] at HS6
        have HS7 : Hid (∀ j k, Found (l, nx) p2 j k → k = 0 ∧ 1 < j ∧ ∀ N k, Stated (l, nx) p2 N k → k = 0 ∧ N.1 = j ∧ 1 ≤ lk N) := HS6
        clear HS6
        go_wp2
        obtain ⟨U, hU⟩ : ∃ U, U = wq.drew := ⟨_, rfl⟩
        have HU : Hid (Below w5.heap.size w5 U) := by rw [hU]; exact below_any HJQ.out (Below.refl _ wq).drew
        have HCO := of_f (nx := nx) H0.out.2.1 (ndsR.below H0.out.1 (HW5.out U HU.out).1) H0.out.2.2.1
        have HCF : Hid (∀ V a' c', Below w5.heap.size w5 V → ndsN.lies U.heap.size V [.slice a' n c'] l → Calls Tryz.prog 22 #[.agg #[.slice a' n c', .int .i64 nx], .string p2] V fun e w' => (∃ i k, e = .returned (.tuple #[.int .i64 i, .int .i64 k]) ∧ Found (l, nx) p2 i k) ∧ Below V.heap.size V w') := fun V a' c' hV hl => find_f H0.out.2.1 hsz2 hl (HG.out _ (HW5.out V hV).1)
        have HSX : Hid (∀ V, Below w5.heap.size w5 V → Below U.heap.size U V → V.cell? ⟨w.heap.size, 0, none⟩ = some (.slice a n c) ∧ V.cell? ⟨w.heap.size, 1, none⟩ = some (.int .i64 nx) ∧ V.cell? ⟨b, o, none⟩ = some (.string x)) := fun V hV hUV => ⟨(HW5.out V hV).2.1, (HW5.out V hV).2.2.1, by rw [hUV.cell (cell_lt (HCU.out U (by rw [hU]))), ]; exact HCU.out U (by rw [hU])⟩
        have HS0 := HSX.out U HU.out (Below.refl _ _)
        rw [hU] at HS0 HCO
        go_region_held3 (fun V => V.cell? ⟨w.heap.size, 0, none⟩ = some (.slice a n c) ∧ V.cell? ⟨w.heap.size, 1, none⟩ = some (.int .i64 nx) ∧ V.cell? ⟨b, o, none⟩ = some (.string x))
          (first | with_reducible exact HS2 | with_reducible exact HS1 | with_reducible exact HS0)
          ((first | (go_at_call 8; refine HCO.mono ?_; rintro e u1 ⟨⟨a6, c6, rfl, ho6⟩, hb6⟩; rw [← hU] at ho6 hb6; have HU1 : Hid (Below w5.heap.size w5 u1) := below_any HU.out hb6; have HS1 := HSX.out u1 HU1.out hb6; have HCF1 := HCF.out u1 a6 c6 HU1.out (ndsN.olies ho6)) | (go_at_call 22; refine HCF1.mono ?_; rintro e u2 ⟨⟨i7, k7, rfl, hf7⟩, hb7⟩; have HU2 : Hid (Below w5.heap.size w5 u2 ∧ Below U.heap.size U u2) := ⟨below_any HU1.out hb7, below_any hb6 hb7⟩; have HS2 := HSX.out u2 HU2.out.1 HU2.out.2)))
        obtain ⟨rfl, hi7, hS7⟩ := HS7.out i7 k7 hf7
        have HS8 : Hid (∀ N k, Stated (l, nx) p2 N k → k = 0 ∧ N.1 = i7 ∧ 1 ≤ lk N) := hS7
        have HCU2 : Hid (u2.cell? ⟨b, o, none⟩ = some (.string x)) := HS2.2.2
        clear hU HU HCO HCF HSX HS0 HS1 HS2 ho6 hb6 HU1 HCF1 hf7 hb7 hS7
        go_wp2
        obtain ⟨X, hX⟩ : ∃ U, U = u2.drew := ⟨_, rfl⟩
        have HXB : Hid (Below w5.heap.size w5 X) := by rw [hX]; exact below_any HU2.out.1 (Below.refl _ u2).drew
        have HCO := of_f (nx := nx) H0.out.2.1 (ndsR.below H0.out.1 (HW5.out X HXB.out).1) H0.out.2.2.1
        have HCT : Hid (∀ V a' c', Below w5.heap.size w5 V → ndsN.lies X.heap.size V [.slice a' n c'] l → Calls Tryz.prog 21 #[.agg #[.slice a' n c', .int .i64 nx], .string p2] V fun e w' => (∃ N k, e = .returned (.tuple #[.int .i64 N.1, .bool (isD N), .int .i64 ((fi N).1 + ((en N).length : Int)), .int .i64 (lk N), .int .i64 k]) ∧ Stated (l, nx) p2 N k) ∧ Below V.heap.size V w') := fun V a' c' hV hl => stat_f H0.out.2.1 hsz2 hl (HG.out _ (HW5.out V hV).1)
        have HSX : Hid (∀ V, Below w5.heap.size w5 V → Below X.heap.size X V → V.cell? ⟨w.heap.size, 0, none⟩ = some (.slice a n c) ∧ V.cell? ⟨w.heap.size, 1, none⟩ = some (.int .i64 nx) ∧ V.cell? ⟨b, o, none⟩ = some (.string x)) := fun V hV hUV => ⟨(HW5.out V hV).2.1, (HW5.out V hV).2.2.1, by
          have hcx : X.cell? ⟨b, o, none⟩ = some (.string x) := by rw [hX]; exact HCU2.out
          rw [hUV.cell (cell_lt hcx)]; exact hcx⟩
        have HS0 := HSX.out X HXB.out (Below.refl _ _)
        rw [hX] at HS0 HCO
        go_region_held3 (fun V => V.cell? ⟨w.heap.size, 0, none⟩ = some (.slice a n c) ∧ V.cell? ⟨w.heap.size, 1, none⟩ = some (.int .i64 nx) ∧ V.cell? ⟨b, o, none⟩ = some (.string x))
          (first | with_reducible exact HS2 | with_reducible exact HS1 | with_reducible exact HS0)
          ((first | (go_at_call 8; refine HCO.mono ?_; rintro e u3 ⟨⟨a8, c8, rfl, ho8⟩, hb8⟩; rw [← hX] at ho8 hb8; have HU3 : Hid (Below w5.heap.size w5 u3) := below_any HXB.out hb8; have HS1 := HSX.out u3 HU3.out hb8; have HCT1 := HCT.out u3 a8 c8 HU3.out (ndsN.olies ho8)) | (go_at_call 21; refine HCT1.mono ?_; rintro e u4 ⟨⟨N9, k9, rfl, hf9⟩, hb9⟩; have HU4 : Hid (Below w5.heap.size w5 u4 ∧ Below X.heap.size X u4) := ⟨below_any HU3.out hb9, below_any hb8 hb9⟩; have HS2 := HSX.out u4 HU4.out.1 HU4.out.2)))
        obtain ⟨rfl, hN9, hl9⟩ := HS8.out N9 k9 hf9
        rw [hN9]
        obtain ⟨l9, hl9e⟩ : ∃ z, z = lk N9 := ⟨_, rfl⟩
        obtain ⟨d9, hd9e⟩ : ∃ z, z = isD N9 := ⟨_, rfl⟩
        obtain ⟨z9, hz9e⟩ : ∃ z, z = (fi N9).1 + ((en N9).length : Int) := ⟨_, rfl⟩
        rw [← hl9e, ← hd9e, ← hz9e]
        rw [← hl9e] at hl9
        clear hX HXB HCO HCT HSX HS0 HS1 HS2 ho8 hb8 HU3 HCT1 hf9 hb9 hN9 hl9e hd9e hz9e HS8 N9
        go_wp2_with (go_at_call 9; refine (num10_any _ _).mono ?_; rintro e v ⟨rfl, rfl⟩)
        go_roundw
        case rel => exact ⟨(j + 1) + 1, by omega, by go_num, HU4.out.1⟩
        case measure => simp [intOf]; omega
    · obtain rfl : k = m := by omega
      go_wp2
      go_ret
      exact ⟨rfl, (HW5.out wr HJ.out).1⟩
set_option maxRecDepth 100000 in
theorem contract (H : Type) (enc : TypeId × Value → H) (W : World) (base : Nat) (args : Array Value) (ds gs : List (DataW H)) (before : List MemPlace)
    (hval0 : ∀ (j : Nat) t v, Tryz.f5.params[j]? = some t → args[j]? = some v → Value.okWide Tryz.prog W .any base t v)
    (hW : DataW.Whole enc Tryz.prog Tryz.f5.params.toList Rows.fsListsSpec.vars false W args.toList ds gs before) 
    (hsz0 : (DataW.weightsEach Tryz.prog (Tryz.f5.params.toList ++ Rows.fsListsSpec.plain.varTypes Tryz.prog) (ds ++ gs)).all (· ≤ reachBytes) = true) (hg : Glob W) :
    Calls Tryz.prog 5 args W fun e W' => ∃ v, e = .returned v ∧ Rows.fsListsSpec.post enc Tryz.prog Tryz.f5 false true false false W args v W' := by
  have hval := hval0
  have hW' := hW
  obtain ⟨p, q, hA0, hV, rfl, hfz, hnd⟩ := hW
  have hA : DataW.TrodAll enc Tryz.prog W 0 (fun _ => true) true Tryz.f5.params.toList args.toList ds p := hA0
  have hsz := hsz0
  clear hsz0
  rw [Tryz.params5] at hA hval hsz
  obtain ⟨v0, vs0, d0, ds0, p0, q0, hargs, rfl, rfl, h0, r0⟩ := trodAll_cons hA
  obtain ⟨v1, vs1, d1, ds1, p1, q1, rfl, rfl, rfl, h1, r1⟩ := trodAll_cons r0
  obtain ⟨rfl, rfl, rfl⟩ := trodAll_nil r1
  obtain rfl : args = #[v0, v1] := by cases args; simp_all
  obtain ⟨rfl, rfl⟩ := trodVars_none hV
  obtain ⟨cs0, rfl, hc0⟩ := okWide_struct Tryz.underlying24 (hval 0 24 v0 rfl rfl)
  obtain ⟨us0, rfl⟩ := as_list cs0
  have k0 := h0
  have lt0 : ∀ x ∈ p0, x.block < W.heap.size := by obtain ⟨m, hm⟩ := k0; exact DataW.trod_lt m _ _ _ hm
  obtain ⟨m0, hm0⟩ := h0
  obtain ⟨s0, A0, F0'⟩ := stR.reads hm0
  have F0 := F0' fun n hn => by have := List.all_eq_true.1 hsz _ (DataW.weights_mem_each (j := 0) rfl rfl n hn); simpa using this
  obtain ⟨t1, rfl, rfl, rfl, z1⟩ := open_string Tryz.underlying9 (hval 1 9 v1 rfl rfl) h1
  clear hA0 hval0
  refine (walk us0 s0 t1 W A0 (fitsS_of F0) z1 hg).mono fun e W' ⟨he, bel⟩ => ?_
  subst he
  exact ⟨_, rfl, _, _, _, [], _, [], hW', trodAll_mk1 (shut_bool Tryz.underlying4 _), (trodAll_cons_mk (Below.trod laidOut (by kernel_rfl) (of_decide_eq_true (by kernel_rfl)) k0 bel lt0) (trodAll_cons_mk (shut_string Tryz.underlying9 z1) trodAll_mk0)), rfl, bel.frame _, fun h => by cases h⟩
theorem reads (os : Os) {H : Type} (enc : TypeId × Value → H) : ∃ places, DataW.whole enc Tryz.prog ((laidOf (World.holding Tryz.prog os ⟨#[], #[], []⟩)).forCall (fun _ _ => 0) ⟨#[], #[.agg #[.slice none 0 0, .int .i64 0], .string ⟨#[]⟩], []⟩).memory Tryz.f5.params.toList Rows.fsListsSpec.vars false (#[.agg #[.slice none 0 0, .int .i64 0], .string ⟨#[]⟩] : Array Value).toList 8 = some ([.agg [.nil, .lit (.int .i64 0)], .lit (.string [])], [], places) :=
  ⟨[], by kernel_rfl⟩
set_option maxRecDepth 100000 in
theorem lifted (os : Os) (started : os.Started) (H : Type) (enc : TypeId × Value → H) (F : Stop.Interp) :
    ReturnsInHanded {} Tryz.checked os 5 .any ((OpenSpec.ofChange Rows.fsListsSpec).preRow enc Tryz.prog Tryz.f5 Rows.fsListsRow.domain false Rows.fsListsRow.laid) (((OpenSpec.ofChange Rows.fsListsSpec).at F).post enc Tryz.prog Tryz.f5 false true false false) := by
  obtain ⟨places, hx⟩ := reads os enc
  refine returnsInHanded_of_row (C := Tryz.checked) (s := (OpenSpec.ofChange Rows.fsListsSpec)) own started (by kernel_rfl) Tryz.func5
    (witness_row_at (enc := enc) (C := Tryz.checked) false (laidOf (World.holding Tryz.prog os ⟨#[], #[], []⟩)) #[.agg #[.slice none 0 0, .int .i64 0], .string ⟨#[]⟩] rfl (by kernel_rfl) (by kernel_rfl) (by kernel_rfl)
      (OpenSpec.preRow_of_cond 8 hx (by kernel_rfl) (fun k hk => by cases hk) (by kernel_rfl) (laidWorld_met os _))) ?_
  intro W base args ds gs before hval hW _ _ hsz hL _ _
  exact contract H enc W base args ds gs before hval hW hsz (handle_of_laid hL)
theorem said : Rows.FsListsSaid :=
  OpenClaim.holds_of_cond 5 Tryz.f5 rfl rfl rfl rfl rfl rfl rfl ⟨rfl, rfl, rfl, rfl, rfl⟩ rfl rfl rfl rfl rfl (by kernel_rfl) Tryz.func5 (by kernel_rfl)
    (of_decide_eq_true (by kernel_rfl)) (by unfold Func.isWrapper; first | (rw [if_pos (by decide +kernel)]; kernel_rfl) | (rw [if_neg (by decide +kernel)]; exact ⟨rfl, rfl⟩))
    (fun os started H enc _ F => by rw [OpenClaim.pre_eq_preRow]; exact lifted os started H enc F)
theorem plain (f : FuncId) (fn : Func) (hf : Tryz.pinned.checked.prog.funcNamed Tryz.f5.name = some f) (hfn : Tryz.pinned.checked.prog.funcs[f]? = some fn) :
    true = Tryz.pinned.checked.prog.looks [] ∧ ∀ (j : Nat) t, fn.params[j]? = some t → Tryz.pinned.checked.prog.wantsStandIn t = false := by
  obtain rfl : f = 5 := Option.some.inj ((show Tryz.prog.funcNamed Tryz.f5.name = some 5 by kernel_rfl).symm.trans hf) |>.symm
  obtain rfl : fn = Tryz.f5 := (Option.some.inj (Tryz.func5.symm.trans hfn)).symm
  refine ⟨by kernel_rfl, fun j t ht => ?_⟩
  rw [Tryz.params5] at ht
  have hm := Array.mem_of_getElem? ht
  simp only [List.mem_toArray, List.mem_cons, List.not_mem_nil, or_false] at hm
  rcases hm with rfl | rfl
  · exact (show Tryz.prog.wantsStandIn 24 = false by kernel_rfl)
  · exact (show Tryz.prog.wantsStandIn 9 = false by kernel_rfl)
theorem card : Rows.FsListsCardSaid :=
  Claim7.holds_tied_plain_at .later [] _ _ _ _ said (fun _ h => by cases h) (by kernel_rfl) (fun _ h => by cases h) fsLists_row_tie rfl ⟨rfl, rfl⟩ (by kernel_rfl) rfl plain (by kernel_rfl)
end Go.Proofs.YtkcnephbaffmbabGreatDoor.fsLists
namespace Go.Proofs.YtkcnephbaffmbabGreatDoor
theorem fsLists_holds : Rows.FsListsCardSaid := fsLists.card
#print axioms fsLists_holds
end Go.Proofs.YtkcnephbaffmbabGreatDoor
