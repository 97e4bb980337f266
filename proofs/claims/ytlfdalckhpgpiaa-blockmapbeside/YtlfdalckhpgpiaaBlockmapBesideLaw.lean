/-
  BlockmapBeside: for every number the law answers true: the indirect blocks that a file needs are those that the paths of its blocks go through. No condition.
-/
import Derived.Test.YtlfdalckhpgpiaaAlive
import Derived.Test.YtlfdalckhpgpiaaFrame
namespace Go.Proofs.Ytlfdalckhpgpiaa.blockmapBeside
open Go.ChangeShapes Go.WideShapes Go.ChangeAt Go.RowKit

theorem spot (x : Int) : ∃ t j : Int, Int.tmod x 2433 = t ∧ -2433 < t ∧ t < 2433 ∧ Int.tmod (t + 2433) 2433 = j ∧ 0 ≤ j ∧ j ≤ 2432 := by
  have h1 := Int.tmod_lt_of_pos x (show (0 : Int) < 2433 by omega)
  have h2 := Int.lt_tmod_of_pos x (show (0 : Int) < 2433 by omega)
  refine ⟨_, _, rfl, h2, h1, rfl, ?_, ?_⟩
  · exact Int.tmod_nonneg _ (by omega)
  · have := Int.tmod_lt_of_pos (Int.tmod x 2433 + 2433) (show (0 : Int) < 2433 by omega)
    omega

/-- The last way through the double block that the first k blocks went. -/
def dbl (k : Int) : Int := if 12 < k then (k - 13) / 8 else -1

theorem path1 {k : Int} (h0 : 0 ≤ k) (h : k < 4) : pathL k = [k] := by unfold pathL; rw [if_pos (by omega), if_pos h]
theorem path2 {k : Int} (h0 : 4 ≤ k) (h : k < 12) : pathL k = [4, k - 4] := by unfold pathL; rw [if_pos (by omega), if_neg (by omega), if_pos h]
theorem path3 {k : Int} (h0 : 12 ≤ k) (h : k < 76) : pathL k = [5, (k - 12) / 8, (k - 12) % 8] := by unfold pathL; rw [if_pos (by omega), if_neg (by omega), if_neg (by omega)]

set_option maxRecDepth 100000 in
set_option maxHeartbeats 2000000 in
theorem walk (a : Int) (w : World) (_ : I64 a) : Calls Try.prog 7 #[.int .i64 a] w fun e w' => e = .returned (.bool true) ∧ Below w.heap.size w w' := by
  have HA := alive_any w
  obtain ⟨t, x, ht, hl1, hu1, hx, hx0, hx1⟩ := spot a
  have HS := fun V => blocks_any x V (by unfold I64; omega)
  obtain ⟨e1, e2, e3⟩ := blk_in (s := x) (by omega)
  have hN := blkN_in (s := x) (by omega)
  rw [e1, e2, e3] at HS
  obtain ⟨n, hn⟩ : ∃ n : Nat, blkN x = n := ⟨(blkN x).toNat, by omega⟩
  rw [hn] at HS hN
  have hn76 : n ≤ 76 := by omega
  have hng : ¬ 76 < (n : Int) := by omega
  obtain ⟨mo, hmo⟩ : ∃ m, m = indM n := ⟨_, rfl⟩
  rw [← hmo] at HS
  have HM : Hid (mo = indM n) := hmo
  clear e1 e2 e3 hn hmo hN
  go_enter Try.func7, Try.ntmps7
  go_wp2_with fail
  refine HA.mono ?_
  rintro e w1 ⟨rfl, hb1⟩
  have HB1 : Hid (Below w.heap.size w w1) := hb1
  clear hb1 HA
  go_wp2_with fail
  refine (HS _).mono ?_
  rintro e w2 ⟨rfl, rfl⟩
  clear HS
  go_wp2_with (go_at_call 18; refine (num_any _ _).mono ?_; rintro e w3 ⟨rfl, rfl⟩)
  go_loopw [6, 7, 8, 9] (fun s d t i wr => ∃ k : Nat, k ≤ n ∧ i = .int .i64 k ∧ s = .bool (decide ((4 : Int) < k)) ∧ d = .int .i64 (dbl k) ∧ t = .int .i64 (indM k) ∧ Below w.heap.size w wr) (fun _ _ _ i _ => n - (intOf i).toNat)
  case atStart => exact ⟨0, Nat.zero_le _, rfl, rfl, rfl, rfl, HB1.out⟩
  case round =>
    obtain ⟨k, hk, rfl, rfl, rfl, rfl, hbel⟩ := hrel
    by_cases hlt : k < n
    · have hkn : (k : Int) < (n : Int) := by omega
      have HP := path_any k wr (by unfold I64; omega)
      rw [show pathE k = 0 from if_pos (by omega)] at HP
      have HB : Hid (Below w.heap.size w wr) := hbel
      clear hbel
      by_cases h4 : k < 4
      · rw [path1 (by omega) (by omega)] at HP
        have f1 : decide ((4 : Int) < (k : Int)) = false := by simp; omega
        have f2 : dbl k = -1 := by unfold dbl; first | (rw [if_neg (by omega)]; done) | (rw [if_pos (by omega)]; omega)
        have f3 : indM k = 0 := by unfold indM; first | (rw [if_pos (by omega)]; omega) | (rw [if_neg (by omega), if_pos (by omega)]; done) | (rw [if_neg (by omega), if_neg (by omega)]; done)
        have HF : Hid (decide ((4 : Int) < ((k + 1 : Nat) : Int)) = false ∧ dbl ((k + 1 : Nat) : Int) = -1 ∧ indM ((k + 1 : Nat) : Int) = 0) := by
          refine ⟨by simp; omega, ?_, ?_⟩
          · unfold dbl; first | (rw [if_neg (by omega)]; done) | (rw [if_pos (by omega)]; omega)
          · unfold indM; first | (rw [if_pos (by omega)]; omega) | (rw [if_neg (by omega), if_pos (by omega)]; done) | (rw [if_neg (by omega), if_neg (by omega)]; done)
        rw [f1, f2, f3]
        clear f1 f2 f3
        simp only [List.length_cons, List.length_nil, Nat.zero_add] at HP
        go_wp2_with fail
        refine HP.mono ?_
        rintro e w2 ⟨⟨a1, c1, rfl, _⟩, hb2⟩
        have hll := run_len Try.underlying22 a1 1 c1
        have HB2 : Hid (Below w.heap.size w w2) := below_any HB.out hb2
        clear hb2 HB HP
        go_wp2_with (go_at_call 18; refine (num_any _ _).mono ?_; rintro e w3 ⟨rfl, rfl⟩)
        go_roundw
        case rel =>
          refine ⟨k + 1, by omega, by go_num, ?_, ?_, ?_, HB2.out⟩
          · rw [HF.out.1]
          · rw [HF.out.2.1]
          · rw [HF.out.2.2]
        case measure => simp [intOf]; omega
      by_cases h12 : k < 12
      · by_cases h5 : k = 4
        · rw [path2 (by omega) (by omega)] at HP
          have f1 : decide ((4 : Int) < (k : Int)) = false := by simp; omega
          have f2 : dbl k = -1 := by unfold dbl; first | (rw [if_neg (by omega)]; done) | (rw [if_pos (by omega)]; omega)
          have f3 : indM k = 0 := by unfold indM; first | (rw [if_pos (by omega)]; omega) | (rw [if_neg (by omega), if_pos (by omega)]; done) | (rw [if_neg (by omega), if_neg (by omega)]; done)
          have HF : Hid (decide ((4 : Int) < ((k + 1 : Nat) : Int)) = true ∧ dbl ((k + 1 : Nat) : Int) = -1 ∧ indM ((k + 1 : Nat) : Int) = 1) := by
            refine ⟨by simp; omega, ?_, ?_⟩
            · unfold dbl; first | (rw [if_neg (by omega)]; done) | (rw [if_pos (by omega)]; omega)
            · unfold indM; first | (rw [if_pos (by omega)]; omega) | (rw [if_neg (by omega), if_pos (by omega)]; done) | (rw [if_neg (by omega), if_neg (by omega)]; done)
          rw [f1, f2, f3]
          clear f1 f2 f3
          clear h5 h4 h12
          simp only [List.length_cons, List.length_nil, Nat.zero_add, Nat.reduceAdd] at HP
          go_wp2_with fail
          refine HP.mono ?_
          rintro e w2 ⟨⟨a1, c1, rfl, _⟩, hb2⟩
          have hll := run_len Try.underlying22 a1 2 c1
          have HB2 : Hid (Below w.heap.size w w2) := below_any HB.out hb2
          clear hb2 HB HP
          go_wp2_with (go_at_call 18; refine (num_any _ _).mono ?_; rintro e w3 ⟨rfl, rfl⟩)
          go_roundw
          case rel =>
            refine ⟨k + 1, by omega, by go_num, ?_, ?_, ?_, HB2.out⟩
            · rw [HF.out.1]
            · rw [HF.out.2.1]
            · rw [HF.out.2.2]
          case measure => simp [intOf]; omega
        · rw [path2 (by omega) (by omega)] at HP
          have f1 : decide ((4 : Int) < (k : Int)) = true := by simp; omega
          have f2 : dbl k = -1 := by unfold dbl; first | (rw [if_neg (by omega)]; done) | (rw [if_pos (by omega)]; omega)
          have f3 : indM k = 1 := by unfold indM; first | (rw [if_pos (by omega)]; omega) | (rw [if_neg (by omega), if_pos (by omega)]; done) | (rw [if_neg (by omega), if_neg (by omega)]; done)
          have HF : Hid (decide ((4 : Int) < ((k + 1 : Nat) : Int)) = true ∧ dbl ((k + 1 : Nat) : Int) = -1 ∧ indM ((k + 1 : Nat) : Int) = 1) := by
            refine ⟨by simp; omega, ?_, ?_⟩
            · unfold dbl; first | (rw [if_neg (by omega)]; done) | (rw [if_pos (by omega)]; omega)
            · unfold indM; first | (rw [if_pos (by omega)]; omega) | (rw [if_neg (by omega), if_pos (by omega)]; done) | (rw [if_neg (by omega), if_neg (by omega)]; done)
          rw [f1, f2, f3]
          clear f1 f2 f3
          clear h5 h4 h12
          simp only [List.length_cons, List.length_nil, Nat.zero_add, Nat.reduceAdd] at HP
          go_wp2_with fail
          refine HP.mono ?_
          rintro e w2 ⟨⟨a1, c1, rfl, _⟩, hb2⟩
          have hll := run_len Try.underlying22 a1 2 c1
          have HB2 : Hid (Below w.heap.size w w2) := below_any HB.out hb2
          clear hb2 HB HP
          go_wp2_with (go_at_call 18; refine (num_any _ _).mono ?_; rintro e w3 ⟨rfl, rfl⟩)
          go_roundw
          case rel =>
            refine ⟨k + 1, by omega, by go_num, ?_, ?_, ?_, HB2.out⟩
            · rw [HF.out.1]
            · rw [HF.out.2.1]
            · rw [HF.out.2.2]
          case measure => simp [intOf]; omega
      obtain ⟨E, hE⟩ : ∃ E : Int, E = ((k : Int) - 12) / 8 := ⟨_, rfl⟩
      obtain ⟨M, hM⟩ : ∃ M : Int, M = ((k : Int) - 12) % 8 := ⟨_, rfl⟩
      by_cases h13 : k = 12
      · have hEm : ¬ E = -1 := by omega
        rw [path3 (by omega) (by omega), ← hE, ← hM] at HP
        have f1 : decide ((4 : Int) < (k : Int)) = true := by simp; omega
        have f2 : dbl k = -1 := by unfold dbl; first | (rw [if_neg (by omega)]; done) | (rw [if_pos (by omega)]; omega)
        have f3 : indM k = 1 := by unfold indM; first | (rw [if_pos (by omega)]; omega) | (rw [if_neg (by omega), if_pos (by omega)]; done) | (rw [if_neg (by omega), if_neg (by omega)]; done)
        have HF : Hid (decide ((4 : Int) < ((k + 1 : Nat) : Int)) = true ∧ dbl ((k + 1 : Nat) : Int) = E ∧ indM ((k + 1 : Nat) : Int) = 3) := by
          refine ⟨by simp; omega, ?_, ?_⟩
          · unfold dbl; first | (rw [if_neg (by omega)]; done) | (rw [if_pos (by omega)]; omega)
          · unfold indM; first | (rw [if_pos (by omega)]; omega) | (rw [if_neg (by omega), if_pos (by omega)]; done) | (rw [if_neg (by omega), if_neg (by omega)]; done)
        rw [f1, f2, f3]
        clear f1 f2 f3
        clear h13 hE hM h4 h12
        simp only [List.length_cons, List.length_nil, Nat.zero_add, Nat.reduceAdd] at HP
        go_wp2_with fail
        refine HP.mono ?_
        rintro e w2 ⟨⟨a1, c1, rfl, ho⟩, hb2⟩
        obtain ⟨b1, o1, hix1, g1, _⟩ := ints_at (intsS.olies ho) 1 _ rfl
        have hix1 : ∀ W, (Instr.indexAt 22 (.slice a1 3 c1) (.int .i64 1)).run Try.prog W = .ok (.pointer (some ⟨b1, o1, none⟩)) W := hix1
        have hll := run_len Try.underlying22 a1 3 c1
        have HB2 : Hid (Below w.heap.size w w2) := below_any HB.out hb2
        clear hb2 HB HP ho
        go_wp2_with (go_at_call 18; refine (num_any _ _).mono ?_; rintro e w3 ⟨rfl, rfl⟩)
        go_roundw
        case rel =>
          refine ⟨k + 1, by omega, by go_num, ?_, ?_, ?_, HB2.out⟩
          · rw [HF.out.1]
          · rw [HF.out.2.1]
          · rw [HF.out.2.2]
        case measure => simp [intOf]; omega
      obtain ⟨D, hD⟩ : ∃ D : Int, D = ((k : Int) - 13) / 8 := ⟨_, rfl⟩
      have hD0 : ¬ D < 0 := by omega
      have hDM : 0 ≤ D ∧ D ≤ 10 := by omega
      by_cases hDE : E = D
      · rw [path3 (by omega) (by omega), ← hE, ← hM] at HP
        have f1 : decide ((4 : Int) < (k : Int)) = true := by simp; omega
        have f2 : dbl k = D := by unfold dbl; first | (rw [if_neg (by omega)]; done) | (rw [if_pos (by omega)]; omega)
        have f3 : indM k = 3 + D := by unfold indM; first | (rw [if_pos (by omega)]; omega) | (rw [if_neg (by omega), if_pos (by omega)]; done) | (rw [if_neg (by omega), if_neg (by omega)]; done)
        have HF : Hid (decide ((4 : Int) < ((k + 1 : Nat) : Int)) = true ∧ dbl ((k + 1 : Nat) : Int) = D ∧ indM ((k + 1 : Nat) : Int) = 3 + D) := by
          refine ⟨by simp; omega, ?_, ?_⟩
          · unfold dbl; first | (rw [if_neg (by omega)]; done) | (rw [if_pos (by omega)]; omega)
          · unfold indM; first | (rw [if_pos (by omega)]; omega) | (rw [if_neg (by omega), if_pos (by omega)]; done) | (rw [if_neg (by omega), if_neg (by omega)]; done)
        rw [f1, f2, f3]
        clear f1 f2 f3
        clear hM hD hE h4 h12 h13
        subst hDE
        simp only [List.length_cons, List.length_nil, Nat.zero_add, Nat.reduceAdd] at HP
        go_wp2_with fail
        refine HP.mono ?_
        rintro e w2 ⟨⟨a1, c1, rfl, ho⟩, hb2⟩
        obtain ⟨b1, o1, hix1, g1, _⟩ := ints_at (intsS.olies ho) 1 _ rfl
        have hix1 : ∀ W, (Instr.indexAt 22 (.slice a1 3 c1) (.int .i64 1)).run Try.prog W = .ok (.pointer (some ⟨b1, o1, none⟩)) W := hix1
        have hll := run_len Try.underlying22 a1 3 c1
        have HB2 : Hid (Below w.heap.size w w2) := below_any HB.out hb2
        clear hb2 HB HP ho
        go_wp2_with (go_at_call 18; refine (num_any _ _).mono ?_; rintro e w3 ⟨rfl, rfl⟩)
        go_roundw
        case rel =>
          refine ⟨k + 1, by omega, by go_num, ?_, ?_, ?_, HB2.out⟩
          · rw [HF.out.1]
          · rw [HF.out.2.1]
          · rw [HF.out.2.2]
        case measure => simp [intOf]; omega
      · rw [path3 (by omega) (by omega), ← hE, ← hM] at HP
        have f1 : decide ((4 : Int) < (k : Int)) = true := by simp; omega
        have f2 : dbl k = D := by unfold dbl; first | (rw [if_neg (by omega)]; done) | (rw [if_pos (by omega)]; omega)
        have f3 : indM k = 3 + D := by unfold indM; first | (rw [if_pos (by omega)]; omega) | (rw [if_neg (by omega), if_pos (by omega)]; done) | (rw [if_neg (by omega), if_neg (by omega)]; done)
        have HF : Hid (decide ((4 : Int) < ((k + 1 : Nat) : Int)) = true ∧ dbl ((k + 1 : Nat) : Int) = E ∧ indM ((k + 1 : Nat) : Int) = 3 + D + 1) := by
          refine ⟨by simp; omega, ?_, ?_⟩
          · unfold dbl; first | (rw [if_neg (by omega)]; done) | (rw [if_pos (by omega)]; omega)
          · unfold indM; first | (rw [if_pos (by omega)]; omega) | (rw [if_neg (by omega), if_pos (by omega)]; done) | (rw [if_neg (by omega), if_neg (by omega)]; done)
        rw [f1, f2, f3]
        clear f1 f2 f3
        clear hM hD hE h4 h12 h13
        simp only [List.length_cons, List.length_nil, Nat.zero_add, Nat.reduceAdd] at HP
        go_wp2_with fail
        refine HP.mono ?_
        rintro e w2 ⟨⟨a1, c1, rfl, ho⟩, hb2⟩
        obtain ⟨b1, o1, hix1, g1, _⟩ := ints_at (intsS.olies ho) 1 _ rfl
        have hix1 : ∀ W, (Instr.indexAt 22 (.slice a1 3 c1) (.int .i64 1)).run Try.prog W = .ok (.pointer (some ⟨b1, o1, none⟩)) W := hix1
        have hll := run_len Try.underlying22 a1 3 c1
        have HB2 : Hid (Below w.heap.size w w2) := below_any HB.out hb2
        clear hb2 HB HP ho
        go_wp2_with (go_at_call 18; refine (num_any _ _).mono ?_; rintro e w3 ⟨rfl, rfl⟩)
        go_roundw
        case rel =>
          refine ⟨k + 1, by omega, by go_num, ?_, ?_, ?_, HB2.out⟩
          · rw [HF.out.1]
          · rw [HF.out.2.1]
          · rw [HF.out.2.2]
        case measure => simp [intOf]; omega
    · obtain rfl : k = n := by omega
      obtain rfl : mo = indM k := HM.out
      go_wp2
      go_ret
      exact ⟨by simp, hbel⟩

set_option maxRecDepth 100000 in
theorem lifted (os : Os) (started : os.Started) (H : Type) (enc : TypeId × Value → H) :
    ReturnsInHanded {} Try.checked os 7 .any (Rows.blockmapBesideSpec.pre6 enc Try.prog Try.f7 Rows.blockmapBesideRow.domain false) (Rows.blockmapBesideSpec.post enc Try.prog Try.f7 false true false false) := by
  refine returnsInHanded_of_change_sized (C := Try.checked) own started (by kernel_rfl) Try.func7
    (ChangeSpec.witness6 (enc := enc) (C := Try.checked) false ⟨#[], #[.int .i64 0], []⟩ 8 (by kernel_rfl) (by kernel_rfl) (by kernel_rfl) (by kernel_rfl)) ?_
  intro W base args ds gs before hval0 hW hcnd hsz0 _
  have hval : ∀ (j : Nat) t v, Try.f7.params[j]? = some t → args[j]? = some v → Value.okWide Try.prog W .any base t v := hval0
  have hW' := hW
  obtain ⟨p, q, hA0, hV, rfl, hfz, hnd⟩ := hW
  have hA : DataW.TrodAll enc Try.prog W 0 (fun _ => true) true Try.f7.params.toList args.toList ds p := hA0
  have hsz : (DataW.weightsEach Try.prog (Try.f7.params.toList ++ Rows.blockmapBesideSpec.plain.varTypes Try.prog) (ds ++ gs)).all (· ≤ reachBytes) = true := hsz0
  clear hsz0
  rw [Try.params7] at hA hval hsz
  obtain ⟨v0, vs0, d0, ds0, p0, q0, hargs, rfl, rfl, h0, r0⟩ := trodAll_cons hA
  obtain ⟨rfl, rfl, rfl⟩ := trodAll_nil r0
  obtain rfl : args = #[v0] := by cases args; simp_all
  obtain ⟨rfl, rfl⟩ := trodVars_none hV
  obtain ⟨a0, rfl, rfl, rfl, w0⟩ := open_int Try.underlying3 (hval 0 3 v0 rfl rfl) h0
  have b0 := bounds_i64 w0
  clear hA0 hval0
  refine (walk a0 W b0).mono fun e W' ⟨he, bel⟩ => ?_
  subst he
  exact ⟨_, rfl, _, _, _, [], _, [], hW', trodAll_mk1 (shut_bool Try.underlying4 _), (trodAll_cons_mk (shut_int Try.underlying3 w0) trodAll_mk0), rfl, bel.frame _, fun h => by cases h⟩

theorem over : Rows.blockmapBesideRow.holds Try.pinned (OpenSpec.ofChange Rows.blockmapBesideSpec) :=
  OpenClaim.holds_of_wide 7 Try.f7 rfl rfl rfl rfl rfl rfl rfl ⟨rfl, rfl, rfl, rfl, rfl⟩ rfl rfl rfl rfl rfl (by kernel_rfl) Try.func7 (by kernel_rfl)
    (of_decide_eq_true (by kernel_rfl)) (by unfold Func.isWrapper; first | (rw [if_pos (by decide +kernel)]; kernel_rfl) | (rw [if_neg (by decide +kernel)]; exact ⟨rfl, rfl⟩))
    (fun os started H enc _ => lifted os started H enc)

end Go.Proofs.Ytlfdalckhpgpiaa.blockmapBeside

namespace Go.Proofs.Ytlfdalckhpgpiaa
theorem blockmapBeside_holds : Rows.BlockmapBesideSaid := blockmapBeside.over
#print axioms blockmapBeside_holds
end Go.Proofs.Ytlfdalckhpgpiaa
