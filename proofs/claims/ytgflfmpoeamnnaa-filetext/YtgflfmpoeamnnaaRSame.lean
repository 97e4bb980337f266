/-
  What the document's Same answers; octets as a text.
-/
import Derived.Test.YtgflfmpoeamnnaaTrunc
import Derived.Laws.BytesArg
namespace Go.Proofs.Ytgflfmpoeamnnaa
open Go.RowKit

theorem conv_any {n0 : Nat} {w : World} {v : Value} {l : List Int} (h : Arg n0 w v l) : (convert 25 9 v).run Try.prog w = .ok (.string (strOfNums l)) w := by
  rcases h.split with ⟨rfl, a, cap, rfl⟩ | ⟨b, off, cap, rfl, _, _, _, hcell⟩
  · cases a with
    | none => exact run_convert_bytes_nil w 25 5 Try.underlying25 Try.underlying5 _ _ 9 Try.underlying9
    | some x =>
      rw [run_convert_bytes_string w 25 9 5 _ _ cap Try.underlying25 Try.underlying5 Try.underlying9]
      have := run_bytesToString (P := Try.prog) w x 0 cap [] (by simpa using run_loadCells_list (P := Try.prog) w x [] (fun j v hj => by simp at hj))
      exact this
  · exact run_convert_bytes_arg w 25 5 Try.underlying25 Try.underlying5 b off l.length cap l rfl (fun i hi => by
      rw [hcell i hi]) 9 Try.underlying9
theorem u8_bounds {x : Int} (h : (Lit.int .u8 x).wf = true) : 0 ≤ x ∧ x ≤ 255 := by
  simp [Lit.wf, IntKind.min, IntKind.max, IntKind.signed, IntKind.bits] at h
  omega
theorem nums_inj : ∀ {l1 l2 : List Int}, Oct l1 → Oct l2 → (l1.map fun n => UInt8.ofNat n.toNat) = (l2.map fun n => UInt8.ofNat n.toNat) → l1 = l2
  | [], [], _, _, _ => rfl
  | [], _ :: _, _, _, h => by simp at h
  | _ :: _, [], _, _, h => by simp at h
  | a :: r, b :: s, h1, h2, h => by
    simp only [List.map_cons, List.cons.injEq] at h
    obtain ⟨h3, h4⟩ := h
    have ha := u8_bounds (h1 a (List.mem_cons_self ..))
    have hb := u8_bounds (h2 b (List.mem_cons_self ..))
    have := congrArg UInt8.toNat h3
    rw [UInt8.toNat_ofNat', UInt8.toNat_ofNat', Nat.mod_eq_of_lt (by omega), Nat.mod_eq_of_lt (by omega)] at this
    rw [nums_inj (fun x hx => h1 x (List.mem_cons_of_mem _ hx)) (fun x hx => h2 x (List.mem_cons_of_mem _ hx)) h4, show a = b by omega]
theorem str_inj {l1 l2 : List Int} (h1 : Oct l1) (h2 : Oct l2) (h : (strOfNums l1).toList = (strOfNums l2).toList) : l1 = l2 := by
  refine nums_inj h1 h2 ?_
  rw [ByteArray.toList_eq, ByteArray.toList_eq, strOfNums_data, strOfNums_data] at h
  exact h

theorem alike_b {a b : List Bk} (hl : a.length = b.length) (h : ∀ i : Nat, i < a.length → a[i]? = b[i]?) : a = b := by
  apply List.ext_getElem?
  intro i
  by_cases hi : i < a.length
  · exact h i hi
  · rw [List.getElem?_eq_none (by omega), List.getElem?_eq_none (by omega)]

set_option maxRecDepth 100000 in
set_option maxHeartbeats 4000000 in
theorem rsame_any (n1 n2 : Nat) (u1 u2 : List Value) (f1 f2 : Fl) (w : World) (h1 : flR.lies n1 w u1 f1) (h2 : flR.lies n2 w u2 f2) :
    Calls Try.prog 35 #[.agg u1.toArray, .agg u2.toArray] w fun e w' => e = .returned (.bool (decide (f1 = f2))) ∧ Below w.heap.size w w' := by
  obtain ⟨a1, c1, rfl, hL1, hi1, hm1⟩ := fl_viewR h1
  obtain ⟨a2, c2, rfl, hL2, hi2, hm2⟩ := fl_viewR h2
  obtain ⟨s1, l1⟩ := f1
  obtain ⟨s2, l2⟩ := f2
  simp only at hL1 hL2 hm1 hm2 ⊢
  unfold maxLen at hm1 hm2
  have hr1 := run_len Try.underlying22 a1 l1.length c1
  have hr2 := run_len Try.underlying22 a2 l2.length c2
  obtain ⟨W, hW⟩ : ∃ W, W = (w.alloc (.cells #[.int .i64 s1, .slice a1 l1.length c1] 24)).alloc (.cells #[.int .i64 s2, .slice a2 l2.length c2] 24) := ⟨_, rfl⟩
  have hb : Below w.heap.size w W := by rw [hW]; exact ((Below.refl _ w).alloc (Nat.le_refl _) _).alloc (by simp) _
  have hB1 : Box W w.heap.size 24 #[.int .i64 s1, .slice a1 l1.length c1] := by rw [hW]; exact (Box.new _ _ _).alloc _
  have hB2 : Box W (w.heap.size + 1) 24 #[.int .i64 s2, .slice a2 l2.length c2] := by
    rw [hW]
    have := Box.new (w.alloc (.cells #[.int .i64 s1, .slice a1 l1.length c1] 24)) 24 #[.int .i64 s2, .slice a2 l2.length c2]
    rwa [World.size_alloc] at this
  have HW : Hid (Below w.heap.size w W ∧ bksR.lies n1 W [.slice a1 l1.length c1] l1 ∧ bksR.lies n2 W [.slice a2 l2.length c2] l2) := ⟨hb, bksR.below hL1 hb, bksR.below hL2 hb⟩
  obtain ⟨p0, p1, _, _⟩ := hB1.two
  obtain ⟨q0, q1, _, _⟩ := hB2.two
  clear h1 h2 hL1 hL2 hi1 hi2 hb hB1 hB2
  by_cases hs : s1 = s2
  case neg =>
    rw [decide_eq_false (fun e => hs (congrArg Prod.fst e))]
    rw [hW] at HW
    clear p0 p1 q0 q1 hW
    go_enter Try.func35, Try.ntmps35
    go_wp2
    go_ret
    exact ⟨rfl, HW.out.1⟩
  subst hs
  by_cases hlen : l1.length = l2.length
  case neg =>
    rw [decide_eq_false (fun e => hlen (by rw [(Prod.mk.inj e).2]))]
    have hne : ¬ (l1.length : Int) = (l2.length : Int) := by omega
    rw [hW] at HW
    clear p0 p1 q0 q1 hW
    go_enter Try.func35, Try.ntmps35
    go_wp2
    go_ret
    exact ⟨rfl, HW.out.1⟩
  obtain ⟨n, hn⟩ : ∃ n, n = l1.length := ⟨_, rfl⟩
  have HN : Hid (n = l1.length ∧ n = l2.length) := ⟨hn, by omega⟩
  rw [← hlen] at HW hr2 hW q1 ⊢
  rw [← hn] at HW hr1 hr2 hm1 hW p1 q1 ⊢
  obtain ⟨d, hd⟩ : ∃ d, d = decide ((s1, l1) = (s1, l2)) := ⟨_, rfl⟩
  rw [← hd]
  have HD : Hid (d = decide ((s1, l1) = (s1, l2))) := hd
  rw [hW] at p0 p1 q0 q1
  have HP : Hid (∀ r, Below w.heap.size w (W.drewN r)) := fun r => below_drewN HW.out.1 r
  clear hn hlen hd hm2
  go_enter Try.func35, Try.ntmps35
  go_wp2
  rw [← hW] at p0 p1 q0 q1 ⊢
  clear hW
  go_loopw [5] (fun i wr => ∃ k : Nat, k ≤ n ∧ i = .int .i64 k ∧ Hid (∀ (i : Nat), i < k → l1[i]? = l2[i]?) ∧ ∃ q, wr = W.drewN q) (fun i _ => n - (intOf i).toNat)
  case atStart => exact ⟨0, Nat.zero_le _, rfl, fun i hi => by omega, 0, rfl⟩
  case round =>
    obtain ⟨k, hk, rfl, HK, q, rfl⟩ := hrel
    by_cases hlt : k < n
    · obtain ⟨x, hx⟩ := get_lt (l := l1) (k := k) (by rw [← HN.out.1]; exact hlt)
      obtain ⟨y, hy⟩ := get_lt (l := l2) (k := k) (by rw [← HN.out.2]; exact hlt)
      obtain ⟨b1, o1, x1, z1, hix1, g1, e1, hA1, _⟩ := bks_atR HW.out.2.1 k x hx
      obtain ⟨b2, o2, x2, z2, hix2, g2, e2, hA2, _⟩ := bks_atR HW.out.2.2 k y hy
      have hkn : (k : Int) < (n : Int) := by omega
      have HXY : Hid (l1[k]? = some x ∧ l2[k]? = some y) := ⟨hx, hy⟩
      have hc1 : ∀ r, (convert 25 9 (.slice x1 x.2.length z1)).run Try.prog (W.drewN r) = .ok (.string (strOfNums x.2)) (W.drewN r) := fun r => conv_any (hA1.below (below_drewN (Below.refl _ _) r))
      have hc2 : ∀ r, (convert 25 9 (.slice x2 y.2.length z2)).run Try.prog (W.drewN r) = .ok (.string (strOfNums y.2)) (W.drewN r) := fun r => conv_any (hA2.below (below_drewN (Below.refl _ _) r))
      have hinj : ((strOfNums x.2).toList = (strOfNums y.2).toList → x.2 = y.2) ∧ (x.2 = y.2 → strOfNums x.2 = strOfNums y.2) := ⟨fun e => str_inj hA1.oct hA2.oct e, fun e => by rw [e]⟩
      obtain ⟨xi, xd⟩ := x
      obtain ⟨yi, yd⟩ := y
      simp only at g1 g2 e1 e2 hc1 hc2 hinj
      obtain ⟨S1, hS1⟩ : ∃ S, S = strOfNums xd := ⟨_, rfl⟩
      obtain ⟨S2, hS2⟩ : ∃ S, S = strOfNums yd := ⟨_, rfl⟩
      obtain ⟨m1, hm1'⟩ : ∃ S, S = xd.length := ⟨_, rfl⟩
      obtain ⟨m2, hm2'⟩ : ∃ S, S = yd.length := ⟨_, rfl⟩
      rw [← hS1, ← hm1'] at hc1
      rw [← hS2, ← hm2'] at hc2
      rw [← hS1, ← hS2] at hinj
      rw [← hm1'] at e1
      rw [← hm2'] at e2
      clear hx hy hA1 hA2 hS1 hS2 hm1' hm2'
      by_cases hxy : xi = yi
      · subst hxy
        by_cases hd' : xd = yd
        · have hSS : S1 = S2 := hinj.2 hd'
          subst hSS
          clear hinj
          go_wp2
          go_quiet (fail)
          go_wp2
          go_roundw
          case rel =>
            refine ⟨k + 1, by omega, by go_num, fun i hi => ?_, _, rfl⟩
            by_cases e : i < k
            · exact HK.out i e
            · obtain rfl : i = k := by omega
              rw [HXY.out.1, HXY.out.2, hd']
          case measure => simp [intOf]; omega
        · have hSS : (S1.toList == S2.toList) = false := by
            rw [beq_eq_false_iff_ne]
            exact fun e => hd' (hinj.1 e)
          have hdf : d = false := by
            rw [HD.out, decide_eq_false_iff_not]
            intro e
            have h1 := HXY.out.1
            rw [(Prod.mk.inj e).2, HXY.out.2] at h1
            simp at h1
            exact hd' h1.symm
          subst hdf
          clear hinj hd'
          go_wp2
          go_quiet (fail)
          go_wp2
          go_ret
          exact ⟨rfl, by first | exact HP.out _ | (rw [World.drewN_drewN]; exact HP.out _)⟩
      · have hdf : d = false := by
          rw [HD.out, decide_eq_false_iff_not]
          intro e
          have h1 := HXY.out.1
          rw [(Prod.mk.inj e).2, HXY.out.2] at h1
          simp at h1
          exact hxy h1.1.symm
        subst hdf
        clear hinj hc1 hc2
        go_wp2
        go_quiet (fail)
        go_wp2
        go_ret
        exact ⟨rfl, by first | exact HP.out _ | (rw [World.drewN_drewN]; exact HP.out _)⟩
    · obtain rfl : k = n := by omega
      have hdt : d = true := by
        rw [HD.out, decide_eq_true_eq]
        rw [alike_b (by have := HN.out; omega) (fun i hi => HK.out i (by rw [HN.out.1]; exact hi))]
      subst hdt
      go_wp2
      go_ret
      exact ⟨rfl, HP.out _⟩

end Go.Proofs.Ytgflfmpoeamnnaa
