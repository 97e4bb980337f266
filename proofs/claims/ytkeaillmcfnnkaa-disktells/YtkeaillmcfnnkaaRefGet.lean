/-
  What the document's GetAll and Get answer: the same as the program's.
-/
import Derived.Test.YtkeaillmcfnnkaaLastOf
import Derived.Test.YtkeaillmcfnnkaaRefCheck
namespace Go.Proofs.Ytkeaillmcfnnkaa
open Go.RowKit

theorem window_zero (rows : List (List Int)) (s : Nat) : window rows s 0 = [] := by simp [window]
theorem window_succ (rows : List (List Int)) (s j : Nat) (r : List Int) (h : rows[s + j]? = some r) : window rows s (j + 1) = window rows s j ++ r := by
  unfold window
  rw [List.take_add_one, List.getElem?_drop, h]
  simp

theorem box_apart'' {w : World} {base : Nat} {e t : TypeId} {size : Nat} {v u x : Value} {n B : Nat} {xs : List Value} (h : w.ownsRow base e size v n xs) (hB : Box w B t u x) (ht : t ≠ e) : some B ≠ v.ownBlock := by
  rcases h.2 with ⟨rfl, _⟩ | ⟨g, cap, cur, rfl, _, hg, _⟩
  · simp [Value.ownBlock]
  · intro e'
    have : g = B := by simpa [Value.ownBlock] using e'.symm
    subst this
    rw [show w.heap[g]? = _ from hB] at hg
    simp at hg
    exact ht hg.2

set_option maxRecDepth 100000 in
set_option maxHeartbeats 2000000 in
theorem rgetAll_any (n0 : Nat) (v : Value) (S : St) (s k : Int) (w : World) (h : Disk n0 w v S) (hs : -9223372036854775808 ≤ s ∧ s ≤ 9223372036854775807) :
    Calls Try.prog 28 #[v, .int .i64 s, .int .i64 k] w fun e w' => ∃ v', e = .returned (.tuple #[v', .int .i64 (gerr S s k)]) ∧ w'.ownsRow w.heap.size 5 1 v' (gout S s k).length ((gout S s k).map (Value.int .u8)) ∧ Below w.heap.size w w' := by
  obtain ⟨a1, c1, a2, c2, rfl, hL, hW⟩ := h.shape
  obtain ⟨_, _, _, _, hm1, _⟩ := hL.shape
  obtain ⟨i5, hi5, hz50, hz51, hz52⟩ := info_parts Try.info5
  have HD : Hid (Disk n0 w (.agg #[.slice a1 S.secs.length c1, .slice a2 S.cache.length c2]) S) := h
  obtain ⟨n, hn⟩ : ∃ n, n = S.secs.length := ⟨_, rfl⟩
  obtain ⟨m, hm⟩ : ∃ n, n = S.cache.length := ⟨_, rfl⟩
  obtain ⟨ge, hge⟩ : ∃ x, x = gerr S s k := ⟨_, rfl⟩
  obtain ⟨go, hgo⟩ : ∃ x, x = gout S s k := ⟨_, rfl⟩
  have HG : Hid (ge = (if chk S = false then 9 else if reach n s k = false then 41 else 0) ∧ go = if ge = 0 then window (full S) s.toNat k.toNat else []) := by
    refine ⟨by rw [hge, hn]; rfl, by rw [hgo, hge]; rfl⟩
  have HN : Hid (n = S.secs.length) := hn
  rw [← hn, ← hm] at HD ⊢
  rw [← hge, ← hgo]
  rw [← hn] at hm1
  unfold maxLen at hm1
  have hl1 := run_len Try.underlying22 a1 n c1
  clear h hL hW hn hm hge hgo
  go_enter Try.func28, Try.ntmps28
  go_wp2_with fail
  have hb0 : Below w.heap.size w (w.alloc (.cells #[.slice a1 n c1, .slice a2 m c2] 25)) := (Below.refl _ w).alloc (Nat.le_refl _) _
  refine (rcheck_any n0 _ S _ (HD.out.below hb0)).mono ?_
  rintro e w1 ⟨rfl, hb1⟩
  have hP1 : Box w1 w.heap.size 25 (.slice a1 n c1) (.slice a2 m c2) := (Box.new w 25 _ _).below hb1 (by simp)
  have HB1 : Hid (Box w1 w.heap.size 25 (.slice a1 n c1) (.slice a2 m c2) ∧ Below w.heap.size w w1) := ⟨hP1, below_any hb0 hb1⟩
  have g0 := hP1.cell0
  have g1 := hP1.cell1
  unfold cerr
  clear hb0 hb1 hP1
  cases hchk : chk S
  · have e1 : ge = 9 := by rw [HG.out.1, if_pos hchk]
    have e2 : go = [] := by rw [HG.out.2, if_neg (by omega)]
    subst e1 e2
    go_wp2
    go_ret2
    exact ⟨_, rfl, World.ownsRow_nil _ _ _ _, HB1.out.2⟩
  by_cases r1 : s < 0
  · have e1 : ge = 41 := by rw [HG.out.1, if_neg (by simp [hchk]), if_pos (by simp [reach]; omega)]
    have e2 : go = [] := by rw [HG.out.2, if_neg (by omega)]
    subst e1 e2
    go_wp2
    go_ret2
    exact ⟨_, rfl, World.ownsRow_nil _ _ _ _, HB1.out.2⟩
  by_cases r2 : k < 0
  · have e1 : ge = 41 := by rw [HG.out.1, if_neg (by simp [hchk]), if_pos (by simp [reach]; omega)]
    have e2 : go = [] := by rw [HG.out.2, if_neg (by omega)]
    subst e1 e2
    go_wp2
    go_ret2
    exact ⟨_, rfl, World.ownsRow_nil _ _ _ _, HB1.out.2⟩
  by_cases r3 : (n : Int) < s
  · have e1 : ge = 41 := by rw [HG.out.1, if_neg (by simp [hchk]), if_pos (by simp [reach]; omega)]
    have e2 : go = [] := by rw [HG.out.2, if_neg (by omega)]
    subst e1 e2
    go_wp2
    go_ret2
    exact ⟨_, rfl, World.ownsRow_nil _ _ _ _, HB1.out.2⟩
  obtain ⟨sn, rfl⟩ : ∃ sn : Nat, s = (sn : Int) := ⟨s.toNat, by omega⟩
  obtain ⟨kn, rfl⟩ : ∃ kn : Nat, k = (kn : Int) := ⟨k.toNat, by omega⟩
  have HSB : Hid (IntKind.i64.wrap ((n : Int) - (sn : Int)) = (n : Int) - (sn : Int)) := wrap_in _ (by omega)
  by_cases r4 : (n : Int) - (sn : Int) < (kn : Int)
  · have e1 : ge = 41 := by rw [HG.out.1, if_neg (by simp [hchk]), if_pos (by simp [reach]; omega)]
    have e2 : go = [] := by rw [HG.out.2, if_neg (by omega)]
    subst e1 e2
    have hsb := HSB.out
    go_wp2
    go_ret2
    exact ⟨_, rfl, World.ownsRow_nil _ _ _ _, HB1.out.2⟩
  have e1 : ge = 0 := by rw [HG.out.1, if_neg (by simp [hchk]), if_neg (by simp [reach]; omega)]
  have e2 : go = window (full S) sn kn := by rw [HG.out.2, if_pos e1]; simp
  subst e1 e2
  obtain ⟨k1, k2, k3, k4, k5, k6⟩ := chk_facts hchk
  have HK : Hid (chk S = true ∧ n ≤ 2048 ∧ sn + kn ≤ n) := ⟨hchk, by rw [HN.out]; exact k2, by omega⟩
  have HF : Hid ((∀ l ∈ S.secs, l.length ≤ 140737488355328) ∧ ∀ q ∈ S.cache, q.2.length ≤ 140737488355328) := ⟨fun l hl => by rw [k4 l hl]; omega, fun q hq => by rw [k5 q hq]; omega⟩
  clear k1 k2 k3 k4 k5 k6
  have hsb := HSB.out
  go_wp2
  clear hsb
  have hkb : kn ≤ 2048 := by have := HK.out; omega
  have d1 : decide ((sn : Int) < 0) = false := decide_eq_false (by omega)
  have d2 : decide ((kn : Int) < 0) = false := decide_eq_false (by omega)
  have d3 : decide (n < sn) = false := decide_eq_false (by omega)
  have d4 : decide ((n : Int) - (sn : Int) < (kn : Int)) = false := decide_eq_false (by omega)
  simp only [d1, d2, d3, d4, Bool.or_false]
  clear g0 g1 r1 r2 r3 r4 hchk hl1 hm1 d1 d2 d3 d4
  go_loopw [8, 9] (fun x i wr => ∃ j : Nat, j ≤ kn ∧ i = .int .i64 j ∧ wr.ownsRow w.heap.size 5 1 x (64 * j) ((window (full S) sn j).map (Value.int .u8)) ∧ Below w.heap.size w wr ∧ Box wr w.heap.size 25 (.slice a1 n c1) (.slice a2 m c2)) (fun _ i _ => kn - (intOf i).toNat)
  case atStart =>
    refine ⟨0, Nat.zero_le _, rfl, ?_, HB1.out.2, HB1.out.1⟩
    rw [window_zero]
    exact World.ownsRow_nil _ _ _ _
  case round =>
    obtain ⟨j, hj, rfl, hown, hbel, hBx⟩ := hrel
    have g0 := hBx.cell0
    have g1 := hBx.cell1
    by_cases hlt : j < kn
    · obtain ⟨K, hK⟩ : ∃ K, K = sn + j := ⟨_, rfl⟩
      have hKn : K < S.secs.length := by rw [← HN.out]; have := HK.out; omega
      have hrow := full_row S HK.out.1 K hKn
      obtain ⟨r, hr⟩ : ∃ r, r = lw S.cache K (S.secs.getD K []) := ⟨_, rfl⟩
      have hrl : r.length = 64 := by
        have h64 : all64 (full S) := full_64 HK.out.1 _
        rw [hr]; exact h64 _ (List.mem_of_getElem? hrow)
      have hla := last_any n0 _ S K wr (HD.out.below hbel) hKn HF.out.1 HF.out.2
      rw [← hr, hrl] at hla
      rw [← hr, hK] at hrow
      have HWS : Hid (window (full S) sn (j + 1) = window (full S) sn j ++ r) := window_succ _ _ _ _ hrow
      obtain ⟨ox, oc, rfl⟩ := own_shape hown
      have HO : Hid (wr.ownsRow w.heap.size 5 1 (.slice ox (64 * j) oc) (64 * j) ((window (full S) sn j).map (Value.int .u8)) ∧ Below w.heap.size w wr ∧ Box wr w.heap.size 25 (.slice a1 n c1) (.slice a2 m c2)) := ⟨hown, hbel, hBx⟩
      have HLA : Hid (Calls Try.prog 37 #[.agg #[.slice a1 n c1, .slice a2 m c2], .int .i64 (K : Int)] wr fun e w' => ∃ v', e = .returned v' ∧ w'.ownsRow wr.heap.size 5 1 v' 64 (r.map (Value.int .u8)) ∧ Below wr.heap.size wr w') := hla
      have hadd : IntKind.i64.wrap ((sn : Int) + (j : Int)) = (K : Int) := wrap_to _ _ (by omega) (by have := HK.out; omega)
      have hji : (j : Int) < (kn : Int) := by omega
      have HRL : Hid (r.length = 64) := hrl
      clear hown hbel hBx hKn hrow hr hrl hla hK
      go_wp2_with (first
        | (go_at_call 37; refine HLA.out.mono ?_; rintro e w2 ⟨v2, rfl, hO2, hb2⟩; obtain ⟨g2, p2, rfl, _, _⟩ := hO2.form (by omega)
           have hro : w2.ownsRow w.heap.size 5 1 (.slice ox (64 * j) oc) (64 * j) ((window (full S) sn j).map (Value.int .u8)) := own_below HO.out.1 hb2
           have hcl : ∀ i u, (r.map (Value.int .u8))[i]? = some u → w2.cell? ((⟨g2, 0, none⟩ : Addr).add i) = some u := fun i u hu => hO2.cells (g := g2) rfl i u hu)
        | (at_builtin; refine wpList_append_own _ rfl _ _ 26 rfl w.heap.size 5 i5 (.int .u8 0) 1 1 Try.underlying26 hi5 hz50 hz51 hz52 rfl (by decide) _ (64 * j) _ rfl hro ⟨g2, 0, none⟩ 64 p2 (r.map (Value.int .u8)) rfl (by rw [List.length_map, HRL.out]) hcl (one_cells r) (by unfold maxLen; omega) (by omega) (by have := hb2.size; have := HO.out.2.1.size; omega) ?_
           intro v3 w3 hown3 hgrow3 _
           have hb3 : Below w.heap.size w w3 := (below_any HO.out.2.1 hb2).grown hgrow3 (by have := hb2.size; have := HO.out.2.1.size; omega) (fun i hi => (hro.lt i hi).1)
           have hB3 : Box w3 w.heap.size 25 (.slice a1 n c1) (.slice a2 m c2) := Box.grown (HO.out.2.2.below hb2 HO.out.2.2.lt) hgrow3 (box_apart'' hro (HO.out.2.2.below hb2 HO.out.2.2.lt) (by decide))
           have hO3 : w3.ownsRow w.heap.size 5 1 v3 (64 * (j + 1)) ((window (full S) sn (j + 1)).map (Value.int .u8)) := by
            rw [HWS.out, List.map_append, show 64 * (j + 1) = 64 * j + 64 by omega]; exact hown3
           have HO3 : Hid (w3.ownsRow w.heap.size 5 1 v3 (64 * (j + 1)) ((window (full S) sn (j + 1)).map (Value.int .u8)) ∧ Below w.heap.size w w3 ∧ Box w3 w.heap.size 25 (.slice a1 n c1) (.slice a2 m c2)) := ⟨hO3, hb3, hB3⟩
           clear hown3 hgrow3 hb3 hB3 hO3 hro hcl hadd))
      go_roundw
      case rel => exact ⟨j + 1, by omega, by go_num, HO3.out⟩
      case measure => simp [intOf]; omega
    · obtain rfl : j = kn := by omega
      have hwl : (window (full S) sn j).length = 64 * j := by
        have h64 : all64 (full S) := full_64 HK.out.1 _
        exact window_length _ sn j h64 (by unfold full; rw [fill_length, List.length_replicate, ← HN.out]; exact HK.out.2.2)
      rw [← hwl] at hown
      obtain ⟨ox, oc, rfl⟩ := own_shape hown
      have HFN : Hid (wr.ownsRow w.heap.size 5 1 (.slice ox (window (full S) sn j).length oc) (window (full S) sn j).length ((window (full S) sn j).map (Value.int .u8)) ∧ Below w.heap.size w wr) := ⟨hown, hbel⟩
      clear hown hbel hBx hwl
      go_wp2
      go_ret2
      exact ⟨_, rfl, HFN.out⟩

end Go.Proofs.Ytkeaillmcfnnkaa
