/-
  What the small functions answer in every memory: numbers of errors, octets copied and alike, how many blocks there are and which ones octets lie in.
-/
import Derived.Test.YtgflfmpoeamnnaaFile
namespace Go.Proofs.Ytgflfmpoeamnnaa
open Go.RowKit

set_option maxHeartbeats 400000 in
theorem num_any (x : Int) (w : World) : Calls Try.prog 19 #[.int .i64 x] w fun e w' => e = .returned (.int .i64 x) ∧ w = w' := by
  go_enter Try.func19, Try.ntmps19
  go_wp2
  go_ret
  exact ⟨rfl, rfl⟩

/-- What a copy of octets makes: the same ones in a block of its own. -/
def Copies (f : FuncId) : Prop := ∀ (n0 : Nat) (v : Value) (l : List Int) (w : World), Arg n0 w v l → l.length ≤ 140737488355328 →
    Calls Try.prog f #[v] w fun e w' => (∃ v', e = .returned v' ∧ Own1 w.heap.size w' v' l) ∧ Below w.heap.size w w'

set_option maxHeartbeats 400000 in
theorem copy_any : Copies 9 := by
  intro n0 v l w h hs
  obtain ⟨i0, hi, hz0, hz1, hz2⟩ := info_parts Try.info5
  have ho := h.oct
  obtain ⟨hl, h | ⟨x, cap, rfl, hcap, hm, _, hc⟩⟩ := h.cells
  · obtain ⟨rfl, h0⟩ := h
    obtain rfl := List.eq_nil_of_length_eq_zero h0
    go_enter Try.func9, Try.ntmps9
    go_wp2_with (at_builtin; refine wpList_append_own_none rfl _ _ 25 rfl w.heap.size 5 i0 1 Try.underlying25 hi (.slice none 0 0) 0 [] rfl (World.ownsRow_nil _ _ _ _) rfl ?_)
    go_ret
    exact ⟨⟨_, rfl, .mk (World.ownsRow_nil _ _ _ _) ho⟩, Below.refl _ _⟩
  · have hone := one_cells l
    go_enter Try.func9, Try.ntmps9
    go_wp2_with (at_builtin; refine wpList_append_own _ rfl _ _ 25 rfl w.heap.size 5 i0 (.int .u8 0) 1 1 Try.underlying25 hi hz0 hz1 hz2 rfl (by decide) (.slice none 0 0) 0 [] rfl (World.ownsRow_nil _ _ _ _) x l.length cap (l.map (Value.int .u8)) rfl (by simp) hc hone (by omega) (by omega) (Nat.le_refl _) ?_)
    intro v' w1 hown hgrow _
    have hb : Below w.heap.size w w1 := (Below.refl _ _).grown hgrow (Nat.le_refl _) (fun _ h => by cases h)
    clear hgrow hc hone
    go_wp2
    go_ret
    exact ⟨⟨v', rfl, .mk (by simpa using hown) ho⟩, hb⟩

theorem differ {a b : List Int} {k : Nat} (h : a.getD k 0 ≠ b.getD k 0) : a ≠ b := fun e => h (by rw [e])
theorem alike {a b : List Int} (hl : a.length = b.length) (h : ∀ i, i < a.length → a.getD i 0 = b.getD i 0) : a = b := by
  apply List.ext_getElem hl
  intro i h1 h2
  have := h i h1
  simpa [List.getD, List.getElem?_eq_getElem h1, List.getElem?_eq_getElem h2] using this

set_option maxHeartbeats 1000000 in
theorem same_any (n1 n2 : Nat) (v1 v2 : Value) (l1 l2 : List Int) (w : World) (h1 : Arg n1 w v1 l1) (h2 : Arg n2 w v2 l2) :
    Calls Try.prog 18 #[v1, v2] w fun e w' => e = .returned (.bool (decide (l1 = l2))) ∧ ∃ q, w' = w.drewN q := by
  obtain ⟨a1, c1, rfl, _, hm1, _⟩ := h1.shape
  obtain ⟨a2, c2, rfl, _, hm2, _⟩ := h2.shape
  unfold maxLen at hm1 hm2
  have hl1 := run_len Try.underlying25 a1 l1.length c1
  have hl2 := run_len Try.underlying25 a2 l2.length c2
  by_cases hlen : l1.length = l2.length
  case neg =>
    have e : decide (l1 = l2) = false := by
      rw [decide_eq_false_iff_not]
      intro h; exact hlen (by rw [h])
    rw [e]
    have hne : ¬ (l1.length : Int) = (l2.length : Int) := by omega
    clear h1 h2
    go_enter Try.func18, Try.ntmps18
    go_wp2
    go_ret
    exact ⟨rfl, 0, rfl⟩
  rcases h1.split with ⟨rfl, _⟩ | ⟨b1, o1, k1, hv1, _, _, _, e1⟩
  · obtain rfl : l2 = [] := List.eq_nil_of_length_eq_zero (by simpa using hlen.symm)
    clear h1 h2
    go_enter Try.func18, Try.ntmps18
    go_wp2
    refine wp_loop_rounds 1 ?_
    rw [rounds_succ]
    go_wp2
    go_ret
    exact ⟨rfl, 0, rfl⟩
  rcases h2.split with ⟨rfl, _⟩ | ⟨b2, o2, k2, hv2, _, _, _, e2⟩
  · obtain rfl : l1 = [] := List.eq_nil_of_length_eq_zero (by simpa using hlen)
    clear h1 h2
    go_enter Try.func18, Try.ntmps18
    go_wp2
    refine wp_loop_rounds 1 ?_
    rw [rounds_succ]
    go_wp2
    go_ret
    exact ⟨rfl, 0, rfl⟩
  obtain ⟨rfl, _, rfl⟩ := Value.slice.inj hv1
  obtain ⟨rfl, _, rfl⟩ := Value.slice.inj hv2
  obtain ⟨n, hn⟩ : ∃ n, n = l1.length := ⟨_, rfl⟩
  rw [← hlen] at e2 hl2 ⊢
  rw [← hn] at e1 e2 hl1 hl2 hm1 ⊢
  have HE : Hid ((∀ i, i < n → w.cell? ⟨b1, o1 + i, none⟩ = some (.int .u8 (l1.getD i 0))) ∧ ∀ i, i < n → w.cell? ⟨b2, o2 + i, none⟩ = some (.int .u8 (l2.getD i 0))) := ⟨e1, e2⟩
  have HN : Hid (n = l1.length ∧ l1.length = l2.length) := ⟨hn, hlen⟩
  obtain ⟨d, hd⟩ : ∃ d, d = decide (l1 = l2) := ⟨_, rfl⟩
  rw [← hd]
  have HDD : Hid (d = decide (l1 = l2)) := hd
  clear h1 h2 hv1 hv2 hn hlen e1 e2 hl1 hl2 hd
  go_enter Try.func18, Try.ntmps18
  go_wp2
  go_loopw [5] (fun i wr => ∃ k : Nat, k ≤ n ∧ i = .int .i64 k ∧ Hid (∀ i, i < k → l1.getD i 0 = l2.getD i 0) ∧ ∃ q, wr = w.drewN q) (fun i _ => n - (intOf i).toNat)
  case atStart => exact ⟨0, Nat.zero_le _, rfl, fun i hi => by omega, 0, rfl⟩
  case round =>
    obtain ⟨k, hk, rfl, HK, q, rfl⟩ := hrel
    by_cases hlt : k < n
    · have g1 := HE.out.1 k hlt
      have g2 := HE.out.2 k hlt
      have hkn : (k : Int) < (n : Int) := by omega
      obtain ⟨x, hx⟩ : ∃ x, x = l1.getD k 0 := ⟨_, rfl⟩
      obtain ⟨y, hy⟩ : ∃ y, y = l2.getD k 0 := ⟨_, rfl⟩
      rw [← hx] at g1
      rw [← hy] at g2
      have HXY : Hid (x = l1.getD k 0 ∧ y = l2.getD k 0) := ⟨hx, hy⟩
      clear hx hy
      by_cases hxy : x = y
      · subst hxy
        go_wp2
        go_quiet (fail)
        go_wp2
        go_roundw
        case rel =>
          refine ⟨k + 1, by omega, by go_num, fun i hi => ?_, _, rfl⟩
          by_cases e : i < k
          · exact HK.out i e
          · obtain rfl : i = k := by omega
            rw [← HXY.out.1, ← HXY.out.2]
        case measure => simp [intOf]; omega
      · have hdf : d = false := by
          rw [HDD.out, decide_eq_false_iff_not]
          exact differ (by rw [← HXY.out.1, ← HXY.out.2]; exact hxy)
        subst hdf
        go_wp2
        go_quiet (fail)
        go_wp2
        go_ret
        exact ⟨rfl, _, World.drewN_drewN _ _ _⟩
    · obtain rfl : k = n := by omega
      have hdt : d = true := by
        rw [HDD.out, decide_eq_true_eq]
        exact alike HN.out.2 (fun i hi => HK.out i (by rw [HN.out.1]; exact hi))
      subst hdt
      go_wp2
      go_ret
      exact ⟨rfl, q, rfl⟩

/-- How many blocks hold so many octets, and how many indirect ones lead to them. -/
def blkN (s : Int) : Int := (s + 31) / 32
def indM (n : Int) : Int := if 12 < n then 2 + (n - 5) / 8 else if 4 < n then 1 else 0
def blkE (s : Int) : Int := if s < 0 then 4 else if 2432 < s then 107 else 0
def blkV (s : Int) : Int := if 0 ≤ s ∧ s ≤ 2432 then blkN s else 0
def blkM (s : Int) : Int := if 0 ≤ s ∧ s ≤ 2432 then indM (blkN s) else 0

def spnE (o n : Int) : Int := if o < 0 ∨ n < 0 then 4 else if 2432 < o + n then 107 else 0
def spnF (o n : Int) : Int := if spnE o n = 0 then o / 32 else 0
def spnK (o n : Int) : Int := if spnE o n = 0 then (if n = 0 then 0 else (o + n + 31) / 32 - o / 32) else 0

set_option maxHeartbeats 400000 in
theorem parts_any (x n : Int) (w : World) (hx : 0 ≤ x ∧ x ≤ 100000) (hn : 1 ≤ n ∧ n ≤ 100000) : Calls Try.prog 40 #[.int .i64 x, .int .i64 n] w fun e w' => e = .returned (.int .i64 ((x + n - 1) / n)) ∧ w = w' := by
  have hd : (0 : Int) ≤ (x + n - 1) / n ∧ (x + n - 1) / n ≤ 1000000 := by
    refine ⟨Int.ediv_nonneg (by omega) (by omega), ?_⟩
    have := Int.ediv_le_self n (show 0 ≤ x + n - 1 by omega)
    omega
  have hn0 : ¬ n = 0 := by omega
  go_enter Try.func40, Try.ntmps40
  go_wp2
  go_ret
  exact ⟨rfl, rfl⟩

set_option maxHeartbeats 400000 in
theorem indirect_any (n : Int) (w : World) (hn : 0 ≤ n ∧ n ≤ 76) : Calls Try.prog 41 #[.int .i64 n] w fun e w' => e = .returned (.int .i64 (indM n)) ∧ w = w' := by
  unfold indM
  by_cases h1 : 12 < n
  · rw [if_pos h1]
    have HP := parts_any (n - 12) 8 w (by omega) (by omega)
    rw [show (n - 12 + 8 - 1) / 8 = (n - 5) / 8 by omega] at HP
    have hd : 0 ≤ (n - 5) / 8 ∧ (n - 5) / 8 ≤ 9 := by omega
    obtain ⟨d, hdd⟩ : ∃ d, d = (n - 5) / 8 := ⟨_, rfl⟩
    rw [← hdd] at hd HP ⊢
    clear hdd
    go_enter Try.func41, Try.ntmps41
    go_wp2_with fail
    refine HP.mono ?_
    rintro e w1 ⟨rfl, rfl⟩
    go_wp2
    go_ret
    exact ⟨by go_num, rfl⟩
  · rw [if_neg h1]
    by_cases h2 : 4 < n
    · rw [if_pos h2]
      go_enter Try.func41, Try.ntmps41
      go_wp2
      go_ret
      exact ⟨rfl, rfl⟩
    · rw [if_neg h2]
      go_enter Try.func41, Try.ntmps41
      go_wp2
      go_ret
      exact ⟨rfl, rfl⟩

def Blockss (f : FuncId) : Prop := ∀ (s : Int) (w : World), I64 s → Calls Try.prog f #[.int .i64 s] w fun e w' => e = .returned (.tuple #[.int .i64 (blkV s), .int .i64 (blkM s), .int .i64 (blkE s)]) ∧ w = w'
def Spans (f : FuncId) : Prop := ∀ (o n : Int) (w : World), I64 o → I64 n → Calls Try.prog f #[.int .i64 o, .int .i64 n] w fun e w' => e = .returned (.tuple #[.int .i64 (spnF o n), .int .i64 (spnK o n), .int .i64 (spnE o n)]) ∧ w = w'

theorem blk_low {s : Int} (h : s < 0) : blkV s = 0 ∧ blkM s = 0 ∧ blkE s = 4 := ⟨if_neg (by omega), if_neg (by omega), if_pos h⟩
theorem blk_high {s : Int} (h : 2432 < s) : blkV s = 0 ∧ blkM s = 0 ∧ blkE s = 107 := ⟨if_neg (by omega), if_neg (by omega), by unfold blkE; rw [if_neg (by omega), if_pos h]⟩
theorem blk_in {s : Int} (h : 0 ≤ s ∧ s ≤ 2432) : blkV s = blkN s ∧ blkM s = indM (blkN s) ∧ blkE s = 0 := ⟨if_pos h, if_pos h, by unfold blkE; rw [if_neg (by omega), if_neg (by omega)]⟩
theorem blkN_in {s : Int} (h : 0 ≤ s ∧ s ≤ 2432) : 0 ≤ blkN s ∧ blkN s ≤ 76 := by unfold blkN; omega

set_option maxRecDepth 100000 in
set_option maxHeartbeats 1000000 in
theorem blocks_any : Blockss 32 := by
  intro s w hs
  unfold I64 at hs
  by_cases h0 : s < 0
  · obtain ⟨e1, e2, e3⟩ := blk_low h0
    rw [e1, e2, e3]
    go_enter Try.func32, Try.ntmps32
    go_wp2
    go_ret3
    exact ⟨rfl, rfl⟩
  · by_cases h1 : 2432 < s
    · obtain ⟨e1, e2, e3⟩ := blk_high h1
      rw [e1, e2, e3]
      go_enter Try.func32, Try.ntmps32
      go_wp2
      go_ret3
      exact ⟨rfl, rfl⟩
    · obtain ⟨e1, e2, e3⟩ := blk_in (s := s) (by omega)
      rw [e1, e2, e3]
      have HP := parts_any s 32 w (by omega) (by omega)
      rw [show (s + 32 - 1) / 32 = blkN s by unfold blkN; omega] at HP
      have HI := indirect_any (blkN s) w (blkN_in (by omega))
      obtain ⟨n, hn⟩ : ∃ n, n = blkN s := ⟨_, rfl⟩
      rw [← hn] at HP HI ⊢
      clear hn e1 e2 e3
      go_enter Try.func32, Try.ntmps32
      go_wp2_with fail
      refine HP.mono ?_
      rintro e w1 ⟨rfl, rfl⟩
      go_wp2_with fail
      refine HI.mono ?_
      rintro e w1 ⟨rfl, rfl⟩
      go_wp2
      go_ret3
      exact ⟨rfl, rfl⟩

theorem spn_low {o n : Int} (h : o < 0 ∨ n < 0) : spnF o n = 0 ∧ spnK o n = 0 ∧ spnE o n = 4 := by
  have e : spnE o n = 4 := if_pos h
  refine ⟨?_, ?_, e⟩
  · unfold spnF; rw [e]; rfl
  · unfold spnK; rw [e]; rfl
theorem spn_high {o n : Int} (h : 0 ≤ o ∧ 0 ≤ n) (h2 : 2432 < o + n) : spnF o n = 0 ∧ spnK o n = 0 ∧ spnE o n = 107 := by
  have e : spnE o n = 107 := by unfold spnE; rw [if_neg (by omega), if_pos h2]
  refine ⟨?_, ?_, e⟩
  · unfold spnF; rw [e]; rfl
  · unfold spnK; rw [e]; rfl
theorem spn_in {o n : Int} (h : 0 ≤ o ∧ 0 ≤ n) (h2 : o + n ≤ 2432) : spnF o n = o / 32 ∧ (n = 0 → spnK o n = 0) ∧ (n ≠ 0 → spnK o n = (o + n + 31) / 32 - o / 32) ∧ spnE o n = 0 := by
  have e : spnE o n = 0 := by unfold spnE; rw [if_neg (by omega), if_neg (by omega)]
  refine ⟨?_, fun hn => ?_, fun hn => ?_, e⟩
  · unfold spnF; rw [if_pos e]
  · unfold spnK; rw [if_pos e, if_pos hn]
  · unfold spnK; rw [if_pos e, if_neg hn]

set_option maxRecDepth 100000 in
set_option maxHeartbeats 1000000 in
theorem span_any : Spans 30 := by
  intro o n w ho hn
  unfold I64 at ho hn
  by_cases h0 : o < 0
  · obtain ⟨e1, e2, e3⟩ := spn_low (n := n) (.inl h0)
    rw [e1, e2, e3]
    go_enter Try.func30, Try.ntmps30
    go_wp2
    go_ret3
    exact ⟨rfl, rfl⟩
  by_cases h0' : n < 0
  · obtain ⟨e1, e2, e3⟩ := spn_low (o := o) (.inr h0')
    rw [e1, e2, e3]
    go_enter Try.func30, Try.ntmps30
    go_wp2
    go_ret3
    exact ⟨rfl, rfl⟩
  by_cases h1 : 2432 < o
  · obtain ⟨e1, e2, e3⟩ := spn_high (o := o) (n := n) (by omega) (by omega)
    rw [e1, e2, e3]
    go_enter Try.func30, Try.ntmps30
    go_wp2
    go_ret3
    exact ⟨rfl, rfl⟩
  by_cases h2 : 2432 - o < n
  · obtain ⟨e1, e2, e3⟩ := spn_high (o := o) (n := n) (by omega) (by omega)
    rw [e1, e2, e3]
    go_enter Try.func30, Try.ntmps30
    go_wp2
    go_ret3
    exact ⟨rfl, rfl⟩
  obtain ⟨e1, e2, e3, e4⟩ := spn_in (o := o) (n := n) (by omega) (by omega)
  rw [e1, e4]
  by_cases hn0 : n = 0
  · rw [e2 hn0]
    subst hn0
    clear e1 e2 e3 e4
    go_enter Try.func30, Try.ntmps30
    go_wp2
    go_ret3
    exact ⟨rfl, rfl⟩
  · rw [e3 hn0]
    have HP := parts_any (o + n) 32 w (by omega) (by omega)
    rw [show (o + n + 32 - 1) / 32 = (o + n + 31) / 32 by omega] at HP
    have hb : o / 32 ≤ (o + n + 31) / 32 ∧ 0 ≤ o / 32 ∧ (o + n + 31) / 32 ≤ 1000 := by omega
    obtain ⟨d, hd⟩ : ∃ d, d = (o + n + 31) / 32 := ⟨_, rfl⟩
    rw [← hd] at HP hb ⊢
    clear e1 e2 e3 e4 hd
    go_enter Try.func30, Try.ntmps30
    go_wp2_with fail
    refine HP.mono ?_
    rintro e w1 ⟨rfl, rfl⟩
    go_wp2
    go_ret3
    exact ⟨rfl, rfl⟩

end Go.Proofs.Ytgflfmpoeamnnaa
