/-
  Numbers of errors; copies of octets, and whether two are alike.
-/
import Derived.Test.YtkpckadicjdieabSeg
namespace Go.Proofs.Ytkpckadicjdieab
open Go.RowKit


/-- What a copy of octets makes: the same ones in a block of its own. -/
def Copies (f : FuncId) : Prop := ∀ (n0 : Nat) (v : Value) (l : List Int) (w : World), Arg n0 w v l → l.length ≤ 140737488355328 →
    Calls Try.prog f #[v] w fun e w' => (∃ v', e = .returned v' ∧ Own1 w.heap.size w' v' l) ∧ Below w.heap.size w w'

set_option maxHeartbeats 400000 in
theorem copy_any : Copies 62 := by
  intro n0 v l w h hs
  obtain ⟨i0, hi, hz0, hz1, hz2⟩ := info_parts Try.info5
  have ho := h.oct
  obtain ⟨hl, h | ⟨x, cap, rfl, hcap, hm, _, hc⟩⟩ := h.cells
  · obtain ⟨rfl, h0⟩ := h
    obtain rfl := List.eq_nil_of_length_eq_zero h0
    go_enter Try.func62, Try.ntmps62
    go_wp2_with (at_builtin; refine wpList_append_own_none rfl _ _ 46 rfl w.heap.size 5 i0 1 Try.underlying46 hi (.slice none 0 0) 0 [] rfl (World.ownsRow_nil _ _ _ _) rfl ?_)
    go_ret
    exact ⟨⟨_, rfl, .mk (World.ownsRow_nil _ _ _ _) ho⟩, Below.refl _ _⟩
  · have hone := one_cells l
    go_enter Try.func62, Try.ntmps62
    go_wp2_with (at_builtin; refine wpList_append_own _ rfl _ _ 46 rfl w.heap.size 5 i0 (.int .u8 0) 1 1 Try.underlying46 hi hz0 hz1 hz2 rfl (by decide) (.slice none 0 0) 0 [] rfl (World.ownsRow_nil _ _ _ _) x l.length cap (l.map (Value.int .u8)) rfl (by simp) hc hone (by omega) (by omega) (Nat.le_refl _) ?_)
    intro v' w1 hown hgrow _
    have hb : Below w.heap.size w w1 := (Below.refl _ _).grown hgrow (Nat.le_refl _) (fun _ h => by cases h)
    clear hgrow hc hone
    go_wp2
    go_ret
    exact ⟨⟨v', rfl, .mk (by simpa using hown) ho⟩, hb⟩

theorem differ {a b : List Int} {k : Nat} (h : a.getD k 0 ≠ b.getD k 0) : a ≠ b := fun e => h (by rw [e])
theorem alike {a b : List Int} (hl : a.length = b.length) (h : ∀ i, i < a.length → a.getD i 0 = b.getD i 0) : a = b := by
  apply List.ext_getElem hl
  intro i h1 h2
  have := h i h1
  simpa [List.getD, List.getElem?_eq_getElem h1, List.getElem?_eq_getElem h2] using this

set_option maxHeartbeats 1000000 in
theorem same_any (n1 n2 : Nat) (v1 v2 : Value) (l1 l2 : List Int) (w : World) (h1 : Arg n1 w v1 l1) (h2 : Arg n2 w v2 l2) :
    Calls Try.prog 14 #[v1, v2] w fun e w' => e = .returned (.bool (decide (l1 = l2))) ∧ ∃ q, w' = w.drewN q := by
  obtain ⟨a1, c1, rfl, _, hm1, _⟩ := h1.shape
  obtain ⟨a2, c2, rfl, _, hm2, _⟩ := h2.shape
  unfold maxLen at hm1 hm2
  have hl1 := run_len Try.underlying46 a1 l1.length c1
  have hl2 := run_len Try.underlying46 a2 l2.length c2
  by_cases hlen : l1.length = l2.length
  case neg =>
    have e : decide (l1 = l2) = false := by
      rw [decide_eq_false_iff_not]
      intro h; exact hlen (by rw [h])
    rw [e]
    have hne : ¬ (l1.length : Int) = (l2.length : Int) := by omega
    clear h1 h2
    go_enter Try.func14, Try.ntmps14
    go_wp2
    go_ret
    exact ⟨rfl, 0, rfl⟩
  rcases h1.split with ⟨rfl, _⟩ | ⟨b1, o1, k1, hv1, _, _, _, e1⟩
  · obtain rfl : l2 = [] := List.eq_nil_of_length_eq_zero (by simpa using hlen.symm)
    clear h1 h2
    go_enter Try.func14, Try.ntmps14
    go_wp2
    refine wp_loop_rounds 1 ?_
    rw [rounds_succ]
    go_wp2
    go_ret
    exact ⟨rfl, 0, rfl⟩
  rcases h2.split with ⟨rfl, _⟩ | ⟨b2, o2, k2, hv2, _, _, _, e2⟩
  · obtain rfl : l1 = [] := List.eq_nil_of_length_eq_zero (by simpa using hlen)
    clear h1 h2
    go_enter Try.func14, Try.ntmps14
    go_wp2
    refine wp_loop_rounds 1 ?_
    rw [rounds_succ]
    go_wp2
    go_ret
    exact ⟨rfl, 0, rfl⟩
  obtain ⟨rfl, _, rfl⟩ := Value.slice.inj hv1
  obtain ⟨rfl, _, rfl⟩ := Value.slice.inj hv2
  obtain ⟨n, hn⟩ : ∃ n, n = l1.length := ⟨_, rfl⟩
  rw [← hlen] at e2 hl2 ⊢
  rw [← hn] at e1 e2 hl1 hl2 hm1 ⊢
  have HE : Hid ((∀ i, i < n → w.cell? ⟨b1, o1 + i, none⟩ = some (.int .u8 (l1.getD i 0))) ∧ ∀ i, i < n → w.cell? ⟨b2, o2 + i, none⟩ = some (.int .u8 (l2.getD i 0))) := ⟨e1, e2⟩
  have HN : Hid (n = l1.length ∧ l1.length = l2.length) := ⟨hn, hlen⟩
  obtain ⟨d, hd⟩ : ∃ d, d = decide (l1 = l2) := ⟨_, rfl⟩
  rw [← hd]
  have HDD : Hid (d = decide (l1 = l2)) := hd
  clear h1 h2 hv1 hv2 hn hlen e1 e2 hl1 hl2 hd
  go_enter Try.func14, Try.ntmps14
  go_wp2
  go_loopw [5] (fun i wr => ∃ k : Nat, k ≤ n ∧ i = .int .i64 k ∧ Hid (∀ i, i < k → l1.getD i 0 = l2.getD i 0) ∧ ∃ q, wr = w.drewN q) (fun i _ => n - (intOf i).toNat)
  case atStart => exact ⟨0, Nat.zero_le _, rfl, fun i hi => by omega, 0, rfl⟩
  case round =>
    obtain ⟨k, hk, rfl, HK, q, rfl⟩ := hrel
    by_cases hlt : k < n
    · have g1 := HE.out.1 k hlt
      have g2 := HE.out.2 k hlt
      have hkn : (k : Int) < (n : Int) := by omega
      obtain ⟨x, hx⟩ : ∃ x, x = l1.getD k 0 := ⟨_, rfl⟩
      obtain ⟨y, hy⟩ : ∃ y, y = l2.getD k 0 := ⟨_, rfl⟩
      rw [← hx] at g1
      rw [← hy] at g2
      have HXY : Hid (x = l1.getD k 0 ∧ y = l2.getD k 0) := ⟨hx, hy⟩
      clear hx hy
      by_cases hxy : x = y
      · subst hxy
        go_wp2
        go_quiet (fail)
        go_wp2
        go_roundw
        case rel =>
          refine ⟨k + 1, by omega, by go_num, fun i hi => ?_, _, rfl⟩
          by_cases e : i < k
          · exact HK.out i e
          · obtain rfl : i = k := by omega
            rw [← HXY.out.1, ← HXY.out.2]
        case measure => simp [intOf]; omega
      · have hdf : d = false := by
          rw [HDD.out, decide_eq_false_iff_not]
          exact differ (by rw [← HXY.out.1, ← HXY.out.2]; exact hxy)
        subst hdf
        go_wp2
        go_quiet (fail)
        go_wp2
        go_ret
        exact ⟨rfl, _, World.drewN_drewN _ _ _⟩
    · obtain rfl : k = n := by omega
      have hdt : d = true := by
        rw [HDD.out, decide_eq_true_eq]
        exact alike HN.out.2 (fun i hi => HK.out i (by rw [HN.out.1]; exact hi))
      subst hdt
      go_wp2
      go_ret
      exact ⟨rfl, q, rfl⟩

/-- How many blocks hold so many octets, and how many indirect ones lead to them. -/
def blkN (s : Int) : Int := (s + 31) / 32
def indM (n : Int) : Int := if 12 < n then 2 + (n - 5) / 8 else if 4 < n then 1 else 0
def blkE (s : Int) : Int := if s < 0 then 4 else if 2432 < s then 107 else 0
def blkV (s : Int) : Int := if 0 ≤ s ∧ s ≤ 2432 then blkN s else 0
def blkM (s : Int) : Int := if 0 ≤ s ∧ s ≤ 2432 then indM (blkN s) else 0

def spnE (o n : Int) : Int := if o < 0 ∨ n < 0 then 4 else if 2432 < o + n then 107 else 0
def spnF (o n : Int) : Int := if spnE o n = 0 then o / 32 else 0
def spnK (o n : Int) : Int := if spnE o n = 0 then (if n = 0 then 0 else (o + n + 31) / 32 - o / 32) else 0

end Go.Proofs.Ytkpckadicjdieab
