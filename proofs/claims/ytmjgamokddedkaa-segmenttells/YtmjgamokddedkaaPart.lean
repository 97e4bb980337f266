/-
  Parts of a slice of octets; octets copied; a piece at the start; whether all are zeros.
-/
import Derived.Test.YtmjgamokddedkaaSMath
import Derived.Test.YtmjgamokddedkaaCEqual
import Derived.Test.YtmjgamokddedkaaCCut
namespace Go.Proofs.Ytmjgamokddedkaa
open Go.RowKit

theorem part_length (l : List Int) (i j : Nat) (hj : j ≤ l.length) : ((l.take j).drop i).length = j - i := by
  rw [List.length_drop, List.length_take, Nat.min_eq_left hj]

theorem Arg.subm {n0 : Nat} {w : World} {a : Option Addr} {len cap : Nat} {l : List Int} (h : Arg n0 w (.slice a len cap) l) (i j m : Nat) (hij : i ≤ j) (hj : j ≤ l.length) (hjm : j ≤ m) (hm' : m ≤ cap) : Arg n0 w (sliced a i j m 1) ((l.take j).drop i) := by
  have ho : Oct ((l.take j).drop i) := fun y hy => h.oct y (List.mem_of_mem_take (List.mem_of_mem_drop hy))
  have hl := part_length l i j hj
  obtain ⟨_, ⟨hv, h0⟩ | ⟨x, c, hv, hcap, hm, hb, hc⟩⟩ := h.cells
  · obtain ⟨rfl, rfl, rfl⟩ := Value.slice.inj hv
    obtain rfl : j = 0 := by omega
    obtain rfl : i = 0 := by omega
    obtain rfl : m = 0 := by omega
    exact .mk ⟨by simp, .inl ⟨by simp [sliced], by simp⟩⟩ (by simpa using ho)
  · obtain ⟨rfl, rfl, rfl⟩ := Value.slice.inj hv
    refine .mk ⟨by simp, .inr ?_⟩ ho
    by_cases e : m = i
    · refine ⟨x, m - i, ?_, by omega, by omega, hb, fun k u hk => ?_⟩
      · unfold sliced
        rw [if_pos e, hl]
      · have : k < ((l.take j).drop i).length := by
          have := (List.getElem?_eq_some_iff.1 hk).1
          simpa using this
        omega
    · have hblk : (x.add (i * 1)).block = x.block := by unfold Addr.add; split <;> rfl
      refine ⟨x.add (i * 1), m - i, ?_, by omega, by omega, by rw [hblk]; exact hb, fun k u hk => ?_⟩
      · unfold sliced
        rw [if_neg e, hl]
        rfl
      · have hk0 : k < j - i := by
          have := (List.getElem?_eq_some_iff.1 hk).1
          rw [List.length_map, hl] at this
          exact this
        have h1 := hc (i + k) u (by
          rw [List.getElem?_map] at hk ⊢
          rw [List.getElem?_drop, List.getElem?_take, if_pos (by omega)] at hk
          exact hk)
        have hpos : 0 < l.length := by omega
        have h0 := hc 0 (.int .u8 (l.getD 0 0)) (by simp [hpos])
        obtain ⟨b, off, spot⟩ := x
        have hspot : spot = none := by simpa [Addr.add] using World.cell?_spot h0
        subst hspot
        rw [add_plain] at h1
        rw [add_plain, add_plain, Nat.mul_one, Nat.add_assoc, h1]
theorem Arg.sub {n0 : Nat} {w : World} {a : Option Addr} {len cap : Nat} {l : List Int} (h : Arg n0 w (.slice a len cap) l) (i j : Nat) (hij : i ≤ j) (hj : j ≤ l.length) : Arg n0 w (sliced a i j cap 1) ((l.take j).drop i) := by
  obtain ⟨a', c', hv, h1, _⟩ := h.shape
  obtain ⟨rfl, rfl, rfl⟩ := Value.slice.inj hv
  exact h.subm i j cap hij hj (by omega) (Nat.le_refl _)

theorem elem25 : Try.prog.underlying 25 = some (.slice (Try.prog.elem 25)) := by kernel_rfl
theorem elem25_is : Try.prog.elem 25 = 5 := by kernel_rfl
theorem size5 (W : World) : (sizeOf (Try.prog.elem 25)).run Try.prog W = .ok 1 W := by
  obtain ⟨i0, hi, hz0, hz1, hz2⟩ := info_parts Try.info5
  rw [elem25_is]
  simp [sizeOf, typeInfo, hi, hz1]

theorem Arg.cut {n0 : Nat} {w : World} {v : Value} {l : List Int} (h : Arg n0 w v l) (i j : Nat) (hij : i ≤ j) (hj : j ≤ l.length) :
    ∃ v', Arg n0 w v' ((l.take j).drop i) ∧ ∀ W, (Instr.slice 25 v (some (.int .i64 i)) (some (.int .i64 j)) none).run Try.prog W = .ok v' W := by
  obtain ⟨a, cap, rfl, hcap, _⟩ := h.shape
  refine ⟨_, h.sub i j hij hj, fun W => ?_⟩
  rw [run_slice_lh W 25 a l.length cap elem25 .i64 .i64 i j (by omega) (by omega) (by omega), size5]
  simp [Result.andThen]
theorem Arg.ahead {n0 : Nat} {w : World} {v : Value} {l : List Int} (h : Arg n0 w v l) (j : Nat) (hj : j ≤ l.length) :
    ∃ v', Arg n0 w v' (l.take j) ∧ ∀ W, (Instr.slice 25 v none (some (.int .i64 j)) none).run Try.prog W = .ok v' W := by
  obtain ⟨a, cap, rfl, hcap, _⟩ := h.shape
  refine ⟨_, by simpa using h.sub 0 j (by omega) hj, fun W => ?_⟩
  rw [run_slice_h W 25 a l.length cap elem25 .i64 j (by omega) (by omega), size5]
  simp [Result.andThen]

theorem Arg.behind {n0 : Nat} {w : World} {v : Value} {l : List Int} (h : Arg n0 w v l) (i : Nat) (hi : i ≤ l.length) :
    ∃ v', Arg n0 w v' (l.drop i) ∧ ∀ W, (Instr.slice 25 v (some (.int .i64 i)) none none).run Try.prog W = .ok v' W := by
  obtain ⟨a, cap, rfl, hcap, _⟩ := h.shape
  refine ⟨_, by simpa using h.sub i l.length hi (Nat.le_refl _), fun W => ?_⟩
  rw [run_slice_l W 25 a l.length cap elem25 .i64 i (by omega) (by omega), size5]
  simp [Result.andThen]

theorem Arg.len {n0 : Nat} {w : World} {v : Value} {l : List Int} (h : Arg n0 w v l) (W : World) : (Builtin.len_ #[25] 3 #[v]).run Try.prog W = .ok (.int .i64 l.length) W := by
  obtain ⟨a, cap, rfl, _, _⟩ := h.shape
  exact run_len Try.underlying25 a l.length cap W

/-- bytes.Clone. -/
theorem bclone_any (n0 : Nat) (v : Value) (l : List Int) (w : World) (h : Arg n0 w v l) (hs : l.length ≤ 4096) :
    Calls Try.prog 52 #[v] w fun e w' => (∃ v', e = .returned v' ∧ Own1 w.heap.size w' v' l) ∧ Below w.heap.size w w' :=
  (C.clone_any v l w h.toC (by omega)).mono fun e w' ⟨⟨v', h1, h2⟩, h3⟩ => ⟨⟨v', h1, .mk h2 h.oct⟩, h3⟩

set_option maxRecDepth 100000 in
set_option maxHeartbeats 1000000 in
theorem prefix_any (n0 n1 : Nat) (v u : Value) (l m : List Int) (w : World) (h : Arg n0 w v l) (hu : Arg n1 w u m) (hlen : m.length ≤ l.length) :
    Calls Try.prog 33 #[v, u] w fun e w' => e = .returned (.bool (decide (l.take m.length = m))) ∧ w = w' := by
  obtain ⟨v', hA, hcut⟩ := h.ahead m.length hlen
  have hl1 := h.len
  have hl2 := hu.len
  have HC := C.equal_any v' u (l.take m.length) m w hA.toC.bytes hu.toC.bytes
  have hle : (m.length : Int) ≤ (l.length : Int) := by omega
  obtain ⟨r, hr⟩ : ∃ r, r = decide (l.take m.length = m) := ⟨_, rfl⟩
  rw [← hr] at HC ⊢
  clear h hu hA hr
  go_enter Try.func33, Try.ntmps33
  go_wp2_with fail
  refine HC.mono ?_
  rintro e w2 ⟨rfl, rfl⟩
  go_wp2
  go_ret
  exact ⟨rfl, rfl⟩

set_option maxHeartbeats 400000 in
theorem nonzero_any (x : Int) (w : World) : Calls Try.prog 36 #[.int .u8 x] w fun e w' => e = .returned (.bool (!decide (x = 0))) ∧ w = w' := by
  by_cases h : x = 0
  · subst h
    go_enter Try.func36, Try.ntmps36
    go_wp2
    go_ret
    exact ⟨rfl, rfl⟩
  · have hb : (x == 0) = false := by simpa using h
    rw [decide_eq_false h]
    go_enter Try.func36, Try.ntmps36
    go_wp2
    go_ret
    exact ⟨congrArg (fun b => Ending.returned (.bool b)) (by simp [h]), rfl⟩

set_option maxRecDepth 100000 in
set_option maxHeartbeats 2000000 in
theorem zindex_any (n0 : Nat) (v : Value) (l : List Int) (w : World) (h : Arg n0 w v l) :
    Calls Try.prog 53 #[v, .func (.func 36) #[] #[]] w fun e w' => (∃ r : Int, e = .returned (.int .i64 r) ∧ ((r = -1 ∧ l.all (fun x => decide (x = 0)) = true) ∨ (0 ≤ r ∧ l.all (fun x => decide (x = 0)) = false))) ∧ w = w' := by
  obtain ⟨a, c, rfl, _, hm, _⟩ := h.shape
  unfold maxLen at hm
  obtain ⟨n, hn⟩ : ∃ n, n = l.length := ⟨_, rfl⟩
  rw [← hn] at h hm ⊢
  have hl1 := run_len Try.underlying25 a n c
  have HH : Hid (Arg n0 w (.slice a n c) l ∧ n = l.length) := ⟨h, hn⟩
  clear h hn
  go_enter Try.func53, Try.ntmps53
  go_wp2
  go_loopw [8] (fun i wr => ∃ k : Nat, k ≤ n ∧ i = .int .i64 k ∧ Hid ((l.take k).all (fun x => decide (x = 0)) = true) ∧ wr = w) (fun i _ => n - (intOf i).toNat)
  case atStart => exact ⟨0, Nat.zero_le _, rfl, by show _ = _; simp, rfl⟩
  case round =>
    obtain ⟨k, hk, rfl, HK, rfl⟩ := hrel
    by_cases hlt : k < n
    · obtain ⟨x, hx⟩ := get_lt (l := l) (k := k) (by rw [← HH.out.2]; exact hlt)
      obtain ⟨b, o, hix, -, c0, -⟩ := HH.out.1.at k x hx
      have hki : (k : Int) < (n : Int) := by omega
      have HX : Hid (l[k]? = some x) := hx
      have HC := nonzero_any x wr
      clear hx
      by_cases e : x = 0
      · rw [decide_eq_true e] at HC
        have HK2 : Hid ((l.take (k + 1)).all (fun x => decide (x = 0)) = true) := by
          show _ = _
          rw [take_snoc HX.out, List.all_append, HK.out]
          simp [e]
        clear e
        go_wp2_with fail
        refine HC.mono ?_
        rintro e w2 ⟨rfl, rfl⟩
        go_wp2
        go_roundw
        case rel => exact ⟨k + 1, by omega, by go_num, HK2, trivial⟩
        case measure => simp [intOf]; omega
      · rw [decide_eq_false e] at HC
        have HA : Hid (l.all (fun x => decide (x = 0)) = false) := by
          show _ = _
          rw [List.all_eq_false]
          exact ⟨x, List.mem_of_getElem? HX.out, by simp [e]⟩
        clear e
        go_wp2_with fail
        refine HC.mono ?_
        rintro e w2 ⟨rfl, rfl⟩
        go_wp2
        go_ret
        exact ⟨⟨k, rfl, .inr ⟨by omega, HA.out⟩⟩, rfl⟩
    · obtain rfl : k = n := by omega
      have HA : Hid (l.all (fun x => decide (x = 0)) = true) := by
        have := HK.out
        rwa [HH.out.2, List.take_length] at this
      clear HK
      go_wp2
      go_ret
      exact ⟨⟨-1, rfl, .inl ⟨rfl, HA.out⟩⟩, rfl⟩

set_option maxRecDepth 100000 in
set_option maxHeartbeats 1000000 in
theorem zcontains_any (n0 : Nat) (v : Value) (l : List Int) (w : World) (h : Arg n0 w v l) :
    Calls Try.prog 35 #[v, .func (.func 36) #[] #[]] w fun e w' => e = .returned (.bool (!l.all (fun x => decide (x = 0)))) ∧ w = w' := by
  have HC := zindex_any n0 v l w h
  clear h
  obtain ⟨al, hal⟩ : ∃ x, x = l.all (fun x => decide (x = 0)) := ⟨_, rfl⟩
  rw [← hal] at HC ⊢
  clear hal
  go_enter Try.func35, Try.ntmps35
  go_wp2_with fail
  refine HC.mono ?_
  rintro e w2 ⟨⟨r, rfl, hr⟩, rfl⟩
  rcases hr with ⟨rfl, rfl⟩ | ⟨h0, rfl⟩
  · go_wp2
    go_ret
    exact ⟨rfl, rfl⟩
  · go_wp2
    go_ret
    exact ⟨by simp, rfl⟩

end Go.Proofs.Ytmjgamokddedkaa
