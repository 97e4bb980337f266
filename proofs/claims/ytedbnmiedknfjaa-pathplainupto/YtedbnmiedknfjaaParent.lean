/-
  What path.Parent and the document's Parent answer; for every text.
-/
import Derived.Test.YtedbnmiedknfjaaRJoin
import Derived.Test.YtedbnmiedknfjaaEqual
import Derived.Laws.CopyOwn
import Derived.Deep.OwnRows
namespace Go.Proofs.Ytedbnmiedknfjaa
open Go.RowKit Go.Shelf

theorem Cells.sub {n0 : Nat} {w : World} {size : Nat} {a : Option Addr} {len cap : Nat} {us : List Value} (h : Cells n0 w size (.slice a len cap) len us) (i j : Nat) (hij : i ≤ j) (hj : j ≤ len) :
    Cells n0 w size (sliced a i j cap size) (j - i) ((us.take (j * size)).drop (i * size)) := by
  have hus := h.1
  have hjl : j * size ≤ len * size := Nat.mul_le_mul_right _ hj
  have hl : ((us.take (j * size)).drop (i * size)).length = (j - i) * size := by
    rw [List.length_drop, List.length_take, hus, Nat.min_eq_left hjl, Nat.sub_mul]
  obtain ⟨_, ⟨hv, h0⟩ | ⟨x, c, hv, hcap, hm, hb, hc⟩⟩ := h
  · obtain ⟨rfl, rfl, rfl⟩ := Value.slice.inj hv
    obtain rfl : j = 0 := by omega
    obtain rfl : i = 0 := by omega
    exact ⟨hl, .inl ⟨by simp [sliced], by simp⟩⟩
  · obtain ⟨rfl, _, rfl⟩ := Value.slice.inj hv
    refine ⟨hl, .inr ?_⟩
    by_cases e : cap = i
    · refine ⟨x, cap - i, ?_, by omega, by omega, hb, fun k u hk => ?_⟩
      · unfold sliced
        rw [if_pos e]
      · have hk1 := (List.getElem?_eq_some_iff.1 hk).1
        rw [hl, show j - i = 0 by omega] at hk1
        omega
    · have hblk : (x.add (i * size)).block = x.block := by unfold Addr.add; split <;> rfl
      refine ⟨x.add (i * size), cap - i, ?_, by omega, by omega, by rw [hblk]; exact hb, fun k u hk => ?_⟩
      · unfold sliced
        rw [if_neg e]
        rfl
      · have hk0 : k < (j - i) * size := by
          have := (List.getElem?_eq_some_iff.1 hk).1
          rwa [hl] at this
        rw [Nat.sub_mul] at hk0
        have h1 := hc (i * size + k) u (by
          rw [List.getElem?_drop, List.getElem?_take, if_pos (by omega)] at hk
          exact hk)
        rw [add_add]
        exact h1

theorem elem22 : Try.prog.underlying 22 = some (.slice (Try.prog.elem 22)) := by kernel_rfl
theorem elem22_is : Try.prog.elem 22 = 9 := by kernel_rfl
theorem size9 (W : World) : (sizeOf (Try.prog.elem 22)).run Try.prog W = .ok 1 W := by
  obtain ⟨i0, hi, hz0, hz1, hz2⟩ := info_parts Try.info9
  rw [elem22_is]
  simp [sizeOf, typeInfo, hi, hz1]

theorem ArgT.sub {n0 : Nat} {w : World} {a : Option Addr} {len cap : Nat} {l : List ByteArray} (h : ArgT n0 w (.slice a len cap) l) (i j : Nat) (hij : i ≤ j) (hj : j ≤ l.length) : ArgT n0 w (sliced a i j cap 1) ((l.take j).drop i) := by
  have hlen : ((l.take j).drop i).length = j - i := by rw [List.length_drop, List.length_take, Nat.min_eq_left hj]
  obtain ⟨a', c', hv, _⟩ := h.shape
  obtain ⟨_, rfl, _⟩ := Value.slice.inj hv
  refine ⟨?_, fun y hy => h.2 y (List.mem_of_mem_take (List.mem_of_mem_drop hy))⟩
  have := h.1.sub i j hij hj
  rw [Nat.mul_one, Nat.mul_one] at this
  rw [hlen, tv, List.map_drop, List.map_take]
  exact this
theorem ArgT.ahead {n0 : Nat} {w : World} {v : Value} {l : List ByteArray} (h : ArgT n0 w v l) (j : Nat) (hj : j ≤ l.length) :
    ∃ v', ArgT n0 w v' (l.take j) ∧ ∀ W, (Instr.slice 22 v none (some (.int .i64 j)) none).run Try.prog W = .ok v' W := by
  obtain ⟨a, cap, rfl, hcap, _⟩ := h.shape
  refine ⟨_, by simpa using h.sub 0 j (by omega) hj, fun W => ?_⟩
  rw [run_slice_h W 22 a l.length cap elem22 .i64 j (by omega) (by omega), size9]
  simp [Result.andThen]

/-- Parent's error, the path of all names but the last, and the last. -/
def perr (s : ByteArray) : Int := if serr s = 0 then (if sval s = [] then 108 else 0) else serr s
def ppar (s : ByteArray) : ByteArray := if perr s = 0 then jval ((sval s).take ((sval s).length - 1)) else ⟨#[]⟩
def plast (s : ByteArray) : ByteArray := if perr s = 0 then (sval s).getD ((sval s).length - 1) ⟨#[]⟩ else ⟨#[]⟩

theorem serr_cases (s : ByteArray) : serr s = 0 ∨ serr s = 5 ∨ serr s = 106 := by
  unfold serr
  split
  · simp
  · split
    · simp
    · split
      · simp
      · split <;> simp

set_option maxRecDepth 100000 in
set_option maxHeartbeats 2000000 in
theorem parent_any (s : ByteArray) (w : World) : Calls Try.prog 13 #[.string s] w fun e w' => e = .returned (.tuple #[.string (ppar s), .string (plast s), .int .i64 (perr s)]) ∧ Below w.heap.size w w' := by
  have HC : Hid (Calls Try.prog 9 #[.string s] w fun e w' => ∃ v, e = .returned (.tuple #[v, .int .i64 (serr s)]) ∧ OwnT w.heap.size w' v (sval s) ∧ Below w.heap.size w w') := split_any s w
  obtain ⟨P, hP⟩ : ∃ P, P = ppar s := ⟨_, rfl⟩
  obtain ⟨N, hN⟩ : ∃ N, N = plast s := ⟨_, rfl⟩
  obtain ⟨E, hE⟩ : ∃ E, E = perr s := ⟨_, rfl⟩
  rw [← hP, ← hN, ← hE]
  have HP : Hid (P = ppar s ∧ N = plast s ∧ E = perr s) := ⟨hP, hN, hE⟩
  clear hP hN hE
  by_cases he : serr s = 0
  · have HE : Hid (serr s = 0) := he
    rw [he] at HC
    clear he
    by_cases hl : sval s = []
    · have HF : Hid (P = ⟨#[]⟩ ∧ N = ⟨#[]⟩ ∧ E = 108) := by
        have h1 : perr s = 108 := by simp [perr, HE.out, hl]
        exact ⟨by rw [HP.out.1, ppar, h1]; rfl, by rw [HP.out.2.1, plast, h1]; rfl, by rw [HP.out.2.2, h1]⟩
      rw [hl] at HC
      clear hl
      go_enter Try.func13, Try.ntmps13
      go_wp2_with (go_at_call 9; refine HC.out.mono ?_; rintro e w1 ⟨v, rfl, hO, hb⟩; obtain ⟨a, c, rfl⟩ := hO.shape; have hr := run_len Try.underlying22 a 0 c)
      go_ret3
      exact ⟨by rw [HF.out.1, HF.out.2.1, HF.out.2.2]; rfl, hb⟩
    · obtain ⟨L, hL⟩ : ∃ L, L = sval s := ⟨_, rfl⟩
      have HL : Hid (L = sval s) := hL
      rw [← hL] at HC hl
      obtain ⟨m, hm⟩ : ∃ m, L.length = m + 1 := ⟨L.length - 1, by have := List.length_pos_iff.2 hl; omega⟩
      obtain ⟨x, hx⟩ := get_lt (l := L) (k := m) (by omega)
      have h8 : m + 1 ≤ 8 := by
        rw [← hm, hL, sval, HE.out, if_pos rfl]
        have h1 := HE.out
        unfold serr at h1
        by_cases c : 8 < (pts s).length
        · simp [c] at h1
          omega
        · omega
      have HF : Hid (P = jval (L.take m) ∧ N = x ∧ E = 0 ∧ L.length = m + 1 ∧ L[m]? = some x) := by
        have h1 : perr s = 0 := by simp [perr, HE.out, ← hL, hl]
        refine ⟨?_, ?_, by rw [HP.out.2.2, h1], hm, hx⟩
        · rw [HP.out.1, ppar, h1, if_pos rfl, ← hL, hm]; rfl
        · rw [HP.out.2.1, plast, h1, if_pos rfl, ← hL, hm]
          simp [List.getD, hx]
      clear hl hL hx
      go_enter Try.func13, Try.ntmps13
      go_wp2_with fail
      refine HC.out.mono ?_
      rintro e w1 ⟨v, rfl, hO, hb⟩
      obtain ⟨a, c, rfl⟩ := hO.shape
      rw [hm] at hO ⊢
      have hr := run_len Try.underlying22 a (m + 1) c
      obtain ⟨v2, hA2, hsl⟩ := hO.arg.ahead m (by omega)
      have hj := join_any w.heap.size v2 (L.take m) w1 hA2
      rw [← HF.out.1] at hj
      have HO : Hid (OwnT w.heap.size w1 (.slice a (m + 1) c) L ∧ Below w.heap.size w w1) := ⟨hO, hb⟩
      have hmi : ((m + 1 : Nat) : Int) - 1 = (m : Int) := by omega
      have hmz : (((m : Int) + 1) == 0) = false := beq_false_of_ne (by omega)
      clear hO hb hA2 hm
      go_wp2_with fail
      refine hj.mono ?_
      rintro e w2 ⟨rfl, hb2⟩
      obtain ⟨b, o, hix, _, hc⟩ := (HO.out.1.arg.below hb2).at m x HF.out.2.2.2.2
      have HB : Hid (Below w.heap.size w w2) := below_any HO.out.2 hb2
      clear hj hb2 hsl
      go_wp2
      go_quiet (fail)
      go_wp2
      go_ret3
      exact ⟨by rw [HF.out.2.1, HF.out.2.2.1]; rfl, below_drewN HB.out _⟩
  · have HF : Hid (P = ⟨#[]⟩ ∧ N = ⟨#[]⟩ ∧ E = serr s) := by
      have h1 : perr s = serr s := by simp [perr, he]
      exact ⟨by rw [HP.out.1, ppar, h1, if_neg he], by rw [HP.out.2.1, plast, h1, if_neg he], by rw [HP.out.2.2, h1]⟩
    obtain ⟨k, hk⟩ : ∃ k, k = serr s := ⟨_, rfl⟩
    rw [← hk] at HC HF he
    have hb0 : (k == 0) = false := beq_false_of_ne he
    clear hk he
    go_enter Try.func13, Try.ntmps13
    go_wp2_with (go_at_call 9; refine HC.out.mono ?_; rintro e w1 ⟨v, rfl, hO, hb⟩)
    go_ret3
    exact ⟨by rw [HF.out.1, HF.out.2.1, HF.out.2.2]; rfl, hb⟩

end Go.Proofs.Ytedbnmiedknfjaa
