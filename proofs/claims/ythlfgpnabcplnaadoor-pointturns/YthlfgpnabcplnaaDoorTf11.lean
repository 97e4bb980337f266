import Derived.Test.YthlfgpnabcplnaaDoorTf8
import Derived.OwnWalk
import Derived.Lib.SlBytesConst
/-
  What crc.Seal answers: the octets and their sum, the lowest octet first, in a block of its own; what was in memory stays. And the statements' helper alive.
-/
namespace Go.Proofs.YthlfgpnabcplnaaDoor.W.C
open Go.RowKit

theorem below_any {w a b : World} (h : Below w.heap.size w a) (k : Below a.heap.size a b) : Below w.heap.size w b := h.trans (k.mono h.size)

theorem below_drewN {B : Nat} {a w : World} (h : Below B a w) (q : Nat) : Below B a (w.drewN q) := by
  refine ⟨h.os, h.tape, h.output, ?_, fun k hk => ?_⟩
  · simpa using h.size
  · simpa using h.block k hk

theorem own_below {w w' : World} {base : Nat} {e : TypeId} {size : Nat} {v : Value} {n : Nat} {xs : List Value} (h : w.ownsRow base e size v n xs) (hb : Below w.heap.size w w') : w'.ownsRow base e size v n xs := by
  refine ⟨h.1, ?_⟩
  rcases h.2 with c | ⟨g, cap, cur, hv, hg, hh, rest⟩
  · exact .inl c
  · exact .inr ⟨g, cap, cur, hv, hg, by rw [hb.block g (Array.getElem?_eq_some_iff.1 hh).1]; exact hh, rest⟩

/-- A slice as an append takes it. -/
theorem Arg.news {w : World} {v : Value} {l : List Int} (h : Arg w v l) : ∃ ao cap, v = .slice ao l.length cap ∧ l.length ≤ cap ∧ (ao = none → l.length = 0 ∧ cap = 0) ∧ (∀ ad, ao = some ad → ∀ j u, (l.map (Value.int .u8))[j]? = some u → w.cell? (ad.add j) = some u) ∧ Oct l := by
  rcases h with ⟨rfl, rfl⟩ | ⟨x, cap, rfl, hcap, hm, hc, hr⟩
  · exact ⟨none, 0, rfl, Nat.le_refl _, fun _ => ⟨rfl, rfl⟩, (fun ad h => by cases h), (fun x hx => by cases hx)⟩
  · refine ⟨some x, cap, rfl, hcap, (fun h => by cases h), fun ad had j u hj => ?_, hr⟩
    obtain rfl := Option.some.inj had
    have hjl : j < l.length := by
      rcases Nat.lt_or_ge j l.length with c | c
      · exact c
      · rw [List.getElem?_eq_none (by simpa using c)] at hj; cases hj
    rw [hc j hjl]
    rw [List.getElem?_map, List.getElem?_eq_getElem hjl] at hj
    simpa [List.getElem?_eq_getElem hjl] using hj

theorem one_cells (l : List Int) : ∀ u ∈ l.map (Value.int .u8), u.oneCell' = true := fun u hu => by
  obtain ⟨y, _, rfl⟩ := List.mem_map.1 hu
  rfl

theorem low_length (s : Nat) : (low s).length = 4 := rfl

/-- What is sealed. -/
def sealed (l : List Int) : List Int := l ++ low (sum l)
theorem sealed_length (l : List Int) : (sealed l).length = l.length + 4 := by simp [sealed, low_length]
theorem sealed_oct (l : List Int) (h : Oct l) : Oct (sealed l) := fun x hx => by
  rcases List.mem_append.1 hx with g | g
  · exact h x g
  · exact low_oct _ x g

set_option maxRecDepth 100000 in
set_option maxHeartbeats 1000000 in
theorem seal_any (v : Value) (l : List Int) (w : World) (h : Arg w v l) (hs : l.length ≤ 140737488355328) :
    Calls Tryd.prog 36 #[v] w fun e w' => e = .returned (.slice (some ⟨w.heap.size, 0, none⟩) (l.length + 4) (l.length + 4)) ∧
      w'.ownsRow w.heap.size 5 1 (.slice (some ⟨w.heap.size, 0, none⟩) (l.length + 4) (l.length + 4)) (l.length + 4) ((sealed l).map (Value.int .u8)) ∧ Below w.heap.size w w' := by
  obtain ⟨i0, hi, hz0, hz1, hz2⟩ := info_parts Tryd.info5
  have HA : Hid (Arg w v l) := h
  obtain ⟨ao, cap, rfl, hcap, hnone, hnews, hr⟩ := h.news
  have HN : Hid (ao = none → l.length = 0 ∧ cap = 0) := hnone
  obtain ⟨n, hn⟩ : ∃ n, n = l.length := ⟨_, rfl⟩
  have HL : Hid (n = l.length) := hn
  have HR : Hid (Oct l) := hr
  have hn1 : n ≤ 140737488355328 := by omega
  rw [← hn]
  rw [← hn] at HA HN
  have HC : Hid (∀ ad, ao = some ad → ∀ j u, (l.map (Value.int .u8))[j]? = some u → w.cell? (ad.add j) = some u) := hnews
  clear h hnone hnews hr hcap hn hs
  go_enter Tryd.func36, Tryd.ntmps36
  go_wp2_with (first
    | (at_make; refine wpList_make_own _ rfl _ _ 22 rfl w.heap.size 5 i0 (.int .u8 0) 1 Tryd.underlying22 hi hz0 hz1 _ _ _ (n + 4) rfl rfl (by omega) (by rw [hz2]; omega) (by unfold maxLen; omega) (Nat.le_refl _) ?_; intro w1 hown1 hgrow1)
    | (at_builtin; refine wpList_append_fits_any _ rfl _ _ 22 rfl w.heap.size 5 i0 1 Tryd.underlying22 hi hz1 w.heap.size 0 (n + 4) [] rfl hown1 ao n cap (l.map (Value.int .u8)) rfl (by rw [HL.out]; simp) HN.out
        (fun ad had j u hj => by
          have g1 := HC.out ad had j u hj
          have hb1 : Below w.heap.size w w1 := (Below.refl _ _).grown hgrow1 (Nat.le_refl _) (fun _ h => by cases h)
          rw [hb1.cell (cell_lt g1)]; exact g1) (one_cells l) (by omega) ?_; intro w2 hown2 hgrow2))
  have hb1 : Below w.heap.size w w1 := (Below.refl _ _).grown hgrow1 (Nat.le_refl _) (fun _ h => by cases h)
  have hb2 : Below w.heap.size w w2 := hb1.grown hgrow2 hb1.size (fun k h => by cases h; exact Nat.le_refl _)
  have hv2 : Arg w2 (.slice ao n cap) l := HA.out.below hb2
  rw [Nat.zero_add] at hown2
  simp only [List.nil_append] at hown2
  refine (sum_any _ l w2 hv2).mono ?_
  rintro e w3 ⟨rfl, hb3⟩
  have hb03 := below_any hb2 hb3
  have hown3 : w3.ownsRow w.heap.size 5 1 (.slice (some ⟨w.heap.size, 0, none⟩) n (n + 4)) n (l.map (Value.int .u8)) := own_below hown2 hb3
  clear hgrow1 hgrow2 hown1 hown2 hb1 hb2 hb3
  go_wp2_with fail
  refine (laid_any (sum l) w3).mono ?_
  rintro e w4 ⟨rfl, hown4, hb4⟩
  have hb04 := below_any hb03 hb4
  have hown34 := own_below hown3 hb4
  have hlt4 : w3.heap.size < w4.heap.size := (hown4.lt w3.heap.size rfl).2
  have hcells : ∀ j u, ((low (sum l)).map (Value.int .u8))[j]? = some u → w4.cell? ((⟨w3.heap.size, 0, none⟩ : Addr).add j) = some u := hown4.cells rfl
  clear hown3 hown4
  go_wp2_with (at_builtin; refine wpList_append_fits _ rfl _ _ 22 rfl w.heap.size 5 i0 1 Tryd.underlying22 hi hz1 w.heap.size n (n + 4) (l.map (Value.int .u8)) rfl hown34 ⟨w3.heap.size, 0, none⟩ 4 4 ((low (sum l)).map (Value.int .u8)) rfl (by simp [low_length]) hcells (one_cells _) (Nat.le_refl _) ?_; intro w5 hown5 hgrow5)
  have hb5 : Below w.heap.size w w5 := hb04.grown hgrow5 hb04.size (fun k h => by cases h; exact Nat.le_refl _)
  rw [← List.map_append] at hown5
  clear hgrow5 hcells hown34
  go_ret
  exact ⟨rfl, hown5, hb5⟩

theorem arg_none (w : World) : Arg w (.slice none 0 0) [] := .inl ⟨rfl, rfl⟩

theorem arg_lit (w : World) (l : List Int) (fr : Nat × Nat) (hl : l.length ≤ maxLen) (hr : Oct l) : Arg (w.alloc (.cells (l.map (Value.int .u8)).toArray 5 fr)) (.slice (some ⟨w.heap.size, 0, none⟩) l.length l.length) l := by
  refine .inr ⟨_, _, rfl, Nat.le_refl _, hl, fun i hi => ?_, hr⟩
  rw [add_plain, cell_of_row _ _ _ _ _ fr (heap_alloc_new w _)]
  simp [List.getElem?_eq_getElem hi]

end Go.Proofs.YthlfgpnabcplnaaDoor.W.C

/-
  A part of a slice that came in, as the walks ask for it: its octets are that part of the octets; how long a slice is.
-/
namespace Go.Proofs.YthlfgpnabcplnaaDoor.W.C
open Go.RowKit

theorem part_length (l : List Int) (i j : Nat) (hj : j ≤ l.length) : ((l.take j).drop i).length = j - i := by
  rw [List.length_drop, List.length_take, Nat.min_eq_left hj]

theorem Arg.sub {w : World} {a : Option Addr} {len cap : Nat} {l : List Int} (h : Arg w (.slice a len cap) l) (i j : Nat) (hij : i ≤ j) (hj : j ≤ l.length) : Arg w (sliced a i j cap 1) ((l.take j).drop i) := by
  rcases h with ⟨hv, rfl⟩ | ⟨x, c, hv, hcap, hm, hc, hr⟩
  · obtain ⟨rfl, rfl, rfl⟩ := Value.slice.inj hv
    obtain rfl : j = 0 := by simpa using hj
    obtain rfl : i = 0 := by omega
    exact .inl ⟨rfl, rfl⟩
  · obtain ⟨rfl, rfl, rfl⟩ := Value.slice.inj hv
    have hr' : ∀ y ∈ (l.take j).drop i, 0 ≤ y ∧ y ≤ 255 := fun y hy => hr y (List.mem_of_mem_take (List.mem_of_mem_drop hy))
    have hl := part_length l i j hj
    by_cases e : cap = i
    · refine .inr ⟨x, cap - i, ?_, by omega, by omega, fun k hk => by omega, hr'⟩
      unfold sliced
      rw [if_pos e, hl]
    · refine .inr ⟨x.add (i * 1), cap - i, ?_, by omega, by omega, fun k hk => ?_, hr'⟩
      · unfold sliced
        rw [if_neg e, hl]
        rfl
      · have h1 := hc (i + k) (by omega)
        obtain ⟨b, off, spot⟩ := x
        have h0 := hc 0 (by omega)
        have hspot : spot = none := by simpa [Addr.add] using World.cell?_spot h0
        subst hspot
        rw [add_plain] at h1
        rw [add_plain, add_plain, Nat.mul_one, Nat.add_assoc, h1]
        congr 2
        have : k < j - i := by omega
        simp only [List.getD_eq_getElem?_getD, List.getElem?_drop, List.getElem?_take]
        rw [if_pos (by omega)]

theorem Arg.shape {w : World} {v : Value} {l : List Int} (h : Arg w v l) : ∃ a cap, v = .slice a l.length cap ∧ l.length ≤ cap ∧ l.length ≤ maxLen := by
  rcases h with ⟨rfl, rfl⟩ | ⟨x, c, rfl, hcap, hm, hc, hr⟩
  · exact ⟨none, 0, rfl, Nat.le_refl _, by simp [maxLen]⟩
  · exact ⟨_, c, rfl, hcap, hm⟩

theorem Arg.len {w : World} {v : Value} {l : List Int} (h : Arg w v l) (W : World) : (Builtin.len_ #[22] 3 #[v]).run Tryd.prog W = .ok (.int .i64 l.length) W := by
  obtain ⟨a, cap, rfl, _, _⟩ := h.shape
  simp [Builtin.len_, run_underlying Tryd.underlying22, goInt]

theorem elem22 : Tryd.prog.underlying 22 = some (.slice (Tryd.prog.elem 22)) := by kernel_rfl
theorem elem22_is : Tryd.prog.elem 22 = 5 := by kernel_rfl
theorem size5 (W : World) : (sizeOf (Tryd.prog.elem 22)).run Tryd.prog W = .ok 1 W := by
  obtain ⟨i0, hi, hz0, hz1, hz2⟩ := info_parts Tryd.info5
  rw [elem22_is]
  simp [sizeOf, typeInfo, hi, hz1]

theorem Arg.cut {w : World} {v : Value} {l : List Int} (h : Arg w v l) (i j : Nat) (hij : i ≤ j) (hj : j ≤ l.length) :
    ∃ v', Arg w v' ((l.take j).drop i) ∧ ∀ W, (Instr.slice 22 v (some (.int .i64 i)) (some (.int .i64 j)) none).run Tryd.prog W = .ok v' W := by
  obtain ⟨a, cap, rfl, hcap, _⟩ := h.shape
  refine ⟨_, h.sub i j hij hj, fun W => ?_⟩
  rw [run_slice_lh W 22 a l.length cap elem22 .i64 .i64 i j (by omega) (by omega) (by omega), size5]
  simp [Result.andThen]

theorem Arg.ahead {w : World} {v : Value} {l : List Int} (h : Arg w v l) (j : Nat) (hj : j ≤ l.length) :
    ∃ v', Arg w v' (l.take j) ∧ ∀ W, (Instr.slice 22 v none (some (.int .i64 j)) none).run Tryd.prog W = .ok v' W := by
  obtain ⟨a, cap, rfl, hcap, _⟩ := h.shape
  refine ⟨_, by simpa using h.sub 0 j (by omega) hj, fun W => ?_⟩
  rw [run_slice_h W 22 a l.length cap elem22 .i64 j (by omega) (by omega), size5]
  simp [Result.andThen]

theorem Arg.behind {w : World} {v : Value} {l : List Int} (h : Arg w v l) (i : Nat) (hi : i ≤ l.length) :
    ∃ v', Arg w v' (l.drop i) ∧ ∀ W, (Instr.slice 22 v (some (.int .i64 i)) none none).run Tryd.prog W = .ok v' W := by
  obtain ⟨a, cap, rfl, hcap, _⟩ := h.shape
  refine ⟨_, by simpa using h.sub i l.length hi (Nat.le_refl _), fun W => ?_⟩
  rw [run_slice_l W 22 a l.length cap elem22 .i64 i (by omega) (by omega), size5]
  simp [Result.andThen]

end Go.Proofs.YthlfgpnabcplnaaDoor.W.C
