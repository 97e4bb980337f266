/-
  slices.Grow of octets of one's own; what filled makes of them: zeros behind, up to 380.
-/
import Derived.Test.YtkpckadicjdieabGZeros
import Derived.Test.YtkpckadicjdieabGConcat
import Derived.Test.YtkpckadicjdieabZ9
import Derived.Laws.IdiomCopy
namespace Go.Proofs.Ytkpckadicjdieab
open Go.RowKit

/-- Cells from o on, written over. -/
def sets : Array Value → Nat → List Value → Array Value
  | cs, _, [] => cs
  | cs, o, v :: r => sets (cs.setIfInBounds o v) (o + 1) r
theorem sets_size : ∀ (vs : List Value) (cs : Array Value) (o : Nat), (sets cs o vs).size = cs.size
  | [], _, _ => rfl
  | v :: r, cs, o => by rw [sets, sets_size r]; simp
theorem sets_get : ∀ (vs : List Value) (cs : Array Value) (o i : Nat), o + vs.length ≤ cs.size → (sets cs o vs)[i]? = if o ≤ i ∧ i < o + vs.length then vs[i - o]? else cs[i]?
  | [], cs, o, i, _ => by rw [sets, if_neg (by simp)]
  | v :: r, cs, o, i, h => by
    simp only [List.length_cons] at h
    rw [sets, sets_get r _ (o + 1) i (by simp; omega), Array.getElem?_setIfInBounds]
    simp only [List.length_cons]
    by_cases h1 : o + 1 ≤ i ∧ i < o + 1 + r.length
    · rw [if_pos h1, if_pos (by omega), show i - o = (i - (o + 1)) + 1 by omega]
      simp
    · rw [if_neg h1]
      by_cases h2 : o = i
      · subst h2
        rw [if_pos rfl, if_pos (by omega), if_pos (by omega)]
        simp
      · rw [if_neg h2, if_neg (by omega)]
theorem Box.setCells {t : TypeId} {B : Nat} : ∀ (vs : List Value) (o : Nat) {w : World} {cs : Array Value}, Box w B t cs → Box (w.setCells B o vs) B t (sets cs o vs)
  | [], _, _, _, h => h
  | v :: r, o, _, _, h => Box.setCells r (o + 1) (h.set o v)
theorem grown_setCells {B : Nat} : ∀ (vs : List Value) (o : Nat) (w : World), w.grownBy (w.setCells B o vs) (some B)
  | [], _, _ => ⟨rfl, rfl, rfl, Nat.le_refl _, fun _ _ _ => rfl⟩
  | v :: r, o, w => (grown_set w B o v).trans (grown_setCells r (o + 1) _)

theorem zero_cells (k : Nat) : (Builtin.zeroCells (Value.int .u8 0).cells k).toList = List.replicate k (.int .u8 0) := by
  apply List.ext_getElem?
  intro i
  by_cases h : i < k
  · simp [Builtin.zeroCells, Value.cells, h, Nat.mod_one]
  · simp [Builtin.zeroCells, Value.cells, h]


/-- A row of octets with its room. -/
def RowB (base : Nat) (w : World) (g n cap : Nat) (l : List Int) : Prop :=
  base ≤ g ∧ n = l.length ∧ n ≤ cap ∧ cap ≤ maxLen ∧ Oct l ∧ ∃ cur : Array Value, w.heap[g]? = some (.cells cur 5 (0, 0)) ∧ cur.size = cap ∧ cur.toList.take n = l.map (Value.int .u8)
theorem RowB.own {base : Nat} {w : World} {g n cap : Nat} {l : List Int} (h : RowB base w g n cap l) : Own1 base w (.slice (some ⟨g, 0, none⟩) n cap) l := by
  obtain ⟨h1, rfl, h3, h4, h5, cur, h6, h7, h8⟩ := h
  exact Own1.mk ⟨by simp, .inr ⟨g, cap, cur, rfl, h1, h6, h3, h4, by omega, by rw [Nat.mul_one]; exact h8⟩⟩ h5
theorem RowB.of {base : Nat} {w : World} {v : Value} {l : List Int} (h : Own1 base w v l) (h0 : 0 < l.length) : ∃ g cap, v = .slice (some ⟨g, 0, none⟩) l.length cap ∧ RowB base w g l.length cap l := by
  rcases h.row.2 with ⟨_, h1⟩ | ⟨g, cap, cur, rfl, h1, h2, h3, h4, h5, h6⟩
  · omega
  · exact ⟨g, cap, rfl, h1, rfl, h3, h4, h.oct, cur, h2, by omega, by rw [Nat.mul_one] at h6; exact h6⟩

theorem growB_mem {base : Nat} {w : World} {g n cap k : Nat} {l : List Int} (h : RowB base w g n cap l) (hb : base ≤ w.heap.size) (hk : cap + k ≤ 100000) :
    ∃ g2 cap2 w', (Builtin.append_ #[46, 3] 46 #[.slice (some ⟨g, 0, none⟩) cap cap, .int .i64 (k : Int)]).run Try.prog w = .ok (.slice (some ⟨g2, 0, none⟩) (cap + k) cap2) w' ∧ RowB base w' g2 n cap2 l ∧ cap + k ≤ cap2 ∧ Below base w w' := by
  obtain ⟨h1, h2, h3, h4, h5, cur, h6, h7, h8⟩ := h
  have hown : w.ownsRow base 5 1 (.slice (some ⟨g, 0, none⟩) cap cap) cap cur.toList := ⟨by simp [h7], .inr ⟨g, cap, cur, rfl, h1, h6, Nat.le_refl _, h4, by omega, by rw [List.take_of_length_le (by simp [h7])]⟩⟩
  obtain ⟨v', w', hr, ho, hg⟩ := append_zeros w _ cap k _ hown hb hk
  have hB : Below base w w' := (Below.refl base w).grown hg hb fun j hj => by
    simp [Value.ownBlock] at hj; omega
  by_cases h0 : cap + k = 0
  · have hk0 : k = 0 := by omega
    have hc0 : cap = 0 := by omega
    subst hk0 hc0
    have : v' = .slice (some ⟨g, 0, none⟩) 0 0 ∧ w' = w := by
      have hw : IntKind.i64.wrap 0 = 0 := by decide
      obtain ⟨i0, hi, hz0, hz1, hz2⟩ := info_parts Try.info5
      simp [Builtin.append_, run_underlying Try.underlying46, run_underlying Try.underlying3, sizeOf, typeInfo, hi, asInt, asIntOf, hw, storeCells] at hr
      exact ⟨hr.1.symm, hr.2.symm⟩
    obtain ⟨rfl, rfl⟩ := this
    exact ⟨g, 0, w', hr, ⟨h1, h2, h3, h4, h5, cur, h6, h7, h8⟩, Nat.le_refl _, hB⟩
  · rcases ho.2 with ⟨_, h9⟩ | ⟨g2, cap2, cur2, rfl, k1, k2, k3, k4, k5, k6⟩
    · omega
    · refine ⟨g2, cap2, w', hr, ⟨k1, h2, by omega, k4, h5, cur2, k2, by omega, ?_⟩, k3, hB⟩
      have : (cur2.toList.take (cap + k)).take n = l.map (Value.int .u8) := by
        rw [Nat.mul_one] at k6
        rw [k6, List.take_append_of_le_length (by simp [h7]; omega), h8]
      rwa [List.take_take, Nat.min_eq_left (by omega)] at this

set_option maxRecDepth 100000 in
set_option maxHeartbeats 2000000 in
theorem growB_any (base g n cap k : Nat) (l : List Int) (w : World) (h : RowB base w g n cap l) (hb : base ≤ w.heap.size) (hk : n + k ≤ 1000) :
    Calls Try.prog 82 #[.slice (some ⟨g, 0, none⟩) n cap, .int .i64 k] w fun e w' => (∃ g2 cap2, e = .returned (.slice (some ⟨g2, 0, none⟩) n cap2) ∧ RowB base w' g2 n cap2 l ∧ n + k ≤ cap2) ∧ Below base w w' := by
  have hcm : cap ≤ 9223372036854775807 := by have := h.2.2.2.1; unfold maxLen at this; omega
  have hnc : n ≤ cap := h.2.2.1
  have hcap : ∀ W, (Builtin.cap_ #[46] 3 #[.slice (some ⟨g, 0, none⟩) n cap]).run Try.prog W = .ok (.int .i64 cap) W := fun W => by simp [Builtin.cap_, run_underlying Try.underlying46, goInt]
  by_cases hroom : n + k ≤ cap
  · have HH : Hid (RowB base w g n cap l ∧ n + k ≤ cap) := ⟨h, hroom⟩
    clear h
    have h1 : ¬ (0 : Int) < (k : Int) - ((cap : Int) - (n : Int)) := by omega
    go_enter Try.func82, Try.ntmps82
    go_wp2
    go_ret
    exact ⟨⟨g, cap, rfl, HH.out.1, HH.out.2⟩, Below.refl _ _⟩
  · obtain ⟨m, hm⟩ : ∃ m, m = n + k - cap := ⟨_, rfl⟩
    obtain ⟨g2, cap2, w', hr, hR, hc2, hB⟩ := growB_mem (k := m) h hb (by omega)
    have HH : Hid (RowB base w' g2 n cap2 l ∧ n + k ≤ cap2 ∧ Below base w w') := ⟨hR, by omega, hB⟩
    have hme : (k : Int) - ((cap : Int) - (n : Int)) = (m : Int) := by omega
    have hm0 : (0 : Int) < (m : Int) := by omega
    have hcm2 : cap + m ≤ cap2 := hc2
    clear h hR hc2 hB hm
    go_enter Try.func82, Try.ntmps82
    go_wp2_with (at_builtin; refine Lib.wpList_append_run _ (by rfl) _ _ 46 3 (by rfl) (.slice (some ⟨g, 0, none⟩) cap cap) (.int .i64 (m : Int)) (by rfl) (by rfl) _ _ hr ?_)
    go_ret
    exact ⟨⟨g2, cap2, rfl, HH.out.1, HH.out.2.1⟩, HH.out.2.2⟩

theorem fill_clear {base : Nat} {w : World} {g n cap : Nat} {l : List Int} (h : RowB base w g n cap l) (hn : n ≤ 380) (hc : 380 ≤ cap) :
    ∃ a m c W', (∀ W, (Instr.slice 46 (.slice (some ⟨g, 0, none⟩) 380 cap) (some (.int .i64 n)) none none).run Try.prog W = .ok (.slice a m c) W) ∧ (∀ ty, (Builtin.clear_ #[46] ty #[.slice a m c]).run Try.prog w = .ok (.tuple #[]) W') ∧
      RowB base W' g 380 cap (l ++ List.replicate (380 - n) 0) ∧ w.grownBy W' (some g) := by
  obtain ⟨h1, h2, h3, h4, h5, cur, h6, h7, h8⟩ := h
  by_cases e : n = 380
  · obtain ⟨a, ha⟩ : ∃ a, a = if cap = 380 then some (⟨g, 0, none⟩ : Addr) else some ((⟨g, 0, none⟩ : Addr).add 380) := ⟨_, rfl⟩
    refine ⟨a, 0, cap - 380, w, fun W => ?_, fun ty => ?_, ?_, ⟨rfl, rfl, rfl, Nat.le_refl _, fun _ _ _ => rfl⟩⟩
    · rw [e, run_slice_l W 46 (some ⟨g, 0, none⟩) 380 cap C.elem22 .i64 _ (by omega) (by omega), C.size5]
      simp [Result.andThen, sliced, ha]
    · cases a <;> simp [Builtin.clear_, run_underlying Try.underlying46]
    · subst e
      simp only [Nat.sub_self, List.replicate_zero, List.append_nil]
      exact ⟨h1, h2, h3, h4, h5, cur, h6, h7, h8⟩
  · have hst := run_storeCells_cells (P := Try.prog) g n (List.replicate (380 - n) (.int .u8 0)) 0 w (fun j hj => by
        rw [List.length_replicate] at hj
        have : n + j < cur.size := by omega
        simp [World.cell?, h6, this]) (fun j _ => by simp [World.frozen?, h6]) (fun v hv => by rw [(List.mem_replicate.1 hv).2]; rfl)
    simp only [Nat.add_zero] at hst
    refine ⟨some ⟨g, n, none⟩, 380 - n, cap - n, w.setCells g n (List.replicate (380 - n) (.int .u8 0)), fun W => ?_, fun ty => ?_, ⟨h1, by simp; omega, hc, h4, ?_, sets cur n (List.replicate (380 - n) (.int .u8 0)), ?_, ?_, ?_⟩, grown_setCells _ _ _⟩
    · rw [run_slice_l W 46 (some ⟨g, 0, none⟩) 380 cap C.elem22 .i64 _ (by omega) (by omega), C.size5]
      simp only [Result.andThen, sliced, Int.toNat_natCast]
      rw [if_neg (by omega)]
      simp [add_plain]
    · obtain ⟨k, hk⟩ : ∃ k, 380 - n = k + 1 := ⟨379 - n, by omega⟩
      rw [hk] at hst ⊢
      simp [Builtin.clear_, run_underlying Try.underlying46, zero_cells, hst]
    · intro x hx
      rcases List.mem_append.1 hx with hx | hx
      · exact h5 x hx
      · rw [(List.mem_replicate.1 hx).2]; decide
    · exact Box.setCells (t := 5) (B := g) (List.replicate (380 - n) (.int .u8 0)) n (w := w) (cs := cur) h6
    · rw [sets_size]; exact h7
    · apply List.ext_getElem?
      intro i
      rw [List.getElem?_take]
      by_cases hi : i < 380
      · rw [if_pos hi, Array.getElem?_toList, sets_get _ _ _ _ (by simp; omega), List.length_replicate, List.map_append]
        by_cases hin : i < n
        · rw [if_neg (by omega), List.getElem?_append_left (by simp; omega), ← h8, List.getElem?_take, if_pos hin, Array.getElem?_toList]
        · rw [if_pos (by omega), List.getElem?_append_right (by simp; omega)]
          simp [← h2]
      · rw [if_neg hi]
        symm
        rw [List.getElem?_eq_none]
        simp
        omega

set_option maxRecDepth 100000 in
set_option maxHeartbeats 2000000 in
theorem filled_any (base g n cap : Nat) (l : List Int) (w : World) (h : RowB base w g n cap l) (hb : base ≤ w.heap.size) (hn : n ≤ 380) :
    Calls Try.prog 60 #[.slice (some ⟨g, 0, none⟩) n cap] w fun e w' => (∃ g2 cap2, e = .returned (.slice (some ⟨g2, 0, none⟩) 380 cap2) ∧ RowB base w' g2 380 cap2 (l ++ List.replicate (380 - n) 0)) ∧ Below base w w' := by
  obtain ⟨k, hk⟩ : ∃ k, k = 380 - n := ⟨_, rfl⟩
  have HC := growB_any base g n cap k l w h hb (by omega)
  have hki : (380 : Int) - (n : Int) = (k : Int) := by omega
  have hl1 := run_len Try.underlying46 (some ⟨g, 0, none⟩) n cap
  have HK : Hid (k = 380 - n ∧ base ≤ w.heap.size) := ⟨hk, hb⟩
  clear h hk hb
  go_enter Try.func60, Try.ntmps60
  go_wp2_with fail
  refine HC.mono ?_
  rintro e w1 ⟨⟨g2, cap2, rfl, hR, hc2⟩, hB⟩
  have hc380 : 380 ≤ cap2 := by have := HK.out.1; omega
  obtain ⟨a, m, c, W', hcut, hclr, hR2, hg⟩ := fill_clear hR hn hc380
  have HH : Hid (RowB base W' g2 380 cap2 (l ++ List.replicate (380 - n) 0) ∧ Below base w W') := ⟨hR2, hB.grown hg (by have := hB.size; have := HK.out.2; omega) fun j hj => by cases hj; exact hR.1⟩
  have hc47 : cap2 ≤ 9223372036854775807 := by have := hR.2.2.2.1; unfold maxLen at this; omega
  clear HC hR hc2 hB hR2 hg
  go_wp2
  go_ret
  exact ⟨⟨g2, cap2, rfl, HH.out.1⟩, HH.out.2⟩

end Go.Proofs.Ytkpckadicjdieab
