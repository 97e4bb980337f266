/-
  What slices.Delete does to packets in a block of their own: the k-th one is off, the others stay in order.
-/
import Derived.Test.YtpecniajamgjiaaOf
import Derived.Lib.SliceRun
namespace Go.Proofs.Ytpecniajamgjiaa
open Go.RowKit

/-- Cells from o on, written over. -/
def sets : Array Value → Nat → List Value → Array Value
  | cs, _, [] => cs
  | cs, o, v :: r => sets (cs.setIfInBounds o v) (o + 1) r
theorem sets_size : ∀ (vs : List Value) (cs : Array Value) (o : Nat), (sets cs o vs).size = cs.size
  | [], _, _ => rfl
  | v :: r, cs, o => by rw [sets, sets_size r]; simp
theorem sets_get : ∀ (vs : List Value) (cs : Array Value) (o i : Nat), o + vs.length ≤ cs.size → (sets cs o vs)[i]? = if o ≤ i ∧ i < o + vs.length then vs[i - o]? else cs[i]?
  | [], cs, o, i, _ => by rw [sets, if_neg (by simp)]
  | v :: r, cs, o, i, h => by
    simp only [List.length_cons] at h
    rw [sets, sets_get r _ (o + 1) i (by simp; omega), Array.getElem?_setIfInBounds]
    simp only [List.length_cons]
    by_cases h1 : o + 1 ≤ i ∧ i < o + 1 + r.length
    · rw [if_pos h1, if_pos (by omega), show i - o = (i - (o + 1)) + 1 by omega]
      simp
    · rw [if_neg h1]
      by_cases h2 : o = i
      · subst h2
        rw [if_pos rfl, if_pos (by omega), if_pos (by omega)]
        simp
      · rw [if_neg h2, if_neg (by omega)]
theorem Box.setCells {t : TypeId} {B : Nat} : ∀ (vs : List Value) (o : Nat) {w : World} {cs : Array Value}, Box w B t cs → Box (w.setCells B o vs) B t (sets cs o vs)
  | [], _, _, _, h => h
  | v :: r, o, _, _, h => Box.setCells r (o + 1) (h.set o v)
theorem grown_setCells {B : Nat} : ∀ (vs : List Value) (o : Nat) (w : World), w.grownBy (w.setCells B o vs) (some B)
  | [], _, _ => ⟨rfl, rfl, rfl, Nat.le_refl _, fun _ _ _ => rfl⟩
  | v :: r, o, w => (grown_set w B o v).trans (grown_setCells r (o + 1) _)

theorem cut_row {cur : Array Value} {us : List Value} {n k cap : Nat} {zs : List Value} (hk : k < n) (hc : n ≤ cap) (hz : zs.length = 3) (hs : cur.size = cap * 3) (hu : cur.toList.take (n * 3) = us) :
    (sets (sets cur (k * 3) (us.drop ((k + 1) * 3))) ((n - 1) * 3) zs).toList.take ((n - 1) * 3) = us.take (k * 3) ++ us.drop ((k + 1) * 3) := by
  have hul : us.length = n * 3 := by rw [← hu, List.length_take]; simp; omega
  have hget : ∀ i, i < n * 3 → us[i]? = cur[i]? := fun i hi => by rw [← hu, List.getElem?_take, if_pos hi, Array.getElem?_toList]
  apply List.ext_getElem?
  intro i
  by_cases hi : i < (n - 1) * 3
  · rw [List.getElem?_take, if_pos hi, Array.getElem?_toList, sets_get _ _ _ _ (by rw [sets_size]; omega), if_neg (by omega), sets_get _ _ _ _ (by simp; omega)]
    by_cases h1 : i < k * 3
    · rw [if_neg (by omega), List.getElem?_append_left (by rw [List.length_take]; omega), List.getElem?_take, if_pos h1, hget i (by omega)]
    · rw [if_pos (by rw [List.length_drop]; omega), List.getElem?_append_right (by rw [List.length_take]; omega), List.length_take, show min (k * 3) us.length = k * 3 by omega]
  · rw [List.getElem?_eq_none (by rw [List.length_take]; omega), List.getElem?_eq_none (by rw [List.length_append, List.length_take, List.length_drop]; omega)]

/-- The zero packet, as cells. -/
def zero3 : List Value := [.int .i64 0, .int .i64 0, .slice none 0 0]
theorem run_clear3 (w : World) (ty : TypeId) (b o c : Nat) (hc : ∀ j, j < 3 → (w.cell? ⟨b, o + j, none⟩).isSome = true) (hf : ∀ j, j < 3 → w.frozen? ⟨b, o + j, none⟩ = false) :
    (Builtin.clear_ #[28] ty #[.slice (some ⟨b, o, none⟩) 1 c]).run Try.prog w = .ok (.tuple #[]) (w.setCells b o zero3) := by
  have hzc : (Builtin.zeroCells (Value.agg #[.int .i64 0, .int .i64 0, .slice none 0 0]).cells 1).toList = zero3 := by kernel_rfl
  have hst := run_storeCells_cells (P := Try.prog) b o zero3 0 w (by simpa [zero3] using hc) (by simpa [zero3] using hf) (by simp [zero3, Value.oneCell'])
  simp only [Nat.add_zero] at hst
  simp [Builtin.clear_, run_underlying Try.underlying28, hzc, hst]

attribute [local go_sem ↓] Go.wp_at_zero Go.wp_at_succ

set_option maxRecDepth 100000 in
set_option maxHeartbeats 4000000 in
theorem delete_any (base g n k cap : Nat) (us : List Value) (w : World) (hk : k < n) (hn : n ≤ 4096) (hown : w.ownsRow base 32 3 (.slice (some ⟨g, 0, none⟩) n cap) n us) (hc : n ≤ cap) (hm : cap ≤ maxLen) (h1 : ∀ u ∈ us, u.oneCell' = true) :
    Calls Try.prog 36 #[.slice (some ⟨g, 0, none⟩) n cap, .int .i64 k, .int .i64 ((k : Int) + 1)] w fun e w' => e = .returned (.slice (some ⟨g, 0, none⟩) (n - 1) cap) ∧ w'.ownsRow base 32 3 (.slice (some ⟨g, 0, none⟩) (n - 1) cap) (n - 1) (us.take (k * 3) ++ us.drop ((k + 1) * 3)) ∧ w.grownBy w' (some g) := by
  obtain ⟨i3, hi3, hz30, hz31, hz32⟩ := info_parts Try.info32
  unfold maxLen at hm
  obtain ⟨j, hj⟩ : ∃ j, j = k + 1 := ⟨_, rfl⟩
  have hki : (k : Int) < n := by omega
  have hic : k ≤ cap := by omega
  have hjc : j ≤ cap := by omega
  have hjn : j ≤ n := by omega
  have hkj : k ≤ j := by omega
  have hcn : ¬ cap = k + (n - j) := by omega
  have hne : ((k : Int) == (j : Int)) = false := by simp; omega
  rw [show (k : Int) + 1 = (j : Int) by omega]
  obtain ⟨g', cap', cur, hv, hg, hh, _, _, hsz, htk⟩ : ∃ g' cap' cur, Value.slice (some ⟨g, 0, none⟩) n cap = .slice (some ⟨g', 0, none⟩) n cap' ∧ base ≤ g' ∧ w.heap[g']? = some (.cells cur 32 (0, 0)) ∧ n ≤ cap' ∧ cap' ≤ maxLen ∧ cur.size = cap' * 3 ∧ cur.toList.take (n * 3) = us := by
    rcases hown.2 with ⟨hv, _⟩ | h
    · cases hv
    · exact h
  obtain ⟨rfl, rfl⟩ : g = g' ∧ cap = cap' := by
    have := Value.slice.inj hv
    exact ⟨by simpa using this.1, this.2.2⟩
  have hBX : Box w g 32 cur := hh
  obtain ⟨news, hnews⟩ : ∃ news, news = us.drop (j * 3) := ⟨_, rfl⟩
  have hul : us.length = n * 3 := hown.1
  have hlen : news.length = (n - j) * 3 := by rw [hnews, List.length_drop, hul]; omega
  have hcell : ∀ i, i < n * 3 → ∃ u, us[i]? = some u ∧ w.cell? ⟨g, i, none⟩ = some u := fun i hi => ⟨us[i]'(by omega), List.getElem?_eq_getElem (by omega), by rw [hown.cellAt i (by omega), List.getElem?_eq_getElem (by omega)]⟩
  obtain ⟨A, hA, hsrc⟩ : ∃ A : Addr, (if cap = j then some (⟨g, 0, none⟩ : Addr) else some ⟨g, j * 3, none⟩) = some A ∧ Hid (∀ t u, news[t]? = some u → w.drew.cell? (A.add t) = some u) := by
    by_cases h : cap = j
    · refine ⟨⟨g, 0, none⟩, by simp [h], fun t u hu => ?_⟩
      have h0 : news.length = 0 := by rw [hlen]; omega
      rw [List.length_eq_zero_iff.1 h0] at hu
      simp at hu
    · refine ⟨⟨g, j * 3, none⟩, by simp [h], fun t u hu => ?_⟩
      rw [hnews, List.getElem?_drop] at hu
      have ht := (List.getElem?_eq_some_iff.1 hu).1
      obtain ⟨u', h1, h2⟩ := hcell (j * 3 + t) (by omega)
      rw [hu] at h1
      rw [add_plain, show w.drew.cell? ⟨g, j * 3 + t, none⟩ = w.cell? ⟨g, j * 3 + t, none⟩ from rfl, h2, h1]
  have s1 : Hid (news.length = (n - j) * 3) := hlen
  have s2 : Hid (∀ u ∈ news, u.oneCell' = true) := fun u hu => h1 u (by rw [hnews] at hu; exact List.mem_of_mem_drop hu)
  have s3 : Hid (∀ t, t < news.length → (w.drew.cell? ⟨g, 0 + k * 3 + t, none⟩).isSome = true ∧ w.drew.frozen? ⟨g, 0 + k * 3 + t, none⟩ = false) := fun t ht => by
    rw [hlen] at ht
    obtain ⟨u, _, h2⟩ := hcell (0 + k * 3 + t) (by omega)
    exact ⟨by show (w.cell? _).isSome = true; rw [h2]; rfl, hBX.frozen _⟩
  obtain ⟨W1, hW1⟩ : ∃ W1, W1 = w.drew.setCells g (0 + k * 3) news := ⟨_, rfl⟩
  have hB1 : Box W1 g 32 (sets cur (k * 3) news) := by rw [hW1, Nat.zero_add]; exact Box.setCells news _ hBX.drew
  have hg1 : w.grownBy W1 (some g) := by rw [hW1]; exact (⟨rfl, rfl, rfl, Nat.le_refl _, fun _ _ _ => rfl⟩ : w.grownBy w.drew (some g)).trans (grown_setCells _ _ _)
  have hcl : ∀ ty, (Builtin.clear_ #[28] ty #[.slice (some ⟨g, (k + (n - j)) * 3, none⟩) (n - (k + (n - j))) (cap - (k + (n - j)))]).run Try.prog W1 = .ok (.tuple #[]) (W1.setCells g ((n - 1) * 3) zero3) := fun ty => by
    rw [show k + (n - j) = n - 1 by omega, show n - (n - 1) = 1 by omega]
    refine run_clear3 W1 ty g _ _ (fun t ht => ?_) (fun t ht => hB1.frozen _)
    have : (n - 1) * 3 + t < (sets cur (k * 3) news).size := by rw [sets_size, hsz]; omega
    rw [hB1.cell _ (Array.getElem?_eq_getElem this)]
    rfl
  have HF : Hid ((W1.setCells g ((n - 1) * 3) zero3).ownsRow base 32 3 (.slice (some ⟨g, 0, none⟩) (n - 1) cap) (n - 1) (us.take (k * 3) ++ us.drop ((k + 1) * 3)) ∧ w.grownBy (W1.setCells g ((n - 1) * 3) zero3) (some g)) := by
    refine ⟨⟨?_, .inr ⟨g, cap, sets (sets cur (k * 3) news) ((n - 1) * 3) zero3, rfl, hg, Box.setCells zero3 _ hB1, by omega, by unfold maxLen; omega, by rw [sets_size, sets_size]; exact hsz, ?_⟩⟩, hg1.trans (grown_setCells _ _ _)⟩
    · rw [List.length_append, List.length_take, List.length_drop, hul]; omega
    · rw [hnews, hj]
      exact cut_row hk hc rfl hsz htk
  have HW1 : Hid (W1 = w.drew.setCells g (0 + k * 3) news) := hW1
  have HJ : Hid (k + (n - j) = n - 1) := by show _ = _; omega
  clear h1 hW1 hB1 hg1 hBX hcell hlen hul hnews hown hh hv htk hj
  go_enter Try.func36, Try.ntmps36
  go_wp2_with fail
  go_region_law (refine step_append_room rfl (.tmp 22) (.tmp 25) 28 rfl 32 i3 3 Try.underlying28 hi3 hz31 g 0 k cap (by simp [Act.eval, Act.put]) A (n - j) (cap - j) news (by simp [Act.eval, Act.put]) s1.out hsrc.out s2.out (by omega) s3.out ?_; rw [← HW1.out])
  go_wp2
  go_ret
  exact ⟨by rw [← HJ.out]; rfl, HF.out⟩

end Go.Proofs.Ytpecniajamgjiaa
