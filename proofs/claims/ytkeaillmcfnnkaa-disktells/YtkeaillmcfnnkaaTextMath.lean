/-
  Plain mathematics: what stands behind writes, row by row; a text laid into sectors, octet by octet.
-/
import Derived.Test.YtkeaillmcfnnkaaGetAll
import Derived.Test.YtkeaillmcfnnkaaPutAll
namespace Go.Proofs.Ytkeaillmcfnnkaa
open Go.RowKit

theorem fill_append (init : List (List Int)) (a b : List (Nat × List Int)) : fill init (a ++ b) = fill (fill init a) b := by unfold fill; rw [List.foldl_append]

theorem fill_first (S : St) (init : List (List Int)) (h : init.length = S.secs.length) : ∀ k, k ≤ S.secs.length → fill init (first S k) = S.secs.take k ++ init.drop k
  | 0, _ => by simp [first, fill]
  | k + 1, hk => by
    have hlt : k < S.secs.length := hk
    rw [first_succ S k S.secs[k] (List.getElem?_eq_getElem hlt), fill_snoc, fill_first S init h k (by omega)]
    apply List.ext_getElem?
    intro j
    have hl1 : (S.secs.take k).length = k := by rw [List.length_take]; omega
    have hl2 : (S.secs.take (k + 1)).length = k + 1 := by rw [List.length_take]; omega
    by_cases e : k = j
    · subst e
      rw [List.getElem?_set_self (by rw [List.length_append, hl1, List.length_drop]; omega), List.getElem?_append_left (by rw [hl2]; omega), List.getElem?_take, if_pos (by omega), List.getElem?_eq_getElem hlt]
    · rw [List.getElem?_set_ne e]
      by_cases hj : j < k
      · rw [List.getElem?_append_left (by omega), List.getElem?_append_left (by omega), List.getElem?_take, List.getElem?_take, if_pos hj, if_pos (by omega)]
      · rw [List.getElem?_append_right (by omega), List.getElem?_append_right (by omega), hl1, hl2, List.getElem?_drop, List.getElem?_drop]
        congr 1
        omega

theorem fill_all (S : St) (lands : Nat → Bool) : fill (List.replicate S.secs.length zeros) (items S lands) = fill S.secs (landed S lands S.cache.length) := by
  rw [items, fill_append, fill_first S _ (by simp) _ (Nat.le_refl _)]
  simp

theorem fill_set_get (ls : List (List Int)) (ps : List (Nat × List Int)) (j : Nat) (hj : j < ls.length) (f : Nat → List Int) (sn k : Nat) (hp : ps = (List.range k).map fun (i : Nat) => (sn + i, f i)) :
    (fill ls ps)[j]? = if sn ≤ j ∧ j < sn + k then some (f (j - sn)) else ls[j]? := by
  subst hp
  induction k with
  | zero => simp [fill]; omega
  | succ k ih =>
    rw [List.range_succ, List.map_append, List.map_cons, List.map_nil, fill_snoc]
    by_cases e : sn + k = j
    · subst e
      rw [List.getElem?_set_self (by rw [fill_length]; exact hj), if_pos (by omega), show sn + k - sn = k by omega]
    · rw [List.getElem?_set_ne (show sn + k ≠ j from e), ih]
      by_cases h : sn ≤ j ∧ j < sn + k
      · rw [if_pos h, if_pos (by omega)]
      · rw [if_neg h, if_neg (by omega)]

theorem getD_left (a b : List Int) (i : Nat) (h : i < a.length) : (a ++ b).getD i 0 = a.getD i 0 := by simp [List.getD, List.getElem?_append_left h]
theorem getD_right (a b : List Int) (i : Nat) (h : a.length ≤ i) : (a ++ b).getD i 0 = b.getD (i - a.length) 0 := by simp [List.getD, List.getElem?_append_right h]

theorem flatten_get : ∀ (rows : List (List Int)), all64 rows → ∀ i, rows.flatten.getD i 0 = (rows.getD (i / 64) []).getD (i % 64) 0
  | [], _, i => by simp
  | l :: rows, h, i => by
    have hl := h l (List.mem_cons_self ..)
    rw [List.flatten_cons]
    by_cases hi : i < 64
    · rw [getD_left _ _ _ (by omega), show i / 64 = 0 by omega, show i % 64 = i by omega]; simp
    · rw [getD_right _ _ _ (by omega), hl, flatten_get rows (fun x hx => h x (List.mem_cons_of_mem _ hx)) (i - 64), show i / 64 = (i - 64) / 64 + 1 by omega, show (i - 64) % 64 = i % 64 by omega]
      simp

theorem pad_get (l : List Int) (i : Nat) : (pad l).getD i 0 = l.getD i 0 := by
  unfold pad
  by_cases h : i < l.length
  · rw [getD_left _ _ _ h]
  · rw [getD_right _ _ _ (by omega)]
    simp only [List.getD, List.getElem?_eq_none (Nat.le_of_not_lt h), Option.getD_none]
    by_cases h2 : i - l.length < 64 - l.length
    · simp [h2]
    · simp [h2]

theorem piece_get (d : List Int) (j r : Nat) (hr : r < 64) : (piece d j).getD r 0 = d.getD (64 * j + r) 0 := by
  unfold piece
  simp only [List.getD, List.getElem?_take, if_pos hr, List.getElem?_drop]

/-- A disk of n sectors of zeros behind a text put from a sector on. -/
def Tx (n sn : Nat) (d : List Int) : St := ⟨List.replicate n zeros, pieces (sn : Int) d⟩

theorem landed_all (S : St) : ∀ j, landed S (fun _ => true) j = (List.range j).map (write S)
  | 0 => rfl
  | j + 1 => by rw [landed, landed_all S j, List.range_succ, List.map_append]; rfl

theorem pieces_length (s : Int) (d : List Int) : (pieces s d).length = need d := by simp [pieces]
theorem pieces_get (s : Int) (d : List Int) (i : Nat) (h : i < need d) : (pieces s d).getD i (0, []) = (s + (i : Int), pad (piece d i)) := by
  simp [pieces, h]

theorem tx_full (n sn : Nat) (d : List Int) (j : Nat) (hj : j < n) : (full (Tx n sn d))[j]? = if sn ≤ j ∧ j < sn + need d then some (pad (piece d (j - sn))) else some zeros := by
  have e : landed (Tx n sn d) (fun _ => true) (Tx n sn d).cache.length = (List.range (need d)).map fun (i : Nat) => (sn + i, pad (piece d i)) := by
    rw [landed_all, show (Tx n sn d).cache.length = need d from pieces_length _ _]
    refine List.map_congr_left fun i hi => ?_
    have := List.mem_range.1 hi
    rw [write, show (Tx n sn d).cache = pieces (sn : Int) d from rfl, pieces_get _ _ _ this]
    simp only [Prod.mk.injEq, and_true]
    omega
  rw [full, fill_all, e, fill_set_get _ _ j (by simpa [Tx] using hj) (fun i => pad (piece d i)) sn (need d) rfl]
  split
  · rfl
  · simp [Tx, hj]

theorem tx_length (n sn : Nat) (d : List Int) : (full (Tx n sn d)).length = n := by rw [full, fill_length]; simp [Tx]

theorem tx_chk (n sn : Nat) (d : List Int) (h1 : 1 ≤ n) (h2 : n ≤ 20) (h3 : sn + need d ≤ n) : chk (Tx n sn d) = true := by
  have hp := pieces_length (sn : Int) d
  simp only [chk, Bool.and_eq_true, decide_eq_true_eq, List.all_eq_true]
  refine ⟨⟨⟨⟨by simpa [Tx] using h1, by simp [Tx]; omega⟩, by rw [show (Tx n sn d).cache = pieces (sn : Int) d from rfl, hp]; omega⟩, fun l hl => ?_⟩, fun q hq => ?_⟩
  · rw [(List.mem_replicate.1 hl).2]; rfl
  · obtain ⟨i, hi, rfl⟩ := List.mem_map.1 hq
    have hlt := List.mem_range.1 hi
    simp only [okWrite, Bool.and_eq_true, decide_eq_true_eq, beq_iff_eq]
    refine ⟨⟨by omega, ?_⟩, pad_length _ (piece_le d i)⟩
    show (sn : Int) + i < ((List.replicate n zeros).length : Int)
    rw [List.length_replicate]
    omega

theorem tx_get (n sn : Nat) (d : List Int) (h1 : 1 ≤ n) (h2 : n ≤ 20) (h3 : sn + need d ≤ n) (s k i : Nat) (hsk : s + k ≤ n) (hi : i < 64 * k) :
    (window (full (Tx n sn d)) s k).getD i 0 = if 64 * sn ≤ 64 * s + i ∧ 64 * s + i < 64 * (sn + need d) then d.getD (64 * s + i - 64 * sn) 0 else 0 := by
  have h64 : all64 (full (Tx n sn d)) := full_64 (tx_chk n sn d h1 h2 h3) _
  rw [window, flatten_get _ (all64_window h64 s k)]
  have hrow : (((full (Tx n sn d)).drop s).take k).getD (i / 64) [] = if sn ≤ s + i / 64 ∧ s + i / 64 < sn + need d then pad (piece d (s + i / 64 - sn)) else zeros := by
    simp only [List.getD, List.getElem?_take, if_pos (show i / 64 < k by omega), List.getElem?_drop]
    rw [tx_full n sn d (s + i / 64) (by omega)]
    split <;> rfl
  rw [hrow]
  by_cases h : sn ≤ s + i / 64 ∧ s + i / 64 < sn + need d
  · rw [if_pos h, if_pos (by omega), pad_get, piece_get d _ _ (by omega)]
    congr 1
    omega
  · rw [if_neg h, if_neg (by omega)]
    simp only [zeros, List.getD, List.getElem?_replicate]
    split <;> rfl

def OctS (S : St) : Prop := (∀ l ∈ S.secs, Oct l) ∧ ∀ q ∈ S.cache, Oct q.2

theorem items_mem (S : St) (lands : Nat → Bool) : ∀ p ∈ items S lands, p.2 ∈ S.secs ∨ ∃ q ∈ S.cache, p.2 = q.2 := by
  intro p hp
  rcases List.mem_append.1 hp with h | h
  · obtain ⟨i, hi, rfl⟩ := List.mem_map.1 h
    have hlt := List.mem_range.1 hi
    left
    simp only [List.getD, List.getElem?_eq_getElem hlt, Option.getD_some]
    exact List.getElem_mem hlt
  · right
    have aux : ∀ j, j ≤ S.cache.length → ∀ p ∈ landed S lands j, ∃ q ∈ S.cache, p.2 = q.2 := by
      intro j
      induction j with
      | zero => intro _ p hp; simp [landed] at hp
      | succ j ih =>
        intro hj p hp
        rcases List.mem_append.1 hp with h | h
        · exact ih (by omega) p h
        · split at h
          · obtain rfl : p = write S j := by simpa using h
            have hlt : j < S.cache.length := hj
            refine ⟨_, List.getElem_mem hlt, ?_⟩
            simp only [write, List.getD, List.getElem?_eq_getElem hlt, Option.getD_some]
          · simp at h
    exact aux _ (Nat.le_refl _) p h

theorem oct_fill : ∀ (ps : List (Nat × List Int)) (init : List (List Int)), (∀ l ∈ init, Oct l) → (∀ p ∈ ps, Oct p.2) → ∀ l ∈ fill init ps, Oct l
  | [], _, h, _ => h
  | p :: ps, init, h, hp => by
    refine oct_fill ps (init.set p.1 p.2) (fun l hl => ?_) (fun q hq => hp q (List.mem_cons_of_mem _ hq))
    rcases List.mem_or_eq_of_mem_set hl with h1 | h1
    · exact h l h1
    · rw [h1]; exact hp p (List.mem_cons_self ..)

theorem oct_stand {S : St} (h : OctS S) (lands : Nat → Bool) : ∀ l ∈ fill (List.replicate S.secs.length zeros) (items S lands), Oct l := by
  refine oct_fill _ _ (fun l hl => by rw [(List.mem_replicate.1 hl).2]; exact zeros_oct) (fun p hp => ?_)
  rcases items_mem S lands p hp with h1 | ⟨q, hq, e⟩
  · exact h.1 _ h1
  · rw [e]; exact h.2 q hq

theorem oct_window {rows : List (List Int)} (h : ∀ l ∈ rows, Oct l) (s k : Nat) : Oct (window rows s k) := fun x hx => by
  obtain ⟨l, hl, hxl⟩ := List.mem_flatten.1 hx
  exact h l (List.mem_of_mem_drop (List.mem_of_mem_take hl)) x hxl

theorem Lists.oct {n0 : Nat} {w : World} {v : Value} {ls : List (List Int)} (h : Lists n0 w v ls) : ∀ l ∈ ls, Oct l := fun l hl => by
  obtain ⟨i, hi, rfl⟩ := List.mem_iff_getElem.1 hl
  obtain ⟨us, _, h2⟩ := h
  obtain ⟨_, _, ha⟩ := h2.get (List.getElem?_eq_getElem hi)
  exact ha.2
theorem Writes.oct {n0 : Nat} {w : World} {v : Value} {ws : List (Int × List Int)} (h : Writes n0 w v ws) : ∀ q ∈ ws, Oct q.2 := fun q hq => by
  obtain ⟨i, hi, rfl⟩ := List.mem_iff_getElem.1 hq
  obtain ⟨us, _, h2⟩ := h
  obtain ⟨_, _, ha⟩ := h2.get (List.getElem?_eq_getElem hi)
  exact ha.2.1.2
theorem Disk.oct {n0 : Nat} {w : World} {v : Value} {S : St} (h : Disk n0 w v S) : OctS S := by
  obtain ⟨vs, vc, _, h2, h3⟩ := h
  exact ⟨h2.oct, h3.oct⟩

end Go.Proofs.Ytkeaillmcfnnkaa
