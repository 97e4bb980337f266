/-
  What lay does: octets laid over octets, as far as they meet.
-/
import Derived.Test.YtgflfmpoeamnnaaChk
import Derived.Deep.RegionLaw
namespace Go.Proofs.Ytgflfmpoeamnnaa
open Go.RowKit

/-- The octets a, which stand from p on, with the octets l, which stand from q on, laid over. -/
def layL (a : List Int) (p : Nat) (l : List Int) (q : Nat) : List Int := (List.range a.length).map fun i => if q ≤ p + i ∧ p + i < q + l.length then l.getD (p + i - q) 0 else a.getD i 0
theorem layL_length (a : List Int) (p : Nat) (l : List Int) (q : Nat) : (layL a p l q).length = a.length := by simp [layL]
theorem layL_get (a : List Int) (p : Nat) (l : List Int) (q i : Nat) (h : i < a.length) : (layL a p l q).getD i 0 = if q ≤ p + i ∧ p + i < q + l.length then l.getD (p + i - q) 0 else a.getD i 0 := range_get _ _ _ _ h
theorem layL_none {a : List Int} {p : Nat} {l : List Int} {q : Nat} (h : min (p + a.length) (q + l.length) ≤ max p q) : layL a p l q = a :=
  alike (layL_length ..) fun i hi => by
    rw [layL_length] at hi
    rw [layL_get _ _ _ _ _ hi, if_neg (by omega)]
theorem layL_some {a : List Int} {p : Nat} {l : List Int} {q F T : Nat} (hF : F = max p q) (hT : T = min (p + a.length) (q + l.length)) (h : F < T) : layL a p l q = splice a (F - p) ((l.take (T - q)).drop (F - q)) := by
  have e : ((l.take (T - q)).drop (F - q)).length = T - F := by
    rw [part_length _ _ _ (by omega)]; omega
  have hle : F - p + ((l.take (T - q)).drop (F - q)).length ≤ a.length := by rw [e]; omega
  refine alike (by rw [layL_length, splice_length _ _ _ hle]) fun i hi => ?_
  rw [layL_length] at hi
  rw [layL_get _ _ _ _ _ hi, splice_get _ _ _ _ hle, e]
  by_cases hc : F - p ≤ i ∧ i < F - p + (T - F)
  · rw [if_pos hc, if_pos (by omega)]
    simp only [List.getD_eq_getElem?_getD, List.getElem?_drop, List.getElem?_take]
    rw [if_pos (by omega), show F - q + (i - (F - p)) = p + i - q by omega]
  · rw [if_neg hc, if_neg (by omega)]
theorem getD_oct {l : List Int} (h : Oct l) (i : Nat) : (Lit.int .u8 (l.getD i 0)).wf = true := by
  by_cases hi : i < l.length
  · simp only [List.getD_eq_getElem?_getD, List.getElem?_eq_getElem hi, Option.getD_some]
    exact h _ (List.getElem_mem hi)
  · rw [List.getD_eq_getElem?_getD, List.getElem?_eq_none (Nat.le_of_not_lt hi)]; decide
theorem layL_oct {a l : List Int} (ha : Oct a) (hl : Oct l) (p q : Nat) : Oct (layL a p l q) := fun x hx => by
  obtain ⟨i, _, rfl⟩ := List.mem_map.1 hx
  split
  · exact getD_oct hl _
  · exact getD_oct ha _

theorem wrap_in {x : Int} (h1 : -9223372036854775808 ≤ x) (h2 : x ≤ 9223372036854775807) : IntKind.i64.wrap x = x := by
  simp [IntKind.wrap, IntKind.bits, IntKind.signed]; omega

set_option maxRecDepth 100000 in
set_option maxHeartbeats 4000000 in
theorem lay_any (n0 g m p q : Nat) (v : Value) (a l : List Int) (w : World) (hm : a.length = m) (hg : w.heap[g]? = some (.cells (a.map (Value.int .u8)).toArray 5 (0, 0))) (h : Arg n0 w v l) (hp : p + m ≤ 100000) (hq : q + l.length ≤ 100000) :
    Calls Try.prog 25 #[.slice (some ⟨g, 0, none⟩) m m, .int .i64 p, v, .int .i64 q] w fun e w' => e = .returned (.tuple #[]) ∧ w'.heap[g]? = some (.cells ((layL a p l q).map (Value.int .u8)).toArray 5 (0, 0)) ∧ w.grownBy w' (some g) ∧ w'.heap.size = w.heap.size := by
  obtain ⟨x, cap, rfl, hcap, hlm, _⟩ := h.shape
  have hl1 := run_len Try.underlying25 (some ⟨g, 0, none⟩) m m
  have hl2 := run_len Try.underlying25 x l.length cap
  obtain ⟨F, hF⟩ : ∃ F, F = max p q := ⟨_, rfl⟩
  obtain ⟨T, hT⟩ : ∃ T, T = min (p + m) (q + l.length) := ⟨_, rfl⟩
  have e1 : (if p < q then (q : Int) else (p : Int)) = (F : Int) := by split <;> omega
  have e2 : (if (q : Int) + (l.length : Int) < (p : Int) + (m : Int) then (q : Int) + (l.length : Int) else (p : Int) + (m : Int)) = (T : Int) := by split <;> omega
  have HFT : Hid (F = max p q ∧ T = min (p + m) (q + l.length)) := ⟨hF, hT⟩
  clear hF hT
  by_cases hlt : F < T
  case neg =>
    rw [layL_none (by have := HFT.out; omega)]
    have HG : Hid (w.heap[g]? = some (.cells (a.map (Value.int .u8)).toArray 5 (0, 0))) := hg
    clear hg h
    go_enter Try.func25, Try.ntmps25
    go_wp2
    go_end0
    exact ⟨rfl, HG.out, ⟨rfl, rfl, rfl, Nat.le_refl _, fun _ _ _ => rfl⟩, rfl⟩
  have HF := HFT.out
  obtain ⟨v', hv', hcut⟩ := h.cut (F - q) (T - q) (by omega) (by omega)
  have hfp : (Instr.slice 25 (.slice (some ⟨g, 0, none⟩) m m) (some (.int .i64 (F - p : Nat))) (some (.int .i64 (T - p : Nat))) none).run Try.prog = fun W => .ok (.slice (some ⟨g, F - p, none⟩) (T - F) (m - (F - p))) W := by
    funext W
    rw [run_slice_lh W 25 (some ⟨g, 0, none⟩) m m elem25 .i64 .i64 ((F - p : Nat) : Int) ((T - p : Nat) : Int) (by omega) (by omega) (by omega), size5]
    simp only [Result.andThen, sliced, Int.toNat_natCast]
    rw [if_neg (by omega), show T - p - (F - p) = T - F by omega]
    simp [add_plain]
  have hpart := part_length l (F - q) (T - q) (by omega)
  obtain ⟨W', hrun, hg', hgrow, hsz⟩ := run_copy_into w.drew g (F - p) (T - F) (m - (F - p)) v' _ (a.map (Value.int .u8)) 5 hg (hv'.keep (.drew _ _)) (by rw [hpart]; omega) (by rw [hpart, List.length_map]; omega)
  rw [splice_map, ← layL_some HF.1 (by rw [hm]; exact HF.2) hlt] at hg'
  have w1 : IntKind.i64.wrap ((F : Int) - (p : Int)) = ((F - p : Nat) : Int) := by rw [wrap_in (by omega) (by omega)]; omega
  have w2 : IntKind.i64.wrap ((T : Int) - (p : Int)) = ((T - p : Nat) : Int) := by rw [wrap_in (by omega) (by omega)]; omega
  have w3 : IntKind.i64.wrap ((F : Int) - (q : Int)) = ((F - q : Nat) : Int) := by rw [wrap_in (by omega) (by omega)]; omega
  have w4 : IntKind.i64.wrap ((T : Int) - (q : Int)) = ((T - q : Nat) : Int) := by rw [wrap_in (by omega) (by omega)]; omega
  have HW : Hid (W'.heap[g]? = some (.cells ((layL a p l q).map (Value.int .u8)).toArray 5 (0, 0)) ∧ w.grownBy W' (some g) ∧ W'.heap.size = w.heap.size) := ⟨hg', ⟨hgrow.os, hgrow.tape, hgrow.output, hgrow.size, hgrow.block⟩, hsz⟩
  have HWW : Hid (IntKind.i64.wrap ((F : Int) - (p : Int)) = ((F - p : Nat) : Int) ∧ IntKind.i64.wrap ((T : Int) - (p : Int)) = ((T - p : Nat) : Int) ∧ IntKind.i64.wrap ((F : Int) - (q : Int)) = ((F - q : Nat) : Int) ∧ IntKind.i64.wrap ((T : Int) - (q : Int)) = ((T - q : Nat) : Int)) := ⟨w1, w2, w3, w4⟩
  rw [hpart] at hrun
  clear hg h hv' hg' hgrow hsz HF HFT hpart w1 w2 w3 w4 hcap hlm
  go_enter Try.func25, Try.ntmps25
  go_wp2
  obtain ⟨w1, w2, w3, w4⟩ := HWW.out
  go_region_held3 (fun _ => True) (trivial) (fail)
  clear w1 w2 w3 w4
  go_end0
  exact ⟨rfl, HW.out⟩

end Go.Proofs.Ytgflfmpoeamnnaa
