/-
  What a bound on the bulk of what is read says of octets: there are no more of them.
-/
import Derived.Test.YthppbmbhoedphaaOcts
namespace Go.Proofs.Ythppbmbhoedphaa
open Go.ChangeShapes Go.WideShapes Go.ChangeAt Go.RowKit Go.Deep

theorem bulk_one {H : Type} (d : DataW H) : 1 ≤ Rows.uptoBulk d := by
  cases d with
  | lit l => cases l <;> simp [Rows.uptoBulk]
  | nil => simp [Rows.uptoBulk]
  | ptr d => simp [Rows.uptoBulk]
  | slice elems spare => simp [Rows.uptoBulk]
  | agg parts => simp [Rows.uptoBulk]
  | iface t d => simp [Rows.uptoBulk]
  | map entries => simp [Rows.uptoBulk]
  | held h => simp [Rows.uptoBulk]
theorem bulk_length {H : Type} (l : List (DataW H)) : l.length ≤ Rows.uptoBulkAll l := by
  induction l with
  | nil => simp
  | cons x r ih =>
    have := bulk_one x
    simp only [Rows.uptoBulkAll, List.length_cons]
    omega

theorem bulk_len {H : Type} {enc : TypeId × Value → H} {W : World} {fuel : Nat} {x : Option Addr} {len cap : Nat} {y : DataW H × List MemPlace}
    (hf : DataW.trod enc Try.prog W 0 (fun _ => true) true fuel 47 [.slice x len cap] = some y) : len ≤ Rows.uptoBulk y.1 := by
  rcases open_slice1 Try.underlying47 u8L.cells hf with ⟨h1, h2⟩ | ⟨a, len', cap', m, n, V, D, Pl, hcs, _, _, _, _, hx, _⟩
  · have h3 : Value.slice x len cap = .slice none 0 0 := by simpa using h1
    obtain ⟨_, rfl, _⟩ := Value.slice.inj h3
    exact Nat.zero_le _
  · have h3 : Value.slice x len cap = .slice (some a) len' cap' := by simpa using hcs
    obtain ⟨_, rfl, _⟩ := Value.slice.inj h3
    rw [hx]
    have h1 := bulk_length ((List.range len).map D)
    simp only [List.length_map, List.length_range] at h1
    simp only [Rows.uptoBulk]
    omega

theorem bulk_ens {H : Type} {enc : TypeId × Value → H} {W : World} {fuel : Nat} {x : Option Addr} {len cap : Nat} {y : DataW H × List MemPlace}
    (hf : DataW.trod enc Try.prog W 0 (fun _ => true) true fuel 22 [.slice x len cap] = some y) : len ≤ Rows.uptoBulk y.1 := by
  rcases open_slice Try.underlying22 hf with ⟨h1, h2⟩ | ⟨a, len', cap', m, n, D, Pl, hcs, _, _, _, _, hx, _⟩
  · have h3 : Value.slice x len cap = .slice none 0 0 := by simpa using h1
    obtain ⟨_, rfl, _⟩ := Value.slice.inj h3
    exact Nat.zero_le _
  · have h3 : Value.slice x len cap = .slice (some a) len' cap' := by simpa using hcs
    obtain ⟨_, rfl, _⟩ := Value.slice.inj h3
    rw [hx]
    have h1 := bulk_length ((List.range len).map D)
    simp only [List.length_map, List.length_range] at h1
    simp only [Rows.uptoBulk]
    omega

theorem bulk_bound {H : Type} {d0 d1 : DataW H} (h : Rows.uptoSmall H ([d0, d1] ++ []) = true) : Rows.uptoBulk d0 ≤ 1048576 ∧ Rows.uptoBulk d1 ≤ 1048576 := by
  simp only [Rows.uptoSmall, decide_eq_true_eq, List.append_nil, Rows.uptoBulkAll] at h
  omega

theorem ens_len {n0 : Nat} {w : World} {x : Option Addr} {len cap : Nat} {l : List En} (h : ArgE n0 w (.slice x len cap) l) : l.length = len := by
  obtain ⟨a, c, hv, _⟩ := h.shape
  obtain ⟨_, h1, _⟩ := Value.slice.inj hv
  exact h1.symm
theorem arg_len {n0 : Nat} {w : World} {x : Option Addr} {len cap : Nat} {l : List Int} (h : Arg n0 w (.slice x len cap) l) : l.length = len := by
  obtain ⟨a, c, hv, _⟩ := h.shape
  obtain ⟨_, h1, _⟩ := Value.slice.inj hv
  exact h1.symm

end Go.Proofs.Ythppbmbhoedphaa
