/-
  Which writes land where only the first ones may; a row in which one slice is put; truths in a row.
-/
import Derived.Test.YtkeaillmcfnnkaaCrash
import Derived.Test.YtkeaillmcfnnkaaTextMath
namespace Go.Proofs.Ytkeaillmcfnnkaa
open Go.RowKit

theorem Try.info4 : (Try.prog.info? 4).map (fun i => (i.zero, i.size, i.bytes)) = some (some (.bool false), 1, 1) := by kernel_rfl

theorem landed_congr (S : St) {f g : Nat → Bool} : ∀ j, (∀ i, i < j → f i = g i) → landed S f j = landed S g j
  | 0, _ => rfl
  | j + 1, h => by rw [landed, landed, landed_congr S j fun i hi => h i (by omega), h j (by omega)]
theorem landed_past (S : St) (bl : List Bool) (k : Nat) : ∀ d, bl.length ≤ k → landed S (kept bl) (k + d) = landed S (kept bl) k
  | 0, _ => rfl
  | d + 1, h => by
    rw [← Nat.add_assoc, landed, landed_past S bl k d h, if_neg]
    · simp
    · unfold kept
      simp [List.getD, List.getElem?_eq_none (show bl.length ≤ k + d by omega)]
theorem stand_congr {S : St} {f g : Nat → Bool} (h : ∀ i, i < S.cache.length → f i = g i) : stand S f = stand S g := by
  unfold stand
  rw [fill_all, fill_all, landed_congr S _ h]

theorem kept_get {bl : List Bool} {k : Nat} {b : Bool} (h : bl[k]? = some b) : kept bl k = b := by simp [kept, List.getD, h]

theorem bools_at {n0 : Nat} {w : World} {v : Value} {bl : List Bool} (h : Bools n0 w v bl) (i : Nat) (b : Bool) (hb : bl[i]? = some b) :
    ∃ g o, (∀ W, (Instr.indexAt 27 v (.int .i64 i)).run Try.prog W = .ok (.pointer (some ⟨g, o, none⟩)) W) ∧ w.cell? ⟨g, o, none⟩ = some (.bool b) := by
  obtain ⟨i0, hi0, _, hz, _⟩ := info_parts Try.info4
  have hi : i < bl.length := (List.getElem?_eq_some_iff.1 hb).1
  obtain ⟨g, o, cap, rfl, _, _, _, hc⟩ := Cells.place h (by omega) i hi
  refine ⟨g, o + i, fun W => ?_, ?_⟩
  · have := run_index Try.underlying27 hi0 hz g o bl.length cap i hi W
    rwa [Nat.mul_one] at this
  · have := hc 0 (.bool b) (by simp [hb])
    simpa using this

/-- One slice put into a row of slices. -/
theorem OwnLists.put {base : Nat} {w : World} {g n cap k : Nat} {ls : List (List Int)} {u : Value} {l : List Int} (hn : n = ls.length) (h : OwnLists base w (.slice (some ⟨g, 0, none⟩) n cap) ls) (hu : Own1 base w u l) :
    OwnLists base (w.setCell ⟨g, k, none⟩ u) (.slice (some ⟨g, 0, none⟩) n cap) (ls.set k l) ∧ w.grownBy (w.setCell ⟨g, k, none⟩ u) (some g) := by
  obtain ⟨us, h1, h2⟩ := h
  subst hn
  have hs := h1.stored k u
  refine ⟨⟨us.set k u, by rw [List.length_set]; exact hs.1, ?_⟩, hs.2⟩
  have keep : ∀ a b, Own1 base w a b → Own1 base (w.setCell ⟨g, k, none⟩ u) a b := fun a b ho => ⟨ho.1.kept hs.2 (own_apart ho.1 h1 (by decide)), ho.2⟩
  exact (h2.mono keep).set k (keep u l hu)
theorem OwnLists.at {base : Nat} {w : World} {v : Value} {ls : List (List Int)} (h : OwnLists base w v ls) (k : Nat) (hk : k < ls.length) :
    ∃ g cap, v = .slice (some ⟨g, 0, none⟩) ls.length cap ∧ base ≤ g ∧ g < w.heap.size ∧ (∀ W, (Instr.indexAt 22 v (.int .i64 k)).run Try.prog W = .ok (.pointer (some ⟨g, k, none⟩)) W) ∧ (∃ x, w.cell? ⟨g, k, none⟩ = some x) ∧ w.frozen? ⟨g, k, none⟩ = false ∧ (Value.slice (some ⟨g, 0, none⟩) ls.length cap).ownBlock = some g := by
  obtain ⟨us, h1, h2⟩ := h
  obtain ⟨i0, hi0, _, hz, _⟩ := info_parts Try.info26
  obtain ⟨g, cap, rfl, _⟩ := h1.form (by omega)
  have hlt := h1.lt g rfl
  refine ⟨g, cap, rfl, hlt.1, hlt.2, fun W => ?_, ?_, h1.frozenAt k, rfl⟩
  · have := run_index Try.underlying22 hi0 hz g 0 ls.length cap k hk W
    rwa [Nat.mul_one, Nat.zero_add] at this
  · have hl : k < us.length := by rw [h2.length]; exact hk
    exact ⟨us[k], by rw [h1.cellAt k (by omega)]; simp [hl]⟩
theorem OwnWrites.beside {base : Nat} {w w' : World} {v vs : Value} {n : Nat} {us : List Value} {ws : List (Int × List Int)} (h : OwnWrites base w 60 v ws) (ho : w.ownsRow base 26 1 vs n us) (hg : w.grownBy w' vs.ownBlock) : OwnWrites base w' 60 v ws := by
  obtain ⟨ps, h1, h2⟩ := h
  exact ⟨ps, h1.kept hg (own_apart h1 ho (by decide)), h2.mono fun a b h => ⟨h.1, ⟨h.2.1.1.kept hg (own_apart h.2.1.1 ho (by decide)), h.2.1.2⟩, h.2.2⟩⟩

end Go.Proofs.Ytkeaillmcfnnkaa
