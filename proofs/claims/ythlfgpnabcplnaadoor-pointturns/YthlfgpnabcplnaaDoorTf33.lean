/-
  Plain mathematics and words of memory for DiskHolds: a disk of zeros behind writes; the list of what was put last.
-/
import Derived.Test.YthlfgpnabcplnaaDoorTf29
import Derived.Test.YthlfgpnabcplnaaDoorTf31
import Derived.Test.YthlfgpnabcplnaaDoorTf7
namespace Go.Proofs.YthlfgpnabcplnaaDoor.Dk
open Go.RowKit
set_option maxRecDepth 100000

def SH (N : Nat) (ws : List (Int × List Int)) : St := ⟨List.replicate N zeros, ws⟩
def FineW (N : Nat) (ws : List (Int × List Int)) : Prop := ∀ q ∈ ws, (0 ≤ q.1 ∧ q.1 < (N : Int)) ∧ q.2.length = 64

theorem sh_chk {N : Nat} {ws : List (Int × List Int)} (h1 : 1 ≤ N) (h2 : N ≤ 20) (h : FineW N ws) (hl : ws.length ≤ 4096) : chk (SH N ws) = true := by
  simp only [chk, Bool.and_eq_true, decide_eq_true_eq, List.all_eq_true]
  refine ⟨⟨⟨⟨by simpa [SH] using h1, by simp [SH]; omega⟩, hl⟩, fun l hl => ?_⟩, fun q hq => ?_⟩
  · rw [(List.mem_replicate.1 hl).2]; rfl
  · obtain ⟨⟨a, b⟩, c⟩ := h q hq
    simp only [okWrite, Bool.and_eq_true, decide_eq_true_eq, beq_iff_eq]
    refine ⟨⟨a, ?_⟩, c⟩
    show q.1 < ((List.replicate N zeros).length : Int)
    rw [List.length_replicate]; exact b

theorem sh_put {N : Nat} {ws : List (Int × List Int)} (h1 : 1 ≤ N) (h2 : N ≤ 20) (h : FineW N ws) (hl : ws.length ≤ 60) (k : Nat) (hk : k < N) (b : List Int) (hb : b.length ≤ 64) :
    perr (SH N ws) (k : Int) b = 0 ∧ pst (SH N ws) (k : Int) b = SH N (ws ++ [((k : Int), pad b)]) ∧ FineW N (ws ++ [((k : Int), pad b)]) := by
  have hc := sh_chk h1 h2 h (by omega)
  have e : perr (SH N ws) (k : Int) b = 0 := by
    rw [perr, if_neg (by rw [hc]; simp), if_neg, if_neg (by omega), if_neg]
    · show ¬ ws.length = 4096; omega
    · rw [show (SH N ws).secs.length = N by simp [SH]]
      simp [reach]; omega
  refine ⟨e, by rw [pst, if_pos e]; rfl, fun q hq => ?_⟩
  rcases List.mem_append.1 hq with h' | h'
  · exact h q h'
  · obtain rfl : q = ((k : Int), pad b) := by simpa using h'
    exact ⟨⟨by simp, by simp; omega⟩, pad_length b hb⟩

theorem lw_cases (k : Nat) : ∀ ws : List (Int × List Int), (∀ q ∈ ws, q.2.length = 64) → (∀ d, lw ws k d = d) ∨ ∃ l, l.length = 64 ∧ ∀ d, lw ws k d = l
  | [], _ => .inl fun _ => rfl
  | q :: ws, h => by
    rcases lw_cases k ws (fun x hx => h x (List.mem_cons_of_mem _ hx)) with ih | ⟨l, hl, ih⟩
    · by_cases e : q.1 = (k : Int)
      · refine .inr ⟨q.2, h q (List.mem_cons_self ..), fun d => ?_⟩
        show lw ws k (if q.1 = (k : Int) then q.2 else d) = q.2
        rw [if_pos e, ih]
      · refine .inl fun d => ?_
        show lw ws k (if q.1 = (k : Int) then q.2 else d) = d
        rw [if_neg e, ih]
    · exact .inr ⟨l, hl, fun d => ih _⟩

/-- What is got of each sector, flushed or not. -/
theorem sh_get {N : Nat} {ws : List (Int × List Int)} (h1 : 1 ≤ N) (h2 : N ≤ 20) (h : FineW N ws) (hl : ws.length ≤ 4096) (k : Nat) (hk : k < N) : gerr (SH N ws) (k : Int) 1 = 0 ∧ gout (SH N ws) (k : Int) 1 = lw ws k zeros := by
  have hc := sh_chk h1 h2 h hl
  have e : gerr (SH N ws) (k : Int) 1 = 0 := by
    rw [gerr, if_neg (by rw [hc]; simp), if_neg]
    rw [show (SH N ws).secs.length = N by simp [SH]]
    simp [reach]; omega
  refine ⟨e, ?_⟩
  have hr := full_row (SH N ws) hc k (by simpa [SH] using hk)
  rw [gout, if_pos e, Int.toNat_natCast, show (1 : Int).toNat = 1 from rfl, window_one _ _ _ hr]
  show lw ws k ((List.replicate N zeros).getD k []) = _
  simp [List.getD, hk]

theorem stand_rows {N : Nat} {ws : List (Int × List Int)} (h1 : 1 ≤ N) (h2 : N ≤ 20) (h : FineW N ws) (hl : ws.length ≤ 4096) :
    cerr (SH N ws) = 0 ∧ stand (SH N ws) (fun _ => true) = ⟨full (SH N ws), []⟩ ∧ chk ⟨full (SH N ws), []⟩ = true ∧ (full (SH N ws)).length = N := by
  have hc := sh_chk h1 h2 h hl
  have hlen : (full (SH N ws)).length = N := by rw [full, fill_length]; simp [SH]
  refine ⟨by simp [cerr, hc], stand_good hc, ?_, hlen⟩
  have h64 : all64 (full (SH N ws)) := full_64 hc _
  simp only [chk, Bool.and_eq_true, decide_eq_true_eq, List.all_eq_true]
  exact ⟨⟨⟨⟨by rw [hlen]; exact h1, by rw [hlen]; omega⟩, by simp⟩, fun l hl => by simpa [okSec] using h64 l hl⟩, fun q hq => by simp at hq⟩

theorem stand_again {T : List (List Int)} (hc : chk ⟨T, []⟩ = true) (lands : Nat → Bool) : cerr ⟨T, []⟩ = 0 ∧ stand ⟨T, []⟩ lands = ⟨T, []⟩ := by
  refine ⟨by simp [cerr, hc], ?_⟩
  rw [stand_good hc, fill_all]
  rfl

theorem get_again {T : List (List Int)} (hc : chk ⟨T, []⟩ = true) (k : Nat) (l : List Int) (hk : T[k]? = some l) : gerr ⟨T, []⟩ (k : Int) 1 = 0 ∧ gout ⟨T, []⟩ (k : Int) 1 = l := by
  have hlt := (List.getElem?_eq_some_iff.1 hk).1
  have e : gerr ⟨T, []⟩ (k : Int) 1 = 0 := by
    rw [gerr, if_neg (by rw [hc]; simp), if_neg]
    show ¬ reach T.length (k : Int) 1 = false
    simp [reach]; omega
  refine ⟨e, ?_⟩
  have hr := full_row ⟨T, []⟩ hc k hlt
  rw [gout, if_pos e, Int.toNat_natCast, show (1 : Int).toNat = 1 from rfl, window_one _ _ _ hr]
  show lw [] k (T.getD k []) = l
  simp [lw, List.getD, hk]

/-- A disk that two blocks are no part of. -/
def Off (B L : Nat) (w : World) (v : Value) (S : St) : Prop := ∃ n1 wd, Disk n1 wd v S ∧ (∀ k, n1 ≤ k → k < wd.heap.size → w.heap[k]? = wd.heap[k]?) ∧ (B < n1 ∨ wd.heap.size ≤ B) ∧ (L < n1 ∨ wd.heap.size ≤ L) ∧ wd.heap.size ≤ w.heap.size
theorem Off.disk {B L : Nat} {w : World} {v : Value} {S : St} (h : Off B L w v S) : Disk 0 w v S := by
  obtain ⟨n1, wd, h1, h2, _⟩ := h
  exact (h1.keep h2).weaken (Nat.zero_le _)
theorem Off.below {B L : Nat} {w w' : World} {v : Value} {S : St} (h : Off B L w v S) (hb : Below w.heap.size w w') : Off B L w' v S := by
  obtain ⟨n1, wd, h1, h2, h3, h4, h5⟩ := h
  exact ⟨n1, wd, h1, fun k hk hl => (hb.block k (by omega)).trans (h2 k hk hl), h3, h4, Nat.le_trans h5 hb.size⟩
theorem Off.set {B L X i : Nat} {w : World} {v x : Value} {S : St} (h : Off B L w v S) (hX : X = B ∨ X = L) : Off B L (w.setCell ⟨X, i, none⟩ x) v S := by
  obtain ⟨n1, wd, h1, h2, h3, h4, h5⟩ := h
  refine ⟨n1, wd, h1, fun k hk hl => (Below.heap_setCell _ _ _ _ ?_).trans (h2 k hk hl), h3, h4, by simpa [World.setCell] using h5⟩
  show k ≠ X
  rcases hX with rfl | rfl <;> omega
theorem Off.new {B L n1 : Nat} {w : World} {v : Value} {S : St} (h : Disk n1 w v S) (hB : B < n1) (hL : L < n1) : Off B L w v S := ⟨n1, w, h, fun _ _ _ => rfl, .inl hB, .inl hL, Nat.le_refl _⟩

/-- The list of what was put last: its slices lie in block L. -/
def Last (L : Nat) (w : World) (N : Nat) (ws : List (Int × List Int)) : Prop := ∃ cur : List Value, w.heap[L]? = some (.cells cur.toArray 22 (0, 0)) ∧ cur.length = N ∧ ∀ k, k < N → ∃ u, cur[k]? = some u ∧ Own1 0 w u (lw ws k [])
theorem Last.below {L : Nat} {w w' : World} {N : Nat} {ws : List (Int × List Int)} (h : Last L w N ws) (hb : Below w.heap.size w w') : Last L w' N ws := by
  obtain ⟨cur, h1, h2, h3⟩ := h
  refine ⟨cur, by rw [hb.block L (Array.getElem?_eq_some_iff.1 h1).1]; exact h1, h2, fun k hk => ?_⟩
  obtain ⟨u, hu, ho⟩ := h3 k hk
  exact ⟨u, hu, ho.same (.of_below hb)⟩
theorem Last.boxed {L B i : Nat} {w : World} {N : Nat} {ws : List (Int × List Int)} {u v x : Value} (h : Last L w N ws) (hB : Box w B 40 u v) : Last L (w.setCell ⟨B, i, none⟩ x) N ws := by
  obtain ⟨cur, h1, h2, h3⟩ := h
  refine ⟨cur, ?_, h2, fun k hk => ?_⟩
  · rw [Below.heap_setCell _ _ _ _ (fun e => by
      have e' : L = B := e
      subst e'
      rw [show w.heap[L]? = _ from hB] at h1
      simp at h1)]
    exact h1
  · obtain ⟨u', hu, ho⟩ := h3 k hk
    exact ⟨u', hu, ho.1.kept (grown_set w B i x) (box_apart ho.1 hB (by decide)), ho.2⟩

theorem Last.put {L : Nat} {w : World} {N k : Nat} {ws : List (Int × List Int)} {v' : Value} {b : List Int} (h : Last L w N ws) (hk : k < N) (hv : Own1 0 w v' b) : Last L (w.setCell ⟨L, k, none⟩ v') N (ws ++ [((k : Int), b)]) := by
  obtain ⟨cur, h1, h2, h3⟩ := h
  have hs := setCell_eq_setRow w L k cur.toArray 22 (0, 0) v' h1
  have keep : ∀ u l, Own1 0 w u l → Own1 0 (w.setCell ⟨L, k, none⟩ v') u l := fun u l ho => by
    refine ⟨ho.1.kept (grown_set w L k v') ?_, ho.2⟩
    rcases ho.1.2 with ⟨rfl, _⟩ | ⟨g, cp, cr, rfl, _, hg, _⟩
    · exact .inl rfl
    · refine .inr fun e => ?_
      have : g = L := by simpa [Value.ownBlock] using e
      subst this
      rw [h1] at hg
      simp at hg
  refine ⟨cur.set k v', ?_, by rw [List.length_set]; exact h2, fun j hj => ?_⟩
  · rw [hs, setRow_heap w L _ _ 22 _ h1]
    simp
  · rw [lw_snoc]
    by_cases e : (k : Int) = (j : Int)
    · obtain rfl : k = j := by omega
      refine ⟨v', List.getElem?_set_self (by omega), ?_⟩
      simp only [if_true]
      exact keep _ _ hv
    · obtain ⟨u, hu, ho⟩ := h3 j hj
      refine ⟨u, by rw [List.getElem?_set_ne (by omega)]; exact hu, ?_⟩
      simp only [if_neg e]
      exact keep _ _ ho

end Go.Proofs.YthlfgpnabcplnaaDoor.Dk
