/-
  What steps make of a table, beside what is live and used of it; rows of numbers and truths.
-/
import Derived.Test.YtgfdggilplkmfaaROps
import Derived.Test.YtgfdggilplkmfaaAlive
namespace Go.Proofs.Ytgfdggilplkmfaa
open Go.ChangeShapes Go.WideShapes Go.ChangeAt Go.RowKit

theorem wrap64_in' (x : Int) (h : -9223372036854775808 ≤ x ∧ x ≤ 9223372036854775807) : wrap64 x = x := by
  unfold wrap64
  omega
theorem tmod_bounds (x : Int) (m : Nat) (hm : 0 < m) : -(m : Int) < x.tmod m ∧ x.tmod m < m := by
  constructor
  · have := Int.lt_tmod_of_pos x (show (0 : Int) < m by omega)
    omega
  · exact Int.tmod_lt_of_pos x (by omega)
theorem mod_pos (x : Int) (m : Nat) (hm : 0 < m) (hb : m ≤ 60) : ∃ r : Nat, r < m ∧ (wrap64 (x.tmod m + m)).tmod m = (r : Int) := by
  obtain ⟨h1, h2⟩ := tmod_bounds x m hm
  have e : wrap64 (x.tmod m + m) = x.tmod m + m := wrap64_in' _ (by omega)
  rw [e, Int.tmod_eq_emod_of_nonneg (by omega)]
  have h3 := Int.emod_nonneg (x.tmod m + m) (show (m : Int) ≠ 0 by omega)
  have h4 := Int.emod_lt_of_pos (x.tmod m + m) (show (0 : Int) < m by omega)
  exact ⟨((x.tmod m + m) % m).toNat, by omega, by omega⟩
theorem mod12 (x : Int) : ∃ N : Nat, 1 ≤ N ∧ N ≤ 12 ∧ wrap64 (1 + (wrap64 (x.tmod 12 + 12)).tmod 12) = (N : Int) := by
  obtain ⟨r, h1, h2⟩ := mod_pos x 12 (by omega) (by omega)
  have h3 : (wrap64 (x.tmod 12 + 12)).tmod 12 = (r : Int) := h2
  refine ⟨r + 1, by omega, by omega, ?_⟩
  rw [h3]
  have := wrap64_in' (1 + (r : Int)) (by omega)
  omega
theorem mod3 (x : Int) : ∃ r : Nat, r < 3 ∧ (wrap64 (x.tmod 3 + 3)).tmod 3 = (r : Int) := mod_pos x 3 (by omega) (by omega)
theorem mod9 (x : Int) : ∃ r : Nat, r < 9 ∧ (wrap64 (x.tmod 9 + 9)).tmod 9 = (r : Int) := mod_pos x 9 (by omega) (by omega)

/-! Steps. -/

theorem info52 : (Try.prog.info? 52).map (fun i => (i.zero, i.size, i.bytes)) = some (some (.agg #[.int .i64 0, .int .i64 0, .int .i64 0]), 3, 24) := by kernel_rfl
theorem cells48 : Try.prog.cellsOf 48 = 1 := by kernel_rfl
abbrev Sp := Int × Int × Int
def stepS : Shape Sp := (i64S.and (i64S.and i64S.only)).struct 52 ⟨_, Try.underlying52, rfl, rfl⟩ (by kernel_rfl)
def stepsS : Shape (List Sp) := stepS.list 48 Try.underlying48 cells48
theorem steps_at {n : Nat} {w : World} {v : Value} {l : List Sp} (h : stepsS.lies n w [v] l) (i : Nat) (p : Sp) (hp : l[i]? = some p) :
    ∃ b o, (∀ W, (Instr.indexAt 48 v (.int .i64 i)).run Try.prog W = .ok (.pointer (some ⟨b, o, none⟩)) W) ∧ w.cell? ⟨b, o, none⟩ = some (.int .i64 p.1) ∧ w.cell? ⟨b, o + 1, none⟩ = some (.int .i64 p.2.1) ∧ w.cell? ⟨b, o + 2, none⟩ = some (.int .i64 p.2.2) := by
  obtain ⟨i0, hi0, _, hz, _⟩ := info_parts info52
  obtain ⟨b, o, us, hix, _, hc, hl⟩ := Shape.list_at (S := stepS) (ht := Try.underlying48) (hc := cells48) h (by decide) hi0 hz i p hp
  obtain ⟨u1, u2, rfl, ⟨rfl, _⟩, u3, u4, rfl, ⟨rfl, _⟩, rfl, _⟩ := hl
  exact ⟨b, o, hix, hc 0 _ rfl, hc 1 _ rfl, hc 2 _ rfl⟩

/-! Changing one slot. -/

theorem cnt_set {t : List Sl} {i : Nat} {p p' : Sl} (h : t[i]? = some p) (k : Int) : cnt (t.set i p') k + (if p.1 = k then 1 else 0) = cnt t k + (if p'.1 = k then 1 else 0) := by
  induction t generalizing i with
  | nil => simp at h
  | cons a r ih =>
    cases i with
    | zero =>
      obtain rfl : a = p := by simpa using h
      rw [List.set_cons_zero, cnt_cons, cnt_cons]
      omega
    | succ i =>
      rw [List.set_cons_succ, cnt_cons, cnt_cons]
      have := ih (i := i) (by simpa using h)
      omega
theorem Chk.set {t : List Sl} (h : Chk t) {i : Nat} {p p' : Sl} (hp : t[i]? = some p) (hm : mayB p' = true) (hk : p'.1 = 0 ∨ p'.1 = p.1 ∨ cnt t p'.1 = 0) : Chk (t.set i p') := by
  refine ⟨by rw [List.length_set]; exact h.1, by rw [List.length_set]; exact h.2.1, fun q hq => good_iff.2 ?_⟩
  have hc := cnt_set (p' := p') hp q.1
  rcases List.mem_or_eq_of_mem_set hq with hq | rfl
  · obtain ⟨h1, h2⟩ := good_iff.1 (h.2.2 q hq)
    refine ⟨h1, fun h0 => ?_⟩
    have h3 := h2 h0
    by_cases e : p'.1 = q.1
    · rw [if_pos e] at hc
      rcases hk with hk | hk | hk
      · exact absurd (e.symm.trans hk) h0
      · rw [if_pos (hk.symm.trans e)] at hc
        omega
      · rw [e] at hk
        omega
    · rw [if_neg e] at hc
      omega
  · refine ⟨hm, fun h0 => ?_⟩
    rw [if_pos rfl] at hc
    rcases hk with hk | hk | hk
    · exact absurd hk h0
    · rw [if_pos hk.symm] at hc
      have := (good_iff.1 (h.2.2 p (List.mem_of_getElem? hp))).2 (by rw [← hk]; exact h0)
      rw [← hk] at this
      omega
    · omega

/-- What is live, and what is used, of each slot. -/
def lvs (t : List Sl) : List Value := t.map fun p => .int .i64 p.2
def uss (t : List Sl) : List Value := t.map fun p => .bool (!decide (p.1 = 0))
theorem lvs_set (t : List Sl) (i : Nat) (p : Sl) : lvs (t.set i p) = (lvs t).set i (.int .i64 p.2) := by simp [lvs, List.map_set]
theorem uss_set (t : List Sl) (i : Nat) (p : Sl) : uss (t.set i p) = (uss t).set i (.bool (!decide (p.1 = 0))) := by simp [uss, List.map_set]
theorem lvs_at {t : List Sl} {i : Nat} {p : Sl} (h : t[i]? = some p) : (lvs t)[i]? = some (.int .i64 p.2) := by simp [lvs, h]
theorem uss_at {t : List Sl} {i : Nat} {p : Sl} (h : t[i]? = some p) : (uss t)[i]? = some (.bool (!decide (p.1 = 0))) := by simp [uss, h]

/-- The table, and beside it what is live and used. -/
def Inv (w : World) (k n : Nat) (g1 g2 : Nat) (tv : Value) (t : List Sl) (wr : World) : Prop :=
  OwnE 57 w.heap.size wr tv t ∧ wr.ownsRow w.heap.size 3 1 (.slice (some ⟨g1, 0, none⟩) n n) n (lvs t) ∧ wr.ownsRow w.heap.size 4 1 (.slice (some ⟨g2, 0, none⟩) n n) n (uss t) ∧ Below w.heap.size w wr ∧ t.length = n ∧ Chk t ∧ ∀ p ∈ t, p.1 ≤ (k : Int)
theorem Inv.below {w : World} {k n g1 g2 : Nat} {tv : Value} {t : List Sl} {wr w' : World} (h : Inv w k n g1 g2 tv t wr) (hb : Below wr.heap.size wr w') : Inv w k n g1 g2 tv t w' :=
  ⟨h.1.below hb, own_below h.2.1 hb, own_below h.2.2.1 hb, below_any h.2.2.2.1 hb, h.2.2.2.2⟩
theorem Inv.more {w : World} {k n g1 g2 : Nat} {tv : Value} {t : List Sl} {wr : World} (h : Inv w k n g1 g2 tv t wr) : Inv w (k + 1) n g1 g2 tv t wr :=
  ⟨h.1, h.2.1, h.2.2.1, h.2.2.2.1, h.2.2.2.2.1, h.2.2.2.2.2.1, fun p hp => by have := h.2.2.2.2.2.2 p hp; omega⟩
theorem i3 : ∃ i0, Try.prog.info? 3 = some i0 ∧ i0.size = 1 := by
  obtain ⟨i0, hi0, _, hz, _⟩ := info_parts Try.info3
  exact ⟨i0, hi0, hz⟩
theorem Try.info4 : (Try.prog.info? 4).map (fun i => (i.zero, i.size, i.bytes)) = some (some (.bool false), 1, 1) := by kernel_rfl
theorem i4 : ∃ i0, Try.prog.info? 4 = some i0 ∧ i0.size = 1 := by
  obtain ⟨i0, hi0, _, hz, _⟩ := info_parts Try.info4
  exact ⟨i0, hi0, hz⟩
theorem ix_lv (g n i : Nat) (hi : i < n) (W : World) : (Instr.indexAt 49 (.slice (some ⟨g, 0, none⟩) n n) (.int .i64 i)).run Try.prog W = .ok (.pointer (some ⟨g, i, none⟩)) W := by
  obtain ⟨i0, hi0, hz⟩ := i3
  have := run_index (size := 1) Try.underlying49 hi0 hz g 0 n n i hi W
  simpa using this
theorem ix_us (g n i : Nat) (hi : i < n) (W : World) : (Instr.indexAt 50 (.slice (some ⟨g, 0, none⟩) n n) (.int .i64 i)).run Try.prog W = .ok (.pointer (some ⟨g, i, none⟩)) W := by
  obtain ⟨i0, hi0, hz⟩ := i4
  have := run_index (size := 1) Try.underlying50 hi0 hz g 0 n n i hi W
  simpa using this
/-- One slot: what is read of it. -/
theorem Inv.at {w : World} {k n g1 g2 : Nat} {tv : Value} {t : List Sl} {wr : World} (h : Inv w k n g1 g2 tv t wr) {i : Nat} {p : Sl} (hp : t[i]? = some p) :
    wr.cell? ⟨g1, i, none⟩ = some (.int .i64 p.2) ∧ wr.cell? ⟨g2, i, none⟩ = some (.bool (!decide (p.1 = 0))) ∧ wr.frozen? ⟨g1, i, none⟩ = false ∧ wr.frozen? ⟨g2, i, none⟩ = false := by
  have c0 := h.2.1.cells (g := g1) rfl i _ (lvs_at hp)
  have c1 := h.2.2.1.cells (g := g2) rfl i _ (uss_at hp)
  rw [add_plain, Nat.zero_add] at c0 c1
  exact ⟨c0, c1, h.2.1.frozenAt i, h.2.2.1.frozenAt i⟩
theorem Inv.blocks {w : World} {k n g1 g2 : Nat} {tv : Value} {t : List Sl} {wr : World} (h : Inv w k n g1 g2 tv t wr) : g1 ≠ g2 ∧ w.heap.size ≤ g1 ∧ w.heap.size ≤ g2 ∧ g1 < wr.heap.size ∧ g2 < wr.heap.size := by
  have h1 := h.2.1.lt g1 rfl
  have h2 := h.2.2.1.lt g2 rfl
  refine ⟨fun e => ?_, h1.1, h2.1, h1.2, h2.2⟩
  subst e
  rcases h.2.1.2 with ⟨h', _⟩ | ⟨g', cap', cur, h', _, hg, _⟩
  · simp at h'
  rcases h.2.2.1.2 with ⟨h3, _⟩ | ⟨g'', cap'', cur', h3, _, hg', _⟩
  · simp at h3
  simp only [Value.slice.injEq, Option.some.injEq, Addr.mk.injEq, and_true, true_and] at h' h3
  obtain ⟨rfl, _⟩ := h'
  obtain ⟨rfl, _⟩ := h3
  rw [hg] at hg'
  simp at hg'
theorem own_other {t : TypeId} {base : Nat} {w w' : World} {v : Value} {l : List Sl} {g : Nat} {e : TypeId} {size n : Nat} {u : Value} {xs : List Value} (h : OwnE t base w v l) (hr : w.ownsRow base e size u n xs) (hu : u.ownBlock = some g) (hg : w.grownBy w' (some g)) (hne : e ≠ t) : OwnE t base w' v l :=
  ⟨h.1.kept hg ((hu ▸ (Clear.own (ids := [t]) hr (by simpa using hne))).apart h.1 (by simp)), h.2⟩
theorem row_other {base : Nat} {w w' : World} {e e' : TypeId} {size size' n n' : Nat} {u u' : Value} {xs xs' : List Value} {g : Nat} (h : w.ownsRow base e size u n xs) (hr : w.ownsRow base e' size' u' n' xs') (hu : u'.ownBlock = some g) (hg : w.grownBy w' (some g)) (hne : e' ≠ e) : w'.ownsRow base e size u n xs :=
  h.kept hg ((hu ▸ (Clear.own (ids := [e]) hr (by simpa using hne))).apart h (by simp))

/-- The rows beside the table follow. -/
theorem Inv.both {w : World} {k k' n g1 g2 : Nat} {tv tv' : Value} {t : List Sl} {wr W : World} (h : Inv w k n g1 g2 tv t wr) (hb : Below wr.heap.size wr W) {i : Nat} {p' : Sl} (hO : OwnE 57 wr.heap.size W tv' (t.set i p')) (hc : Chk (t.set i p')) (hk : ∀ p ∈ t.set i p', p.1 ≤ (k' : Int)) (hu : Bool) (he : hu = !decide (p'.1 = 0)) :
    Inv w k' n g1 g2 tv' (t.set i p') ((W.setCell ⟨g2, i, none⟩ (.bool hu)).setCell ⟨g1, i, none⟩ (.int .i64 p'.2)) := by
  subst he
  have hI := h.below hb
  have hB := hI.blocks
  have hO' := hO.weaken h.2.2.2.1.size
  obtain ⟨a1, a2⟩ := hI.2.2.1.stored i (.bool (!decide (p'.1 = 0)))
  have b1 := row_other hI.2.1 hI.2.2.1 (g := g2) rfl a2 (by decide)
  have c1 := own_other hO' hI.2.2.1 (g := g2) rfl a2 (by decide)
  obtain ⟨b2, b3⟩ := b1.stored i (.int .i64 p'.2)
  have a3 := row_other a1 b1 (g := g1) rfl b3 (by decide)
  have c2 := own_other c1 b1 (g := g1) rfl b3 (by decide)
  refine ⟨c2, by rw [lvs_set]; exact b2, by rw [uss_set]; exact a3, (hI.2.2.2.1.setCell (p := ⟨g2, i, none⟩) hB.2.2.1 _).setCell (p := ⟨g1, i, none⟩) hB.2.1 _, by rw [List.length_set]; exact hI.2.2.2.2.1, hc, hk⟩
theorem Inv.live {w : World} {k n g1 g2 : Nat} {tv tv' : Value} {t : List Sl} {wr W : World} (h : Inv w k n g1 g2 tv t wr) (hb : Below wr.heap.size wr W) {i : Nat} {q x x' : Int} (hp : t[i]? = some (q, x)) (hO : OwnE 57 wr.heap.size W tv' (t.set i (q, x'))) (hc : Chk (t.set i (q, x'))) :
    Inv w k n g1 g2 tv' (t.set i (q, x')) (W.setCell ⟨g1, i, none⟩ (.int .i64 x')) := by
  have hI := h.below hb
  have hB := hI.blocks
  obtain ⟨b2, b3⟩ := hI.2.1.stored i (.int .i64 x')
  have a3 := row_other hI.2.2.1 hI.2.1 (g := g1) rfl b3 (by decide)
  have c2 := own_other (hO.weaken h.2.2.2.1.size) hI.2.1 (g := g1) rfl b3 (by decide)
  refine ⟨c2, by rw [lvs_set]; exact b2, ?_, hI.2.2.2.1.setCell (p := ⟨g1, i, none⟩) hB.2.1 _, by rw [List.length_set]; exact hI.2.2.2.2.1, hc, fun p hp' => ?_⟩
  · rw [uss_set, show (uss t).set i (.bool (!decide ((q, x').1 = 0))) = uss t from set_at (a := Value.bool (!decide (q = 0))) (uss_at (p := (q, x)) hp)]
    exact a3
  · rcases List.mem_or_eq_of_mem_set hp' with h' | rfl
    · exact hI.2.2.2.2.2.2 p h'
    · have := hI.2.2.2.2.2.2 (q, x) (List.mem_of_getElem? hp)
      exact this
theorem Inv.free {w : World} {k n g1 g2 : Nat} {tv tv' : Value} {t : List Sl} {wr W : World} (h : Inv w k n g1 g2 tv t wr) (hb : Below wr.heap.size wr W) {i : Nat} {q : Int} (hp : t[i]? = some (q, 0)) (hO : OwnE 57 wr.heap.size W tv' (t.set i (0, 0))) (hc : Chk (t.set i (0, 0))) :
    Inv w k n g1 g2 tv' (t.set i (0, 0)) (W.setCell ⟨g2, i, none⟩ (.bool false)) := by
  have hI := h.below hb
  have hB := hI.blocks
  obtain ⟨a1, a2⟩ := hI.2.2.1.stored i (.bool false)
  have b1 := row_other hI.2.1 hI.2.2.1 (g := g2) rfl a2 (by decide)
  have c1 := own_other (hO.weaken h.2.2.2.1.size) hI.2.2.1 (g := g2) rfl a2 (by decide)
  refine ⟨c1, ?_, by rw [uss_set]; exact a1, hI.2.2.2.1.setCell (p := ⟨g2, i, none⟩) hB.2.2.1 _, by rw [List.length_set]; exact hI.2.2.2.2.1, hc, fun p hp' => ?_⟩
  · rw [lvs_set, show (lvs t).set i (.int .i64 ((0, 0) : Sl).2) = lvs t from set_at (a := Value.int .i64 0) (lvs_at (p := (q, 0)) hp)]
    exact b1
  · rcases List.mem_or_eq_of_mem_set hp' with h' | rfl
    · exact hI.2.2.2.2.2.2 p h'
    · simp only; omega

/-! What each step answers. -/

theorem alloc_E {t : List Sl} {k : Nat} {x : Int} (h : Chk t) (hk : ∀ p ∈ t, p.1 ≤ (k : Int)) (hk2 : k ≤ 200) (hx : 0 ≤ x ∧ x < 9) : (cnt t 0 = 0 → aE t (k + 1) x = 51) ∧ (0 < cnt t 0 → aE t (k + 1) x = 0) ∧ holdB (k + 1) x = true ∧ cnt t (k + 1) = 0 := by
  have hh : holdB (k + 1) x = true := by simp [holdB]; omega
  have hz : cnt t ((k : Int) + 1) = 0 := cnt_zero.2 fun p hp e => by have := hk p hp; omega
  exact ⟨fun h0 => aE_full h hh hz h0, fun h0 => aE_ok h hh hz h0, hh, hz⟩
theorem kill_E {t : List Sl} {i : Nat} {q x : Int} (h : Chk t) (hp : t[i]? = some (q, x)) : (q ≠ 0 ∧ 0 < x → kE t i 1 = 0 ∧ kV t i 1 = t.set i (q, x - 1) ∧ Chk (t.set i (q, x - 1))) ∧ (¬ (q ≠ 0 ∧ 0 < x) → kE t i 1 ≠ 0) := by
  have hs : slotAt t i = (q, x) := by simp [slotAt, hp]
  have hlt := (List.getElem?_eq_some_iff.1 hp).1
  have hm := (good_iff.1 (h.2.2 _ (List.mem_of_getElem? hp))).1
  have hin : inB t i = !decide (q = 0) := by
    have h1 : (i : Int) < t.length := by omega
    simp [inB, hs, h1]
  constructor
  · rintro ⟨h1, h2⟩
    have hu : uE t i = 0 := uE_ok h (by rw [hin]; simp [h1])
    have hk : kE t i 1 = 0 := kE_ok hu (by rw [hs]; simp only; omega)
    refine ⟨hk, by rw [kV_ok hk, hs]; simp, h.set hp ?_ (.inr (.inl rfl))⟩
    rw [may_used (p := (q, x)) h1] at hm
    rw [may_used (p := (q, x - 1)) h1]
    have := of_decide_eq_true hm
    exact decide_eq_true (by simp only at this ⊢; omega)
  · intro hn
    by_cases h1 : q = 0
    · rw [kE_no (uE_none h (by rw [hin]; simp [h1])) (by decide)]
      decide
    · rw [kE_range (uE_ok h (by rw [hin]; simp [h1])) (.inr (by rw [hs]; simp only; omega))]
      decide
theorem free_E {t : List Sl} {i : Nat} {q x : Int} (h : Chk t) (hp : t[i]? = some (q, x)) : (q ≠ 0 ∧ x = 0 → fE t i = 0 ∧ fV t i = t.set i (0, 0) ∧ Chk (t.set i (0, 0))) ∧ (¬ (q ≠ 0 ∧ x = 0) → fE t i ≠ 0) := by
  have hs : slotAt t i = (q, x) := by simp [slotAt, hp]
  have hlt := (List.getElem?_eq_some_iff.1 hp).1
  have hlv := h.live (List.mem_of_getElem? hp)
  simp only at hlv
  have hin : inB t i = !decide (q = 0) := by
    have h1 : (i : Int) < t.length := by omega
    simp [inB, hs, h1]
  constructor
  · rintro ⟨h1, h2⟩
    have hu : uE t i = 0 := uE_ok h (by rw [hin]; simp [h1])
    have hk : fE t i = 0 := fE_ok hu (by rw [hs]; simp only; omega)
    exact ⟨hk, by rw [fV_ok hk]; simp, h.set hp (by decide) (.inl rfl)⟩
  · intro hn
    by_cases h1 : q = 0
    · rw [fE_no (uE_none h (by rw [hin]; simp [h1])) (by decide)]
      decide
    · rw [fE_live (uE_ok h (by rw [hin]; simp [h1])) (by rw [hs]; simp only; omega)]
      decide
theorem alloc_next {t : List Sl} {k : Nat} {x : Int} (h : Chk t) (hk : ∀ p ∈ t, p.1 ≤ (k : Int)) (hk2 : k ≤ 200) (hx : 0 ≤ x ∧ x < 9) (h0 : 0 < cnt t 0) :
    aV t (k + 1) x = t.set (freeAt t) ((k : Int) + 1, x) ∧ aP t (k + 1) x = freeAt t ∧ Chk (t.set (freeAt t) ((k : Int) + 1, x)) ∧ ∀ p ∈ t.set (freeAt t) ((k : Int) + 1, x), p.1 ≤ ((k + 1 : Nat) : Int) := by
  obtain ⟨-, h1, h2, h3⟩ := alloc_E h hk hk2 hx
  obtain ⟨p, hp, -⟩ := freeAt_is h0
  refine ⟨aV_ok (h1 h0), aP_ok (h1 h0), h.set hp ?_ (.inr (.inr h3)), fun q hq => ?_⟩
  · rw [may_used (p := ((k : Int) + 1, x)) (by simp only; omega)]
    exact h2
  · rcases List.mem_or_eq_of_mem_set hq with h' | rfl
    · have := hk q h'
      omega
    · simp

end Go.Proofs.Ytgfdggilplkmfaa
