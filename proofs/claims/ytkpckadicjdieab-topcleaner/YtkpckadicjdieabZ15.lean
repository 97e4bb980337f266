import Derived.Test.YtkpckadicjdieabZ11
import Derived.Deep.RegionHeld3
import Derived.StillTail
/-
  Regions that draw their order and end in one store that waits for all others: what may be read is taken first under a condition on memory that the store alone need not keep.
-/
namespace Go.Proofs.Ytkpckadicjdieab
open Go

/-- Whatever order is picked; S holds behind every operation but number t. -/
def AnyBut (P : Program) (md : Region.Mode) (ops : Array Oper) (Q : Exit → Act → World → Prop) (S : World → Prop) (t : Nat) : Nat → Array Bool → Act → World → Prop
  | 0, listed, a, w => Region.ready md ops listed = [] ∧ Q .normal a w
  | f + 1, listed, a, w => (Region.ready md ops listed = [] → Q .normal a w) ∧
      ∀ i ∈ Region.ready md ops listed, wpOp P ops Q i (fun a' w' => (i ≠ t → S w') ∧ AnyBut P md ops Q S t f (listed.setIfInBounds i true) a' w') a w

theorem AnyBut.any {P : Program} {ops : Array Oper} {Q : Exit → Act → World → Prop} {md : Region.Mode} {S : World → Prop} {t : Nat} : ∀ (f : Nat) (listed : Array Bool) (a : Act) (w : World), AnyBut P md ops Q S t f listed a w → wpAny P md ops Q f listed a w
  | 0, _, _, _, h => h
  | f + 1, _, _, _, h => ⟨h.1, fun i hi => wpOp_mono (fun a' w' k => AnyBut.any f _ a' w' k.2) (h.2 i hi)⟩

theorem ready_waits {ops : Array Oper} {md : Region.Mode} {i : Nat} {listed : Array Bool} {oj : Oper} {j : Nat} (hr : i ∈ Region.ready md ops listed) (hj : j ∈ Region.ready md ops listed) (ho : ops[j]? = some oj) : ∀ e ∈ oj.after, Region.binds md e = true → e.on ≠ i := by
  intro e he hb heq
  obtain ⟨_, oj', ho', hall⟩ := mem_ready.1 hj
  obtain rfl : oj' = oj := by rw [ho] at ho'; exact (Option.some.inj ho').symm
  have h1 := hall e he hb
  have h0 := (mem_ready.1 hr).1
  rw [heq] at h1
  rcases Nat.lt_or_ge i listed.size with h' | h'
  · simp [h'] at h0 h1; rw [h0] at h1; cases h1
  · simp [Array.getElem?_eq_none h'] at h1

/-- What yields in every world that meets S may be taken first, if number t waits for it. -/
theorem AnyBut.first {P : Program} {ops : Array Oper} {Q : Exit → Act → World → Prop} {md : Region.Mode} {S : World → Prop} {t : Nat} {i : Nat} {oi : Oper} {v : Value} (hi : ops[i]? = some oi) (hs : Region.noSelect ops = true) (hit : i ≠ t) (hw : Region.waitsFor md ops t i = true)
    (hQ : ∀ c a w, Q (.panic c) (a.put oi.dst v) w → Q (.panic c) a w) (f : Nat) : ∀ (listed : Array Bool) (a : Act) (w : World), Region.free md ops listed i = true → i ∈ Region.ready md ops listed → YieldsIf P ops S oi v a → S w →
      AnyBut P md ops Q S t f (listed.setIfInBounds i true) (a.put oi.dst v) w → AnyBut P md ops Q S t (f + 1) listed a w := by
  induction f with
  | zero =>
    intro listed a w hf hr hy hS H
    refine ⟨fun h => (by rw [h] at hr; cases hr), fun j hj => ?_⟩
    by_cases hji : j = i
    · subst hji
      exact hy.wpOp hi hS ⟨fun _ => hS, H⟩
    · have := ready_mono hj hji
      rw [H.1] at this
      cases this
  | succ f ih =>
    intro listed a w hf hr hy hS H
    refine ⟨fun h => (by rw [h] at hr; cases hr), fun j hj => ?_⟩
    by_cases hji : j = i
    · subst hji
      exact hy.wpOp hi hS ⟨fun _ => hS, H⟩
    · obtain ⟨hun, oj, hoj, _⟩ := mem_ready.1 hj
      have hno := ready_waits hr hj hoj
      have hjt : j ≠ t := by
        rintro rfl
        obtain ⟨o', ho', e, he, hb, hon⟩ := Region.waitsFor_spec hw
        obtain rfl : o' = oj := by rw [hoj] at ho'; exact (Option.some.inj ho').symm
        exact hno e he hb hon
      have h2 := wpOp_putIf hoj (Region.free_spec hi hf j oj hoj hji hun hno) (fun cs b => Region.noSelect_spec hs i oi cs b hi) (fun cs b => Region.noSelect_spec hs j oj cs b hoj) hQ hy (H.2 j (ready_mono hj hji))
      refine wpOp_mono (fun a' w' k => ⟨fun _ => k.2.1 hjt, ?_⟩) h2
      refine ih (listed.setIfInBounds j true) a' w' ?_ (ready_mono hr (Ne.symm hji)) k.1 (k.2.1 hjt) ?_
      · unfold Region.free at hf ⊢
        rw [hi] at hf ⊢
        simp only [List.all_eq_true, List.mem_range, Bool.or_eq_true] at hf ⊢
        intro x hx
        rcases hf x hx with (h | h) | h
        · exact .inl (.inl h)
        · refine .inl (.inr ?_)
          by_cases hjx : j = x
          · subst hjx; rw [hun] at h; cases h
          · rw [getD_set_ne true hjx]; exact h
        · exact .inr h
      · rw [Array.setIfInBounds_comm _ _ hji]
        exact k.2.2

/-- A read is taken first. -/
theorem AnyBut.take {P : Program} {ops : Array Oper} {Q : Exit → Act → World → Prop} {md : Region.Mode} {S : World → Prop} {t : Nat} {i : Nat} (d : Option Tmp) {oi : Oper} {v : Value} {f : Nat} {listed : Array Bool} {a : Act} {w : World} (hi : ops[i]? = some oi) (hd : oi.dst = d) (hs : Region.noSelect ops = true) (hit : (i == t) = false) (hw : Region.waitsFor md ops t i = true)
    (hf : Region.free md ops listed i = true) (hr : (Region.ready md ops listed).contains i = true) (hQ : ∀ c a w, Q (.panic c) (a.put d v) w → Q (.panic c) a w) (hy : YieldsIf P ops S oi v a) (hS : S w)
    (h : AnyBut P md ops Q S t f (listed.setIfInBounds i true) (a.put d v) w) : AnyBut P md ops Q S t (f + 1) listed a w := by
  subst hd
  exact AnyBut.first hi hs (by simpa using hit) hw hQ f listed a w hf (by simpa using hr) hy hS h

/-- One alone may come up. -/
theorem AnyBut.step {P : Program} {ops : Array Oper} {Q : Exit → Act → World → Prop} {md : Region.Mode} {S : World → Prop} {t : Nat} {i : Nat} {o : Oper} {f : Nat} {listed : Array Bool} {a : Act} {w : World} (hr : Region.ready md ops listed = [i]) (ho : ops[i]? = some o)
    (h : ∀ K : Act → World → Prop, Shut (∀ a w, S w → AnyBut P md ops Q S t f (listed.setIfInBounds i true) a w → K a w) → if Region.wanted o (yielded ops a.tmps) = true then Oper.wp P o a w K Q else K (a.put o.dst undef) w) : AnyBut P md ops Q S t (f + 1) listed a w := by
  refine ⟨fun h0 => (by rw [hr] at h0; cases h0), fun j hj => ?_⟩
  rw [hr] at hj
  obtain rfl : j = i := by simpa using hj
  exact wpOp_step ho fun K hK => h K fun a w hS hA => hK a w ⟨fun _ => hS, hA⟩

/-- The last one. -/
theorem AnyBut.last {P : Program} {ops : Array Oper} {Q : Exit → Act → World → Prop} {md : Region.Mode} {S : World → Prop} {t : Nat} {o : Oper} {f : Nat} {listed : Array Bool} {a : Act} {w : World} (hr : Region.ready md ops listed = [t]) (hn : Region.ready md ops (listed.setIfInBounds t true) = []) (ho : ops[t]? = some o)
    (h : ∀ K : Act → World → Prop, Shut (∀ a w, Q .normal a w → K a w) → if Region.wanted o (yielded ops a.tmps) = true then Oper.wp P o a w K Q else K (a.put o.dst undef) w) : AnyBut P md ops Q S t (f + 1) listed a w := by
  refine ⟨fun h0 => (by rw [hr] at h0; cases h0), fun j hj => ?_⟩
  rw [hr] at hj
  obtain rfl : j = t := by simpa using hj
  refine wpOp_step ho fun K hK => h K fun a w hq => hK a w ⟨fun hne => absurd rfl hne, ?_⟩
  match f with
  | 0 => exact ⟨hn, hq⟩
  | f + 1 => exact ⟨fun _ => hq, by rw [hn]; simp⟩

theorem AnyBut.begin {P : Program} {ops : Array Oper} {Q : Exit → Act → World → Prop} {id : Nat} {a : Act} {w : World} (S : World → Prop) (t : Nat) (hm : P.follows .mixedOrders = true)
    (h : AnyBut P .any ops Q S t ops.size (Array.replicate ops.size false) a w.drew) : (Code.region id ops true).wp P Q a w :=
  wp_region_any hm (AnyBut.any _ _ _ _ h)

end Go.Proofs.Ytkpckadicjdieab

/-
  Regions that draw their order and only read and call: every read is taken first, wanted or not; one call at a time.
-/
namespace Go.Proofs.Ytkpckadicjdieab
open Go

/-- A read is taken first; t is no operation. -/
theorem AnyBut.take0 {P : Program} {ops : Array Oper} {Q : Exit → Act → World → Prop} {md : Region.Mode} {S : World → Prop} {t : Nat} {i : Nat} (d : Option Tmp) {oi : Oper} {v : Value} {f : Nat} {listed : Array Bool} {a : Act} {w : World} (hi : ops[i]? = some oi) (hd : oi.dst = d) (hs : Region.noSelect ops = true) (ht : ops.size ≤ t)
    (hf : Region.free md ops listed i = true) (hr : (Region.ready md ops listed).contains i = true) (hQ : ∀ c a w, Q (.panic c) (a.put d v) w → Q (.panic c) a w) (hy : YieldsIf P ops S oi v a) (hS : S w)
    (h : AnyBut P md ops Q S t f (listed.setIfInBounds i true) (a.put d v) w) : AnyBut P md ops Q S t (f + 1) listed a w := by
  subst hd
  have hr' : i ∈ Region.ready md ops listed := by simpa using hr
  clear hr
  induction f generalizing listed a w with
  | zero =>
    refine ⟨fun h0 => (by rw [h0] at hr'; cases hr'), fun j hj => ?_⟩
    by_cases hji : j = i
    · subst hji
      exact hy.wpOp hi hS ⟨fun _ => hS, h⟩
    · have := ready_mono hj hji
      rw [h.1] at this
      cases this
  | succ f ih =>
    refine ⟨fun h0 => (by rw [h0] at hr'; cases hr'), fun j hj => ?_⟩
    by_cases hji : j = i
    · subst hji
      exact hy.wpOp hi hS ⟨fun _ => hS, h⟩
    · obtain ⟨hun, oj, hoj, _⟩ := mem_ready.1 hj
      have hno := ready_waits hr' hj hoj
      have hjt : j ≠ t := by
        have := (Array.getElem?_eq_some_iff.1 hoj).1
        omega
      have h2 := wpOp_putIf hoj (Region.free_spec hi hf j oj hoj hji hun hno) (fun cs b => Region.noSelect_spec hs i oi cs b hi) (fun cs b => Region.noSelect_spec hs j oj cs b hoj) hQ hy (h.2 j (ready_mono hj hji))
      refine wpOp_mono (fun a' w' k => ⟨fun _ => k.2.1 hjt, ?_⟩) h2
      refine ih (listed := listed.setIfInBounds j true) (a := a') (w := w') ?_ k.1 (k.2.1 hjt) ?_ (ready_mono hr' (Ne.symm hji))
      · unfold Region.free at hf ⊢
        rw [hi] at hf ⊢
        simp only [List.all_eq_true, List.mem_range, Bool.or_eq_true] at hf ⊢
        intro x hx
        rcases hf x hx with (h | h) | h
        · exact .inl (.inl h)
        · refine .inl (.inr ?_)
          by_cases hjx : j = x
          · subst hjx; rw [hun] at h; cases h
          · rw [getD_set_ne true hjx]; exact h
        · exact .inr h
      · rw [Array.setIfInBounds_comm _ _ hji]
        exact k.2.2
/-- The same, its closed facts as one. -/
theorem AnyBut.tk {P : Program} {ops : Array Oper} {Q : Exit → Act → World → Prop} {md : Region.Mode} {S : World → Prop} {t : Nat} (i : Nat) (d : Tmp) (v : Value) {oi : Oper} {f : Nat} {listed : Array Bool} {a : Act} {w : World} (hi : ops[i]? = some oi) (hd : oi.dst = some d)
    (hc : (Region.noSelect ops && Nat.ble ops.size t && Region.free md ops listed i && (Region.ready md ops listed).contains i) = true) (hQ : ∀ c a w, Q (.panic c) (a.put (some d) v) w → Q (.panic c) a w) (hy : YieldsIf P ops S oi v a) (hS : S w)
    (h : AnyBut P md ops Q S t f (listed.setIfInBounds i true) (a.put (some d) v) w) : AnyBut P md ops Q S t (f + 1) listed a w := by
  simp only [Bool.and_eq_true] at hc
  exact AnyBut.take0 (some d) hi hd hc.1.1.1 (Nat.le_of_ble_eq_true hc.1.1.2) hc.1.2 hc.2 hQ hy hS h
/-- All is done. -/
theorem AnyBut.done {P : Program} {ops : Array Oper} {Q : Exit → Act → World → Prop} {md : Region.Mode} {S : World → Prop} {t : Nat} {f : Nat} {listed : Array Bool} {a : Act} {w : World} (hn : Region.ready md ops listed = []) (hq : Q .normal a w) : AnyBut P md ops Q S t f listed a w := by
  match f with
  | 0 => exact ⟨hn, hq⟩
  | f + 1 => exact ⟨fun _ => hq, by rw [hn]; simp⟩

/-! Short words for what is said often. -/

theorem ua (T : Array Value) (D) (d : Nat) (v : Value) : Act.put ⟨T, D⟩ (some d) v = ⟨T.setIfInBounds d v, D⟩ := rfl
theorem ub {α : Type} (l : List α) (i : Nat) (a : α) : l.toArray.setIfInBounds i a = (l.set i a).toArray := List.setIfInBounds_toArray ..
theorem uc {α : Type} (x y : α) (l : List α) : (x :: l).set 0 y = y :: l := rfl
theorem ud {α : Type} (x y : α) (l : List α) (n : Nat) : (x :: l).set (n + 1) y = x :: l.set n y := rfl
/-- A read that is wanted. -/
theorem tw {P : Program} {ops : Array Oper} {Q : Exit → Act → World → Prop} {md : Region.Mode} {S : World → Prop} {t : Nat} (i : Nat) (d : Tmp) (v : Value) {oi : Oper} {f : Nat} {listed : Array Bool} {a : Act} {w : World} (hS : S w) (hy : ∀ w, S w → (execOp a.eval oi).run P w = .ok (.value v) w)
    (h : AnyBut P md ops Q S t f (listed.setIfInBounds i true) (a.put (some d) v) w) (hi : ops[i]? = some oi := by rfl) (hd : oi.dst = some d := by rfl)
    (hc : (Region.noSelect ops && Nat.ble ops.size t && Region.free md ops listed i && (Region.ready md ops listed).contains i) = true := by kernel_rfl) (hQ : ∀ c a w, Q (.panic c) (a.put (some d) v) w → Q (.panic c) a w := by exact fun _ _ _ h => h) (hw : Region.wanted oi (yielded ops a.tmps) = true := by rfl) : AnyBut P md ops Q S t (f + 1) listed a w :=
  AnyBut.tk i d v hi hd hc hQ (.inl ⟨hw, hy⟩) hS h
/-- One that is not. -/
theorem tu {P : Program} {ops : Array Oper} {Q : Exit → Act → World → Prop} {md : Region.Mode} {S : World → Prop} {t : Nat} (i : Nat) (d : Tmp) {oi : Oper} {f : Nat} {listed : Array Bool} {a : Act} {w : World} (hS : S w)
    (h : AnyBut P md ops Q S t f (listed.setIfInBounds i true) (a.put (some d) undef) w) (hi : ops[i]? = some oi := by rfl) (hd : oi.dst = some d := by rfl)
    (hc : (Region.noSelect ops && Nat.ble ops.size t && Region.free md ops listed i && (Region.ready md ops listed).contains i) = true := by kernel_rfl) (hQ : ∀ c a w, Q (.panic c) (a.put (some d) undef) w → Q (.panic c) a w := by exact fun _ _ _ h => h) (hw : Region.wanted oi (yielded ops a.tmps) = false := by rfl) : AnyBut P md ops Q S t (f + 1) listed a w :=
  AnyBut.tk i d undef hi hd hc hQ (.inr ⟨hw, rfl⟩) hS h
/-- A read that the last operation waits for. -/
theorem tt {P : Program} {ops : Array Oper} {Q : Exit → Act → World → Prop} {md : Region.Mode} {S : World → Prop} {t : Nat} (i : Nat) (d : Tmp) (v : Value) {oi : Oper} {f : Nat} {listed : Array Bool} {a : Act} {w : World} (hS : S w) (hy : ∀ w, S w → (execOp a.eval oi).run P w = .ok (.value v) w)
    (h : AnyBut P md ops Q S t f (listed.setIfInBounds i true) (a.put (some d) v) w) (hi : ops[i]? = some oi := by rfl) (hd : oi.dst = some d := by rfl)
    (hc : (Region.noSelect ops && !(i == t) && Region.waitsFor md ops t i && Region.free md ops listed i && (Region.ready md ops listed).contains i) = true := by kernel_rfl) (hQ : ∀ c a w, Q (.panic c) (a.put (some d) v) w → Q (.panic c) a w := by exact fun _ _ _ h => h) (hw : Region.wanted oi (yielded ops a.tmps) = true := by rfl) : AnyBut P md ops Q S t (f + 1) listed a w := by
  simp only [Bool.and_eq_true, Bool.not_eq_true'] at hc
  exact AnyBut.take (some d) hi hd hc.1.1.1.1 hc.1.1.1.2 hc.1.1.2 hc.1.2 hc.2 hQ (.inl ⟨hw, hy⟩) hS h

/-- The same; the read is told by the walk itself. -/
theorem tx {P : Program} {ops : Array Oper} {Q : Exit → Act → World → Prop} {md : Region.Mode} {S : World → Prop} {t : Nat} (i : Nat) (d : Tmp) {v : Value} {oi : Oper} {f : Nat} {listed : Array Bool} {a : Act} {w : World} (hS : S w)
    (h : AnyBut P md ops Q S t f (listed.setIfInBounds i true) (a.put (some d) v) w) (hi : ops[i]? = some oi := by rfl) (hd : oi.dst = some d := by rfl) (hy : ∀ w, S w → (execOp a.eval oi).run P w = .ok (.value v) w := by (intro W hSW; (try dsimp only at hSW); go_simp; try with_reducible rfl))
    (hc : (Region.noSelect ops && Nat.ble ops.size t && Region.free md ops listed i && (Region.ready md ops listed).contains i) = true := by kernel_rfl) (hQ : ∀ c a w, Q (.panic c) (a.put (some d) v) w → Q (.panic c) a w := by exact fun _ _ _ h => h) (hw : Region.wanted oi (yielded ops a.tmps) = true := by rfl) : AnyBut P md ops Q S t (f + 1) listed a w :=
  AnyBut.tk i d v hi hd hc hQ (.inl ⟨hw, hy⟩) hS h
/-! Many that are not wanted, at once. -/

def skL : List (Nat × Nat) → Array Bool → Array Bool
  | [], listed => listed
  | (i, _) :: r, listed => skL r (listed.setIfInBounds i true)
def skA : List (Nat × Nat) → Act → Act
  | [], a => a
  | (_, d) :: r, a => skA r (a.put (some d) undef)
def skB (md : Region.Mode) (ops : Array Oper) : List (Nat × Nat) → Array Bool → Act → Bool
  | [], _, _ => true
  | (i, d) :: r, listed, a => (match ops[i]? with | some oi => (match oi.dst with | some e => Nat.beq e d | none => false) && !Region.wanted oi (yielded ops a.tmps) | none => false) && Region.free md ops listed i && (Region.ready md ops listed).contains i && skB md ops r (listed.setIfInBounds i true) (a.put (some d) undef)
theorem tus {P : Program} {ops : Array Oper} {Q : Exit → Act → World → Prop} {md : Region.Mode} {S : World → Prop} {t : Nat} (n : Nat) (L : List (Nat × Nat)) {f : Nat} {listed : Array Bool} {a : Act} {w : World} (hS : S w)
    (h : AnyBut P md ops Q S t f (skL L listed) (skA L a) w) (hn : L.length = n := by rfl)
    (hc : (Region.noSelect ops && Nat.ble ops.size t && skB md ops L listed a) = true := by kernel_rfl) (hQ : ∀ c a w d, Q (.panic c) (a.put (some d) undef) w → Q (.panic c) a w := by exact fun _ _ _ _ h => h) : AnyBut P md ops Q S t (f + n) listed a w := by
  subst hn
  simp only [Bool.and_eq_true] at hc
  obtain ⟨⟨h1, h2⟩, h3⟩ := hc
  induction L generalizing listed a with
  | nil => exact h
  | cons p r ih =>
    obtain ⟨i, d⟩ := p
    simp only [skB, Bool.and_eq_true] at h3
    obtain ⟨⟨⟨a1, a2⟩, a3⟩, a4⟩ := h3
    cases ho : ops[i]? with
    | none => rw [ho] at a1; cases a1
    | some oi =>
      rw [ho] at a1
      simp only [Bool.and_eq_true, Bool.not_eq_true'] at a1
      obtain ⟨b1, b2⟩ := a1
      cases hd : oi.dst with
      | none => rw [hd] at b1; cases b1
      | some e =>
        rw [hd] at b1
        obtain rfl : e = d := Nat.eq_of_beq_eq_true b1
        exact AnyBut.take0 (some e) ho hd h1 (Nat.le_of_ble_eq_true h2) a2 a3 (fun c a w => hQ c a w e) (.inr ⟨b2, rfl⟩) hS (ih h a4)

end Go.Proofs.Ytkpckadicjdieab

/-
  Small words for the laws: a cell stays; a slice's length is an int.
-/
namespace Go.Proofs.Ytkpckadicjdieab
open Go.RowKit

theorem cell_below {w w' : World} {p : Addr} {v : Value} (h : Below w.heap.size w w') (hc : w.cell? p = some v) : w'.cell? p = some v := by
  rw [h.cell (cell_lt hc)]
  exact hc
theorem Arg.small {n0 : Nat} {w : World} {v : Value} {l : List Int} (h : Arg n0 w v l) : l.length ≤ 9223372036854775807 := by
  obtain ⟨_, _, _, _, h1, _⟩ := h.shape
  unfold maxLen at h1
  omega

theorem st_flatNl {n : Nat} {w : World} {us : List Value} {s : St} (h : stN.lies n w us s) : ∃ a n1 c b n2 d e n3 f q, us = [.slice a n1 c, .slice b n2 d, .slice e n3 f, .int .i64 q] ∧ n1 = s.1.length ∧ n3 = s.2.2.1.length ∧ n3 ≤ 9223372036854775807 ∧ n1 ≤ 9223372036854775807 := by
  obtain ⟨a, c, b, d, e, f, h, _, _, _, _, m1, _, m3⟩ := st_viewN h
  unfold maxLen at m1 m3
  exact ⟨a, _, c, b, _, d, e, _, f, _, h, rfl, rfl, m3, m1⟩
theorem st_flatRl {n : Nat} {w : World} {us : List Value} {s : St} (h : stR.lies n w us s) : ∃ a n1 c b n2 d e n3 f q, us = [.slice a n1 c, .slice b n2 d, .slice e n3 f, .int .i64 q] ∧ n1 = s.1.length ∧ n3 = s.2.2.1.length ∧ n3 ≤ 9223372036854775807 ∧ n1 ≤ 9223372036854775807 := by
  obtain ⟨a, c, b, d, e, f, h, _, _, _, _, m1, _, m3⟩ := st_viewR h
  unfold maxLen at m1 m3
  exact ⟨a, _, c, b, _, d, e, _, f, _, h, rfl, rfl, m3, m1⟩
theorem st_fl {n : Nat} {w : World} {us : List Value} {s : St} (h : stN.owns n w us s) : ∃ a n1 c b n2 d e n3 f q, us = [.slice a n1 c, .slice b n2 d, .slice e n3 f, .int .i64 q] := by
  obtain ⟨a, c, b, d, e, f, h, _⟩ := st_ownN h
  exact ⟨a, _, c, b, _, d, e, _, f, _, h⟩
theorem st_seg {n : Nat} {w : World} {a b e : Option Addr} {n1 c m d k f : Nat} {q : Int} {s : St} (h : stN.lies n w [.slice a n1 c, .slice b m d, .slice e k f, .int .i64 q] s) : sgsN.lies n w [.slice a n1 c] s.1 ∧ boolsS.lies n w [.slice b m d] s.2.1 ∧ bksN.lies n w [.slice e k f] s.2.2.1 ∧ q = s.2.2.2 ∧ I64 q := by
  obtain ⟨a9, c9, b9, d9, e9, f9, hu9, h1, h2, h3, h4, _⟩ := st_viewN h
  simp only [List.cons.injEq, Value.slice.injEq, Value.int.injEq, and_true, true_and] at hu9
  obtain ⟨⟨rfl, rfl, rfl⟩, ⟨rfl, rfl, rfl⟩, ⟨rfl, rfl, rfl⟩, rfl⟩ := hu9
  exact ⟨h1, h2, h3, rfl, h4⟩
theorem st_segR {n : Nat} {w : World} {a b e : Option Addr} {n1 c m d k f : Nat} {q : Int} {s : St} (h : stR.lies n w [.slice a n1 c, .slice b m d, .slice e k f, .int .i64 q] s) : sgsR.lies n w [.slice a n1 c] s.1 ∧ boolsS.lies n w [.slice b m d] s.2.1 ∧ bksR.lies n w [.slice e k f] s.2.2.1 ∧ q = s.2.2.2 ∧ I64 q := by
  obtain ⟨a9, c9, b9, d9, e9, f9, hu9, h1, h2, h3, h4, _⟩ := st_viewR h
  simp only [List.cons.injEq, Value.slice.injEq, Value.int.injEq, and_true, true_and] at hu9
  obtain ⟨⟨rfl, rfl, rfl⟩, ⟨rfl, rfl, rfl⟩, ⟨rfl, rfl, rfl⟩, rfl⟩ := hu9
  exact ⟨h1, h2, h3, rfl, h4⟩
theorem st_len {n : Nat} {w : World} {a b e : Option Addr} {n1 c m d k f : Nat} {q : Int} {s : St} (h : stN.lies n w [.slice a n1 c, .slice b m d, .slice e k f, .int .i64 q] s) : n1 = s.1.length ∧ m = s.2.1.length ∧ k = s.2.2.1.length ∧ n1 ≤ 9223372036854775807 ∧ m ≤ 9223372036854775807 ∧ k ≤ 9223372036854775807 := by
  obtain ⟨a9, c9, b9, d9, e9, f9, hu9, h1, h2, h3, h4, m1, m2, m3⟩ := st_viewN h
  simp only [List.cons.injEq, Value.slice.injEq, Value.int.injEq, and_true, true_and] at hu9
  unfold maxLen at m1 m2 m3
  omega
theorem st_lenR {n : Nat} {w : World} {a b e : Option Addr} {n1 c m d k f : Nat} {q : Int} {s : St} (h : stR.lies n w [.slice a n1 c, .slice b m d, .slice e k f, .int .i64 q] s) : n1 = s.1.length ∧ m = s.2.1.length ∧ k = s.2.2.1.length ∧ n1 ≤ 9223372036854775807 ∧ m ≤ 9223372036854775807 ∧ k ≤ 9223372036854775807 := by
  obtain ⟨a9, c9, b9, d9, e9, f9, hu9, h1, h2, h3, h4, m1, m2, m3⟩ := st_viewR h
  simp only [List.cons.injEq, Value.slice.injEq, Value.int.injEq, and_true, true_and] at hu9
  unfold maxLen at m1 m2 m3
  omega

end Go.Proofs.Ytkpckadicjdieab

/-
  Whether blocks, and segments, of the program's are the document's.
-/
namespace Go.Proofs.Ytkpckadicjdieab
open Go.RowKit

theorem alike_b {a b : List Bk} (hl : a.length = b.length) (h : ∀ i : Nat, i < a.length → a[i]? = b[i]?) : a = b := by
  refine List.ext_getElem? fun i => ?_
  by_cases hi : i < a.length
  · exact h i hi
  · rw [List.getElem?_eq_none (by omega), List.getElem?_eq_none (by omega)]

set_option maxRecDepth 100000 in
set_option maxHeartbeats 8000000 in
theorem alikeBlocks_any (n1 n2 : Nat) (v1 v2 : Value) (l1 l2 : List Bk) (w : World) (h1 : bksN.lies n1 w [v1] l1) (h2 : bksR.lies n2 w [v2] l2) :
    Calls Try.prog 52 #[v1, v2] w fun e w' => e = .returned (.int .i64 (if l1 = l2 then 0 else 1)) ∧ Below w.heap.size w w' := by
  obtain ⟨a1, c1, e1, _, hm1, _⟩ := Shape.list_len (S := bkN) (ht := Try.underlying29) (hc := cells29) h1
  obtain rfl : v1 = _ := by simpa using e1
  obtain ⟨a2, c2, e2, _, hm2, _⟩ := Shape.list_len (S := bkR) (ht := Try.underlying24) (hc := cells24) h2
  obtain rfl : v2 = _ := by simpa using e2
  unfold maxLen at hm1 hm2
  have hr1 := run_len Try.underlying29 a1 l1.length c1
  have hr2 := run_len Try.underlying24 a2 l2.length c2
  by_cases hlen : l1.length = l2.length
  case neg =>
    rw [if_neg (fun e => hlen (by rw [e]))]
    have hne : ¬ (l1.length : Int) = (l2.length : Int) := by omega
    clear h1 h2 e1 e2
    go_enter Try.func52, Try.ntmps52
    go_wp2
    go_ret
    exact ⟨rfl, Below.refl _ _⟩
  have HW : Hid (bksN.lies n1 w [.slice a1 l1.length c1] l1 ∧ bksR.lies n2 w [.slice a2 l2.length c2] l2) := ⟨h1, h2⟩
  obtain ⟨n, hn⟩ : ∃ n, n = l1.length := ⟨_, rfl⟩
  have HN : Hid (n = l1.length ∧ n = l2.length) := ⟨hn, by omega⟩
  rw [← hlen] at HW hr2 ⊢
  rw [← hn] at HW hr1 hr2 hm1 ⊢
  obtain ⟨d, hd⟩ : ∃ d : Int, d = if l1 = l2 then 0 else 1 := ⟨_, rfl⟩
  rw [← hd]
  have HD0 : Hid (l1 = l2 → d = 0) := fun h => by rw [hd, if_pos h]
  have HD1 : Hid (l1 ≠ l2 → d = 1) := fun h => by rw [hd, if_neg h]
  clear hn hlen hd hm2 h1 h2 e1 e2
  go_enter Try.func52, Try.ntmps52
  go_wp2
  go_loopw [5] (fun i wr => ∃ k : Nat, k ≤ n ∧ i = .int .i64 k ∧ Hid (∀ (i : Nat), i < k → l1[i]? = l2[i]?) ∧ Hid (Below w.heap.size w wr)) (fun i _ => n - (intOf i).toNat)
  case atStart => exact ⟨0, Nat.zero_le _, rfl, fun i hi => by omega, Below.refl _ _⟩
  case round =>
    obtain ⟨k, hk, rfl, HK, HB⟩ := hrel
    by_cases hlt : k < n
    case neg =>
      obtain rfl : k = n := by omega
      obtain rfl : d = 0 := HD0.out (alike_b (by have := HN.out; omega) fun i hi => HK.out i (by have := HN.out; omega))
      clear HK
      go_wp2
      go_ret
      exact ⟨rfl, HB.out⟩
    obtain ⟨x, hx⟩ := get_lt (l := l1) (k := k) (by rw [← HN.out.1]; exact hlt)
    obtain ⟨y, hy⟩ := get_lt (l := l2) (k := k) (by rw [← HN.out.2]; exact hlt)
    obtain ⟨b1, o1, x1, z1, hix1, p0, p1, p2, hA1, _⟩ := bks_atN (bksN.below HW.out.1 HB.out) k x hx
    obtain ⟨b2, o2, x2, z2, hix2, q0, q1, q2, hA2, _⟩ := bks_atR (bksR.below HW.out.2 HB.out) k y hy
    have hkn : (k : Int) < (n : Int) := by omega
    have HXY : Hid (l1[k]? = some x ∧ l2[k]? = some y) := ⟨hx, hy⟩
    have HS : Hid (Calls Try.prog 14 #[.slice x1 x.2.2.length z1, .slice x2 y.2.2.length z2] wr.drew fun e w' => e = .returned (.bool (decide (x.2.2 = y.2.2))) ∧ ∃ q, w' = wr.drew.drewN q) := same_any n1 n2 _ _ _ _ _ (hA1.below (Below.refl _ wr).drew) (hA2.below (Below.refl _ wr).drew)
    have HNE : Hid (x ≠ y → d = 1) := fun h => HD1.out fun e => h (by have h1 := HXY.out; rw [e] at h1; exact Option.some.inj (h1.1.symm.trans h1.2))
    obtain ⟨xo, xi, xd⟩ := x
    obtain ⟨yo, yi, yd⟩ := y
    simp only at p0 p1 p2 q0 q1 q2 HS
    obtain ⟨sb, hsb⟩ : ∃ sb, sb = decide (xd = yd) := ⟨_, rfl⟩
    have HSB : Hid (sb = decide (xd = yd)) := hsb
    rw [← hsb] at HS
    obtain ⟨xl, hxl⟩ : ∃ m, m = xd.length := ⟨_, rfl⟩
    obtain ⟨yl, hyl⟩ : ∃ m, m = yd.length := ⟨_, rfl⟩
    rw [← hxl, ← hyl] at HS
    rw [← hxl] at p2
    rw [← hyl] at q2
    have HC : Hid (∀ V, Below wr.heap.size wr V → V.cell? ⟨b1, o1, none⟩ = some (.int .i64 xo) ∧ V.cell? ⟨b1, o1 + 1, none⟩ = some (.int .i64 xi) ∧ V.cell? ⟨b1, o1 + 2, none⟩ = some (.slice x1 xl z1) ∧ V.cell? ⟨b2, o2, none⟩ = some (.int .i64 yo) ∧ V.cell? ⟨b2, o2 + 1, none⟩ = some (.int .i64 yi) ∧ V.cell? ⟨b2, o2 + 2, none⟩ = some (.slice x2 yl z2)) := fun V hV => ⟨by rw [hV.cell (cell_lt p0)]; exact p0, by rw [hV.cell (cell_lt p1)]; exact p1, by rw [hV.cell (cell_lt p2)]; exact p2, by rw [hV.cell (cell_lt q0)]; exact q0, by rw [hV.cell (cell_lt q1)]; exact q1, by rw [hV.cell (cell_lt q2)]; exact q2⟩
    clear hx hy hA1 hA2 hsb hxl hyl p0 p1 p2 q0 q1 q2
    go_wp2
    refine AnyBut.begin (fun V => V.cell? ⟨b1, o1, none⟩ = some (.int .i64 xo) ∧ V.cell? ⟨b1, o1 + 1, none⟩ = some (.int .i64 xi) ∧ V.cell? ⟨b1, o1 + 2, none⟩ = some (.slice x1 xl z1) ∧ V.cell? ⟨b2, o2, none⟩ = some (.int .i64 yo) ∧ V.cell? ⟨b2, o2 + 1, none⟩ = some (.int .i64 yi) ∧ V.cell? ⟨b2, o2 + 2, none⟩ = some (.slice x2 yl z2)) 1000 (by kernel_rfl) ?_
    have hSS := HC.out wr.drew (Below.refl _ wr).drew
    refine tx 0 17 hSS ?_
    simp only [ua, ub, uc, ud]
    refine tx 1 18 hSS ?_
    simp only [ua, ub, uc, ud]
    refine tx 2 19 hSS ?_
    simp only [ua, ub, uc, ud]
    refine tx 3 20 hSS ?_
    simp only [ua, ub, uc, ud]
    refine tx 4 21 hSS ?_
    simp only [ua, ub, uc, ud]
    refine tx 5 22 hSS ?_
    simp only [ua, ub, uc, ud]
    refine tx 6 23 hSS ?_
    simp only [ua, ub, uc, ud]
    refine tx 7 24 hSS ?_
    simp only [ua, ub, uc, ud]
    refine tx 8 25 hSS ?_
    simp only [ua, ub, uc, ud]
    refine tx 9 26 hSS ?_
    simp only [ua, ub, uc, ud]
    by_cases g1 : xo = yo
    case neg =>
      obtain rfl : d = 1 := HNE.out fun h => g1 (congrArg Prod.fst h)
      have g1b : (xo == yo) = false := by simpa using g1
      have g1c : (xo != yo) = true := by simpa using g1
      refine tx 10 27 hSS ?_
      simp only [ua, ub, uc, ud]
      refine tx 11 28 hSS ?_
      simp only [ua, ub, uc, ud]
      refine tus 11 [(12, 29), (13, 30), (14, 31), (15, 32), (16, 33), (17, 34), (18, 35), (19, 36), (20, 37), (21, 38), (22, 39)] hSS ?_
      simp only [skA, skL, ua, ub, uc, ud]
      refine tx 23 40 hSS ?_
      simp only [ua, ub, uc, ud]
      refine tx 24 41 hSS ?_
      simp only [ua, ub, uc, ud]
      refine tus 12 [(25, 42), (26, 43), (27, 44), (28, 45), (29, 46), (30, 47), (31, 48), (32, 49), (33, 50), (34, 51), (35, 52), (36, 53)] hSS ?_
      simp only [skA, skL, ua, ub, uc, ud]
      refine tx 37 54 hSS ?_
      simp only [ua, ub, uc, ud]
      refine AnyBut.done (by kernel_rfl) ?_
      have HZ : Hid (Below w.heap.size w wr.drew) := HB.out.drew
      clear hSS
      go_wp2
      go_ret
      exact ⟨rfl, HZ.out⟩
    subst g1
    have g1c : (xo != xo) = false := by simp
    refine tx 10 27 hSS ?_
    simp only [ua, ub, uc, ud]
    refine tx 11 28 hSS ?_
    simp only [ua, ub, uc, ud]
    refine tx 12 29 hSS ?_
    simp only [ua, ub, uc, ud]
    refine tx 13 30 hSS ?_
    simp only [ua, ub, uc, ud]
    refine tx 14 31 hSS ?_
    simp only [ua, ub, uc, ud]
    refine tx 15 32 hSS ?_
    simp only [ua, ub, uc, ud]
    refine tx 16 33 hSS ?_
    simp only [ua, ub, uc, ud]
    refine tx 17 34 hSS ?_
    simp only [ua, ub, uc, ud]
    refine tx 18 35 hSS ?_
    simp only [ua, ub, uc, ud]
    refine tx 19 36 hSS ?_
    simp only [ua, ub, uc, ud]
    refine tx 20 37 hSS ?_
    simp only [ua, ub, uc, ud]
    refine tx 21 38 hSS ?_
    simp only [ua, ub, uc, ud]
    by_cases g2 : xi = yi
    case neg =>
      obtain rfl : d = 1 := HNE.out fun h => g2 (congrArg (fun z => z.2.1) h)
      have g2b : (xi == yi) = false := by simpa using g2
      have g2c : (xi != yi) = true := by simpa using g2
      refine tx 22 39 hSS ?_
      simp only [ua, ub, uc, ud]
      refine tx 23 40 hSS ?_
      simp only [ua, ub, uc, ud]
      refine tx 24 41 hSS ?_
      simp only [ua, ub, uc, ud]
      refine tus 12 [(25, 42), (26, 43), (27, 44), (28, 45), (29, 46), (30, 47), (31, 48), (32, 49), (33, 50), (34, 51), (35, 52), (36, 53)] hSS ?_
      simp only [skA, skL, ua, ub, uc, ud]
      refine tx 37 54 hSS ?_
      simp only [ua, ub, uc, ud]
      refine AnyBut.done (by kernel_rfl) ?_
      have HZ : Hid (Below w.heap.size w wr.drew) := HB.out.drew
      clear hSS
      go_wp2
      go_ret
      exact ⟨rfl, HZ.out⟩
    subst g2
    have g2c : (xi != xi) = false := by simp
    refine tx 22 39 hSS ?_
    simp only [ua, ub, uc, ud]
    refine tx 23 40 hSS ?_
    simp only [ua, ub, uc, ud]
    refine tx 24 41 hSS ?_
    simp only [ua, ub, uc, ud]
    refine tx 25 42 hSS ?_
    simp only [ua, ub, uc, ud]
    refine tx 26 43 hSS ?_
    simp only [ua, ub, uc, ud]
    refine tx 27 44 hSS ?_
    simp only [ua, ub, uc, ud]
    refine tx 28 45 hSS ?_
    simp only [ua, ub, uc, ud]
    refine tx 29 46 hSS ?_
    simp only [ua, ub, uc, ud]
    refine tx 30 47 hSS ?_
    simp only [ua, ub, uc, ud]
    refine tx 31 48 hSS ?_
    simp only [ua, ub, uc, ud]
    refine tx 32 49 hSS ?_
    simp only [ua, ub, uc, ud]
    refine tx 33 50 hSS ?_
    simp only [ua, ub, uc, ud]
    refine tx 34 51 hSS ?_
    simp only [ua, ub, uc, ud]
    refine AnyBut.step (i := 35) (by kernel_rfl) rfl (fun K hK => ?_)
    go_simp
    refine Calls.mono HS.out ?_
    rintro e w2 ⟨rfl, q, rfl⟩
    have HV : Hid (Below wr.heap.size wr (wr.drewN (1 + q))) := below_drewN (Below.refl _ wr) _
    have HV' : Hid (Below wr.heap.size wr (wr.drew.drewN q)) := below_drewN (Below.refl _ wr).drew q
    dsimp only
    refine hK.out _ _ (HC.out _ HV'.out) ?_
    clear hK hSS
    have hSS := HC.out _ HV'.out
    cases sb
    case false =>
      obtain rfl : d = 1 := HNE.out fun h => by
        have h1 := HSB.out
        rw [show xd = yd from congrArg (fun z => z.2.2) h] at h1
        simp at h1
      refine tx 36 53 hSS ?_
      simp only [ua, ub, uc, ud]
      refine tx 37 54 hSS ?_
      simp only [ua, ub, uc, ud]
      refine AnyBut.done (by kernel_rfl) ?_
      have HZ : Hid (Below w.heap.size w (wr.drewN (1 + q))) := below_any HB.out HV.out
      clear hSS
      go_wp2
      go_ret
      exact ⟨rfl, HZ.out⟩
    refine tx 36 53 hSS ?_
    simp only [ua, ub, uc, ud]
    refine tx 37 54 hSS ?_
    simp only [ua, ub, uc, ud]
    refine AnyBut.done (by kernel_rfl) ?_
    have HZ : Hid (Below w.heap.size w (wr.drewN (1 + q))) := below_any HB.out HV.out
    have HK2 : Hid (∀ (i : Nat), i < k + 1 → l1[i]? = l2[i]?) := fun i hi => by
      by_cases h9 : i < k
      · exact HK.out i h9
      · obtain rfl : i = k := by omega
        have h1 : xd = yd := of_decide_eq_true HSB.out.symm
        rw [HXY.out.1, HXY.out.2, h1]
    clear hSS g1c g2c
    go_wp2
    go_roundw
    case rel => exact ⟨k + 1, by omega, by go_num, HK2, HZ⟩
    case measure => simp [intOf]; omega

set_option maxRecDepth 100000 in
set_option maxHeartbeats 4000000 in
theorem alike_any (n1 n2 : Nat) (u1 u2 : List Value) (s1 s2 : Sg) (w : World) (h1 : sgN.lies n1 w u1 s1) (h2 : sgR.lies n2 w u2 s2) :
    Calls Try.prog 53 #[.agg u1.toArray, .agg u2.toArray] w fun e w' => e = .returned (.int .i64 (if s1 = s2 then 0 else 1)) ∧ Below w.heap.size w w' := by
  obtain ⟨a1, c1, rfl, hL1, hi1, hm1⟩ := sg_viewN h1
  obtain ⟨a2, c2, rfl, hL2, hi2, hm2⟩ := sg_viewR h2
  obtain ⟨q1, l1⟩ := s1
  obtain ⟨q2, l2⟩ := s2
  simp only at hL1 hL2 hm1 hm2 ⊢
  obtain ⟨W, hW⟩ : ∃ W, W = (w.alloc (.cells #[.int .i64 q1, .slice a1 l1.length c1] 45)).alloc (.cells #[.int .i64 q2, .slice a2 l2.length c2] 36) := ⟨_, rfl⟩
  have hb : Below w.heap.size w W := by rw [hW]; exact ((Below.refl _ w).alloc (Nat.le_refl _) _).alloc (by simp) _
  have hB1 : Box W w.heap.size 45 #[.int .i64 q1, .slice a1 l1.length c1] := by rw [hW]; exact (Box.new _ _ _).alloc _
  have hB2 : Box W (w.heap.size + 1) 36 #[.int .i64 q2, .slice a2 l2.length c2] := by
    rw [hW]
    have := Box.new (w.alloc (.cells #[.int .i64 q1, .slice a1 l1.length c1] 45)) 36 #[.int .i64 q2, .slice a2 l2.length c2]
    rwa [World.size_alloc] at this
  have HW : Hid (Below w.heap.size w W) := hb
  have HC := alikeBlocks_any n1 n2 _ _ l1 l2 W (bksN.below hL1 hb) (bksR.below hL2 hb)
  obtain ⟨p0, p1, _, _⟩ := hB1.two
  obtain ⟨r0, r1, _, _⟩ := hB2.two
  rw [hW] at p0 p1 r0 r1
  clear h1 h2 hL1 hL2 hi1 hi2 hb hB1 hB2 hm1 hm2
  by_cases hs : q1 = q2
  case neg =>
    rw [if_neg (fun e => hs (congrArg Prod.fst e))]
    rw [hW] at HW
    clear HC p0 p1 r0 r1 hW
    go_enter Try.func53, Try.ntmps53
    go_wp2
    go_ret
    exact ⟨rfl, HW.out⟩
  subst hs
  obtain ⟨d, hd⟩ : ∃ d : Int, d = if l1 = l2 then 0 else 1 := ⟨_, rfl⟩
  rw [← hd] at HC
  have hde : (if (q1, l1) = (q1, l2) then (0 : Int) else 1) = d := by
    rw [hd]
    by_cases h : l1 = l2
    · rw [if_pos h, if_pos (by rw [h])]
    · rw [if_neg h, if_neg (fun e => h (Prod.mk.inj e).2)]
  rw [hde]
  clear hd hde
  go_enter Try.func53, Try.ntmps53
  go_wp2_with fail
  rw [← hW]
  clear hW p0 p1 r0 r1
  refine HC.mono ?_
  rintro e w1 ⟨rfl, hb1⟩
  have HZ : Hid (Below w.heap.size w w1) := below_any HW.out hb1
  clear hb1 HC
  go_wp2
  go_ret
  exact ⟨rfl, HZ.out⟩

end Go.Proofs.Ytkpckadicjdieab
