import Derived.Test.YthlfgpnabcplnaaDoorTf17
import Derived.Deep.RegionHeld3
import Derived.StillTail
/-
  Regions that draw their order and end in one store that waits for all others: what may be read is taken first under a condition on memory that the store alone need not keep.
-/
namespace Go.Proofs.YthlfgpnabcplnaaDoor
open Go

/-- Whatever order is picked; S holds behind every operation but number t. -/
def AnyBut (P : Program) (md : Region.Mode) (ops : Array Oper) (Q : Exit → Act → World → Prop) (S : World → Prop) (t : Nat) : Nat → Array Bool → Act → World → Prop
  | 0, listed, a, w => Region.ready md ops listed = [] ∧ Q .normal a w
  | f + 1, listed, a, w => (Region.ready md ops listed = [] → Q .normal a w) ∧
      ∀ i ∈ Region.ready md ops listed, wpOp P ops Q i (fun a' w' => (i ≠ t → S w') ∧ AnyBut P md ops Q S t f (listed.setIfInBounds i true) a' w') a w

theorem AnyBut.any {P : Program} {ops : Array Oper} {Q : Exit → Act → World → Prop} {md : Region.Mode} {S : World → Prop} {t : Nat} : ∀ (f : Nat) (listed : Array Bool) (a : Act) (w : World), AnyBut P md ops Q S t f listed a w → wpAny P md ops Q f listed a w
  | 0, _, _, _, h => h
  | f + 1, _, _, _, h => ⟨h.1, fun i hi => wpOp_mono (fun a' w' k => AnyBut.any f _ a' w' k.2) (h.2 i hi)⟩

theorem ready_waits {ops : Array Oper} {md : Region.Mode} {i : Nat} {listed : Array Bool} {oj : Oper} {j : Nat} (hr : i ∈ Region.ready md ops listed) (hj : j ∈ Region.ready md ops listed) (ho : ops[j]? = some oj) : ∀ e ∈ oj.after, Region.binds md e = true → e.on ≠ i := by
  intro e he hb heq
  obtain ⟨_, oj', ho', hall⟩ := mem_ready.1 hj
  obtain rfl : oj' = oj := by rw [ho] at ho'; exact (Option.some.inj ho').symm
  have h1 := hall e he hb
  have h0 := (mem_ready.1 hr).1
  rw [heq] at h1
  rcases Nat.lt_or_ge i listed.size with h' | h'
  · simp [h'] at h0 h1; rw [h0] at h1; cases h1
  · simp [Array.getElem?_eq_none h'] at h1

/-- What yields in every world that meets S may be taken first, if number t waits for it. -/
theorem AnyBut.first {P : Program} {ops : Array Oper} {Q : Exit → Act → World → Prop} {md : Region.Mode} {S : World → Prop} {t : Nat} {i : Nat} {oi : Oper} {v : Value} (hi : ops[i]? = some oi) (hs : Region.noSelect ops = true) (hit : i ≠ t) (hw : Region.waitsFor md ops t i = true)
    (hQ : ∀ c a w, Q (.panic c) (a.put oi.dst v) w → Q (.panic c) a w) (f : Nat) : ∀ (listed : Array Bool) (a : Act) (w : World), Region.free md ops listed i = true → i ∈ Region.ready md ops listed → YieldsIf P ops S oi v a → S w →
      AnyBut P md ops Q S t f (listed.setIfInBounds i true) (a.put oi.dst v) w → AnyBut P md ops Q S t (f + 1) listed a w := by
  induction f with
  | zero =>
    intro listed a w hf hr hy hS H
    refine ⟨fun h => (by rw [h] at hr; cases hr), fun j hj => ?_⟩
    by_cases hji : j = i
    · subst hji
      exact hy.wpOp hi hS ⟨fun _ => hS, H⟩
    · have := ready_mono hj hji
      rw [H.1] at this
      cases this
  | succ f ih =>
    intro listed a w hf hr hy hS H
    refine ⟨fun h => (by rw [h] at hr; cases hr), fun j hj => ?_⟩
    by_cases hji : j = i
    · subst hji
      exact hy.wpOp hi hS ⟨fun _ => hS, H⟩
    · obtain ⟨hun, oj, hoj, _⟩ := mem_ready.1 hj
      have hno := ready_waits hr hj hoj
      have hjt : j ≠ t := by
        rintro rfl
        obtain ⟨o', ho', e, he, hb, hon⟩ := Region.waitsFor_spec hw
        obtain rfl : o' = oj := by rw [hoj] at ho'; exact (Option.some.inj ho').symm
        exact hno e he hb hon
      have h2 := wpOp_putIf hoj (Region.free_spec hi hf j oj hoj hji hun hno) (fun cs b => Region.noSelect_spec hs i oi cs b hi) (fun cs b => Region.noSelect_spec hs j oj cs b hoj) hQ hy (H.2 j (ready_mono hj hji))
      refine wpOp_mono (fun a' w' k => ⟨fun _ => k.2.1 hjt, ?_⟩) h2
      refine ih (listed.setIfInBounds j true) a' w' ?_ (ready_mono hr (Ne.symm hji)) k.1 (k.2.1 hjt) ?_
      · unfold Region.free at hf ⊢
        rw [hi] at hf ⊢
        simp only [List.all_eq_true, List.mem_range, Bool.or_eq_true] at hf ⊢
        intro x hx
        rcases hf x hx with (h | h) | h
        · exact .inl (.inl h)
        · refine .inl (.inr ?_)
          by_cases hjx : j = x
          · subst hjx; rw [hun] at h; cases h
          · rw [getD_set_ne true hjx]; exact h
        · exact .inr h
      · rw [Array.setIfInBounds_comm _ _ hji]
        exact k.2.2

/-- A read is taken first. -/
theorem AnyBut.take {P : Program} {ops : Array Oper} {Q : Exit → Act → World → Prop} {md : Region.Mode} {S : World → Prop} {t : Nat} {i : Nat} (d : Option Tmp) {oi : Oper} {v : Value} {f : Nat} {listed : Array Bool} {a : Act} {w : World} (hi : ops[i]? = some oi) (hd : oi.dst = d) (hs : Region.noSelect ops = true) (hit : (i == t) = false) (hw : Region.waitsFor md ops t i = true)
    (hf : Region.free md ops listed i = true) (hr : (Region.ready md ops listed).contains i = true) (hQ : ∀ c a w, Q (.panic c) (a.put d v) w → Q (.panic c) a w) (hy : YieldsIf P ops S oi v a) (hS : S w)
    (h : AnyBut P md ops Q S t f (listed.setIfInBounds i true) (a.put d v) w) : AnyBut P md ops Q S t (f + 1) listed a w := by
  subst hd
  exact AnyBut.first hi hs (by simpa using hit) hw hQ f listed a w hf (by simpa using hr) hy hS h

/-- One alone may come up. -/
theorem AnyBut.step {P : Program} {ops : Array Oper} {Q : Exit → Act → World → Prop} {md : Region.Mode} {S : World → Prop} {t : Nat} {i : Nat} {o : Oper} {f : Nat} {listed : Array Bool} {a : Act} {w : World} (hr : Region.ready md ops listed = [i]) (ho : ops[i]? = some o)
    (h : ∀ K : Act → World → Prop, Shut (∀ a w, S w → AnyBut P md ops Q S t f (listed.setIfInBounds i true) a w → K a w) → if Region.wanted o (yielded ops a.tmps) = true then Oper.wp P o a w K Q else K (a.put o.dst undef) w) : AnyBut P md ops Q S t (f + 1) listed a w := by
  refine ⟨fun h0 => (by rw [hr] at h0; cases h0), fun j hj => ?_⟩
  rw [hr] at hj
  obtain rfl : j = i := by simpa using hj
  exact wpOp_step ho fun K hK => h K fun a w hS hA => hK a w ⟨fun _ => hS, hA⟩

/-- The last one. -/
theorem AnyBut.last {P : Program} {ops : Array Oper} {Q : Exit → Act → World → Prop} {md : Region.Mode} {S : World → Prop} {t : Nat} {o : Oper} {f : Nat} {listed : Array Bool} {a : Act} {w : World} (hr : Region.ready md ops listed = [t]) (hn : Region.ready md ops (listed.setIfInBounds t true) = []) (ho : ops[t]? = some o)
    (h : ∀ K : Act → World → Prop, Shut (∀ a w, Q .normal a w → K a w) → if Region.wanted o (yielded ops a.tmps) = true then Oper.wp P o a w K Q else K (a.put o.dst undef) w) : AnyBut P md ops Q S t (f + 1) listed a w := by
  refine ⟨fun h0 => (by rw [hr] at h0; cases h0), fun j hj => ?_⟩
  rw [hr] at hj
  obtain rfl : j = t := by simpa using hj
  refine wpOp_step ho fun K hK => h K fun a w hq => hK a w ⟨fun hne => absurd rfl hne, ?_⟩
  match f with
  | 0 => exact ⟨hn, hq⟩
  | f + 1 => exact ⟨fun _ => hq, by rw [hn]; simp⟩

theorem AnyBut.begin {P : Program} {ops : Array Oper} {Q : Exit → Act → World → Prop} {id : Nat} {a : Act} {w : World} (S : World → Prop) (t : Nat) (hm : P.follows .mixedOrders = true)
    (h : AnyBut P .any ops Q S t ops.size (Array.replicate ops.size false) a w.drew) : (Code.region id ops true).wp P Q a w :=
  wp_region_any hm (AnyBut.any _ _ _ _ h)

end Go.Proofs.YthlfgpnabcplnaaDoor

/-
  Regions that draw their order and only read and call: every read is taken first, wanted or not; one call at a time.
-/
namespace Go.Proofs.YthlfgpnabcplnaaDoor
open Go

/-- A read is taken first; t is no operation. -/
theorem AnyBut.take0 {P : Program} {ops : Array Oper} {Q : Exit → Act → World → Prop} {md : Region.Mode} {S : World → Prop} {t : Nat} {i : Nat} (d : Option Tmp) {oi : Oper} {v : Value} {f : Nat} {listed : Array Bool} {a : Act} {w : World} (hi : ops[i]? = some oi) (hd : oi.dst = d) (hs : Region.noSelect ops = true) (ht : ops.size ≤ t)
    (hf : Region.free md ops listed i = true) (hr : (Region.ready md ops listed).contains i = true) (hQ : ∀ c a w, Q (.panic c) (a.put d v) w → Q (.panic c) a w) (hy : YieldsIf P ops S oi v a) (hS : S w)
    (h : AnyBut P md ops Q S t f (listed.setIfInBounds i true) (a.put d v) w) : AnyBut P md ops Q S t (f + 1) listed a w := by
  subst hd
  have hr' : i ∈ Region.ready md ops listed := by simpa using hr
  clear hr
  induction f generalizing listed a w with
  | zero =>
    refine ⟨fun h0 => (by rw [h0] at hr'; cases hr'), fun j hj => ?_⟩
    by_cases hji : j = i
    · subst hji
      exact hy.wpOp hi hS ⟨fun _ => hS, h⟩
    · have := ready_mono hj hji
      rw [h.1] at this
      cases this
  | succ f ih =>
    refine ⟨fun h0 => (by rw [h0] at hr'; cases hr'), fun j hj => ?_⟩
    by_cases hji : j = i
    · subst hji
      exact hy.wpOp hi hS ⟨fun _ => hS, h⟩
    · obtain ⟨hun, oj, hoj, _⟩ := mem_ready.1 hj
      have hno := ready_waits hr' hj hoj
      have hjt : j ≠ t := by
        have := (Array.getElem?_eq_some_iff.1 hoj).1
        omega
      have h2 := wpOp_putIf hoj (Region.free_spec hi hf j oj hoj hji hun hno) (fun cs b => Region.noSelect_spec hs i oi cs b hi) (fun cs b => Region.noSelect_spec hs j oj cs b hoj) hQ hy (h.2 j (ready_mono hj hji))
      refine wpOp_mono (fun a' w' k => ⟨fun _ => k.2.1 hjt, ?_⟩) h2
      refine ih (listed := listed.setIfInBounds j true) (a := a') (w := w') ?_ k.1 (k.2.1 hjt) ?_ (ready_mono hr' (Ne.symm hji))
      · unfold Region.free at hf ⊢
        rw [hi] at hf ⊢
        simp only [List.all_eq_true, List.mem_range, Bool.or_eq_true] at hf ⊢
        intro x hx
        rcases hf x hx with (h | h) | h
        · exact .inl (.inl h)
        · refine .inl (.inr ?_)
          by_cases hjx : j = x
          · subst hjx; rw [hun] at h; cases h
          · rw [getD_set_ne true hjx]; exact h
        · exact .inr h
      · rw [Array.setIfInBounds_comm _ _ hji]
        exact k.2.2
/-- The same, its closed facts as one. -/
theorem AnyBut.tk {P : Program} {ops : Array Oper} {Q : Exit → Act → World → Prop} {md : Region.Mode} {S : World → Prop} {t : Nat} (i : Nat) (d : Tmp) (v : Value) {oi : Oper} {f : Nat} {listed : Array Bool} {a : Act} {w : World} (hi : ops[i]? = some oi) (hd : oi.dst = some d)
    (hc : (Region.noSelect ops && Nat.ble ops.size t && Region.free md ops listed i && (Region.ready md ops listed).contains i) = true) (hQ : ∀ c a w, Q (.panic c) (a.put (some d) v) w → Q (.panic c) a w) (hy : YieldsIf P ops S oi v a) (hS : S w)
    (h : AnyBut P md ops Q S t f (listed.setIfInBounds i true) (a.put (some d) v) w) : AnyBut P md ops Q S t (f + 1) listed a w := by
  simp only [Bool.and_eq_true] at hc
  exact AnyBut.take0 (some d) hi hd hc.1.1.1 (Nat.le_of_ble_eq_true hc.1.1.2) hc.1.2 hc.2 hQ hy hS h
/-- All is done. -/
theorem AnyBut.done {P : Program} {ops : Array Oper} {Q : Exit → Act → World → Prop} {md : Region.Mode} {S : World → Prop} {t : Nat} {f : Nat} {listed : Array Bool} {a : Act} {w : World} (hn : Region.ready md ops listed = []) (hq : Q .normal a w) : AnyBut P md ops Q S t f listed a w := by
  match f with
  | 0 => exact ⟨hn, hq⟩
  | f + 1 => exact ⟨fun _ => hq, by rw [hn]; simp⟩

/-! Short words for what is said often. -/

theorem ua (T : Array Value) (D) (d : Nat) (v : Value) : Act.put ⟨T, D⟩ (some d) v = ⟨T.setIfInBounds d v, D⟩ := rfl
theorem ub {α : Type} (l : List α) (i : Nat) (a : α) : l.toArray.setIfInBounds i a = (l.set i a).toArray := List.setIfInBounds_toArray ..
theorem uc {α : Type} (x y : α) (l : List α) : (x :: l).set 0 y = y :: l := rfl
theorem ud {α : Type} (x y : α) (l : List α) (n : Nat) : (x :: l).set (n + 1) y = x :: l.set n y := rfl
/-- A read that is wanted. -/
theorem tw {P : Program} {ops : Array Oper} {Q : Exit → Act → World → Prop} {md : Region.Mode} {S : World → Prop} {t : Nat} (i : Nat) (d : Tmp) (v : Value) {oi : Oper} {f : Nat} {listed : Array Bool} {a : Act} {w : World} (hS : S w) (hy : ∀ w, S w → (execOp a.eval oi).run P w = .ok (.value v) w)
    (h : AnyBut P md ops Q S t f (listed.setIfInBounds i true) (a.put (some d) v) w) (hi : ops[i]? = some oi := by rfl) (hd : oi.dst = some d := by rfl)
    (hc : (Region.noSelect ops && Nat.ble ops.size t && Region.free md ops listed i && (Region.ready md ops listed).contains i) = true := by kernel_rfl) (hQ : ∀ c a w, Q (.panic c) (a.put (some d) v) w → Q (.panic c) a w := by exact fun _ _ _ h => h) (hw : Region.wanted oi (yielded ops a.tmps) = true := by rfl) : AnyBut P md ops Q S t (f + 1) listed a w :=
  AnyBut.tk i d v hi hd hc hQ (.inl ⟨hw, hy⟩) hS h
/-- One that is not. -/
theorem tu {P : Program} {ops : Array Oper} {Q : Exit → Act → World → Prop} {md : Region.Mode} {S : World → Prop} {t : Nat} (i : Nat) (d : Tmp) {oi : Oper} {f : Nat} {listed : Array Bool} {a : Act} {w : World} (hS : S w)
    (h : AnyBut P md ops Q S t f (listed.setIfInBounds i true) (a.put (some d) undef) w) (hi : ops[i]? = some oi := by rfl) (hd : oi.dst = some d := by rfl)
    (hc : (Region.noSelect ops && Nat.ble ops.size t && Region.free md ops listed i && (Region.ready md ops listed).contains i) = true := by kernel_rfl) (hQ : ∀ c a w, Q (.panic c) (a.put (some d) undef) w → Q (.panic c) a w := by exact fun _ _ _ h => h) (hw : Region.wanted oi (yielded ops a.tmps) = false := by rfl) : AnyBut P md ops Q S t (f + 1) listed a w :=
  AnyBut.tk i d undef hi hd hc hQ (.inr ⟨hw, rfl⟩) hS h
/-- A read that the last operation waits for. -/
theorem tt {P : Program} {ops : Array Oper} {Q : Exit → Act → World → Prop} {md : Region.Mode} {S : World → Prop} {t : Nat} (i : Nat) (d : Tmp) (v : Value) {oi : Oper} {f : Nat} {listed : Array Bool} {a : Act} {w : World} (hS : S w) (hy : ∀ w, S w → (execOp a.eval oi).run P w = .ok (.value v) w)
    (h : AnyBut P md ops Q S t f (listed.setIfInBounds i true) (a.put (some d) v) w) (hi : ops[i]? = some oi := by rfl) (hd : oi.dst = some d := by rfl)
    (hc : (Region.noSelect ops && !(i == t) && Region.waitsFor md ops t i && Region.free md ops listed i && (Region.ready md ops listed).contains i) = true := by kernel_rfl) (hQ : ∀ c a w, Q (.panic c) (a.put (some d) v) w → Q (.panic c) a w := by exact fun _ _ _ h => h) (hw : Region.wanted oi (yielded ops a.tmps) = true := by rfl) : AnyBut P md ops Q S t (f + 1) listed a w := by
  simp only [Bool.and_eq_true, Bool.not_eq_true'] at hc
  exact AnyBut.take (some d) hi hd hc.1.1.1.1 hc.1.1.1.2 hc.1.1.2 hc.1.2 hc.2 hQ (.inl ⟨hw, hy⟩) hS h

/-- The same; the read is told by the walk itself. -/
theorem tx {P : Program} {ops : Array Oper} {Q : Exit → Act → World → Prop} {md : Region.Mode} {S : World → Prop} {t : Nat} (i : Nat) (d : Tmp) {v : Value} {oi : Oper} {f : Nat} {listed : Array Bool} {a : Act} {w : World} (hS : S w)
    (h : AnyBut P md ops Q S t f (listed.setIfInBounds i true) (a.put (some d) v) w) (hi : ops[i]? = some oi := by rfl) (hd : oi.dst = some d := by rfl) (hy : ∀ w, S w → (execOp a.eval oi).run P w = .ok (.value v) w := by (intro W hSW; (try dsimp only at hSW); go_simp; try with_reducible rfl))
    (hc : (Region.noSelect ops && Nat.ble ops.size t && Region.free md ops listed i && (Region.ready md ops listed).contains i) = true := by kernel_rfl) (hQ : ∀ c a w, Q (.panic c) (a.put (some d) v) w → Q (.panic c) a w := by exact fun _ _ _ h => h) (hw : Region.wanted oi (yielded ops a.tmps) = true := by rfl) : AnyBut P md ops Q S t (f + 1) listed a w :=
  AnyBut.tk i d v hi hd hc hQ (.inl ⟨hw, hy⟩) hS h
/-! Many that are not wanted, at once. -/

def skL : List (Nat × Nat) → Array Bool → Array Bool
  | [], listed => listed
  | (i, _) :: r, listed => skL r (listed.setIfInBounds i true)
def skA : List (Nat × Nat) → Act → Act
  | [], a => a
  | (_, d) :: r, a => skA r (a.put (some d) undef)
def skB (md : Region.Mode) (ops : Array Oper) : List (Nat × Nat) → Array Bool → Act → Bool
  | [], _, _ => true
  | (i, d) :: r, listed, a => (match ops[i]? with | some oi => (match oi.dst with | some e => Nat.beq e d | none => false) && !Region.wanted oi (yielded ops a.tmps) | none => false) && Region.free md ops listed i && (Region.ready md ops listed).contains i && skB md ops r (listed.setIfInBounds i true) (a.put (some d) undef)
theorem tus {P : Program} {ops : Array Oper} {Q : Exit → Act → World → Prop} {md : Region.Mode} {S : World → Prop} {t : Nat} (n : Nat) (L : List (Nat × Nat)) {f : Nat} {listed : Array Bool} {a : Act} {w : World} (hS : S w)
    (h : AnyBut P md ops Q S t f (skL L listed) (skA L a) w) (hn : L.length = n := by rfl)
    (hc : (Region.noSelect ops && Nat.ble ops.size t && skB md ops L listed a) = true := by kernel_rfl) (hQ : ∀ c a w d, Q (.panic c) (a.put (some d) undef) w → Q (.panic c) a w := by exact fun _ _ _ _ h => h) : AnyBut P md ops Q S t (f + n) listed a w := by
  subst hn
  simp only [Bool.and_eq_true] at hc
  obtain ⟨⟨h1, h2⟩, h3⟩ := hc
  induction L generalizing listed a with
  | nil => exact h
  | cons p r ih =>
    obtain ⟨i, d⟩ := p
    simp only [skB, Bool.and_eq_true] at h3
    obtain ⟨⟨⟨a1, a2⟩, a3⟩, a4⟩ := h3
    cases ho : ops[i]? with
    | none => rw [ho] at a1; cases a1
    | some oi =>
      rw [ho] at a1
      simp only [Bool.and_eq_true, Bool.not_eq_true'] at a1
      obtain ⟨b1, b2⟩ := a1
      cases hd : oi.dst with
      | none => rw [hd] at b1; cases b1
      | some e =>
        rw [hd] at b1
        obtain rfl : e = d := Nat.eq_of_beq_eq_true b1
        exact AnyBut.take0 (some e) ho hd h1 (Nat.le_of_ble_eq_true h2) a2 a3 (fun c a w => hQ c a w e) (.inr ⟨b2, rfl⟩) hS (ih h a4)

end Go.Proofs.YthlfgpnabcplnaaDoor

/-
  Regions in which two or three things may come up.
-/
namespace Go.Proofs.YthlfgpnabcplnaaDoor
open Go.RowKit

theorem AnyBut.two {P : Program} {ops : Array Oper} {Q : Exit → Act → World → Prop} {md : Region.Mode} {S : World → Prop} {t : Nat} {i j : Nat} {oi oj : Oper} {f : Nat} {listed : Array Bool} {a : Act} {w : World} (hr : Region.ready md ops listed = [i, j]) (ho : ops[i]? = some oi) (ho2 : ops[j]? = some oj)
    (h : ∀ K : Act → World → Prop, Shut (∀ a w, S w → AnyBut P md ops Q S t f (listed.setIfInBounds i true) a w → K a w) → if Region.wanted oi (yielded ops a.tmps) = true then Oper.wp P oi a w K Q else K (a.put oi.dst undef) w)
    (h2 : ∀ K : Act → World → Prop, Shut (∀ a w, S w → AnyBut P md ops Q S t f (listed.setIfInBounds j true) a w → K a w) → if Region.wanted oj (yielded ops a.tmps) = true then Oper.wp P oj a w K Q else K (a.put oj.dst undef) w) : AnyBut P md ops Q S t (f + 1) listed a w := by
  refine ⟨fun h0 => (by rw [hr] at h0; cases h0), fun k hk => ?_⟩
  rw [hr] at hk
  rcases List.mem_cons.1 hk with rfl | hk
  · exact wpOp_step ho fun K hK => h K fun a w hS hA => hK a w ⟨fun _ => hS, hA⟩
  · obtain rfl := List.mem_singleton.1 hk
    exact wpOp_step ho2 fun K hK => h2 K fun a w hS hA => hK a w ⟨fun _ => hS, hA⟩

theorem AnyBut.three {P : Program} {ops : Array Oper} {Q : Exit → Act → World → Prop} {md : Region.Mode} {S : World → Prop} {t : Nat} {i j k : Nat} {oi oj ok : Oper} {f : Nat} {listed : Array Bool} {a : Act} {w : World} (hr : Region.ready md ops listed = [i, j, k]) (ho : ops[i]? = some oi) (ho2 : ops[j]? = some oj) (ho3 : ops[k]? = some ok)
    (h : ∀ K : Act → World → Prop, Shut (∀ a w, S w → AnyBut P md ops Q S t f (listed.setIfInBounds i true) a w → K a w) → if Region.wanted oi (yielded ops a.tmps) = true then Oper.wp P oi a w K Q else K (a.put oi.dst undef) w)
    (h2 : ∀ K : Act → World → Prop, Shut (∀ a w, S w → AnyBut P md ops Q S t f (listed.setIfInBounds j true) a w → K a w) → if Region.wanted oj (yielded ops a.tmps) = true then Oper.wp P oj a w K Q else K (a.put oj.dst undef) w)
    (h3 : ∀ K : Act → World → Prop, Shut (∀ a w, S w → AnyBut P md ops Q S t f (listed.setIfInBounds k true) a w → K a w) → if Region.wanted ok (yielded ops a.tmps) = true then Oper.wp P ok a w K Q else K (a.put ok.dst undef) w) : AnyBut P md ops Q S t (f + 1) listed a w := by
  refine ⟨fun h0 => (by rw [hr] at h0; cases h0), fun m hm => ?_⟩
  rw [hr] at hm
  rcases List.mem_cons.1 hm with rfl | hm
  · exact wpOp_step ho fun K hK => h K fun a w hS hA => hK a w ⟨fun _ => hS, hA⟩
  rcases List.mem_cons.1 hm with rfl | hm
  · exact wpOp_step ho2 fun K hK => h2 K fun a w hS hA => hK a w ⟨fun _ => hS, hA⟩
  · obtain rfl := List.mem_singleton.1 hm
    exact wpOp_step ho3 fun K hK => h3 K fun a w hS hA => hK a w ⟨fun _ => hS, hA⟩

end Go.Proofs.YthlfgpnabcplnaaDoor
