/-
  A map of rows of 32 octets, by numbers: what it holds, what is looked up, laid in, and met by a range.
-/
import Derived.Test.YtopcefhncildnaaGreatDoorZ17
import Derived.Maps.RangeWalk
namespace Go.Proofs.YtopcefhncildnaaGreatDoor.F
open Go.RowKit
open Go.Maps (Keyed)
def elR (v : Value) : Option (DataW Unit × List MemPlace) :=
 match v with
 | .slice (some ⟨g, 0, none⟩) 32 32 => some (.lit (.int .u64 g), [])
 | .slice none 0 0 => some (.nil, [])
 | _ => none
theorem elR_row (g : Nat) : elR (rowV g) = some (.lit (.int .u64 g), []) := rfl
theorem elR_nil : elR (.slice none 0 0) = some (.nil, []) := rfl
theorem elR_inv {v : Value} {g : Nat} {ps : List MemPlace} (h : elR v = some (.lit (.int .u64 g), ps)) : v = rowV g := by
 unfold elR at h
 split at h
 · simp at h
   obtain ⟨h1, _⟩ := h
   have : (_ : Nat) = g := Int.ofNat_inj.1 h1
   rw [this]; rfl
 · simp at h
 · cases h
theorem keyed3 : Keyed Tryz.prog 3 := Maps.int_keyed Tryz.underlying3
def kl (j : Nat) : Lit := .int .i64 j
theorem kl_wf {j : Nat} (h : j < 76) : (kl j).wf = true := I64.wf (x := (j : Int)) ⟨by omega, by omega⟩
theorem kl_key {j : Nat} (h : j < 76) : keyOf Tryz.prog 3 (.int .i64 j) = some (kl j) := Maps.keyOf_int_mk Tryz.underlying3 (kl_wf h)
theorem kl_inj {i j : Nat} (h : kl i = kl j) : i = j := by
 unfold kl at h
 have := (Lit.int.inj h).2
 exact Int.ofNat_inj.1 this
theorem kl_is {j : Nat} (h : j < 76) : WideAt.IsKeyLit (kl j) := keyed3.key (kl_key h)
theorem zero25 (w : World) : (zeroValue 25).run Tryz.prog w = .ok (.slice none 0 0) w := by
 have h : (Tryz.prog.info? 25).map (·.zero) = some (some (.slice none 0 0)) := by kernel_rfl
 obtain ⟨i, hi, hz⟩ := Option.map_eq_some_iff.1 h
 simp [zeroValue, typeInfo, hi, hz]
def upd {α : Type} (f : Nat → α) (j : Nat) (x : α) : Nat → α := fun i => if i = j then x else f i
theorem upd_same {α : Type} (f : Nat → α) (j : Nat) (x : α) : upd f j x j = x := if_pos rfl
theorem upd_other {α : Type} (f : Nat → α) {i j : Nat} (x : α) (h : i ≠ j) : upd f j x i = f i := if_neg h
structure Rep (D : DataW Unit) (n0 : Nat) (w : World) (b : Nat) (M : Nat → Option Nat) (T : Nat → List Int) : Prop where
 base : n0 ≤ b
 none : ∀ j, M j = none → T j = zs
 hasNot : ∀ j, M j = .none → Maps.has D (kl j) = false
 hasIt : ∀ j g, M j = some g → Maps.has D (kl j) = true ∧ ∀ z, D.atKey (kl j) z = .lit (.int .u64 g)
 row : ∀ j g, M j = some g → j < 76 ∧ n0 ≤ g ∧ Row w g (T j)
 keys : ∀ k, Maps.has D k = true → ∃ j, k = kl j
 inj : ∀ i j g, M i = some g → M j = some g → i = j
def MT (n0 c : Nat) (w : World) (b : Nat) (M : Nat → Option Nat) (T : Nat → List Int) : Prop := ∃ D, w.ownsMap Tryz.prog 3 elR b c D ∧ Rep D n0 w b M T
theorem MT.made (w : World) (n0 : Nat) (h : n0 ≤ w.heap.size) : MT n0 0 (w.alloc (.map #[] 0)) w.heap.size (fun _ => none) (fun _ => zs) :=
 ⟨_, World.ownsMap_made w Tryz.prog 3 elR, h, fun _ _ => rfl, fun _ _ => rfl, fun _ _ h => (by cases h), fun _ _ h => (by cases h), fun k hk => (by cases hk), fun _ _ _ h => (by cases h)⟩
theorem MT.lt {n0 c : Nat} {w : World} {b : Nat} {M : Nat → Option Nat} {T : Nat → List Int} (h : MT n0 c w b M T) : b < w.heap.size := let ⟨_, h1, _⟩ := h; h1.lt
def Far (w : World) (row : Option Nat) : Prop := ∀ g, row = some g → g < w.heap.size → ∃ cs e fr, w.heap[g]? = some (.cells cs e fr) ∧ e ≠ 5
theorem Far.none (w : World) : Far w .none := fun _ h => by cases h
theorem Far.box {w : World} {B : Nat} {t : TypeId} {cs : Array Value} (h : Box w B t cs) (ht : t ≠ 5) : Far w (some B) := fun g hg _ => by cases hg; exact ⟨_, _, _, h, ht⟩
theorem Far.own {w : World} {base : Nat} {e : TypeId} {size : Nat} {v : Value} {n : Nat} {xs : List Value} (ho : w.ownsRow base e size v n xs) (he : e ≠ 5) : Far w v.ownBlock := fun g hg _ => by
 rcases ho.2 with ⟨rfl, _⟩ | ⟨g', cap, cur, rfl, _, hg', _⟩
 · simp [Value.ownBlock] at hg
 · obtain rfl : g' = g := by simpa [Value.ownBlock] using hg
   exact ⟨_, _, _, hg', he⟩
theorem Far.row {w : World} {row : Option Nat} {g : Nat} {l : List Int} (h : Far w row) (hr : Row w g l) : some g ≠ row := fun e => by
 obtain ⟨cs, t, fr, h1, h2⟩ := h g e.symm hr.lt
 rw [hr.1] at h1
 simp at h1
 exact h2 h1.2.1.symm
theorem Far.map {w : World} {row : Option Nat} {b : Nat} {es : Array MapEntry} {c : Nat} (h : Far w row) (hb : w.heap[b]? = some (.map es c)) : some b ≠ row := fun e => by
 obtain ⟨cs, t, fr, h1, _⟩ := h b e.symm (Array.getElem?_eq_some_iff.1 hb).1
 rw [hb] at h1
 cases h1
theorem Rep.grown {D : DataW Unit} {n0 : Nat} {w w' : World} {b : Nat} {M : Nat → Option Nat} {T : Nat → List Int} {row : Option Nat} (h : Rep D n0 w b M T) (hg : w.grownBy w' row) (hf : Far w row) : Rep D n0 w' b M T :=
 { h with row := fun j g hj => ⟨(h.row j g hj).1, (h.row j g hj).2.1, (h.row j g hj).2.2.grown hg (hf.row (h.row j g hj).2.2)⟩ }
theorem Rep.same {D : DataW Unit} {n0 : Nat} {w w' : World} {b : Nat} {M : Nat → Option Nat} {T : Nat → List Int} (h : Rep D n0 w b M T) (hs : Same n0 w w') : Rep D n0 w' b M T :=
 { h with row := fun j g hj => ⟨(h.row j g hj).1, (h.row j g hj).2.1, (h.row j g hj).2.2.kept (hs g (h.row j g hj).2.1 (h.row j g hj).2.2.lt)⟩ }
theorem MT.grown {n0 c : Nat} {w w' : World} {b : Nat} {M : Nat → Option Nat} {T : Nat → List Int} {row : Option Nat} (h : MT n0 c w b M T) (hg : w.grownBy w' row) (hf : Far w row) : MT n0 c w' b M T := by
 obtain ⟨D, h1, h2⟩ := h
 obtain ⟨es, clock, hb, _⟩ := id h1
 exact ⟨D, h1.kept hg (hf.map hb), h2.grown hg hf⟩
theorem MT.same {n0 c : Nat} {w w' : World} {b : Nat} {M : Nat → Option Nat} {T : Nat → List Int} (h : MT n0 c w b M T) (hs : Same n0 w w') : MT n0 c w' b M T := by
 obtain ⟨D, h1, h2⟩ := h
 have hlt := h1.lt
 obtain ⟨es, clock, hb, h3⟩ := h1
 exact ⟨D, ⟨es, clock, (hs b h2.base hlt).trans hb, h3⟩, h2.same hs⟩
theorem MT.below {n0 c : Nat} {w w' : World} {b : Nat} {M : Nat → Option Nat} {T : Nat → List Int} (h : MT n0 c w b M T) (hb : Below w.heap.size w w') : MT n0 c w' b M T := h.same (.of_below hb)
theorem MT.row {n0 c : Nat} {w : World} {b : Nat} {M : Nat → Option Nat} {T : Nat → List Int} (h : MT n0 c w b M T) {j g : Nat} (hj : M j = some g) : j < 76 ∧ n0 ≤ g ∧ Row w g (T j) := let ⟨_, _, h2⟩ := h; h2.row j g hj
theorem MT.zero {n0 c : Nat} {w : World} {b : Nat} {M : Nat → Option Nat} {T : Nat → List Int} (h : MT n0 c w b M T) {j : Nat} (hj : M j = none) : T j = zs := let ⟨_, _, h2⟩ := h; h2.none j hj
theorem MT.base {n0 c : Nat} {w : World} {b : Nat} {M : Nat → Option Nat} {T : Nat → List Int} (h : MT n0 c w b M T) : n0 ≤ b := let ⟨_, _, h2⟩ := h; h2.base
theorem MT.look {n0 c : Nat} {w : World} {b : Nat} {M : Nat → Option Nat} {T : Nat → List Int} (h : MT n0 c w b M T) {j g : Nat} (hj : M j = some g) : (Instr.lookup 170 (.map (some b)) (.int .i64 j) false).run Tryz.prog w = .ok (rowV g) w := by
 obtain ⟨D, h1, h2⟩ := h
 obtain ⟨v, ps, hrun, hv⟩ := h1.lookup keyed3 Tryz.underlying170 (zero25 w) elR_nil (kl_key (h2.row j g hj).1)
 rw [(h2.hasIt j g hj).2] at hv
 rw [hrun, elR_inv hv]
theorem MT.update {n0 c : Nat} {w : World} {b : Nat} {M : Nat → Option Nat} {T : Nat → List Int} (h : MT n0 c w b M T) {j g : Nat} {l : List Int} (hj : M j = none) (hlt : j < 76) (hr : Row w g l) (hn : n0 ≤ g) (hfresh : ∀ i, M i ≠ some g) (hc : c < 1000) :
   ∃ w', (Instr.mapUpdate 170 (.map (some b)) (.int .i64 j) (rowV g)).run Tryz.prog w = .ok () w' ∧ MT n0 (c + 1) w' b (upd M j (some g)) (upd T j l) ∧ w.grownBy w' (some b) := by
 obtain ⟨D, h1, h2⟩ := h
 obtain ⟨w', hrun, h3, hg⟩ := h1.update keyed3 Tryz.underlying170 (by unfold maxLen; omega) (kl_key hlt) (elR_row g)
 have hD := h1.isMap
 obtain ⟨es, clock, hb, _⟩ := id h1
 have keep : ∀ {g' : Nat} {l' : List Int}, Row w g' l' → Row w' g' l' := fun hr' => hr'.grown hg fun e => by (
 cases e
 have := hr'.1
 rw [hb] at this
 cases this)
 refine ⟨w', hrun, ⟨_, h3, h2.base, fun i hi => ?_, fun i hi => ?_, fun i g' hi => ?_, fun i g' hi => ?_, fun k hk => ?_, fun i i' g' hi hi' => ?_⟩, hg⟩
 · by_cases e : i = j
   · subst e; rw [upd_same] at hi; cases hi
   · rw [upd_other _ _ e] at hi ⊢
     exact h2.none i hi
 · by_cases e : i = j
   · subst e; rw [upd_same] at hi; cases hi
   · rw [upd_other _ _ e] at hi
     rw [Maps.has_put_other (fun e' => e (kl_inj e'))]
     exact h2.hasNot i hi
 · by_cases e : i = j
   · subst e
     rw [upd_same] at hi
     cases hi
     exact ⟨Maps.has_put_same hD (kl_is hlt) _, fun z => Maps.atKey_put_same hD (kl_is hlt) _ z⟩
   · rw [upd_other _ _ e] at hi
     refine ⟨by rw [Maps.has_put_other (fun e' => e (kl_inj e'))]; exact (h2.hasIt i g' hi).1, fun z => ?_⟩
     rw [Maps.atKey_put_other (fun e' => e (kl_inj e'))]
     exact (h2.hasIt i g' hi).2 z
 · by_cases e : i = j
   · subst e
     rw [upd_same] at hi
     cases hi
     rw [upd_same]
     exact ⟨hlt, hn, keep hr⟩
   · rw [upd_other _ _ e] at hi ⊢
     exact ⟨(h2.row i g' hi).1, (h2.row i g' hi).2.1, keep (h2.row i g' hi).2.2⟩
 · by_cases e : k = kl j
   · exact ⟨j, e⟩
   · rw [Maps.has_put_other e] at hk
     exact h2.keys k hk
 · by_cases e : i = j
   · subst e
     rw [upd_same] at hi
     cases hi
     by_cases e' : i' = i
     · exact e'.symm
     · rw [upd_other _ _ e'] at hi'
       exact absurd hi' (hfresh i')
   · rw [upd_other _ _ e] at hi
     by_cases e' : i' = j
     · subst e'
       rw [upd_same] at hi'
       cases hi'
       exact absurd hi (hfresh i)
     · rw [upd_other _ _ e'] at hi'
       exact h2.inj i i' g' hi hi'
def RG (n0 c : Nat) (w : World) (b r : Nat) (M : Nat → Option Nat) (T : Nat → List Int) (left : Nat → Bool) (cnt : Nat) : Prop :=
 ∃ D L, w.ranges Tryz.prog 3 elR b r c D L cnt ∧ Rep D n0 w b M T ∧ (∀ j, L (kl j) = left j) ∧ (∀ j, left j = true → (M j).isSome = true) ∧ cnt ≤ c
theorem RG.lt {n0 c : Nat} {w : World} {b r : Nat} {M : Nat → Option Nat} {T : Nat → List Int} {left : Nat → Bool} {cnt : Nat} (h : RG n0 c w b r M T left cnt) : r < w.heap.size := let ⟨_, _, h1, _⟩ := h; h1.lt
theorem Far.iter {w : World} {row : Option Nat} {b : Nat} {a : Option Nat} {s c : Nat} {se : Array Nat} (h : Far w row) (hb : w.heap[b]? = some (.mapIter a s se c)) : some b ≠ row := fun e => by
 obtain ⟨cs, t, fr, h1, _⟩ := h b e.symm (Array.getElem?_eq_some_iff.1 hb).1
 rw [hb] at h1
 cases h1
theorem RG.grown {n0 c : Nat} {w w' : World} {b r : Nat} {M : Nat → Option Nat} {T : Nat → List Int} {left : Nat → Bool} {cnt : Nat} {row : Option Nat} (h : RG n0 c w b r M T left cnt) (hg : w.grownBy w' row) (hf : Far w row) : RG n0 c w' b r M T left cnt := by
 obtain ⟨D, L, h1, h2, h3⟩ := h
 obtain ⟨es, clock, since, seen, c0, hb, _, _, _, hr, _⟩ := id h1
 exact ⟨D, L, h1.kept hg (hf.map hb) (hf.iter hr), h2.grown hg hf, h3⟩
theorem MT.range {n0 c : Nat} {w : World} {b : Nat} {M : Nat → Option Nat} {T : Nat → List Int} (h : MT n0 c w b M T) :
   ∃ w' cnt, (Instr.range 170 (.map (some b))).run Tryz.prog w = .ok (.pointer (some ⟨w.heap.size, 0, none⟩)) w' ∧ RG n0 c w' b w.heap.size M T (fun j => (M j).isSome) cnt ∧ w.grownBy w' none ∧ w'.heap.size = w.heap.size + 1 := by
 obtain ⟨D, h1, h2⟩ := h
 obtain ⟨w', hrun, h3, hg, hs⟩ := h1.range keyed3 Tryz.underlying170
 refine ⟨w', _, hrun, ⟨D, _, h3, h2.grown hg (Far.none _), fun j => ?_, fun j hj => hj, h1.size_le⟩, hg, hs⟩
 show Maps.has D (kl j) = (M j).isSome
 cases hm : M j with
 | none => exact h2.hasNot j hm
 | some g => exact (h2.hasIt j g hm).1
theorem RG.next {n0 c : Nat} {w : World} {b r : Nat} {M : Nat → Option Nat} {T : Nat → List Int} {left : Nat → Bool} {cnt : Nat} (h : RG n0 c w b r M T left cnt) (ty : TypeId) :
   ((∀ j, left j = false) ∧ (Instr.next (.pointer (some ⟨r, 0, none⟩)) false ty).run Tryz.prog w = .ok (.tuple #[.bool false]) w) ∨
   ∃ (j g : Nat) (w' : World) (cnt' : Nat), M j = some g ∧ left j = true ∧ (Instr.next (.pointer (some ⟨r, 0, none⟩)) false ty).run Tryz.prog w = .ok (.tuple #[.bool true, .int .i64 j, rowV g]) w' ∧
     RG n0 c w' b r M T (fun i => left i && !decide (i = j)) cnt' ∧ cnt' < cnt ∧ w.grownBy w' (some r) ∧ w'.heap.size = w.heap.size ∧ (Instr.entry (.pointer (some ⟨r, 0, none⟩))).run Tryz.prog w' = .ok (.tuple #[.int .i64 j, rowV g]) w' := by
 obtain ⟨D, L, h1, h2, h3, h4, h5⟩ := h
 obtain ⟨es, clock, since, seen, c0, _, _, _, _, hr, _⟩ := id h1
 rcases h1.next keyed3 ty with ⟨h0, hl, hrun⟩ | ⟨key, v, k, y, w', cnt', hkey, hlk, hv, hat, hrun, hrg, hlt, hgr, hsz, hen⟩
 · exact .inl ⟨fun j => by rw [← h3 j]; exact hl _, hrun⟩
 · have hh : Maps.has D k = true := Maps.has_true_of_atKey hat
   obtain ⟨j, rfl⟩ := h2.keys k hh
   have hlj : left j = true := by rw [← h3 j]; exact hlk
   obtain ⟨g, hg⟩ := Option.isSome_iff_exists.1 (h4 j hlj)
   obtain ⟨x, rfl, hx, _⟩ := Maps.keyOf_int_inv Tryz.underlying3 hkey
   obtain rfl : x = (j : Int) := by (
 unfold kl at hx
 exact (Lit.int.inj hx).2.symm)
   have hvg : v = rowV g := by (
 obtain ⟨y1, y2⟩ := y
 have := hat .nil
 rw [(h2.hasIt j g hg).2] at this
 simp only at this
 rw [← this] at hv
 exact elR_inv hv)
   subst hvg
   refine .inr ⟨j, g, w', cnt', hg, hlj, hrun, ⟨D, _, hrg, ?_, fun i => ?_, fun i hi => h4 i (by simp at hi; exact hi.1), by omega⟩, hlt, hgr, hsz, hen⟩
   · exact { h2 with row := fun i g' hi => ⟨(h2.row i g' hi).1, (h2.row i g' hi).2.1, (h2.row i g' hi).2.2.grown hgr fun e => by
       cases e
       have := (h2.row i r hi).2.2.1
       rw [hr] at this
       cases this⟩ }
   · show (L (kl i) && !(kl i).sameKey (kl j)) = (left i && !decide (i = j))
     rw [h3 i]
     by_cases e : i = j
     · subst e
       rw [WideAt.sameKey_self (kl_is (h2.row i g hg).1)]
       simp
     · rw [Maps.sameKey_ne (fun e' => e (kl_inj e'))]
       simp [e]
end Go.Proofs.YtopcefhncildnaaGreatDoor.F
