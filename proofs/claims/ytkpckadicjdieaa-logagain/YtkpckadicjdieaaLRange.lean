/-
  A range over the map of last versions, under way: which kinds are still to come.
-/
import Derived.Test.YtkpckadicjdieaaLLast
import Derived.Test.YtkpckadicjdieaaLGet
import Derived.Test.YtkpckadicjdieaaAMath
namespace Go.Proofs.Ytkpckadicjdieaa
open Go.RowKit
open Go.Maps (Keyed)

/-- A range under way. -/
def LG (w0 w : World) (b r : Nat) (l : List Ver) (left : Int → Int → Bool) (cnt : Nat) : Prop := ∃ (D : DataW Value) (M : Int → Int → Value) (Lf : Lit → Bool), w.ranges Try.prog 102 elV b r l.length D Lf cnt ∧
  (∀ o i, I64 o → I64 i → D.atKey (kk o i) (.held z0) = .held (M o i) ∧ KvAt w0 (M o i) (kn l o i)) ∧ (∀ o i, I64 o → I64 i → Lf (kk o i) = left o i)
theorem LG.lt {w0 w : World} {b r : Nat} {l : List Ver} {left : Int → Int → Bool} {cnt : Nat} (h : LG w0 w b r l left cnt) : r < w.heap.size ∧ b < w.heap.size := let ⟨_, _, _, h1, _⟩ := h; ⟨h1.lt, h1.owns.lt⟩
theorem LG.left_eq {w0 w : World} {b r : Nat} {l : List Ver} {left : Int → Int → Bool} {cnt : Nat} (h : LG w0 w b r l left cnt) : w.rangeLeft b r = cnt := let ⟨_, _, _, h1, _⟩ := h; h1.left_eq
theorem LG.kept {w0 w w' : World} {b r : Nat} {l : List Ver} {left : Int → Int → Bool} {cnt : Nat} {row : Option Nat} (h : LG w0 w b r l left cnt) (hg : w.grownBy w' row) (h1 : some b ≠ row) (h2 : some r ≠ row) : LG w0 w' b r l left cnt := by
  obtain ⟨D, M, Lf, hr, rest⟩ := h
  exact ⟨D, M, Lf, hr.kept hg h1 h2, rest⟩
theorem LG.below {w0 w w' : World} {b r : Nat} {l : List Ver} {left : Int → Int → Bool} {cnt : Nat} (h : LG w0 w b r l left cnt) (hb : Below w.heap.size w w') : LG w0 w' b r l left cnt := h.kept (grown_below hb none) (by simp) (by simp)
theorem LV.range {w0 w : World} {b : Nat} {l : List Ver} (h : LV w0 w b l) :
    ∃ w' cnt, (Instr.range 99 (.map (some b))).run Try.prog w = .ok (.pointer (some ⟨w.heap.size, 0, none⟩)) w' ∧ LG w0 w' b w.heap.size l (fun o i => decide (0 < (kn l o i).2.2.2)) cnt ∧ w.grownBy w' none ∧ w'.heap.size = w.heap.size + 1 := by
  obtain ⟨D, M, h1, h2⟩ := h
  obtain ⟨w', hrun, h3, hg, hs⟩ := h1.range keyedK Try.underlying99
  exact ⟨w', _, hrun, ⟨D, M, _, h3, fun o i ho hi => ⟨(h2 o i ho hi).1, (h2 o i ho hi).2.2⟩, fun o i ho hi => (h2 o i ho hi).2.1⟩, hg, hs⟩
theorem LG.next {w0 w : World} {b r : Nat} {l : List Ver} {left : Int → Int → Bool} {cnt : Nat} (h : LG w0 w b r l left cnt) (ty : TypeId) :
    ((∀ o i, I64 o → I64 i → left o i = false) ∧ (Instr.next (.pointer (some ⟨r, 0, none⟩)) false ty).run Try.prog w = .ok (.tuple #[.bool false]) w) ∨
    ∃ (o i : Int) (v : Value) (w' : World) (cnt' : Nat), I64 o ∧ I64 i ∧ left o i = true ∧ KvAt w0 v (kn l o i) ∧ (Instr.next (.pointer (some ⟨r, 0, none⟩)) false ty).run Try.prog w = .ok (.tuple #[.bool true, kv o i, v]) w' ∧
      LG w0 w' b r l (fun o' i' => left o' i' && !decide (o' = o ∧ i' = i)) cnt' ∧ cnt' < cnt ∧ w.grownBy w' (some r) ∧ w'.heap.size = w.heap.size ∧ (Instr.entry (.pointer (some ⟨r, 0, none⟩))).run Try.prog w' = .ok (.tuple #[kv o i, v]) w' := by
  obtain ⟨D, M, Lf, h1, h2, h3⟩ := h
  rcases h1.next keyedK ty with ⟨h0, hl, hrun⟩ | ⟨key, v, k, y, w', cnt', hkey, hlk, hv, hat, hrun, hrg, hlt, hgr, hsz, hen⟩
  · exact .inl ⟨fun o i ho hi => by rw [← h3 o i ho hi]; exact hl _, hrun⟩
  · obtain ⟨o, i, rfl, ho, hi, rfl⟩ := kk_inv hkey
    have hvM : v = M o i := by
      have e1 := hat (.held z0)
      rw [(h2 o i ho hi).1] at e1
      have e2 : y = (.held v, []) := (Option.some.inj hv).symm
      rw [e2] at e1
      exact (DataW.held.inj e1).symm
    refine .inr ⟨o, i, v, w', cnt', ho, hi, by rw [← h3 o i ho hi]; exact hlk, by rw [hvM]; exact (h2 o i ho hi).2, hrun, ⟨D, M, _, hrg, h2, fun o' i' ho' hi' => ?_⟩, hlt, hgr, hsz, hen⟩
    show (Lf (kk o' i') && !(kk o' i').sameKey (kk o i)) = _
    rw [h3 o' i' ho' hi']
    by_cases e : o' = o ∧ i' = i
    · obtain ⟨rfl, rfl⟩ := e
      rw [WideAt.sameKey_self (keyedK.key (kk_key ho hi))]
      simp
    · rw [Maps.sameKey_ne (fun e' => e (kk_inj ho' hi' ho hi e'))]
      simp [e]

/-- Octets that lie in a slice are determined by it. -/
theorem Arg.unique {n m : Nat} {w : World} {v : Value} {l k : List Int} (h1 : Arg n w v l) (h2 : Arg m w v k) : l = k := by
  obtain ⟨a, c, e1, _⟩ := h1.shape
  obtain ⟨a', c', e2, _⟩ := h2.shape
  have hl : l.length = k.length := by
    have h9 := e1.symm.trans e2
    simp only [Value.slice.injEq] at h9
    exact h9.2.1
  apply List.ext_getElem? 
  intro i
  by_cases hi : i < l.length
  · obtain ⟨x, hx⟩ := get_lt (l := l) (k := i) hi
    obtain ⟨y, hy⟩ := get_lt (l := k) (k := i) (by omega)
    obtain ⟨b, o, r1, _, c1, _⟩ := h1.at i x hx
    obtain ⟨b2, o2, r2, _, c2, _⟩ := h2.at i y hy
    have h9 := (r1 w).symm.trans (r2 w)
    simp only [Result.ok.injEq, Value.pointer.injEq, Option.some.injEq, Addr.mk.injEq, and_true] at h9
    obtain ⟨rfl, rfl⟩ := h9
    rw [c1] at c2
    simp only [Option.some.injEq, Value.int.injEq, true_and] at c2
    rw [hx, hy, c2]
  · rw [List.getElem?_eq_none (by omega), List.getElem?_eq_none (by omega)]
/-- Data that are not empty come of a version of their kind. -/
theorem kn_kind {l : List Ver} {o i : Int} (h : (kn l o i).1.2.2 ≠ []) : (kn l o i).1.1 = o ∧ (kn l o i).1.2.1 = i ∧ 0 < (kn l o i).2.2.2 := by
  rw [kn_count]
  unfold kn at *
  rcases kn_mem (l.filter (isK o i)) kn0 with e | ⟨y, hy, e⟩
  · rw [e] at h
    exact absurd rfl h
  · rw [e]
    have hk := (List.mem_filter.1 hy).2
    have hk' : y.2.2.1 = o ∧ y.2.2.2.1 = i := by simpa [isK] using hk
    exact ⟨hk'.1, hk'.2, List.length_pos_of_mem hy⟩

end Go.Proofs.Ytkpckadicjdieaa
