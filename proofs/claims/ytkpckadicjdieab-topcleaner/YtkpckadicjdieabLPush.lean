/-
  One more element behind a list of any shape: the append, as a fact on its run.
-/
import Derived.Test.YtkpckadicjdieabZ11
import Derived.Deep.AppendLies
namespace Go.Proofs.Ytkpckadicjdieab
open Go.RowKit

theorem list_append {α : Type} [Inhabited α] (S : Shape α) (t : TypeId) (ht) (hc) {i : TypeInfo} {z : Value} {bytes : Nat} (hi : Try.prog.info? S.ty = some i) (hz : i.zero = some z) (hsz : i.size = S.size) (hby : i.bytes = bytes) (hzs : z.cells.size = S.size) (h0 : 0 < S.size) (hid : S.ty ∉ S.ids)
    {base : Nat} {wr : World} {v : Value} {l : List α} {us : List Value} {x : α} (hO : (S.list t ht hc).owns base wr [v] l) (hu : S.owns base wr us x) (hb : base ≤ wr.heap.size) (hbytes : (l.length + 1) * bytes ≤ 140737488355328) (hm : l.length + 1 ≤ maxLen) :
    ∃ g cap w3, (Builtin.append_ #[t, t] t #[v, .slice (some ⟨wr.heap.size, 0, none⟩) 1 1]).run Try.prog (wr.alloc (.cells us.toArray S.ty)) = .ok (.slice (some ⟨g, 0, none⟩) (l.length + 1) cap) w3 ∧
      (S.list t ht hc).owns base w3 [.slice (some ⟨g, 0, none⟩) (l.length + 1) cap] (l ++ [x]) ∧ wr.grownBy w3 v.ownBlock ∧ wr.heap.size < w3.heap.size := by
  obtain ⟨v', vss, hv, hown, hE⟩ := hO
  obtain rfl : v = v' := by simpa using hv
  have hul : us.length = S.size := S.length (S.olies hu)
  obtain ⟨g, cap, w3, h1, h2, h3, _, _⟩ := run_append_lies (P := Try.prog) (wr.alloc (.cells us.toArray S.ty)) t t base S.ty i z S.size bytes ht hi hz hsz hby hzs h0 v l.length vss.flatten (hown.alloc _) ⟨wr.heap.size, 0, none⟩ 1 1 us (by omega)
    (fun j u hj => World.news_of_block (cs := us.toArray) (t := S.ty) (fr := (0, 0)) (heap_alloc_new wr _) j u (by simpa using hj)) (S.ones (S.olies hu)) (by omega) hm hbytes (by simp; omega) (wr.heap.size + 1) (by simp)
  refine ⟨g, cap, w3, h1, ?_, ?_, ?_⟩
  · have hS : Same base wr (wr.alloc (.cells us.toArray S.ty)) := .alloc _ _ _
    exact Shape.list_push (S := S) (ht := ht) (hc := hc) hid (hE.mono fun _ _ h => S.osame h hS) (own_same hown hS) (S.osame hu hS) h3 h2
  · refine ⟨h3.os, h3.tape, h3.output, ?_, fun k hk hne => ?_⟩
    · have := h3.size
      simp at this
      omega
    · rw [h3.block k (by simp; omega) hne, Below.heap_alloc wr _ k hk]
  · have := h3.size
    simp at this
    omega

theorem bkN_append {base : Nat} {wr : World} {v : Value} {l : List Bk} {o i : Int} {u : Value} {d : List Int} (hO : bksN.owns base wr [v] l) (hu : Own1 base wr u d) (ho : I64 o) (hi : I64 i) (hb : base ≤ wr.heap.size) (hl : (l.length + 1) * 40 ≤ 140737488355328) :
    ∃ g cap w3, (Builtin.append_ #[29, 29] 29 #[v, .slice (some ⟨wr.heap.size, 0, none⟩) 1 1]).run Try.prog (wr.alloc (.cells #[.int .i64 o, .int .i64 i, u] 48)) = .ok (.slice (some ⟨g, 0, none⟩) (l.length + 1) cap) w3 ∧
      bksN.owns base w3 [.slice (some ⟨g, 0, none⟩) (l.length + 1) cap] (l ++ [(o, i, d)]) ∧ wr.grownBy w3 v.ownBlock ∧ wr.heap.size < w3.heap.size := by
  obtain ⟨i3, hi3, hz30, hz31, hz32⟩ := info_parts Try.info48
  exact list_append bkN 29 Try.underlying29 cells29 hi3 hz30 hz31 hz32 rfl (by decide) (by decide) hO (bk_omk (p := (o, i, d)) hu ho hi) hb hl (by unfold maxLen; omega)

/-- A row that grows does not touch what lies below it, nor a variable of another type. -/
theorem below_row {base : Nat} {w0 wr w3 : World} {e : TypeId} {size : Nat} {v : Value} {n : Nat} {xs : List Value} (h : Below base w0 wr) (ho : wr.ownsRow base e size v n xs) (hg : wr.grownBy w3 v.ownBlock) (hs : base ≤ wr.heap.size) : Below base w0 w3 := h.grown hg hs (fun j hj => (ho.lt j hj).1)
theorem bksN_row {base : Nat} {w : World} {v : Value} {l : List Bk} (h : bksN.owns base w [v] l) : ∃ xs, w.ownsRow base 48 3 v l.length xs := by
  obtain ⟨v', vss, hv, hown, _⟩ := h
  obtain rfl : v = v' := by simpa using hv
  exact ⟨_, hown⟩

/-! The append by its run, at a plain region's list and at one operation of a region that draws. -/
theorem wp_app {P : Program} {w w3 : World} {o : Oper} {a : Act} {K : Act → World → Prop} {Q : Exit → Act → World → Prop} (s x : Operand) (t : TypeId) (ho : o.op = .call { callee := .builtin .append, args := #[s, x], argTypes := #[t, t] }) (hty : o.type = t) {v u v3 : Value} (hs : a.eval s = v) (hx : a.eval x = u)
    (hr : (Builtin.append_ #[t, t] t #[v, u]).run P w = .ok v3 w3) (h : K (a.put o.dst v3) w3) : o.wp P a w K Q := by
  unfold Oper.wp execOp
  simp only [ho, resolve, invoke, builtin, Sem.run_bind, Sem.run_pure, Result.andThen_ok, List.map_toArray, List.map_cons, List.map_nil, hs, hx, hty, hr]
  exact h
theorem list_app {P : Program} {w w3 : World} {ops : Array Oper} {rest : List Oper} {o : Oper} {a : Act} {Q : Exit → Act → World → Prop} (hgd : o.guard = none) (s x : Operand) (t : TypeId) (ho : o.op = .call { callee := .builtin .append, args := #[s, x], argTypes := #[t, t] }) (hty : o.type = t) {v u v3 : Value} (hs : a.eval s = v) (hx : a.eval x = u)
    (hr : (Builtin.append_ #[t, t] t #[v, u]).run P w = .ok v3 w3) (h : wpList P ops Q rest (a.put o.dst v3) w3) : wpList P ops Q (o :: rest) a w :=
  wpList_plain hgd fun _ hK => wp_app s x t ho hty hs hx hr (hK _ _ h)
theorem step_app {P : Program} {w w3 : World} {ops : Array Oper} {o : Oper} {a : Act} {K : Act → World → Prop} {Q : Exit → Act → World → Prop} {E : Prop} (hgd : o.guard = none) (s x : Operand) (t : TypeId) (ho : o.op = .call { callee := .builtin .append, args := #[s, x], argTypes := #[t, t] }) (hty : o.type = t) {v u v3 : Value} (hs : a.eval s = v) (hx : a.eval x = u)
    (hr : (Builtin.append_ #[t, t] t #[v, u]).run P w = .ok v3 w3) (h : K (a.put o.dst v3) w3) : if Region.wanted o (yielded ops a.tmps) = true then Oper.wp P o a w K Q else E := by
  rw [if_pos (by simp [Region.wanted, hgd])]
  exact wp_app s x t ho hty hs hx hr h

end Go.Proofs.Ytkpckadicjdieab
