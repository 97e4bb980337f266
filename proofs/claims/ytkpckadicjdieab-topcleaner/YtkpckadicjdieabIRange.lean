/-
  A range over an iterator whose body may change some variables and nothing else: the iterator's word, and the law for the caller.
-/
import Derived.Test.YtkpckadicjdieabZ15
import Derived.RangeFuncBox
import Derived.RangeFuncNested
import Derived.RangeFuncBound
import Derived.RangeFuncCalls
import Derived.RangeFuncLeaves
import Derived.Shelf.Abstract
import Derived.Shelf.RegionOpen
import Derived.OwnWalkIn
import Derived.TacticsInMore
import Derived.LoopNIn
import Derived.LoopIn
namespace Go.Proofs.Ytkpckadicjdieab
open Go.RowKit Go.Shelf

/-- What lies below nb, and every variable but those of G, is as it was. -/
def KpG (nb : Nat) (G : List Nat) (W W' : World) : Prop := Below nb W W' ∧ ∀ k cs t fr, W.heap[k]? = some (.cells cs t fr) → k ∉ G → W'.heap[k]? = some (.cells cs t fr)
theorem KpG.trans {nb : Nat} {G : List Nat} {A B C : World} (h : KpG nb G A B) (k : KpG nb G B C) : KpG nb G A C := ⟨h.1.trans k.1, fun i cs t fr h1 h2 => k.2 i cs t fr (h.2 i cs t fr h1 h2) h2⟩
theorem KpG.of_below {nb : Nat} {G : List Nat} {W W' : World} (h : Below W.heap.size W W') (hn : nb ≤ W.heap.size) : KpG nb G W W' := ⟨h.mono hn, fun k _ _ _ h1 _ => (h.block k (Array.getElem?_eq_some_iff.1 h1).1).trans h1⟩
theorem KpG.put {nb : Nat} {G : List Nat} {W : World} {l : Nat} {o : Obj} (o' : Obj) (hl : W.heap[l]? = some o) (ho : o.isCells = false) (hn : nb ≤ l) : KpG nb G W (W.putObj l o') := by
  have hlt := (Array.getElem?_eq_some_iff.1 hl).1
  refine ⟨(Below.refl nb W).grown (grownBy_putObj' W l o') (by omega) (fun k e => by cases e; omega), fun k cs t fr h1 _ => ?_⟩
  have hne : k ≠ l := fun e => by
    subst e
    rw [hl] at h1
    cases h1
    cases ho
  exact (World.putObj_heap_other hne).trans h1
theorem KpG.box {nb : Nat} {G : List Nat} {W W' : World} (h : KpG nb G W W') {B : Nat} {t : TypeId} {cs : Array Value} (hB : Box W B t cs) (hG : B ∉ G) : Box W' B t cs := h.2 B cs t (0, 0) hB hG
theorem KpG.setG {nb : Nat} {G : List Nat} {W : World} {B i : Nat} (u : Value) (hB : B ∈ G) (hn : nb ≤ B) : KpG nb G W (W.setCell ⟨B, i, none⟩ u) :=
  ⟨(Below.refl _ _).setCell (p := ⟨B, i, none⟩) hn u, fun k _ _ _ h1 h2 => (Below.heap_setCell _ _ _ _ (fun e => h2 (by rw [e]; exact hB))).trans h1⟩
theorem keeps_below {w w' : World} (h : Below w.heap.size w w') : KeepsOthers w w' := ⟨h.size, fun k _ hk _ => (h.block k (Array.getElem?_eq_some_iff.1 hk).1).trans hk⟩
theorem grown_none {w w' : World} (h : Below w.heap.size w w') : w.grownBy w' none := ⟨h.os, h.tape, h.output, h.size, fun k hk _ => h.block k hk⟩

/-- An iterator's word to a body that may not turn what the iterator reads. -/
def StopsO {α : Type} (F : Fence) (n : Nat) (P : Program) (g : Nat) (lb : Array Value) (encs : α → Array Value) (Kp : World → World → Prop) (S Sp : List α → Prop) (N : Nat) (w : World) : Prop :=
  ∀ (l : Nat) (J Jx : List α → World → Prop) (W : World), Below w.heap.size w W → OwnFrom W.heap.size J → OwnFrom W.heap.size Jx →
    (∀ pre x W1, J pre W1 → pre.length < N → YieldAt F (n - 1) P l (encs x) W1 fun e W' =>
      (e = .returned (.bool true) ∧ J (pre ++ [x]) W' ∧ Kp W1 W') ∨ (e = .returned (.bool false) ∧ Jx (pre ++ [x]) W' ∧ Kp W1 W')) →
    J [] W →
    CallsIn F n P g (#[.func (.yield l) #[] #[]] ++ lb) W fun e W' => (∃ v, e = .returned v) ∧ ((∃ xs, S xs ∧ J xs W') ∨ (∃ pre, Sp pre ∧ Jx pre W'))

/-- How a round may end: it goes on, or returns. -/
def postO {α : Type} (B : Nat) (Kp : World → World → Prop) (I Ix : List α → World → Prop) (xs : List α) (W : World) : Exit → Act → World → Prop
  | .normal, _, W' => KeepsFrom B W W' ∧ Kp W W' ∧ I xs W'
  | .ret, _, W' => KeepsFrom B W W' ∧ Kp W W' ∧ Ix xs W'
  | _, _, _ => False

theorem own_later {β : Type} {B B' : Nat} {I : β → World → Prop} (h : OwnFrom B I) (hB : B ≤ B') : OwnFrom B' I := fun s W W' row hs hg hr => h s W W' row hs hg (fun r e => ⟨Nat.le_trans hB (hr r e).1, (hr r e).2⟩)
theorem own_block {β : Type} {B k : Nat} {o : Obj} (hk : k < B) : OwnFrom B (fun (_ : β) W => W.heap[k]? = some o) := fun _ W _ _ hs hg hr => by
  refine (hg.block k (Array.getElem?_eq_some_iff.1 hs).1 fun e => ?_).trans hs
  have := (hr k e.symm).1
  omega

theorem range_own {α : Type} {n : Nat} {P : Program} {g : Operand} {ps : Array Tmp} {assign body : Code} {Q : Exit → Act → World → Prop} {a : Act} {w : World} (h1 : 1 ≤ n) {gf : Nat} {lb : Array Value} (hg : a.eval g = .func (.func gf) #[] lb) (eg : ∀ args w, (callFunc gf args).run P w = .ok (.enter gf args) w)
    {encs : α → Array Value} {Kp : World → World → Prop} {S Sp : List α → Prop} {N : Nat} (hseq : StopsO Fence.wide (n - 1) P gf lb encs Kp S Sp N w)
    (hKt : ∀ {X Y Z : World}, Kp X Y → Kp Y Z → Kp X Z) (hKb : ∀ (W : World) (l : Nat) (o o' : Obj), w.heap.size ≤ l → l < w.heap.size + 2 → W.heap[l]? = some o → o.isCells = false → Kp W (W.putObj l o')) (hps : ∀ x, (encs x).size = ps.size)
    (I Ix : List α → World → Prop) (hI : OwnFrom w.heap.size I) (hIx : OwnFrom w.heap.size Ix) (h0 : I [] w) (Ax : List α → α → Act → World → Prop) (hAx : ∀ pre x a', OwnFrom w.heap.size (fun (_ : Unit) W => Ax pre x a' W))
    (hassign : ∀ (l : Nat) (pre : List α) (x : α) (W : World) (K : Act → World → Prop), I pre W → (∀ a' W', KeepsFrom w.heap.size W W' → Kp W W' → I pre W' → Ax pre x a' W' → K a' W') →
      assign.wpIn (Fence.wide.inRound l) (n - 1 - 1) P (Exit.then K (fun _ _ _ => False)) { tmps := (ps.zip (encs x)).foldl (fun t (p, v) => t.setIfInBounds p v) a.tmps, defers := [] } W)
    (hbody : ∀ (l : Nat) (pre : List α) (x : α) (a' : Act) (W : World), I pre W → Ax pre x a' W → pre.length < N → body.wpIn (Fence.wide.inRound l) (n - 1 - 1) P (postO w.heap.size Kp I Ix (pre ++ [x]) W) a' W)
    (hdone : ∀ (D : Nat) (xs : List α) (W : World), w.heap.size ≤ D → S xs → I xs W → W.heap[D]? = some (.deferred (some [])) → Q .normal { a with defers := { target := .collected D, args := #[] } :: a.defers } W)
    (hstop : ∀ (D : Nat) (pre : List α) (W : World), w.heap.size ≤ D → Sp pre → Ix pre W → W.heap[D]? = some (.deferred (some [])) → Code.ret.wpIn Fence.wide n P Q { a with defers := { target := .collected D, args := #[] } :: a.defers } W) :
    (Code.rangeFunc g ps assign body).wpIn Fence.wide n P Q a w := by
  refine wpIn_rangeFunc ?_
  intro fn hfn
  obtain ⟨rc, hrc⟩ : ∃ rc : LoopState → Option Code → Loop, rc = fun st pe => { state := st, pending := pe, fn, tmps := a.tmps, params := ps, assign, body, defers := w.heap.size } := ⟨_, rfl⟩
  obtain ⟨D, hD⟩ : ∃ D, D = w.heap.size := ⟨_, rfl⟩
  obtain ⟨W1, hW1⟩ : ∃ W1, W1 = (w.alloc (.deferred (some []))).alloc (.loop (rc .ready none)) := ⟨_, rfl⟩
  have hsz : W1.heap.size = D + 2 := by rw [hW1, hD]; simp
  have hb1 : Below w.heap.size w W1 := by rw [hW1]; exact ((Below.refl _ w).alloc (Nat.le_refl _) _).alloc (by simp) _
  have hL1 : W1.heap[D + 1]? = some (.loop (rc .ready none)) := by
    rw [hW1, hD]
    have := World.alloc_heap_new (w.alloc (.deferred (some []))) (.loop (rc .ready none))
    rwa [World.size_alloc] at this
  have hK1 : W1.heap[D]? = some (.deferred (some [])) := by
    rw [hW1, hD]
    exact (Below.heap_alloc _ _ _ (by simp)).trans (World.alloc_heap_new w _)
  have hI1 : I [] W1 := by rw [hW1]; exact hI.alloc _ (hI.alloc _ h0)
  refine ⟨D + 1, [{ target := .collected D, args := #[] }], W1, { target := .fn (.func gf) lb, args := #[.func (.yield (D + 1)) #[] #[]] }, W1, gf, #[.func (.yield (D + 1)) #[] #[]] ++ lb, W1, ?_, ?_, fun f' _ => trivial, ?_, fun _ => h1, ?_⟩
  · rw [hW1, hrc, hD]
    exact run_enterLoop_outer _ _ _ _ _
  · simp only [resolve, hg]
    simp [go_sem]
  · simp [invoke, go_sem, eg]
  have tell := hseq (D + 1) (fun pre W => I pre W ∧ W.heap[D + 1]? = some (.loop (rc .ready none)) ∧ W.heap[D]? = some (.deferred (some []))) (fun pre W => Ix pre W ∧ W.heap[D + 1]? = some (.loop (rc .done (some .ret))) ∧ W.heap[D]? = some (.deferred (some []))) W1 hb1
    (OwnFrom.and (own_later hI (by omega)) (OwnFrom.and (own_block (by omega)) (own_block (by omega)))) (OwnFrom.and (own_later hIx (by omega)) (OwnFrom.and (own_block (by omega)) (own_block (by omega)))) ?round ⟨hI1, hL1, hK1⟩
  case round =>
    rintro pre x W ⟨hi, hl, hk⟩ hlen
    have hy := run_yield (P := P) (args := encs x) hl (by rw [hrc]; exact hps x)
    rw [hrc] at hy
    refine ⟨fn, _, assign, body, hy, roundIn_of_wpIn hfn (hassign (D + 1) pre x W _ hi ?_)⟩
    clear hy
    intro a' V hkf hkp hiv hax
    have hlv := hkf.same _ _ (by omega) hl rfl
    have hkv := hkf.same _ _ (by omega) hk rfl
    refine ⟨_, run_beginRound hlv (by rw [hrc]), ?_⟩
    obtain ⟨busy, hbusy⟩ : ∃ busy : Loop, busy = { rc .ready none with state := .busy } := ⟨_, rfl⟩
    rw [← hbusy]
    obtain ⟨V2, hV2⟩ : ∃ V2, V2 = V.putObj (D + 1) (.loop busy) := ⟨_, rfl⟩
    have hl2 : V2.heap[D + 1]? = some (.loop busy) := by rw [hV2]; exact World.putObj_heap_same (Array.getElem?_eq_some_iff.1 hlv).1
    have hk2 : V2.heap[D]? = some (.deferred (some [])) := by rw [hV2]; exact (World.putObj_heap_other (by omega)).trans hkv
    have hp2 : Kp V V2 := by rw [hV2]; exact hKb _ _ _ _ (by omega) (by omega) hlv rfl
    have hi2 : I pre V2 := by rw [hV2]; exact hI.putObj _ hiv (by omega) hlv rfl
    have hax2 : Ax pre x a' V2 := by rw [hV2]; exact (hAx pre x a').putObj (s := ()) _ hax (by omega) hlv rfl
    rw [← hV2]
    refine wpIn_mono (hbody (D + 1) pre x a' V2 hi2 hax2 hlen) ?_
    have shut : ∀ (jump : Option Code) (V3 : World), KeepsFrom w.heap.size V2 V3 → ∃ V4, V4 = V3.putObj (D + 1) (.loop (rc (if jump.isNone then .ready else .done) jump)) ∧ (Instr.endRound (D + 1) jump).run P V3 = .ok (.bool jump.isNone) V4 ∧ V3.heap[D + 1]? = some (.loop busy) ∧ V4.heap[D + 1]? = some (.loop (rc (if jump.isNone then .ready else .done) jump)) ∧ V4.heap[D]? = some (.deferred (some [])) ∧ Kp V3 V4 := fun jump V3 h3 => by
      have hl3 := h3.same _ _ (by omega) hl2 rfl
      have hk3 := h3.same _ _ (by omega) hk2 rfl
      have he := run_endRound (P := P) jump hl3
      refine ⟨_, rfl, ?_, hl3, World.putObj_heap_same (Array.getElem?_eq_some_iff.1 hl3).1, (World.putObj_heap_other (by omega)).trans hk3, hKb _ _ _ _ (by omega) (by omega) hl3 rfl⟩
      rw [hbusy, hrc] at he
      rw [hrc]
      exact he
    intro e a3 V3 hp
    cases e with
    | normal =>
      obtain ⟨h3, hp3, hi3⟩ := hp
      obtain ⟨V4, hV4, hr, hl3, hl4, hk4, hp4⟩ := shut none V3 h3
      exact ⟨_, _, hr, .inl ⟨rfl, ⟨by rw [hV4]; exact hI.putObj _ hi3 (by omega) hl3 rfl, hl4, hk4⟩, hKt hkp (hKt (hKt hp2 hp3) hp4)⟩⟩
    | ret =>
      obtain ⟨h3, hp3, hi3⟩ := hp
      obtain ⟨V4, hV4, hr, hl3, hl4, hk4, hp4⟩ := shut (some .ret) V3 h3
      exact ⟨_, _, hr, .inr ⟨rfl, ⟨by rw [hV4]; exact hIx.putObj _ hi3 (by omega) hl3 rfl, hl4, hk4⟩, hKt hkp (hKt (hKt hp2 hp3) hp4)⟩⟩
    | exit id => exact hp.elim
    | goto t => exact hp.elim
    | panic ch => exact hp.elim
    | outgrown => exact hp.elim
  refine tell.mono ?_
  rintro e W2 ⟨⟨v, rfl⟩, (⟨xs, hS, hi, hl, hk⟩ | ⟨pre, hSp, hi, hl, hk⟩)⟩
  · refine ⟨none, W2.putObj (D + 1) (.loop { rc .ready none with state := .exhausted }), ?_, hdone D xs _ (by omega) hS (hI.putObj _ hi (by omega) hl rfl) ((World.putObj_heap_other (by omega)).trans hk)⟩
    have he := run_endLoop (P := P) hl (by rw [hrc]; simp)
    rw [hrc] at he ⊢
    exact he
  · refine ⟨some .ret, W2.putObj (D + 1) (.loop { rc .done (some .ret) with state := .exhausted }), ?_, hstop D pre _ (by omega) hSp (hIx.putObj _ hi (by omega) hl rfl) ((World.putObj_heap_other (by omega)).trans hk)⟩
    have he := run_endLoop (P := P) hl (by rw [hrc]; simp)
    rw [hrc] at he ⊢
    exact he

end Go.Proofs.Ytkpckadicjdieab
