/-
  The sort of a row of blocks whose data lie elsewhere, told of the blocks themselves.
-/
import Derived.Test.YtkpckadicjdieaaLSort
import Derived.Test.YtkpckadicjdieaaLRange
import Derived.Test.YtkpckadicjdieaaLUse
namespace Go.Proofs.Ytkpckadicjdieaa
open Go.RowKit

theorem bk_enc {n : Nat} {w : World} {us : List Value} {b : Bk} (h : bkN.lies n w us b) : ∃ x : El, us = encE x ∧ x.1 = b.1 ∧ x.2.1 = b.2.1 := by
  obtain ⟨a, cap, e, _⟩ := bk_view h
  exact ⟨(b.1, b.2.1, a, b.2.2.length, cap), e, rfl, rfl⟩
/-- What ties a block's cells to it. -/
def Tie (w0 : World) (x : El) (b : Bk) : Prop := bkN.lies 0 w0 (encE x) b ∧ x.1 = b.1 ∧ x.2.1 = b.2.1
theorem each_enc {w0 : World} : ∀ {vss : List (List Value)} {L : List Bk}, Each (bkN.lies 0 w0) vss L → ∃ G : List El, vss = G.map encE ∧ Each (Tie w0) G L
  | [], [], _ => ⟨[], rfl, trivial⟩
  | us :: vss, b :: L, h => by
    obtain ⟨G, e, hG⟩ := each_enc h.2
    obtain ⟨x, e1, e2, e3⟩ := bk_enc h.1
    exact ⟨x :: G, by rw [List.map_cons, ← e1, ← e], ⟨by rw [← e1]; exact h.1, e2, e3⟩, hG⟩
  | [], _ :: _, h => h.elim
  | _ :: _, [], h => h.elim
theorem enc_each {w0 : World} : ∀ {G : List El} {L : List Bk}, Each (Tie w0) G L → Each (bkN.lies 0 w0) (G.map encE) L
  | [], [], _ => trivial
  | _ :: _, _ :: _, h => ⟨h.1.1, enc_each h.2⟩
  | [], _ :: _, h => h.elim
  | _ :: _, [], h => h.elim
theorem BX.enc {w0 w : World} {base : Nat} {v : Value} {L : List Bk} (h : BX w0 w base v L) : ∃ G : List El, w.ownsRow base 36 3 v G.length (cellsE G) ∧ Each (Tie w0) G L := by
  obtain ⟨vss, h1, h2⟩ := h
  obtain ⟨G, rfl, hG⟩ := each_enc h2
  refine ⟨G, ?_, hG⟩
  rw [hG.length]
  exact h1
/-- What is put into another order on one side can be so on the other. -/
theorem each_perm {α β : Type} {R : α → β → Prop} {G' G : List α} (hp : G'.Perm G) : ∀ {L : List β}, Each R G L → ∃ L' : List β, L'.Perm L ∧ Each R G' L' := by
  induction hp with
  | nil =>
    intro L h
    exact ⟨L, .refl _, h⟩
  | cons x _ ih =>
    intro L h
    match L, h with
    | b :: L, h =>
      obtain ⟨L', h1, h2⟩ := ih h.2
      exact ⟨b :: L', h1.cons b, h.1, h2⟩
    | [], h => exact h.elim
  | swap x y l =>
    intro L h
    match L, h with
    | a :: b :: L, h => exact ⟨b :: a :: L, .swap a b L, h.2.1, h.1, h.2.2⟩
    | [a], h => exact h.2.elim
    | [], h => exact h.elim
  | trans _ _ ih1 ih2 =>
    intro L h
    obtain ⟨L1, h1, h2⟩ := ih2 h
    obtain ⟨L2, h3, h4⟩ := ih1 h2
    exact ⟨L2, h3.trans h1, h4⟩
/-- Blocks of unlike kinds. -/
def unl (a b : Bk) : Prop := ¬ (a.1 = b.1 ∧ a.2.1 = b.2.1)
theorem unl.symm {a b : Bk} (h : unl a b) : unl b a := fun e => h ⟨e.1.symm, e.2.symm⟩
theorem each_up {w0 : World} : ∀ {G : List El} {L : List Bk}, Each (Tie w0) G L → G.Pairwise (fun a b => ¬ cmpE b a < 0) → L.Pairwise unl → L.Pairwise kLt
  | [], [], _, _, _ => List.Pairwise.nil
  | x :: G, b :: L, h, hg, hl => by
    obtain ⟨g1, g2⟩ := List.pairwise_cons.1 hg
    obtain ⟨l1, l2⟩ := List.pairwise_cons.1 hl
    refine List.pairwise_cons.2 ⟨fun c hc => ?_, each_up h.2 g2 l2⟩
    obtain ⟨y, hy, _, e1, e2⟩ := h.2.right hc
    have k1 := g1 y hy
    rw [cmpE_lt] at k1
    have k2 := l1 c hc
    obtain ⟨_, d1, d2⟩ := h.1
    unfold unl at k2
    unfold kLt
    omega
  | [], _ :: _, h, _, _ => h.elim
  | _ :: _, [], h, _, _ => h.elim

set_option maxHeartbeats 1000000 in
theorem sorted_any {w0 w : World} {v : Value} {L : List Bk} (h : BX w0 w w0.heap.size v L) (hb : Below w0.heap.size w0 w) (hlen : L.length ≤ 1000) (hu : L.Pairwise unl) :
    Calls Try.prog 51 #[v, .func (.func 52) #[] #[]] w fun e w' => e = .returned (.tuple #[]) ∧ (∃ L' : List Bk, L'.Perm L ∧ L'.Pairwise kLt ∧ bksN.lies 0 w' [v] L') ∧ Below w0.heap.size w0 w' := by
  obtain ⟨G, h1, h2⟩ := h.enc
  have hl := h2.length
  refine (sort_any _ v G w h1 (by omega)).mono ?_
  rintro e w' ⟨rfl, ⟨G', hp, hs, hc⟩, hg⟩
  have hb' : Below w0.heap.size w0 w' := h.grow hg hb hb.size
  obtain ⟨L', hp', h2'⟩ := each_perm hp h2
  refine ⟨rfl, ⟨L', hp', each_up h2' hs ((hp'.pairwise_iff (fun h => h.symm)).2 hu), v, G'.map encE, rfl, ?_, (enc_each h2').mono fun _ _ h => bkN.below h hb'⟩, hb'⟩
  have := hc.weaken (Nat.zero_le _)
  rw [hl, ← hp'.length_eq] at this
  exact this

end Go.Proofs.Ytkpckadicjdieaa
