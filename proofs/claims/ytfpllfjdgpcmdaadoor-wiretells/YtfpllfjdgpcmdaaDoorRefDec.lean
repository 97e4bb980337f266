/-
  The document's Decode: its words, and what its reader's calls make in both states.
-/
import Derived.Test.YtfpllfjdgpcmdaaDoorRefRdr2
import Derived.Test.YtfpllfjdgpcmdaaDoorCRefOpen
import Derived.Test.YtfpllfjdgpcmdaaDoorDecode
import Derived.Test.YtfpllfjdgpcmdaaDoorBackMath
import Derived.Test.YtfpllfjdgpcmdaaDoorCopy
namespace Go.Proofs.YtfpllfjdgpcmdaaDoor
open Go.RowKit

theorem roct_all (w0 : World) (R : Nat) (l : List Int) (p : Nat) (k : Int) (w : World) (h : RR w0 R l p k w) :
    Calls Tryd.prog 38 #[.pointer (some ⟨R, 0, none⟩)] w fun e w' => w.grownBy w' (some R) ∧ ∃ (z : Int) (p' : Nat) (k' : Int), e = .returned (.int .i64 z) ∧ RR w0 R l p' k' w' ∧ (0 ≤ z ∧ z ≤ 255) ∧
      ((k ≠ 0 ∧ k' = k) ∨ (k = 0 ∧ ((k' ≠ 0 ∧ octR (l.drop p) = .error k') ∨ (k' = 0 ∧ octR (l.drop p) = .ok (z, (l.drop p')))))) := by
  by_cases hk : k = 0
  · subst hk
    refine (roctet_any w0 R l p w h).mono ?_
    intro e w' ⟨hg, hm⟩
    cases hx : octR (l.drop p) with
    | error k' =>
      rw [hx] at hm
      obtain ⟨z, p', he, rfl, hR⟩ := hm
      have h8 : k' ≠ 0 := by
        cases hq : l.drop p with
        | nil => rw [hq] at hx; injection hx with hx; omega
        | cons _ _ => rw [hq] at hx; cases hx
      exact ⟨hg, 0, p', k', he, hR, ⟨by omega, by omega⟩, .inr ⟨rfl, .inl ⟨h8, rfl⟩⟩⟩
    | ok pp =>
      obtain ⟨a, q⟩ := pp
      rw [hx] at hm
      obtain ⟨v, p', he, ⟨rfl, ha⟩, hR, hd⟩ := hm
      exact ⟨hg, a, p', 0, he, hR, ha, .inr ⟨rfl, .inr ⟨rfl, by rw [hd]⟩⟩⟩
  · refine (roctet_err w0 R l p k hk w h).mono ?_
    rintro e w' ⟨he, rfl⟩
    exact ⟨grown_refl _ _, 0, p, k, he, h, ⟨by omega, by omega⟩, .inl ⟨hk, rfl⟩⟩

theorem rcnt_all (w0 : World) (R : Nat) (l : List Int) (p : Nat) (k : Int) (w : World) (h : RR w0 R l p k w) :
    Calls Tryd.prog 39 #[.pointer (some ⟨R, 0, none⟩), .int .i64 64] w fun e w' => w.grownBy w' (some R) ∧ ∃ (z : Int) (p' : Nat) (k' : Int), e = .returned (.int .i64 z) ∧ RR w0 R l p' k' w' ∧
      ((k ≠ 0 ∧ k' = k) ∨ (k = 0 ∧ ((k' ≠ 0 ∧ countR (l.drop p) = .error k') ∨ (k' = 0 ∧ 0 ≤ z ∧ z ≤ 64 ∧ countR (l.drop p) = .ok (z, (l.drop p')))))) := by
  by_cases hk : k = 0
  · subst hk
    refine (rcount_any w0 R l p w h).mono ?_
    intro e w' ⟨hg, hm⟩
    cases hx : countR (l.drop p) with
    | error k' =>
      rw [hx] at hm
      obtain ⟨z, p', he, ⟨i, rfl⟩, hR⟩ := hm
      have h8 : k' ≠ 0 := by
        cases hq : l.drop p with
        | nil => rw [hq] at hx; injection hx with hx; omega
        | cons c r =>
          rw [hq] at hx
          simp only [countR, octR, Rd.then] at hx
          split at hx
          · injection hx with hx; omega
          · cases hx
      exact ⟨hg, i, p', k', he, hR, .inr ⟨rfl, .inl ⟨h8, rfl⟩⟩⟩
    | ok pp =>
      obtain ⟨a, q⟩ := pp
      rw [hx] at hm
      obtain ⟨v, p', he, ⟨rfl, ha⟩, hR, hd⟩ := hm
      exact ⟨hg, a, p', 0, he, hR, .inr ⟨rfl, .inr ⟨rfl, ha.1, ha.2, by rw [hd]⟩⟩⟩
  · refine (rcount_err w0 R l p k hk w h).mono ?_
    rintro e w' ⟨he, rfl⟩
    exact ⟨grown_refl _ _, 0, p, k, he, h, .inl ⟨hk, rfl⟩⟩

theorem some_count {α : Type} (f : List Int → Rd α) (l : List Int) : someR f l = (countR l).then fun c r => manyR f c.toNat r := by
  cases l with
  | nil => rfl
  | cons c r =>
    simp only [someR, countR, octR, Rd.then]
    split <;> rfl

theorem rgrp_all (w0 : World) (R : Nat) (l : List Int) (p : Nat) (w : World) (h : RR w0 R l p 0 w) :
    Calls Tryd.prog 40 #[.pointer (some ⟨R, 0, none⟩)] w fun e w' => w.grownBy w' (some R) ∧ ∃ (m : Nat) (p' : Nat) (k' : Int), e = .returned (.int .u64 m) ∧ RR w0 R l p' k' w' ∧ m < 18446744073709551616 ∧
      ((k' ≠ 0 ∧ grpR 0 0 (l.drop p) = .error k') ∨ (k' = 0 ∧ grpR 0 0 (l.drop p) = .ok (m, (l.drop p')))) := by
  refine (rdgroups_any w0 R l p w h).mono ?_
  intro e w' ⟨hg, hm⟩
  cases hx : grpR 0 0 (l.drop p) with
  | error k' =>
    rw [hx] at hm
    obtain ⟨z, p', he, rfl, hR⟩ := hm
    exact ⟨hg, 0, p', k', he, hR, by omega, .inl ⟨grpR_bad _ _ _ k' hx, rfl⟩⟩
  | ok pp =>
    obtain ⟨a, q⟩ := pp
    rw [hx] at hm
    obtain ⟨v, p', he, ⟨rfl, ha⟩, hR, hd⟩ := hm
    exact ⟨hg, a, p', 0, he, hR, ha, .inr ⟨rfl, by rw [hd]⟩⟩

theorem rtk_all (w0 : World) (R : Nat) (l : List Int) (p n : Nat) (k : Int) (hn : n ≤ 100000) (w : World) (h : RR w0 R l p k w) :
    Calls Tryd.prog 42 #[.pointer (some ⟨R, 0, none⟩), .int .i64 n] w fun e w' => w.grownBy w' (some R) ∧ ∃ (a : Option Addr) (c : Nat) (t : List Int) (p' : Nat) (k' : Int), e = .returned (.slice a t.length c) ∧ Arg 0 w' (.slice a t.length c) t ∧ t.length ≤ n ∧ RR w0 R l p' k' w' ∧
      ((k ≠ 0 ∧ k' = k) ∨ (k = 0 ∧ ((k' ≠ 0 ∧ takeR n (l.drop p) = .error k') ∨ (k' = 0 ∧ takeR n (l.drop p) = .ok (t, (l.drop p')))))) := by
  by_cases hk : k = 0
  · subst hk
    refine (rtake_any w0 R l p n hn w h).mono ?_
    intro e w' ⟨hg, hm⟩
    cases hx : takeR n (l.drop p) with
    | error k' =>
      rw [hx] at hm
      obtain ⟨z, p', he, rfl, hR⟩ := hm
      have h8 : k' ≠ 0 := by
        unfold takeR at hx
        split at hx
        · injection hx with hx; omega
        · cases hx
      exact ⟨hg, none, 0, [], p', k', he, (Own1.nil 0 w').arg, by simp, hR, .inr ⟨rfl, .inl ⟨h8, rfl⟩⟩⟩
    | ok pp =>
      obtain ⟨t, q⟩ := pp
      rw [hx] at hm
      obtain ⟨v, p', he, hA, hR, hd⟩ := hm
      obtain ⟨a, c, rfl, _⟩ := hA.shape
      have ht : t.length ≤ n := by
        unfold takeR at hx
        split at hx
        · cases hx
        · obtain ⟨h1, _⟩ := Prod.mk.inj (Except.ok.inj hx)
          rw [← h1, List.length_take]
          omega
      exact ⟨hg, a, c, t, p', 0, he, hA, ht, hR, .inr ⟨rfl, .inr ⟨rfl, by rw [hd]⟩⟩⟩
  · refine (rtake_err w0 R l p k n hk w h).mono ?_
    rintro e w' ⟨he, rfl⟩
    exact ⟨grown_refl _ _, none, 0, [], p, k, he, (Own1.nil 0 w).arg, by simp, h, .inl ⟨hk, rfl⟩⟩

/-- What lies there while the document decodes: the result's variable Z, the reader's R, the record's O. -/
structure DS (w w1 : World) (R O : Nat) (L : List Int) (p : Nat) (k : Int) (z : Int) (vn vt : Value) (wr : World) : Prop where
  bel : Below w.heap.size w wr
  zb : Box wr w.heap.size 25 #[.int .i64 0, .slice none 0 0, .slice none 0 0]
  rr : RR w1 R L p k wr
  ob : Box wr O 25 #[.int .i64 z, vn, vt]
  zr : w.heap.size < R
  ro : R < O

theorem DS.grow {w w1 : World} {R O : Nat} {L : List Int} {p p' : Nat} {k k' : Int} {z : Int} {vn vt : Value} {wr wr' : World} (h : DS w w1 R O L p k z vn vt wr) (hg : wr.grownBy wr' (some R)) (hr : RR w1 R L p' k' wr') : DS w w1 R O L p' k' z vn vt wr' :=
  ⟨h.bel.grown hg h.bel.size (fun j hj => by have := Option.some.inj hj; have := h.zr; omega), h.zb.grown hg (fun e => by have := Option.some.inj e; have := h.zr; omega), hr, h.ob.grown hg (fun e => by have := Option.some.inj e; have := h.ro; omega), h.zr, h.ro⟩
theorem DS.below {w w1 : World} {R O n : Nat} {L : List Int} {p : Nat} {k : Int} {z : Int} {vn vt : Value} {wr wr' : World} (h : DS w w1 R O L p k z vn vt wr) (hb : Below n wr wr') (hn : O < n) : DS w w1 R O L p k z vn vt wr' :=
  ⟨h.bel.trans (hb.mono (by have := h.zr; have := h.ro; omega)), h.zb.below hb (by have := h.zr; have := h.ro; omega), h.rr.below hb (by have := h.ro; omega), h.ob.below hb hn, h.zr, h.ro⟩
theorem RR.other {w0 : World} {R O i : Nat} {l : List Int} {p : Nat} {k : Int} {w : World} {x : Value} (h : RR w0 R l p k w) (hO : R < O) : RR w0 R l p k (w.setCell ⟨O, i, none⟩ x) := by
  obtain ⟨a, c, hB, hA⟩ := h.ex
  exact ⟨⟨a, c, hB.other (by omega), hA⟩, h.old.setCell (p := ⟨O, i, none⟩) (by have := h.le; simp; omega) _, h.le, h.at_le⟩
theorem DS.set1 {w w1 : World} {R O : Nat} {L : List Int} {p : Nat} {k : Int} {z : Int} {vn vt : Value} {wr : World} (h : DS w w1 R O L p k z vn vt wr) (x : Value) : DS w w1 R O L p k z x vt (wr.setCell ⟨O, 1, none⟩ x) :=
  ⟨h.bel.setCell (p := ⟨O, 1, none⟩) (by have := h.zr; have := h.ro; simp; omega) _, h.zb.other (by have := h.zr; have := h.ro; omega), h.rr.other h.ro, h.ob.set 1 x, h.zr, h.ro⟩
theorem DS.set2 {w w1 : World} {R O : Nat} {L : List Int} {p : Nat} {k : Int} {z : Int} {vn vt : Value} {wr : World} (h : DS w w1 R O L p k z vn vt wr) (x : Value) : DS w w1 R O L p k z vn x (wr.setCell ⟨O, 2, none⟩ x) :=
  ⟨h.bel.setCell (p := ⟨O, 2, none⟩) (by have := h.zr; have := h.ro; simp; omega) _, h.zb.other (by have := h.zr; have := h.ro; omega), h.rr.other h.ro, h.ob.set 2 x, h.zr, h.ro⟩
theorem DS.cells {w w1 : World} {R O : Nat} {L : List Int} {p : Nat} {k : Int} {z : Int} {vn vt : Value} {wr : World} (h : DS w w1 R O L p k z vn vt wr) : wr.cell? ⟨R, 1, none⟩ = some (.int .i64 p) ∧ wr.cell? ⟨R, 2, none⟩ = some (.int .i64 k) ∧ wr.cell? ⟨O, 0, none⟩ = some (.int .i64 z) ∧ wr.cell? ⟨O, 1, none⟩ = some vn ∧ wr.cell? ⟨O, 2, none⟩ = some vt ∧ wr.frozen? ⟨O, 1, none⟩ = false ∧ wr.frozen? ⟨O, 2, none⟩ = false := by
  obtain ⟨a, c, hB, _⟩ := h.rr.ex
  exact ⟨hB.cell 1 rfl, hB.cell 2 rfl, h.ob.cell 0 rfl, h.ob.cell 1 rfl, h.ob.cell 2 rfl, h.ob.frozen 1, h.ob.frozen 2⟩

/-- What is still to be read, behind some numbers, behind some texts. -/
def Cont2 (X : Rd Rc) (z : Int) (ns : List Int) (ts : List (List Int)) (n : Int) (i : Nat) (q : List Int) (k : Int) : Prop :=
  (k ≠ 0 ∧ X = .error k) ∨ (k = 0 ∧ ∃ N : Nat, n = N ∧ N ≤ 64 ∧ i ≤ N ∧ X = ((manyR textR (N - i) q).map (ts ++ ·)).then fun ts r => if r = [] then .ok ((z, ns, ts), []) else .error 23)
def Cont1 (X : Rd Rc) (z : Int) (ns : List Int) (n : Int) (i : Nat) (q : List Int) (k : Int) : Prop :=
  (k ≠ 0 ∧ X = .error k) ∨ (k = 0 ∧ ∃ N : Nat, n = N ∧ N ≤ 64 ∧ i ≤ N ∧ X = ((manyR numR (N - i) q).map (ns ++ ·)).then fun ns r => (someR textR r).then fun ts r => if r = [] then .ok ((z, ns, ts), []) else .error 23)

end Go.Proofs.YtfpllfjdgpcmdaaDoor
