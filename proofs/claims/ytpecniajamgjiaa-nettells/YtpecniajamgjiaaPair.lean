/-
  The words for the two copies with which the laws over a network and a packet open: they are made in whatever order.
-/
import Derived.Test.YtpecniajamgjiaaOf
namespace Go.Proofs.Ytpecniajamgjiaa
open Go.RowKit

theorem Box.through {w w' : World} {B : Nat} {t : TypeId} {cs : Array Value} (h : Box w B t cs) (hb : Below w.heap.size w w') : Box w' B t cs := h.below hb h.lt

theorem below_cell {w w' : World} (hb : Below w.heap.size w w') (z : Addr) (hz : z.block < w.heap.size) : w'.cell? z = w.cell? z := hb.cell hz
theorem below_frozen {w w' : World} (hb : Below w.heap.size w w') (z : Addr) (hz : z.block < w.heap.size) : w'.frozen? z = w.frozen? z := World.frozen?_of_block (hb.block _ hz)

/-- The blocks from lo on, below hi, are as they were. -/
def Mid (lo hi : Nat) (w w' : World) : Prop := ∀ k, lo ≤ k → k < hi → w'.heap[k]? = w.heap[k]?
theorem Mid.refl (lo hi : Nat) (w : World) : Mid lo hi w w := fun _ _ _ => rfl
theorem Mid.set {lo hi : Nat} {w w' : World} {B i : Nat} {x : Value} (h : Mid lo hi w w') (hB : B < lo ∨ hi ≤ B) : Mid lo hi w (w'.setCell ⟨B, i, none⟩ x) := fun k h1 h2 => (Below.heap_setCell _ _ _ _ (by simp; omega)).trans (h k h1 h2)
theorem Mid.alloc {lo hi : Nat} {w w' : World} {o : Obj} (h : Mid lo hi w w') (hs : hi ≤ w'.heap.size) : Mid lo hi w (w'.alloc o) := fun k h1 h2 => (Below.heap_alloc _ _ _ (by omega)).trans (h k h1 h2)
theorem Mid.through {lo hi : Nat} {w v w' : World} (h : Mid lo hi w v) (hb : Below v.heap.size v w') (hs : hi ≤ v.heap.size) : Mid lo hi w w' := fun k h1 h2 => (hb.block k (by omega)).trans (h k h1 h2)
theorem Mid.drew {lo hi : Nat} {w w' : World} (h : Mid lo hi w w') : Mid lo hi w w'.drew := h

/-- A variable that was made right ahead of a call, and one ahead of that. -/
theorem new1 {v w' : World} {cs : Array Value} {t : TypeId} (hb : Below (v.alloc (.cells cs t)).heap.size (v.alloc (.cells cs t)) w') : Box w' v.heap.size t cs := (Box.new v t cs).through hb
theorem new2 {v w' : World} {cs : Array Value} {t : TypeId} {o : Obj} (hb : Below ((v.alloc (.cells cs t)).alloc o).heap.size ((v.alloc (.cells cs t)).alloc o) w') : Box w' v.heap.size t cs := ((Box.new v t cs).alloc o).through hb
theorem new1d {v w' : World} {cs : Array Value} {t : TypeId} (hb : Below (v.alloc (.cells cs t)).drew.heap.size (v.alloc (.cells cs t)).drew w') : Box w' v.heap.size t cs := Box.through (w := (v.alloc (.cells cs t)).drew) (Box.new v t cs) hb
theorem new2d {v w' : World} {cs : Array Value} {t : TypeId} {o : Obj} (hb : Below ((v.alloc (.cells cs t)).alloc o).drew.heap.size ((v.alloc (.cells cs t)).alloc o).drew w') : Box w' v.heap.size t cs := Box.through (w := ((v.alloc (.cells cs t)).alloc o).drew) ((Box.new v t cs).alloc o) hb
theorem Box.ne {w : World} {B B' : Nat} {t t' : TypeId} {cs cs' : Array Value} (h : Box w B t cs) (h' : Box w B' t' cs') (ht : t ≠ t') : B ≠ B' := fun e => by
  subst e
  have h1 : w.heap[B]? = some (.cells cs t (0, 0)) := h
  have h2 : w.heap[B]? = some (.cells cs' t' (0, 0)) := h'
  rw [h1] at h2
  simp at h2
  exact ht h2.2

theorem Box.new' {v : World} {B : Nat} {t : TypeId} {cs : Array Value} (h : B = v.heap.size) : Box (v.alloc (.cells cs t)) B t cs := by subst h; exact Box.new v t cs
theorem Box.pair {w : World} {B : Nat} {t : TypeId} {u v x y : Value} (h : Box w B t #[u, v]) : Box ((w.setCell ⟨B, 0, none⟩ x).setCell ⟨B, 1, none⟩ y) B t #[x, y] := (h.set 0 x).set 1 y
theorem Box.triple {w : World} {B : Nat} {t : TypeId} {u v z x y r : Value} (h : Box w B t #[u, v, z]) : Box (((w.setCell ⟨B, 0, none⟩ x).setCell ⟨B, 1, none⟩ y).setCell ⟨B, 2, none⟩ r) B t #[x, y, r] := ((h.set 0 x).set 1 y).set 2 r
theorem Mid.own {lo hi : Nat} {α : Type} (S : Shape α) {w w' : World} {us : List Value} {a : α} (h : S.owns lo w us a) (hh : hi = w.heap.size) (hm : Mid lo hi w w') : S.owns lo w' us a := S.osame h fun k h1 h2 => hm k h1 (by omega)

theorem pk_fits {p : Pk} (h : pkR.fits p) : p.2.2.length ≤ 140737488351232 := by
  obtain ⟨_, _, h4⟩ := h
  have b5 : Try.prog.bytesOf 5 = 1 := by kernel_rfl
  have h5 : p.2.2.length * Try.prog.bytesOf 5 ≤ 140737488351232 := h4
  rwa [b5, Nat.mul_one] at h5

/-- The two arguments' variables, and the memory that was there. -/
abbrev OS (w1 : World) (B : Nat) (lim : Int) (a : Option Addr) (n c : Nat) (pf pt : Int) (ax : Option Addr) (m cx : Nat) (w' : World) : Prop :=
  w'.cell? ⟨B, 0, none⟩ = some (.int .i64 lim) ∧ w'.cell? ⟨B, 1, none⟩ = some (.slice a n c) ∧ w'.cell? ⟨B + 1, 0, none⟩ = some (.int .i64 pf) ∧ w'.cell? ⟨B + 1, 1, none⟩ = some (.int .i64 pt) ∧ w'.cell? ⟨B + 1, 2, none⟩ = some (.slice ax m cx) ∧ Below w1.heap.size w1 w'
theorem OS.below {w1 : World} {B : Nat} {lim : Int} {a : Option Addr} {n c : Nat} {pf pt : Int} {ax : Option Addr} {m cx : Nat} {w' : World} (h : OS w1 B lim a n c pf pt ax m cx w') : Below w1.heap.size w1 w' := h.2.2.2.2.2
theorem OS.through {w1 : World} {B : Nat} {lim : Int} {a : Option Addr} {n c : Nat} {pf pt : Int} {ax : Option Addr} {m cx : Nat} {w' w'' : World} (h : OS w1 B lim a n c pf pt ax m cx w') (hb : Below w'.heap.size w' w'') : OS w1 B lim a n c pf pt ax m cx w'' := by
  obtain ⟨h1, h2, h3, h4, h5, h6⟩ := h
  have keep : ∀ (z : Addr) (u : Value), w'.cell? z = some u → w''.cell? z = some u := fun z u hz => by rw [hb.cell (cell_lt hz)]; exact hz
  exact ⟨keep _ _ h1, keep _ _ h2, keep _ _ h3, keep _ _ h4, keep _ _ h5, below_any h6 hb⟩
theorem OS.alloc {w1 : World} {B : Nat} {lim : Int} {a : Option Addr} {n c : Nat} {pf pt : Int} {ax : Option Addr} {m cx : Nat} {w' : World} {o : Obj} (h : OS w1 B lim a n c pf pt ax m cx w') : OS w1 B lim a n c pf pt ax m cx (w'.alloc o) := h.through ((Below.refl _ _).alloc (Nat.le_refl _) _)
theorem OS.set {w1 : World} {B : Nat} {lim : Int} {a : Option Addr} {n c : Nat} {pf pt : Int} {ax : Option Addr} {m cx : Nat} {w' : World} {D i : Nat} {x : Value} (hB : B + 1 < w1.heap.size) (hD : w1.heap.size ≤ D) (h : OS w1 B lim a n c pf pt ax m cx w') : OS w1 B lim a n c pf pt ax m cx (w'.setCell ⟨D, i, none⟩ x) := by
  obtain ⟨h1, h2, h3, h4, h5, h6⟩ := h
  have keep : ∀ (k j : Nat) (u : Value), k ≠ D → w'.cell? ⟨k, j, none⟩ = some u → (w'.setCell ⟨D, i, none⟩ x).cell? ⟨k, j, none⟩ = some u := fun k j u hk hu => by
    rw [World.cell?_of_block (Below.heap_setCell _ _ _ _ hk)]; exact hu
  exact ⟨keep _ _ _ (by omega) h1, keep _ _ _ (by omega) h2, keep _ _ _ (by omega) h3, keep _ _ _ (by omega) h4, keep _ _ _ (by omega) h5, h6.setCell (p := ⟨D, i, none⟩) hD _⟩

theorem OS.drew {w1 : World} {B : Nat} {lim : Int} {a : Option Addr} {n c : Nat} {pf pt : Int} {ax : Option Addr} {m cx : Nat} {w' : World} (h : OS w1 B lim a n c pf pt ax m cx w') : OS w1 B lim a n c pf pt ax m cx w'.drew := ⟨h.1, h.2.1, h.2.2.1, h.2.2.2.1, h.2.2.2.2.1, h.2.2.2.2.2.drew⟩

end Go.Proofs.Ytpecniajamgjiaa
