/-
  The document's nodes in a row of its own; their entries and blocks lie where the row does not come to.
-/
import Derived.Test.YtopcefhncildnaaGreatDoorO28
import Derived.Test.YtopcefhncildnaaGreatDoorO38
namespace Go.Proofs.YtopcefhncildnaaGreatDoor
open Go.RowKit
open D (En ArgE OwnE evs)
open F (bksR)
def Agree (B0 B1 : Nat) (r : Option Nat) (w w' : World) : Prop := ∀ k, some k ≠ r → k < w.heap.size → (k < B0 ∨ B1 ≤ k) → w'.heap[k]? = w.heap[k]?
theorem Agree.refl (B0 B1 : Nat) (r : Option Nat) (w : World) : Agree B0 B1 r w w := fun _ _ _ _ => rfl
theorem Agree.of_none {B0 B1 : Nat} {r : Option Nat} {w w' : World} (h : Agree B0 B1 none w w') : Agree B0 B1 r w w' := fun k _ h1 h2 => h k (by simp) h1 h2
theorem Agree.of_below {B0 B1 : Nat} {r : Option Nat} {w w' : World} (h : Below w.heap.size w w') : Agree B0 B1 r w w' := fun k _ h1 _ => h.block k h1
theorem Agree.grown {B0 B1 : Nat} {r r' : Option Nat} {w w' w'' : World} (hg : w.grownBy w' r) (hr : ∀ g, r' = some g → r = some g ∨ w.heap.size ≤ g) (h : Agree B0 B1 r' w' w'') : Agree B0 B1 r w w'' := fun k h1 h2 h3 => by
 have hk : some k ≠ r' := fun e => by (
 rcases hr k e.symm with c | c
 · exact h1 c.symm
 · omega)
 rw [h k hk (by have := hg.size; omega) h3]
 exact hg.block k h2 h1
theorem Agree.below {B0 B1 : Nat} {r : Option Nat} {w w' w'' : World} (hb : Below w.heap.size w w') (h : Agree B0 B1 r w' w'') : Agree B0 B1 r w w'' := fun k h1 h2 h3 => by
 rw [h k h1 (by have := hb.size; omega) h3]
 exact hb.block k h2
theorem Agree.set {B0 B1 : Nat} {r : Option Nat} {w w'' : World} {B j : Nat} {x : Value} (hB : r = some B ∨ (B0 ≤ B ∧ B < B1)) (h : Agree B0 B1 r (w.setCell ⟨B, j, none⟩ x) w'') : Agree B0 B1 r w w'' := fun k h1 h2 h3 => by
 rw [h k h1 (by simpa [World.setCell] using h2) h3]
 refine Below.heap_setCell _ _ _ _ fun e => ?_
 simp only at e
 rcases hB with c | c
 · exact h1 (by rw [c, e])
 · omega
def PR (B0 B1 : Nat) (r : Option Nat) (w : World) (p : Nd) (e b : Value) : Prop := NOk p ∧ ∀ w', Agree B0 B1 r w w' → ArgE 0 w' e (en p) ∧ bksR.lies 0 w' [b] (fi p).2
theorem PR.lr {B0 B1 : Nat} {r : Option Nat} {w w' : World} {p : Nd} {e b : Value} (h : PR B0 B1 r w p e b) (ha : Agree B0 B1 r w w') : LR 0 w' p e b := ⟨(h.2 w' ha).1, (h.2 w' ha).2, h.1⟩
theorem PR.to {B0 B1 : Nat} {r r' : Option Nat} {w w' : World} {p : Nd} {e b : Value} (h : PR B0 B1 r w p e b) (ha : ∀ w'', Agree B0 B1 r' w' w'' → Agree B0 B1 r w w'') : PR B0 B1 r' w' p e b := ⟨h.1, fun w'' h2 => h.2 w'' (ha w'' h2)⟩
def OR (B0 B1 : Nat) (w : World) (v : Value) (l : List Nd) : Prop := ∃ vss, w.ownsRow B1 101 6 v l.length vss.flatten ∧ Each (fun us p => ∃ e b, us = nv p e b ∧ PR B0 B1 v.ownBlock w p e b) vss l
theorem nv_len (p : Nd) (e b : Value) : (nv p e b).length = 6 := rfl
theorem OR.to {B0 B1 : Nat} {w w' : World} {v : Value} {l : List Nd} (h : OR B0 B1 w v l) (hs : Same B1 w w') (ha : ∀ w'', Agree B0 B1 v.ownBlock w' w'' → Agree B0 B1 v.ownBlock w w'') : OR B0 B1 w' v l := by
 obtain ⟨vss, h1, h2⟩ := h
 exact ⟨vss, own_same h1 hs, h2.mono fun _ _ ⟨e, b, h3, h4⟩ => ⟨e, b, h3, h4.to ha⟩⟩
theorem OR.below {B0 B1 : Nat} {w w' : World} {v : Value} {l : List Nd} (h : OR B0 B1 w v l) (hb : Below w.heap.size w w') : OR B0 B1 w' v l := h.to (.of_below hb) fun _ k => k.below hb
theorem OR.set {B0 B1 : Nat} {w : World} {v : Value} {l : List Nd} {B j : Nat} {x : Value} (h : OR B0 B1 w v l) (hB : B0 ≤ B ∧ B < B1) : OR B0 B1 (w.setCell ⟨B, j, none⟩ x) v l := h.to (.set hB.2) fun _ k => k.set (.inr hB)
theorem OR.nil (B0 B1 : Nat) (w : World) : OR B0 B1 w (.slice none 0 0) [] := ⟨[], World.ownsRow_nil _ _ _ _, trivial⟩
theorem OR.shape {B0 B1 : Nat} {w : World} {v : Value} {l : List Nd} (h : OR B0 B1 w v l) : ∃ a c, v = .slice a l.length c := by
 obtain ⟨_, h1, _⟩ := h
 exact own_shape h1
theorem OR.lies {B0 B1 : Nat} {w w' : World} {v : Value} {l : List Nd} (h : OR B0 B1 w v l) (ha : Agree B0 B1 none w w') : ndsR.lies 0 w' [v] l := by
 obtain ⟨vss, h1, h2⟩ := h
 have h3 : w'.ownsRow B1 101 6 v l.length vss.flatten := own_same h1 fun k hk hl => ha k (by simp) hl (.inr hk)
 exact ⟨v, vss, rfl, (Cells.own h3).weaken (Nat.zero_le _), h2.mono fun _ _ ⟨e, b, e1, h4⟩ => by rw [e1]; exact nd_mkR (h4.lr ha.of_none)⟩
def PutsR (B0 B1 : Nat) (v : Value) (l : List Nd) (i : Nat) (p : Nd) (g : Nat) (e f : Value) (W : World) : Prop :=
 (∀ (j : Nat) u, (nv p e f)[j]? = some u → W.cell? ⟨g, i * 6 + j, none⟩ = some u) ∧ (∀ j, W.frozen? ⟨g, j, none⟩ = false) ∧ PR B0 B1 (some g) W p e f ∧
   ∀ (j : Nat) u p' e' f', j < 6 → (nv p e f).set j u = nv p' e' f' → PR B0 B1 (some g) W p' e' f' → OR B0 B1 (W.setCell ⟨g, i * 6 + j, none⟩ u) v (l.set i p') ∧ W.grownBy (W.setCell ⟨g, i * 6 + j, none⟩ u) (some g)
theorem OR.at {B0 B1 : Nat} {w : World} {v : Value} {l : List Nd} (h : OR B0 B1 w v l) (i : Nat) (p : Nd) (hp : l[i]? = some p) :
   ∃ g cap e f, v = .slice (some ⟨g, 0, none⟩) l.length cap ∧ B1 ≤ g ∧ g < w.heap.size ∧ (∀ W, (Instr.indexAt 22 v (.int .i64 i)).run Tryz.prog W = .ok (.pointer (some ⟨g, i * 6, none⟩)) W) ∧ ∀ W, Below w.heap.size w W → PutsR B0 B1 v l i p g e f W := by
 obtain ⟨i0, hi0, _, hz, _⟩ := info_parts Tryz.info101
 obtain ⟨vss, hC0, hE0⟩ := h
 obtain ⟨us, hu, e, f, rfl, hL0⟩ := hE0.get hp
 have hi : i < l.length := (List.getElem?_eq_some_iff.1 hp).1
 obtain ⟨g, cap, rfl⟩ : ∃ g cap, v = .slice (some ⟨g, 0, none⟩) l.length cap := by (
 rcases hC0.2 with ⟨_, h0⟩ | ⟨g, cap, cur, h', _⟩
 · omega
 · exact ⟨g, cap, h'⟩)
 have hsz : ∀ us ∈ vss, us.length = 6 := fun us h => by
   obtain ⟨q, _, e, b, rfl, _⟩ := hE0.left h
   exact nv_len _ _ _
 have hob : (Value.slice (some ⟨g, 0, none⟩) l.length cap).ownBlock = some g := rfl
 have hlt := hC0.lt g hob
 refine ⟨g, cap, e, f, rfl, hlt.1, hlt.2, fun W => ?_, fun W hW => ?_⟩
 · have := run_index (size := 6) Tryz.underlying22 hi0 hz g 0 l.length cap i hi W
   simpa using this
 have hC := own_below hC0 hW
 have hE := hE0.mono fun us q (⟨e, b, h3, h4⟩ : ∃ e b, us = nv q e b ∧ PR B0 B1 (Value.slice (some ⟨g, 0, none⟩) l.length cap).ownBlock w q e b) => (⟨e, b, h3, h4.to fun _ k => k.below hW⟩ : ∃ e b, us = nv q e b ∧ PR B0 B1 (some g) W q e b)
 have hL : PR B0 B1 (some g) W p e f := hL0.to fun _ k => k.below hW
 refine ⟨fun j u hj => ?_, fun j => hC.frozenAt j, hL, fun j u p' e' f' hj hset hL' => ?_⟩
 · have hc := hC.cells hob (i * 6 + j) u (flat_get hsz hu hj)
   rwa [add_plain, Nat.zero_add] at hc
 · obtain ⟨h1, h2⟩ := hC.stored (i * 6 + j) u
   rw [flat_set hsz hu hj, hset] at h1
   refine ⟨⟨vss.set i (nv p' e' f'), by rw [List.length_set]; exact h1, Each.set i (hE.mono fun us q ⟨e, b, h3, h4⟩ => ⟨e, b, h3, h4.to fun _ k => k.set (.inl rfl)⟩) ⟨e', f', rfl, hL'.to fun _ k => k.set (.inl rfl)⟩⟩, ?_⟩
   exact h2
theorem OR.push {B0 B1 : Nat} {W w3 : World} {v v3 : Value} {l : List Nd} {p : Nd} {e b : Value} {vss : List (List Value)} (h2 : Each (fun us p => ∃ e b, us = nv p e b ∧ PR B0 B1 v.ownBlock W p e b) vss l) (hp : PR B0 B1 v.ownBlock W p e b) (hg : W.grownBy w3 v.ownBlock)
   (hv : ∀ g, v3.ownBlock = some g → v.ownBlock = some g ∨ W.heap.size ≤ g) (hO : w3.ownsRow B1 101 6 v3 (l.length + 1) (vss.flatten ++ nv p e b)) : OR B0 B1 w3 v3 (l ++ [p]) := by
 refine ⟨vss ++ [nv p e b], ?_, ?_⟩
 · rw [List.length_append, flat_snoc]; exact hO
 · have kp : ∀ w'', Agree B0 B1 v3.ownBlock w3 w'' → Agree B0 B1 v.ownBlock W w'' := fun _ k => k.grown hg hv
   exact Each.snoc (h2.mono fun us q ⟨e, b, h3, h4⟩ => ⟨e, b, h3, h4.to kp⟩) ⟨e, b, rfl, hp.to kp⟩
end Go.Proofs.YtopcefhncildnaaGreatDoor
