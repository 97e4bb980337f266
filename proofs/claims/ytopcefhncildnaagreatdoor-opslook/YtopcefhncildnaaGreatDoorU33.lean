/-
  Nodes in memory of their own, and what a store into one of them does.
-/
import Derived.Test.YtopcefhncildnaaGreatDoorU31
import Derived.Laws.OwnMore
set_option maxRecDepth 100000
set_option maxHeartbeats 400000
namespace Go.Proofs.YtopcefhncildnaaGreatDoor
open Go.RowKit
open D (En ArgE OwnE EOks EOk ev evs)
open F (Fl Bk bkN bksN flN)
open P (ArgT)
theorem flat_set {α : Type} {size : Nat} : ∀ {vss : List (List α)} {i j : Nat} {us : List α} {u : α}, (∀ us ∈ vss, us.length = size) → vss[i]? = some us → j < size → vss.flatten.set (i * size + j) u = (vss.set i (us.set j u)).flatten
 | x :: r, 0, j, us, u, hl, hu, hj => by (
 obtain rfl : x = us := by simpa using hu
 have := hl x (List.mem_cons_self ..)
 simp only [List.flatten_cons, Nat.zero_mul, Nat.zero_add, List.set_cons_zero]
 rw [List.set_append_left _ _ (by omega)])
 | x :: r, i + 1, j, us, u, hl, hu, hj => by (
 have hx := hl x (List.mem_cons_self ..)
 have ih := flat_set (u := u) (fun us h => hl us (List.mem_cons_of_mem _ h)) (show r[i]? = some us by simpa using hu) hj
 simp only [List.flatten_cons, List.set_cons_succ]
 rw [List.set_append_right _ _ (by rw [hx, Nat.add_mul]; omega), hx, show (i + 1) * size + j - size = i * size + j by rw [Nat.add_mul]; omega, ih])
theorem Each.set {α β : Type} {R : α → β → Prop} {a : α} {b : β} : ∀ {xs : List α} {ys : List β} (i : Nat), Each R xs ys → R a b → Each R (xs.set i a) (ys.set i b)
 | [], [], _, _, _ => trivial
 | _ :: _, _ :: _, 0, h, hr => ⟨hr, h.2⟩
 | _ :: _, _ :: _, i + 1, h, hr => ⟨h.1, Each.set i h.2 hr⟩
theorem en_omk {n : Nat} {w : World} {p : En} (h : EOk p) : D.enF.owns n w (ev p) p := ⟨[_], [_], rfl, ⟨rfl, h.1⟩, ⟨rfl, h.2.wf⟩⟩
theorem each_omk {n : Nat} {w : World} : ∀ {l : List En}, EOks l → Each (D.enF.owns n w) (l.map ev) l
 | [], _ => trivial
 | p :: _, h => ⟨en_omk (h p (List.mem_cons_self ..)), each_omk fun q hq => h q (List.mem_cons_of_mem _ hq)⟩
theorem ens_omk {n : Nat} {w : World} {v : Value} {l : List En} (h : OwnE 49 n w v l) : ensN.owns n w [v] l := ⟨v, l.map ev, rfl, h.1, each_omk h.2⟩
theorem ens_own {n : Nat} {w : World} {v : Value} {l : List En} (h : ensN.owns n w [v] l) : OwnE 49 n w v l := by
 obtain ⟨v', vss, hv, hC, hE⟩ := h
 obtain rfl : v = v' := by simpa using hv
 obtain ⟨rfl, ho⟩ := D.each_ev (hE.mono fun _ _ h => D.enF.olies h)
 exact ⟨hC, ho⟩
def LO (n : Nat) (w : World) (p : Nd) (e b : Value) : Prop := OwnE 49 n w e (en p) ∧ bksN.owns n w [b] (fi p).2 ∧ NOk p
theorem LO.ln {n : Nat} {w : World} {p : Nd} {e b : Value} (h : LO n w p e b) : LN n w p e b := ⟨h.1.arg, bksN.olies h.2.1, h.2.2⟩
theorem nd_omk {n : Nat} {w : World} {p : Nd} {e b : Value} (h : LO n w p e b) : ndN.owns n w (nv p e b) p :=
 ⟨[_], _, rfl, ⟨rfl, h.2.2.1.wf⟩, [_], _, rfl, ⟨rfl, trivial⟩, [_], _, rfl, ⟨rfl, h.2.2.2.1.wf⟩, [e], _, rfl, ens_omk h.1, F.fl_omkN h.2.1 h.2.2.2.2⟩
theorem nd_own {n : Nat} {w : World} {us : List Value} {p : Nd} (h : ndN.owns n w us p) : ∃ e b, us = nv p e b ∧ LO n w p e b := by
 obtain ⟨u1, r1, rfl, ⟨rfl, h1⟩, u2, r2, rfl, ⟨rfl, _⟩, u3, r3, rfl, ⟨rfl, h3⟩, u4, r4, rfl, h4, h5⟩ := h
 obtain ⟨a, cap, rfl, hb, h6⟩ := F.fl_ownN h5
 have h4' := h4
 obtain ⟨v, _, rfl, _⟩ := h4
 exact ⟨_, _, rfl, ens_own h4', hb, bounds_i64 h1, bounds_i64 h3, h6⟩
theorem LO.below {n : Nat} {w w' : World} {p : Nd} {e b : Value} (h : LO n w p e b) (hb : Below w.heap.size w w') : LO n w' p e b := ⟨h.1.below hb, bksN.obelow h.2.1 hb, h.2.2⟩
def Puts (n : Nat) (v : Value) (l : List Nd) (i : Nat) (p : Nd) (g : Nat) (e f : Value) (W : World) : Prop :=
 (∀ (j : Nat) u, (nv p e f)[j]? = some u → W.cell? ⟨g, i * 6 + j, none⟩ = some u) ∧ (∀ j, W.frozen? ⟨g, j, none⟩ = false) ∧ LO n W p e f ∧
   ∀ (j : Nat) u p' e' f', j < 6 → (nv p e f).set j u = nv p' e' f' → LO n W p' e' f' → ndsN.owns n (W.setCell ⟨g, i * 6 + j, none⟩ u) [v] (l.set i p') ∧ LO n (W.setCell ⟨g, i * 6 + j, none⟩ u) p' e' f' ∧ W.grownBy (W.setCell ⟨g, i * 6 + j, none⟩ u) v.ownBlock
theorem nds_own_at {n : Nat} {w : World} {v : Value} {l : List Nd} (h : ndsN.owns n w [v] l) (i : Nat) (p : Nd) (hp : l[i]? = some p) :
   ∃ g cap e f, v = .slice (some ⟨g, 0, none⟩) l.length cap ∧ n ≤ g ∧ g < w.heap.size ∧ (∀ W, (Instr.indexAt 27 v (.int .i64 i)).run Tryz.prog W = .ok (.pointer (some ⟨g, i * 6, none⟩)) W) ∧ ∀ W, Below w.heap.size w W → Puts n v l i p g e f W := by
 obtain ⟨i0, hi0, _, hz, _⟩ := info_parts Tryz.info47
 obtain ⟨v', vss, hv, hC0, hE0⟩ := h
 obtain rfl : v = v' := by simpa using hv
 obtain ⟨us, hu, hO⟩ := hE0.get hp
 obtain ⟨e, f, rfl, hL0⟩ := nd_own hO
 have hi : i < l.length := (List.getElem?_eq_some_iff.1 hp).1
 obtain ⟨g, cap, rfl⟩ : ∃ g cap, v = .slice (some ⟨g, 0, none⟩) l.length cap := by (
 rcases hC0.2 with ⟨_, h0⟩ | ⟨g, cap, cur, h', _⟩
 · omega
 · exact ⟨g, cap, h'⟩)
 have hsz : ∀ us ∈ vss, us.length = 6 := fun us h => by
   obtain ⟨q, _, hq⟩ := hE0.left h
   exact ndN.length (ndN.olies hq)
 have hob : (Value.slice (some ⟨g, 0, none⟩) l.length cap).ownBlock = some g := rfl
 have hlt := hC0.lt g hob
 refine ⟨g, cap, e, f, rfl, hlt.1, hlt.2, fun W => ?_, fun W hW => ?_⟩
 · have := run_index (size := 6) Tryz.underlying27 hi0 hz g 0 l.length cap i hi W
   simpa using this
 have hC := own_below hC0 hW
 have hE := hE0.mono fun _ _ h => ndN.obelow h hW
 have hL := hL0.below hW
 refine ⟨fun j u hj => ?_, fun j => hC.frozenAt j, hL, fun j u p' e' f' hj hset hL' => ?_⟩
 · have hc := hC.cells hob (i * 6 + j) u (flat_get hsz hu hj)
   rwa [add_plain, Nat.zero_add] at hc
 · obtain ⟨h1, h2⟩ := hC.stored (i * 6 + j) u
   rw [flat_set hsz hu hj, hset] at h1
   have hcl : Clear W (some g) ndN.ids := by rw [← hob]; exact .own hC (by decide)
   have kp : ∀ a b, ndN.owns n W a b → ndN.owns n (W.setCell ⟨g, i * 6 + j, none⟩ u) a b := fun a b h => ndN.ogrown h h2 hcl
   have hN := kp _ _ (nd_omk hL')
   refine ⟨⟨_, vss.set i (nv p' e' f'), rfl, by rw [List.length_set]; exact h1, (hE.mono kp).set i hN⟩, ?_, h2⟩
   obtain ⟨e2, f2, he, hL2⟩ := nd_own hN
   simp only [nv, List.cons.injEq, and_true, true_and] at he
   obtain ⟨rfl, rfl⟩ := he
   exact hL2
theorem grown_below {w w' : World} (h : Below w.heap.size w w') (r : Option Nat) : w.grownBy w' r := ⟨h.os, h.tape, h.output, h.size, fun j hj _ => h.block j hj⟩
def MS (n : Nat) (w : World) (S : Nat) (s : St) : Prop := ∃ v, Box w S 29 #[v, .int .i64 s.2] ∧ ndsN.owns n w [v] s.1
def Stay (B : Nat) (w : World) (v : Value) (xs : List ByteArray) : Prop := ∀ w', Below B w w' → ArgT 0 w' v xs
theorem Stay.at {B : Nat} {w : World} {v : Value} {xs : List ByteArray} (h : Stay B w v xs) : ArgT 0 w v xs := h w (.refl _ _)
theorem Stay.below {B : Nat} {w w' : World} {v : Value} {xs : List ByteArray} (h : Stay B w v xs) (hb : Below B w w') : Stay B w' v xs := fun w2 h2 => h w2 (hb.trans h2)
theorem Stay.of {n : Nat} {w : World} {v : Value} {xs : List ByteArray} (h : ArgT n w v xs) : Stay w.heap.size w v xs := fun _ hb => (h.below hb).weaken (Nat.zero_le _)
theorem set_ch {l : List Nd} (hU : Ups l) {i : Nat} {p : Nd} (hp : l[i]? = some p) (f : Nd → Nd) : l.set i (f p) = ch l p.1 f := by
 induction l generalizing i with
 | nil => simp at hp
 | cons q r ih => (
 have hU' := List.pairwise_cons.1 hU
 cases i with
 | zero => (
 obtain rfl : q = p := by simpa using hp
 simp only [List.set_cons_zero, ch, List.map_cons, if_true]
 congr 1
 conv => lhs; rw [← List.map_id r]
 apply List.map_congr_left
 intro n hn
 have := hU'.1 n hn
 rw [if_neg (by omega)]; rfl)
 | succ i => (
 have hp' : r[i]? = some p := by simpa using hp
 have := hU'.1 p (List.mem_of_getElem? hp')
 simp only [List.set_cons_succ, ch, List.map_cons]
 rw [if_neg (by omega), ih hU'.2 hp']; rfl))
theorem erase_rm {l : List Nd} (hU : Ups l) {i : Nat} {p : Nd} (hp : l[i]? = some p) : l.eraseIdx i = rm l p.1 := by
 induction l generalizing i with
 | nil => simp at hp
 | cons q r ih => (
 have hU' := List.pairwise_cons.1 hU
 cases i with
 | zero => (
 obtain rfl : q = p := by simpa using hp
 simp only [List.eraseIdx_cons_zero, rm]
 rw [List.filter_cons_of_neg (by simp)]
 symm
 apply List.filter_eq_self.2
 intro n hn
 have := hU'.1 n hn
 simp; omega)
 | succ i => (
 have hp' : r[i]? = some p := by simpa using hp
 have := hU'.1 p (List.mem_of_getElem? hp')
 simp only [List.eraseIdx_cons_succ, rm]
 rw [List.filter_cons_of_pos (by simp; omega), ih hU'.2 hp']; rfl))
end Go.Proofs.YtopcefhncildnaaGreatDoor
