/-
  Plain mathematics: which nodes may be, one by one, as the document asks it; that is which states may be, but for the ways.
-/
import Derived.Test.YtopcefhncildnaaGreatDoorO19
import Derived.Test.YtopcefhncildnaaGreatDoorO26
namespace Go.Proofs.YtopcefhncildnaaGreatDoor
open D (En Chk)
open F (Fl chk)
structure NodeR (s : St) (i : Nat) (p : Nd) : Prop where
 low : 1 ≤ p.1
 nx : p.1 < s.2
 up : ∀ q, 0 < i → s.1[i - 1]? = some q → q.1 < p.1
 ens : Chk (en p)
 fil : chk (fi p) = true
 dir : isD p = true → (fi p).1 = 0
 nod : isD p = false → en p = []
 one : 0 < i → isD p = true → lk p = 1
 few : 0 < i → 1 ≤ lk p ∧ lk p ≤ 16
 lks : lk p = (cnt s.1 p.1 : Int)
 nms : ∀ e ∈ en p, ∃ m ∈ s.1, m.1 = e.2
structure ShapeR (s : St) : Prop where
 nx : 2 ≤ s.2 ∧ s.2 ≤ 2147483647
 len : 1 ≤ s.1.length ∧ s.1.length ≤ 128
 top : ∃ p, s.1[0]? = some p ∧ p.1 = 1 ∧ isD p = true ∧ lk p = 0
 all : ∀ (i : Nat) p, s.1[i]? = some p → NodeR s i p
theorem chk_zero {f : Fl} (h : chk f = true) (h0 : f.1 = 0) : f = (0, []) := by
 obtain ⟨_, h1, _⟩ := F.chk_iff.1 h
 refine Prod.ext h0 ?_
 cases hf : f.2 with
 | nil => rfl
 | cons b r => (
 have := h1 b (by rw [hf]; exact List.mem_cons_self ..)
 rw [h0] at this
 have hb : F.blkN 0 = 0 := by decide
 rw [hb] at this
 omega)
theorem ups_next {l : List Nd} (h : ∀ (i : Nat) p q, 0 < i → l[i]? = some p → l[i - 1]? = some q → q.1 < p.1) : Ups l := by
 have key : ∀ (j i : Nat) p q, i < j → l[i]? = some p → l[j]? = some q → p.1 < q.1 := by (
 intro j
 induction j with
 | zero => intro i p q hij; omega
 | succ j ih => (
 intro i p q hij hp hq
 have hlt : j < l.length := by have := (List.getElem?_eq_some_iff.1 hq).1; omega
 have h1 := h (j + 1) q l[j] (by omega) hq (by simp)
 by_cases e : i = j
 · subst e
   have : l[i] = p := by rw [List.getElem?_eq_getElem hlt] at hp; exact Option.some.inj hp
   rw [← this]; exact h1
 · have := ih i p l[j] (by omega) hp (List.getElem?_eq_getElem hlt)
   omega))
 unfold Ups
 rw [List.pairwise_iff_getElem]
 intro i j hi hj hij
 exact key j i _ _ hij (List.getElem?_eq_getElem hi) (List.getElem?_eq_getElem hj)
theorem shape_pre {s : St} : ShapeR s ↔ Pre s := by
 constructor
 · intro h
   have hU : Ups s.1 := ups_next fun i p q hi hp hq => (h.all i p hp).up q hi hq
   obtain ⟨t, t0, t1, t2, t3⟩ := h.top
   have ht := List.mem_of_getElem? t0
   have at' : ∀ n ∈ s.1, ∃ i : Nat, s.1[i]? = some n ∧ NodeR s i n := fun n hn => by (
 obtain ⟨i, hi⟩ := List.getElem?_of_mem hn
 exact ⟨i, hi, h.all i n hi⟩)
   have pos : ∀ n ∈ s.1, n.1 ≠ 1 → ∃ i : Nat, 0 < i ∧ NodeR s i n := fun n hn h1 => by (
 obtain ⟨i, hi, hk⟩ := at' n hn
 refine ⟨i, Nat.pos_of_ne_zero fun e => h1 ?_, hk⟩
 subst e
 rw [t0] at hi
 cases hi
 exact t1)
   refine ⟨h.nx, h.len.2, hU, fun n hn => ?_, ⟨t, ht, t1, t2⟩, fun n hn hd => ?_, fun n hn hd => ?_, fun n hn e he => ?_, fun n hn => ?_, fun n hn h1 => ?_, fun n hn h1 hd => ?_, fun n hn h1 hd => ?_⟩
   · obtain ⟨i, _, hk⟩ := at' n hn; exact ⟨hk.low, hk.nx⟩
   · obtain ⟨i, _, hk⟩ := at' n hn; exact ⟨hk.ens, chk_zero hk.fil (hk.dir hd)⟩
   · obtain ⟨i, _, hk⟩ := at' n hn; exact ⟨hk.nod hd, hk.fil⟩
   · obtain ⟨i, _, hk⟩ := at' n hn; exact hk.nms e he
   · obtain ⟨i, _, hk⟩ := at' n hn; exact hk.lks
   · rw [ups_eq hU hn ht (by rw [h1, t1])]; exact t3
   · obtain ⟨i, hi, hk⟩ := pos n hn h1; exact hk.one hi hd
   · obtain ⟨i, hi, hk⟩ := pos n hn h1; exact hk.few hi
 · intro h
   obtain ⟨t, ht, t1, t2⟩ := h.top
   obtain ⟨k, hk⟩ := List.getElem?_of_mem ht
   have lt : ∀ (i j : Nat) p q, i < j → s.1[i]? = some p → s.1[j]? = some q → p.1 < q.1 := fun i j p q hij hp hq => by (
 obtain ⟨a1, b1⟩ := List.getElem?_eq_some_iff.1 hp
 obtain ⟨a2, b2⟩ := List.getElem?_eq_some_iff.1 hq
 have := List.pairwise_iff_getElem.1 h.up i j a1 a2 hij
 rw [b1, b2] at this
 exact this)
   have hk0 : k = 0 := by (
 cases k with
 | zero => rfl
 | succ k => (
 exfalso
 have hlt : 0 < s.1.length := List.length_pos_of_mem ht
 have h1 := lt 0 (k + 1) s.1[0] t (by omega) (List.getElem?_eq_getElem hlt) hk
 have h2 := (h.low s.1[0] (List.getElem_mem hlt)).1
 omega))
   subst hk0
   have ne1 : ∀ (i : Nat) p, 0 < i → s.1[i]? = some p → p.1 ≠ 1 := fun i p hi hp e => by (
 have := lt 0 i t p hi hk hp
 omega)
   refine ⟨h.nx, ⟨List.length_pos_of_mem ht, h.len⟩, ⟨t, hk, t1, t2, h.root t ht t1⟩, fun i p hp => ?_⟩
   have hm := List.mem_of_getElem? hp
   refine ⟨(h.low p hm).1, (h.low p hm).2, fun q hi hq => lt (i - 1) i q p (by omega) hq hp, ?_, ?_, fun hd => ?_, fun hd => (h.files p hm hd).1, fun hi hd => h.one p hm (ne1 i p hi hp) hd, fun hi => ?_, h.links p hm, fun e he => h.names p hm e he⟩
   · cases hd : isD p
     · rw [(h.files p hm hd).1]; exact ⟨by simp, D.fine_nil⟩
     · exact (h.dirs p hm hd).1
   · cases hd : isD p
     · exact (h.files p hm hd).2
     · rw [(h.dirs p hm hd).2]; exact F.chk_nil
   · rw [(h.dirs p hm hd).2]
   · cases hd : isD p
     · exact h.some p hm (ne1 i p hi hp) hd
     · rw [h.one p hm (ne1 i p hi hp) hd]; decide
end Go.Proofs.YtopcefhncildnaaGreatDoor
