/-
  The reader: what take, octet, groups and number make of it.
-/
import Derived.Test.YtfpllfjdgpcmdaaDoorGroups
import Derived.Test.YtfpllfjdgpcmdaaDoorSmall
namespace Go.Proofs.YtfpllfjdgpcmdaaDoor
open Go.RowKit

/-- A fault as an error. -/
abbrev faultW (k : Int) : Value := .iface 96 (.agg #[.int .i64 k])

/-- A reader's variable, and the octets that it has left: they lay there ahead of the variable. -/
structure Rdr (w0 : World) (R : Nat) (l : List Int) (w : World) : Prop where
  ex : ∃ a c, Box w R 69 #[.slice a l.length c] ∧ Arg 0 w0 (.slice a l.length c) l
  old : Below w0.heap.size w0 w
  le : w0.heap.size ≤ R

theorem Rdr.oct {w0 : World} {R : Nat} {l : List Int} {w : World} (h : Rdr w0 R l w) : Oc l := by
  obtain ⟨a, c, _, hA⟩ := h.ex
  exact hA.oct
theorem Rdr.lt {w0 : World} {R : Nat} {l : List Int} {w : World} (h : Rdr w0 R l w) : R < w.heap.size := by
  obtain ⟨a, c, hB, _⟩ := h.ex
  exact hB.lt
theorem Rdr.below {w0 : World} {R n : Nat} {l : List Int} {w w' : World} (h : Rdr w0 R l w) (hb : Below n w w') (hn : R < n) : Rdr w0 R l w' := by
  obtain ⟨a, c, hB, hA⟩ := h.ex
  exact ⟨⟨a, c, hB.below hb hn, hA⟩, h.old.trans (hb.mono (by have := h.le; omega)), h.le⟩

theorem grown_refl (w : World) (r : Option Nat) : w.grownBy w r := ⟨rfl, rfl, rfl, Nat.le_refl _, fun _ _ _ => rfl⟩
theorem grown_trans {a b c : World} {r : Option Nat} (h : a.grownBy b r) (k : b.grownBy c r) : a.grownBy c r := h.trans k
theorem grown_below {w w' : World} {r : Option Nat} (h : Below w.heap.size w w') : w.grownBy w' r := ⟨h.os, h.tape, h.output, h.size, fun k hk _ => h.block k hk⟩
theorem below_grown {w a b : World} {R n : Nat} (h : Below n w a) (hR : n ≤ R) (hn : n ≤ a.heap.size) (k : a.grownBy b (some R)) : Below n w b := h.grown k hn (fun j hj => by cases hj; exact hR)

/-- What a reader's call makes: the error's number, or what was read and what is left. -/
def Told {α : Type} (w0 : World) (R : Nat) (w : World) (z : Value) (P : World → Value → α → Prop) (x : Rd α) (e : Ending) (w' : World) : Prop :=
  w.grownBy w' (some R) ∧ match x with
    | .error k => e = .returned (.tuple #[z, faultW k])
    | .ok (a, l) => ∃ v, e = .returned (.tuple #[v, .nilIface]) ∧ P w' v a ∧ Rdr w0 R l w'

theorem Arg.parts {n0 : Nat} {w : World} {v : Value} {l : List Int} (h : Arg n0 w v l) (j : Nat) (hj : j ≤ l.length) :
    ∃ a1 c1 a2 c2, Arg 0 w (.slice a1 j c1) (l.take j) ∧ Arg 0 w (.slice a2 (l.length - j) c2) (l.drop j) ∧
      (∀ W, (Instr.slice 26 v none (some (.int .i64 j)) none).run Tryd.prog W = .ok (.slice a1 j c1) W) ∧
      (∀ W, (Instr.slice 26 v (some (.int .i64 j)) none none).run Tryd.prog W = .ok (.slice a2 (l.length - j) c2) W) := by
  obtain ⟨v1, h1, e1⟩ := h.toC.ahead j hj
  obtain ⟨v2, h2, e2⟩ := h.toC.behind j hj
  obtain ⟨a1, c1, rfl, _⟩ := h1.shape
  obtain ⟨a2, c2, rfl, _⟩ := h2.shape
  have l1 : (l.take j).length = j := by rw [List.length_take]; omega
  have l2 : (l.drop j).length = l.length - j := List.length_drop
  rw [l1] at h1 e1
  rw [l2] at h2 e2
  exact ⟨a1, c1, a2, c2, .ofC h1, .ofC h2, e1, e2⟩

theorem grown_append {w a b : World} {R : Nat} (h : w.grownBy a (some R)) (k : Below w.heap.size a b) : w.grownBy b (some R) :=
  ⟨k.os.trans h.os, k.tape.trans h.tape, k.output.trans h.output, Nat.le_trans h.size k.size, fun j hj hr => (k.block j hj).trans (h.block j hj hr)⟩

set_option maxRecDepth 100000 in
set_option maxHeartbeats 1000000 in
theorem take_any (w0 : World) (R : Nat) (l : List Int) (n : Nat) (w : World) (h : Rdr w0 R l w) :
    Calls Tryd.prog 65 #[.pointer (some ⟨R, 0, none⟩), .int .i64 n] w fun e w' => Told w0 R w (.slice none 0 0) (fun w v a => Arg 0 w v a) (takeR n l) e w' := by
  obtain ⟨a, c, hB, hA⟩ := h.ex
  have hlen := fun W => run_len Tryd.underlying26 a l.length c W
  by_cases hlt : l.length < n
  · have ht : takeR n l = .error 8 := by unfold takeR; rw [if_pos hlt]
    rw [ht]
    have g0 := hB.cell 0 (u := .slice a l.length c) rfl
    obtain ⟨m, hm⟩ : ∃ m, m = l.length := ⟨_, rfl⟩
    rw [← hm] at g0 hlen hlt
    have hlti : (m : Int) < (n : Int) := by omega
    clear h hB hA ht hm hlt
    go_enter Tryd.func65, Tryd.ntmps65
    go_wp2
    go_ret2
    exact ⟨grown_refl _ _, rfl⟩
  · have ht : takeR n l = .ok ((l.take n), (l.drop n)) := by unfold takeR; rw [if_neg hlt]
    obtain ⟨a1, c1, a2, c2, hA1, hA2, hs1, hs2⟩ := hA.parts n (by omega)
    obtain ⟨v, hv⟩ : ∃ v, v = Value.slice a l.length c := ⟨_, rfl⟩
    rw [ht]
    have hlm := hA.shape
    obtain ⟨_, _, _, _, hmx, _⟩ := hlm
    unfold maxLen at hmx
    rw [← hv] at hB hs1 hs2 hlen
    have HG : Hid (w.grownBy (w.setCell ⟨R, 0, none⟩ (.slice a2 (l.length - n) c2)) (some R)) := grown_set w R 0 _
    have HE : Hid (Arg 0 (w.setCell ⟨R, 0, none⟩ (.slice a2 (l.length - n) c2)) (.slice a1 n c1) (l.take n) ∧ Rdr w0 R (l.drop n) (w.setCell ⟨R, 0, none⟩ (.slice a2 (l.length - n) c2))) := by
      have hb : Below w0.heap.size w0 (w.setCell ⟨R, 0, none⟩ (.slice a2 (l.length - n) c2)) := h.old.setCell (p := ⟨R, 0, none⟩) h.le _
      refine ⟨hA1.below hb, ⟨⟨a2, c2, ?_, ?_⟩, hb, h.le⟩⟩
      · rw [List.length_drop]
        exact hB.set 0 _
      · rw [List.length_drop]
        exact hA2
    have g0 := hB.cell 0 (u := v) rfl
    have f0 := hB.frozen 0
    obtain ⟨m, hm⟩ : ∃ m, m = l.length := ⟨_, rfl⟩
    rw [← hm] at hlen hlt HG HE hs2 hmx
    have hlti : ¬ (m : Int) < (n : Int) := by omega
    obtain ⟨q, hq⟩ : ∃ q, q = m - n := ⟨_, rfl⟩
    rw [← hq] at HG HE hs2
    clear h hB hA ht hv hm hA1 hA2 hq
    go_enter Tryd.func65, Tryd.ntmps65
    go_wp2
    go_ret2
    exact ⟨HG.out, _, rfl, HE.out⟩

end Go.Proofs.YtfpllfjdgpcmdaaDoor
