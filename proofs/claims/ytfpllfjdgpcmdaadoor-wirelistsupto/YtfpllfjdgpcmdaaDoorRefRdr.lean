/-
  The document's reader: what take and octet make of it.
-/
import Derived.Test.YtfpllfjdgpcmdaaDoorRdr
import Derived.Test.YtfpllfjdgpcmdaaDoorCRef
namespace Go.Proofs.YtfpllfjdgpcmdaaDoor
open Go.RowKit

/-- The document's reader's variable: the octets, all of them, how many were read, and the error. -/
structure RR (w0 : World) (R : Nat) (l : List Int) (p : Nat) (k : Int) (w : World) : Prop where
  ex : ∃ a c, Box w R 74 #[.slice a l.length c, .int .i64 p, .int .i64 k] ∧ Arg 0 w0 (.slice a l.length c) l
  old : Below w0.heap.size w0 w
  le : w0.heap.size ≤ R
  at_le : p ≤ l.length

theorem RR.lt {w0 : World} {R : Nat} {l : List Int} {p : Nat} {k : Int} {w : World} (h : RR w0 R l p k w) : R < w.heap.size := by
  obtain ⟨a, c, hB, _⟩ := h.ex
  exact hB.lt
theorem RR.below {w0 : World} {R n : Nat} {l : List Int} {p : Nat} {k : Int} {w w' : World} (h : RR w0 R l p k w) (hb : Below n w w') (hn : R < n) : RR w0 R l p k w' := by
  obtain ⟨a, c, hB, hA⟩ := h.ex
  exact ⟨⟨a, c, hB.below hb hn, hA⟩, h.old.trans (hb.mono (by have := h.le; omega)), h.le, h.at_le⟩
theorem RR.oct {w0 : World} {R : Nat} {l : List Int} {p : Nat} {k : Int} {w : World} (h : RR w0 R l p k w) : Oc l := by
  obtain ⟨a, c, _, hA⟩ := h.ex
  exact hA.oct
theorem RR.drewN {w0 : World} {R : Nat} {l : List Int} {p : Nat} {k : Int} {w : World} (h : RR w0 R l p k w) (q : Nat) : RR w0 R l p k (w.drewN q) := h.below (below_drewN (Below.refl _ _) q) h.lt

/-- What a call of the document's reader makes, where no error was there. -/
def ToldD {α : Type} (w0 : World) (R : Nat) (l : List Int) (w : World) (Z : Value → Prop) (P : World → Value → α → Prop) (x : Rd α) (e : Ending) (w' : World) : Prop :=
  w.grownBy w' (some R) ∧ match x with
    | .error k => ∃ z p, e = .returned z ∧ Z z ∧ RR w0 R l p k w'
    | .ok (a, q) => ∃ v p, e = .returned v ∧ P w' v a ∧ RR w0 R l p 0 w' ∧ l.drop p = q

set_option maxRecDepth 100000 in
set_option maxHeartbeats 1000000 in
theorem rtake_err (w0 : World) (R : Nat) (l : List Int) (p : Nat) (k n : Int) (hk : k ≠ 0) (w : World) (h : RR w0 R l p k w) :
    Calls Tryd.prog 42 #[.pointer (some ⟨R, 0, none⟩), .int .i64 n] w fun e w' => e = .returned (.slice none 0 0) ∧ w = w' := by
  obtain ⟨a, c, hB, _⟩ := h.ex
  obtain ⟨_, _, g2, _⟩ := hB.three
  clear h hB
  go_enter Tryd.func42, Tryd.ntmps42
  go_wp2
  go_ret
  exact ⟨rfl, rfl⟩

set_option maxRecDepth 100000 in
set_option maxHeartbeats 2000000 in
theorem rtake_any (w0 : World) (R : Nat) (l : List Int) (p n : Nat) (hn : n ≤ 100000) (w : World) (h : RR w0 R l p 0 w) :
    Calls Tryd.prog 42 #[.pointer (some ⟨R, 0, none⟩), .int .i64 n] w fun e w' => ToldD w0 R l w (fun z => z = .slice none 0 0) (fun w v a => Arg 0 w v a) (takeR n (l.drop p)) e w' := by
  obtain ⟨a, c, hB, hA⟩ := h.ex
  have hple := h.at_le
  have HR : Hid (RR w0 R l p 0 w) := h
  have HB : Hid (Box w R 74 #[.slice a l.length c, .int .i64 p, .int .i64 0]) := hB
  have hlen := fun W => run_len Tryd.underlying26 a l.length c W
  obtain ⟨_, _, _, _, hmx, _⟩ := hA.shape
  unfold maxLen at hmx
  obtain ⟨g0, g1, g2, f0, f1, f2⟩ := hB.three
  by_cases hlt : (l.drop p).length < n
  · have ht : takeR n (l.drop p) = .error 8 := by unfold takeR; rw [if_pos hlt]
    rw [ht]
    rw [List.length_drop] at hlt
    obtain ⟨m, hm⟩ : ∃ m, m = l.length := ⟨_, rfl⟩
    rw [← hm] at g0 hlen hlt hple hmx
    have hlti : (m : Int) - (p : Int) < (n : Int) := by omega
    have hpi : (p : Int) ≤ (m : Int) := by omega
    have HE : Hid (∀ q, RR w0 R l p 8 ((w.drewN q).setCell ⟨R, 2, none⟩ (.int .i64 8)) ∧ w.grownBy ((w.drewN q).setCell ⟨R, 2, none⟩ (.int .i64 8)) (some R)) := fun q => by
      have hbq : Below w.heap.size w (w.drewN q) := below_drewN (Below.refl _ _) q
      refine ⟨⟨⟨a, c, (HB.out.below hbq HB.out.lt).set 2 _, hA⟩, (HR.out.old.trans (hbq.mono (by have := HR.out.le; have := HB.out.lt; omega))).setCell (p := ⟨R, 2, none⟩) HR.out.le _, HR.out.le, HR.out.at_le⟩, ?_⟩
      exact grown_trans (grown_below hbq) (grown_set _ R 2 _)
    clear h hB hA ht hm hlt
    go_enter Tryd.func42, Tryd.ntmps42
    go_wp2
    go_quiet (fail)
    go_wp2
    go_ret
    exact ⟨(HE.out _).2, _, p, rfl, rfl, (HE.out _).1⟩
  · have ht : takeR n (l.drop p) = .ok (((l.drop p).take n), ((l.drop p).drop n)) := by unfold takeR; rw [if_neg hlt]
    rw [ht]
    rw [List.length_drop] at hlt
    obtain ⟨v1, hC1, hcut⟩ := hA.toC.cut p (p + n) (by omega) (by omega)
    have hA1 := Arg.ofC hC1
    have e1 : (l.take (p + n)).drop p = (l.drop p).take n := by
      rw [List.drop_take, Nat.add_sub_cancel_left]
    rw [e1] at hA1
    obtain ⟨vv, hv⟩ : ∃ v, v = Value.slice a l.length c := ⟨_, rfl⟩
    have HBV : Hid (Box w R 74 #[vv, .int .i64 p, .int .i64 0]) := by rw [hv]; exact HB
    rw [← hv] at g0 hlen hcut
    obtain ⟨a1, c1, hv1, _⟩ := hA1.shape
    obtain ⟨ln1, hln1⟩ : ∃ y, y = ((l.drop p).take n).length := ⟨_, rfl⟩
    rw [← hln1] at hv1
    subst hv1
    obtain ⟨m, hm⟩ : ∃ m, m = l.length := ⟨_, rfl⟩
    rw [← hm] at hlen hlt hple hmx
    have hlti : ¬ (m : Int) - (p : Int) < (n : Int) := by omega
    have hpi : (p : Int) ≤ (m : Int) := by omega
    have HE : Hid (∀ q, RR w0 R l (p + n) 0 ((w.drewN q).setCell ⟨R, 1, none⟩ (.int .i64 ((p : Int) + (n : Int)))) ∧ w.grownBy ((w.drewN q).setCell ⟨R, 1, none⟩ (.int .i64 ((p : Int) + (n : Int)))) (some R)) := fun q => by
      have hbq : Below w.heap.size w (w.drewN q) := below_drewN (Below.refl _ _) q
      refine ⟨⟨⟨a, c, (HB.out.below hbq HB.out.lt).set 1 _, hA⟩, (HR.out.old.trans (hbq.mono (by have := HR.out.le; have := HB.out.lt; omega))).setCell (p := ⟨R, 1, none⟩) HR.out.le _, HR.out.le, by omega⟩, ?_⟩
      exact grown_trans (grown_below hbq) (grown_set _ R 1 _)
    have hcut' : ∀ W, (Instr.slice 26 vv (some (.int .i64 (p : Int))) (some (.int .i64 ((p : Int) + (n : Int)))) none).run Tryd.prog W = .ok (.slice a1 ln1 c1) W := fun W => by
      have := hcut W
      rwa [show ((p + n : Nat) : Int) = (p : Int) + (n : Int) by omega] at this
    have HA1 : Hid (Arg 0 w0 (.slice a1 ln1 c1) ((l.drop p).take n) ∧ (l.drop p).drop n = l.drop (p + n)) := ⟨hA1, by rw [List.drop_drop]⟩
    clear h hB hA ht hm hlt hcut hC1 e1 hA1 hln1 hv
    go_enter Tryd.func42, Tryd.ntmps42
    go_wp2
    go_quiet (fail)
    obtain ⟨V, hV⟩ : ∃ V, V = (w.drewN nq).setCell ⟨R, 1, none⟩ (.int .i64 ((p : Int) + (n : Int))) := ⟨_, rfl⟩
    have hEV := HE.out nq
    rw [← hV] at hEV
    have hBV : Box V R 74 #[vv, .int .i64 ((p : Int) + (n : Int)), .int .i64 0] := by
      rw [hV]
      exact ((HBV.out.below (below_drewN (Below.refl _ _) nq) HBV.out.lt).set 1 _)
    have HEV : Hid (RR w0 R l (p + n) 0 V ∧ w.grownBy V (some R)) := hEV
    obtain ⟨y0, y1, y2, _⟩ := hBV.three
    clear hEV
    go_wp2
    rw [← hV]
    clear hV hBV g0 g1 g2 f0 f1 f2
    go_quiet (fail)
    go_wp2
    go_ret
    refine ⟨grown_trans HEV.out.2 (grown_below (below_drewN (Below.refl _ _) _)), _, p + n, rfl, ?_, HEV.out.1.drewN _, HA1.out.2.symm⟩
    exact HA1.out.1.below (HEV.out.1.drewN _).old

set_option maxRecDepth 100000 in
set_option maxHeartbeats 1000000 in
theorem roctet_err (w0 : World) (R : Nat) (l : List Int) (p : Nat) (k : Int) (hk : k ≠ 0) (w : World) (h : RR w0 R l p k w) :
    Calls Tryd.prog 38 #[.pointer (some ⟨R, 0, none⟩)] w fun e w' => e = .returned (.int .i64 0) ∧ w = w' := by
  have HT := rtake_err w0 R l p k 1 hk w h
  obtain ⟨a, c, hB, _⟩ := h.ex
  obtain ⟨_, _, g2, _⟩ := hB.three
  clear h hB
  go_enter Tryd.func38, Tryd.ntmps38
  go_wp2_with fail
  refine HT.mono ?_
  rintro e w1 ⟨rfl, rfl⟩
  go_wp2
  go_ret
  exact ⟨rfl, rfl⟩

set_option maxRecDepth 100000 in
set_option maxHeartbeats 1000000 in
theorem roctet_any (w0 : World) (R : Nat) (l : List Int) (p : Nat) (w : World) (h : RR w0 R l p 0 w) :
    Calls Tryd.prog 38 #[.pointer (some ⟨R, 0, none⟩)] w fun e w' => ToldD w0 R l w (fun z => z = .int .i64 0) (fun _ v a => v = .int .i64 a ∧ 0 ≤ a ∧ a ≤ 255) (octR (l.drop p)) e w' := by
  have HT := rtake_any w0 R l p 1 (by omega) w h
  have HO : Hid (Oc (l.drop p)) := oc_drop h.oct p
  clear h
  cases hq : l.drop p with
  | nil =>
    rw [hq] at HT
    rw [show takeR 1 [] = .error 8 from rfl] at HT
    clear hq
    go_enter Tryd.func38, Tryd.ntmps38
    go_wp2_with fail
    refine HT.mono ?_
    rintro e w1 ⟨hg, z, p', rfl, rfl, hR⟩
    have HG : Hid (w.grownBy w1 (some R) ∧ RR w0 R l p' 8 w1) := ⟨hg, hR⟩
    obtain ⟨a, c, hB, _⟩ := hR.ex
    obtain ⟨_, _, g2, _⟩ := hB.three
    clear hg HT hR hB
    go_wp2
    go_ret
    exact ⟨HG.out.1, _, p', rfl, rfl, HG.out.2⟩
  | cons x r =>
    rw [hq] at HT HO
    rw [show takeR 1 (x :: r) = .ok ([x], r) from rfl] at HT
    have hc := (oc_cons.1 HO.out).1
    clear hq
    go_enter Tryd.func38, Tryd.ntmps38
    go_wp2_with fail
    refine HT.mono ?_
    rintro e w1 ⟨hg, v, p', rfl, hA, hR, hd⟩
    have HG : Hid (w.grownBy w1 (some R) ∧ RR w0 R l p' 0 w1 ∧ l.drop p' = r) := ⟨hg, hR, hd⟩
    obtain ⟨a, c, hB, _⟩ := hR.ex
    obtain ⟨_, _, g2, _⟩ := hB.three
    rcases hA.split with ⟨h0, _⟩ | ⟨b, off, cap, rfl, _, _, _, hcell⟩
    · cases h0
    have g0 : w1.cell? ⟨b, off, none⟩ = some (.int .u8 x) := hcell 0 (by simp)
    clear hg HT hA hcell hR hB hd
    simp only [List.length_singleton]
    go_wp2
    go_ret
    exact ⟨HG.out.1, _, p', rfl, ⟨rfl, hc⟩, HG.out.2.1, HG.out.2.2⟩

end Go.Proofs.YtfpllfjdgpcmdaaDoor
