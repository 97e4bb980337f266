/-
  CleanBest, proved: for every store (as great as the form reads it): the call returns true, and changes nothing that was in memory. No condition of its own.
-/
import Derived.Test.YtkpckadicjdieaaZ16
import Derived.Test.YtkpckadicjdieaaZ12
import Derived.Test.YtkpckadicjdieaaZ13
import Derived.Test.YtkpckadicjdieaaZ14
import Derived.Test.YtkpckadicjdieaaZ2
namespace Go.Proofs.Ytkpckadicjdieaa.cleanBest
open Go.ChangeShapes Go.WideShapes Go.ChangeAt Go.RowKit
set_option linter.unusedVariables false

theorem AnyBut.three {P : Program} {ops : Array Oper} {Q : Exit → Act → World → Prop} {md : Region.Mode} {S : World → Prop} {t : Nat} {i j k : Nat} {oi oj ok : Oper} {f : Nat} {listed : Array Bool} {a : Act} {w : World} (hr : Region.ready md ops listed = [i, j, k]) (ho : ops[i]? = some oi) (ho2 : ops[j]? = some oj) (ho3 : ops[k]? = some ok)
    (h : ∀ K : Act → World → Prop, Shut (∀ a w, S w → AnyBut P md ops Q S t f (listed.setIfInBounds i true) a w → K a w) → if Region.wanted oi (yielded ops a.tmps) = true then Oper.wp P oi a w K Q else K (a.put oi.dst undef) w)
    (h2 : ∀ K : Act → World → Prop, Shut (∀ a w, S w → AnyBut P md ops Q S t f (listed.setIfInBounds j true) a w → K a w) → if Region.wanted oj (yielded ops a.tmps) = true then Oper.wp P oj a w K Q else K (a.put oj.dst undef) w)
    (h3 : ∀ K : Act → World → Prop, Shut (∀ a w, S w → AnyBut P md ops Q S t f (listed.setIfInBounds k true) a w → K a w) → if Region.wanted ok (yielded ops a.tmps) = true then Oper.wp P ok a w K Q else K (a.put ok.dst undef) w) : AnyBut P md ops Q S t (f + 1) listed a w := by
  refine ⟨fun h0 => (by rw [hr] at h0; cases h0), fun m hm => ?_⟩
  rw [hr] at hm
  rcases List.mem_cons.1 hm with rfl | hm
  · exact wpOp_step ho fun K hK => h K fun a w hS hA => hK a w ⟨fun _ => hS, hA⟩
  rcases List.mem_cons.1 hm with rfl | hm
  · exact wpOp_step ho2 fun K hK => h2 K fun a w hS hA => hK a w ⟨fun _ => hS, hA⟩
  · obtain rfl := List.mem_singleton.1 hm
    exact wpOp_step ho3 fun K hK => h3 K fun a w hS hA => hK a w ⟨fun _ => hS, hA⟩
theorem rset4 {α : Type} (S : Shape α) {t : TypeId} (hid : t ∉ S.ids) {n B : Nat} {w : World} {us : List Value} {x : α} {cs : Array Value} (h : S.owns n w us x) (hB : Box w B t cs) (u v y z : Value) : S.owns n ((((w.setCell ⟨B, 0, none⟩ u).setCell ⟨B, 1, none⟩ v).setCell ⟨B, 2, none⟩ y).setCell ⟨B, 3, none⟩ z) us x :=
  S.ogrown (S.ogrown (S.ogrown (S.ogrown h (grown_set w B 0 u) (hB.clear hid)) (grown_set _ B 1 v) ((hB.set 0 u).clear hid)) (grown_set _ B 2 y) (((hB.set 0 u).set 1 v).clear hid)) (grown_set _ B 3 z) ((((hB.set 0 u).set 1 v).set 2 y).clear hid)
theorem oth4 {w : World} {B C : Nat} {t : TypeId} {cs : Array Value} (h : Box w C t cs) (hne : C ≠ B) (u v y z : Value) : Box ((((w.setCell ⟨B, 0, none⟩ u).setCell ⟨B, 1, none⟩ v).setCell ⟨B, 2, none⟩ y).setCell ⟨B, 3, none⟩ z) C t cs := (((h.other hne).other hne).other hne).other hne
theorem box_four {w : World} {B : Nat} {t : TypeId} {a b c d : Value} (h : Box w B t #[a, b, c, d]) (u v y z : Value) : Box ((((w.setCell ⟨B, 0, none⟩ u).setCell ⟨B, 1, none⟩ v).setCell ⟨B, 2, none⟩ y).setCell ⟨B, 3, none⟩ z) B t #[u, v, y, z] := (((h.set 0 u).set 1 v).set 2 y).set 3 z
/-- The document's store: what was handed in, or one of its own. -/
def HoldR (s t : St) (us us' : List Value) (V : World) : Prop := (us' = us ∧ t = s) ∨ ∃ b, stR.owns b V us' t
theorem HoldR.lies {w V : World} {us us' : List Value} {s t : St} (h : HoldR s t us us' V) (h0 : stR.lies 0 w us s) (hb : Below w.heap.size w V) : stR.lies 0 V us' t := by
  rcases h with ⟨rfl, rfl⟩ | ⟨b, h⟩
  · exact stR.below h0 hb
  · exact stR.weaken (stR.olies h) (Nat.zero_le _)
theorem HoldR.below {V V' : World} {us us' : List Value} {s t : St} (h : HoldR s t us us' V) (hb : Below V.heap.size V V') : HoldR s t us us' V' := by
  rcases h with h | ⟨b, h⟩
  · exact .inl h
  · exact .inr ⟨b, stR.obelow h hb⟩
/-- What the law holds while it goes on. -/
def BI (w : World) (s : St) (us : List Value) (Bx By : Nat) (t : St) (ux uy : List Value) (V : World) : Prop := Below w.heap.size w V ∧ Box V Bx 33 ux.toArray ∧ Box V By 26 uy.toArray ∧ (∃ b, stN.owns b V ux t) ∧ HoldR s t us uy V
theorem BI.below {w : World} {s : St} {us : List Value} {Bx By : Nat} {t : St} {ux uy : List Value} {V V' : World} (h : BI w s us Bx By t ux uy V) (hb : Below V.heap.size V V') : BI w s us Bx By t ux uy V' :=
  ⟨below_any h.1 hb, h.2.1.below hb h.2.1.lt, h.2.2.1.below hb h.2.2.1.lt, let ⟨b, h9⟩ := h.2.2.2.1; ⟨b, stN.obelow h9 hb⟩, h.2.2.2.2.below hb⟩

set_option maxRecDepth 100000 in
set_option maxHeartbeats 32000000 in
theorem walk (n0 : Nat) (us : List Value) (s : St) (w : World) (h : stR.lies n0 w us s) (hf : FitsL s) :
    Calls Try.prog 8 #[.agg us.toArray] w fun e w' => e = .returned (.bool true) ∧ Below w.heap.size w w' := by
  obtain ⟨post, hpost⟩ : ∃ post : Ending → World → Prop, post = fun e w' => e = .returned (.bool true) ∧ Below w.heap.size w w' := ⟨_, rfl⟩
  have HPo : Hid (∀ w', Below w.heap.size w w' → post (.returned (.bool true)) w') := fun w' h => by rw [hpost]; exact ⟨rfl, h⟩
  rw [← hpost]
  clear hpost
  obtain ⟨a0, n0, c0, b0, m0, d0, e0, k0, f0, q0, rfl⟩ := st_flatL h
  obtain ⟨W, hW⟩ : ∃ W, W = w.alloc (.cells #[.slice a0 n0 c0, .slice b0 m0 d0, .slice e0 k0 f0, .int .i64 q0] 26) := ⟨_, rfl⟩
  have HB : Hid (Below w.heap.size w W ∧ W.heap.size = w.heap.size + 1) := by rw [hW]; exact ⟨(Below.refl _ _).alloc (Nat.le_refl _) _, by simp⟩
  have HL : Hid (stR.lies 0 w [.slice a0 n0 c0, .slice b0 m0 d0, .slice e0 k0 f0, .int .i64 q0] s) := stR.weaken h (Nat.zero_le _)
  have hB0 : Box W w.heap.size 26 #[.slice a0 n0 c0, .slice b0 m0 d0, .slice e0 k0 f0, .int .i64 q0] := by rw [hW]; exact Box.new _ _ _
  have HS : Hid (∀ V, Below W.heap.size W V → V.cell? ⟨w.heap.size, 0, none⟩ = some (.slice a0 n0 c0) ∧ V.cell? ⟨w.heap.size, 1, none⟩ = some (.slice b0 m0 d0) ∧ V.cell? ⟨w.heap.size, 2, none⟩ = some (.slice e0 k0 f0) ∧ V.cell? ⟨w.heap.size, 3, none⟩ = some (.int .i64 q0)) := fun V hV => by
    have h1 := (hB0.below hV hB0.lt).four
    exact ⟨h1.1, h1.2.1, h1.2.2.1, h1.2.2.2.1⟩
  have HCO : Hid (∀ V, Below W.heap.size W V → Calls Try.prog 9 #[.agg #[.slice a0 n0 c0, .slice b0 m0 d0, .slice e0 k0 f0, .int .i64 q0]] V fun e w' => (∃ us', e = .returned (.agg us'.toArray) ∧ stN.owns V.heap.size w' us' s) ∧ Below V.heap.size V w') := fun V hV => ofL_any 0 [.slice a0 n0 c0, .slice b0 m0 d0, .slice e0 k0 f0, .int .i64 q0] s V (stR.below HL.out (below_any HB.out.1 hV)) hf
  clear h hf hB0
  go_enter Try.func8, Try.ntmps8
  go_upto_region 1 with fail
  rw [← hW]
  clear hW
  go_cut [3, 4] (fun u v wx => ∃ Bx By, u = .pointer (some ⟨Bx, 0, none⟩) ∧ v = .pointer (some ⟨By, 0, none⟩) ∧ Hid (Bx ≠ By ∧ w.heap.size ≤ Bx ∧ w.heap.size ≤ By ∧ ∃ ux, BI w s [.slice a0 n0 c0, .slice b0 m0 d0, .slice e0 k0 f0, .int .i64 q0] Bx By s ux [.slice a0 n0 c0, .slice b0 m0 d0, .slice e0 k0 f0, .int .i64 q0] wx))
  case first =>
    rename_i J K1 hJ hMt
    refine AnyBut.begin (fun V => V.cell? ⟨w.heap.size, 0, none⟩ = some (.slice a0 n0 c0) ∧ V.cell? ⟨w.heap.size, 1, none⟩ = some (.slice b0 m0 d0) ∧ V.cell? ⟨w.heap.size, 2, none⟩ = some (.slice e0 k0 f0) ∧ V.cell? ⟨w.heap.size, 3, none⟩ = some (.int .i64 q0)) 1000 (by kernel_rfl) ?_
    have hSS := HS.out W.drew (Below.refl _ W).drew
    refine tx 0 14 hSS ?_
    simp only [ua, ub, uc, ud]
    refine tx 2 16 hSS ?_
    simp only [ua, ub, uc, ud]
    clear hSS
    have hbV : Below W.heap.size W W.drew := (Below.refl _ W).drew
    refine AnyBut.three (i := 1) (j := 3) (k := 4) (by kernel_rfl) rfl rfl rfl (fun K hK => ?_) (fun K hK => ?_) (fun K hK => ?_)
    · go_simp
      refine Calls.mono (HCO.out W.drew hbV) ?_
      rintro e9 V1 ⟨⟨us9, rfl, hO⟩, hb9⟩
      obtain ⟨a1, n1, c1, b1, m1, d1, e1, k1, f1, q1, rfl⟩ := st_fl hO
      dsimp only
      replace hbV : Below W.heap.size W V1 := below_any hbV hb9
      refine hK.out _ _ (HS.out V1 hbV) ?_
      clear hK hb9
      refine AnyBut.two (i := 3) (j := 4) (by kernel_rfl) rfl rfl (fun K hK => ?_) (fun K hK => ?_)
      · go_simp
        obtain ⟨V2, hV2⟩ : ∃ Z, Z = V1.alloc (.cells #[.slice none 0 0, .slice none 0 0, .slice none 0 0, .int .i64 0] 33) := ⟨_, rfl⟩
        have hb9 : Below V1.heap.size V1 V2 := by rw [hV2]; exact (Below.refl _ _).alloc (Nat.le_refl _) _
        have hBx : Box V2 V1.heap.size 33 #[.slice none 0 0, .slice none 0 0, .slice none 0 0, .int .i64 0] := by rw [hV2]; exact Box.new _ _ _
        have hxl : W.heap.size ≤ V1.heap.size := hbV.size
        rw [← hV2]
        replace hO := stN.obelow hO hb9
        replace hbV : Below W.heap.size W V2 := below_any hbV hb9
        refine hK.out _ _ (HS.out V2 hbV) ?_
        clear hK hV2 hb9
        refine AnyBut.step (i := 4) (by kernel_rfl) rfl (fun K hK => ?_)
        go_simp
        obtain ⟨V3, hV3⟩ : ∃ Z, Z = V2.alloc (.cells #[.slice none 0 0, .slice none 0 0, .slice none 0 0, .int .i64 0] 26) := ⟨_, rfl⟩
        have hb9 : Below V2.heap.size V2 V3 := by rw [hV3]; exact (Below.refl _ _).alloc (Nat.le_refl _) _
        have hBy : Box V3 V2.heap.size 26 #[.slice none 0 0, .slice none 0 0, .slice none 0 0, .int .i64 0] := by rw [hV3]; exact Box.new _ _ _
        have hyl : W.heap.size ≤ V2.heap.size := hbV.size
        rw [← hV3]
        replace hBx := hBx.below hb9 hBx.lt
        replace hO := stN.obelow hO hb9
        replace hbV : Below W.heap.size W V3 := below_any hbV hb9
        refine hK.out _ _ (HS.out V3 hbV) ?_
        clear hK hV3 hb9
        obtain ⟨fx0, fx1, fx2, fx3, fj0, fj1, fj2, fj3⟩ := hBx.four
        have hne : V1.heap.size ≠ V2.heap.size := by have h1 := hBx; have h2 := hBy; unfold Box at h1 h2; intro e; rw [e, h2] at h1; simp at h1
        have hbx9 := hbV.size
        have hlx : w.heap.size ≤ V1.heap.size := by have := hxl; have := HB.out.2; omega
        have hly : w.heap.size ≤ V2.heap.size := by have := hyl; have := HB.out.2; omega
        obtain ⟨Q5, hQ5⟩ : ∃ Q, Q = (((V3.setCell ⟨V1.heap.size, 0, none⟩ (.slice a1 n1 c1)).setCell ⟨V1.heap.size, 1, none⟩ (.slice b1 m1 d1)).setCell ⟨V1.heap.size, 2, none⟩ (.slice e1 k1 f1)).setCell ⟨V1.heap.size, 3, none⟩ (.int .i64 q1) := ⟨_, rfl⟩
        have hb5 : Below W.heap.size W Q5 := by rw [hQ5]; exact below_set4 hbV hxl _ _ _ _
        have h5x : Box Q5 V1.heap.size 33 #[.slice a1 n1 c1, .slice b1 m1 d1, .slice e1 k1 f1, .int .i64 q1] := by rw [hQ5]; exact box_four hBx _ _ _ _
        have h5y : Box Q5 V2.heap.size 26 #[.slice none 0 0, .slice none 0 0, .slice none 0 0, .int .i64 0] := by rw [hQ5]; exact oth4 hBy hne.symm _ _ _ _
        have h5o : stN.owns W.drew.heap.size Q5 [.slice a1 n1 c1, .slice b1 m1 d1, .slice e1 k1 f1, .int .i64 q1] s := by rw [hQ5]; exact own_set4 stN (by decide) hO hBx _ _ _ _
        refine AnyBut.step (i := 5) (by kernel_rfl) rfl (fun K hK => ?_)
        go_simp
        rw [← hQ5]
        refine hK.out _ _ (HS.out Q5 hb5) ?_
        clear hK hQ5 fx0 fx1 fx2 fx3 fj0 fj1 fj2 fj3 hBx hBy hO hbV
        obtain ⟨fx0, fx1, fx2, fx3, fj0, fj1, fj2, fj3⟩ := h5y.four
        obtain ⟨Q6, hQ6⟩ : ∃ Q, Q = (((Q5.setCell ⟨V2.heap.size, 0, none⟩ (.slice a0 n0 c0)).setCell ⟨V2.heap.size, 1, none⟩ (.slice b0 m0 d0)).setCell ⟨V2.heap.size, 2, none⟩ (.slice e0 k0 f0)).setCell ⟨V2.heap.size, 3, none⟩ (.int .i64 q0) := ⟨_, rfl⟩
        have hb6 : Below W.heap.size W Q6 := by rw [hQ6]; exact below_set4 hb5 hyl _ _ _ _
        have h6x : Box Q6 V1.heap.size 33 #[.slice a1 n1 c1, .slice b1 m1 d1, .slice e1 k1 f1, .int .i64 q1] := by rw [hQ6]; exact oth4 h5x hne _ _ _ _
        have h6y : Box Q6 V2.heap.size 26 #[.slice a0 n0 c0, .slice b0 m0 d0, .slice e0 k0 f0, .int .i64 q0] := by rw [hQ6]; exact box_four h5y _ _ _ _
        have h6o : stN.owns W.drew.heap.size Q6 [.slice a1 n1 c1, .slice b1 m1 d1, .slice e1 k1 f1, .int .i64 q1] s := by rw [hQ6]; exact rset4 stN (by decide) h5o h5y _ _ _ _
        refine AnyBut.step (i := 6) (by kernel_rfl) rfl (fun K hK => ?_)
        go_simp
        rw [← hQ6]
        refine hK.out _ _ (HS.out Q6 hb6) ?_
        clear hK hQ6 fx0 fx1 fx2 fx3 fj0 fj1 fj2 fj3
        refine AnyBut.done (by kernel_rfl) ?_
        refine hMt _ _ (Go.Met.intro (hJ _ _ ?_))
        (repeat (refine Exists.intro ?_ ?_; rotate_left 1))
        refine ⟨?rel1, ?fr1⟩
        case fr1 => rfl
        case rel1 => exact ⟨_, _, rfl, rfl, hne, hlx, hly, _, below_any HB.out.1 hb6, h6x, h6y, ⟨_, h6o⟩, .inl ⟨rfl, rfl⟩⟩
      · go_simp
        obtain ⟨V2, hV2⟩ : ∃ Z, Z = V1.alloc (.cells #[.slice none 0 0, .slice none 0 0, .slice none 0 0, .int .i64 0] 26) := ⟨_, rfl⟩
        have hb9 : Below V1.heap.size V1 V2 := by rw [hV2]; exact (Below.refl _ _).alloc (Nat.le_refl _) _
        have hBy : Box V2 V1.heap.size 26 #[.slice none 0 0, .slice none 0 0, .slice none 0 0, .int .i64 0] := by rw [hV2]; exact Box.new _ _ _
        have hyl : W.heap.size ≤ V1.heap.size := hbV.size
        rw [← hV2]
        replace hO := stN.obelow hO hb9
        replace hbV : Below W.heap.size W V2 := below_any hbV hb9
        refine hK.out _ _ (HS.out V2 hbV) ?_
        clear hK hV2 hb9
        refine AnyBut.step (i := 3) (by kernel_rfl) rfl (fun K hK => ?_)
        go_simp
        obtain ⟨V3, hV3⟩ : ∃ Z, Z = V2.alloc (.cells #[.slice none 0 0, .slice none 0 0, .slice none 0 0, .int .i64 0] 33) := ⟨_, rfl⟩
        have hb9 : Below V2.heap.size V2 V3 := by rw [hV3]; exact (Below.refl _ _).alloc (Nat.le_refl _) _
        have hBx : Box V3 V2.heap.size 33 #[.slice none 0 0, .slice none 0 0, .slice none 0 0, .int .i64 0] := by rw [hV3]; exact Box.new _ _ _
        have hxl : W.heap.size ≤ V2.heap.size := hbV.size
        rw [← hV3]
        replace hBy := hBy.below hb9 hBy.lt
        replace hO := stN.obelow hO hb9
        replace hbV : Below W.heap.size W V3 := below_any hbV hb9
        refine hK.out _ _ (HS.out V3 hbV) ?_
        clear hK hV3 hb9
        obtain ⟨fx0, fx1, fx2, fx3, fj0, fj1, fj2, fj3⟩ := hBx.four
        have hne : V2.heap.size ≠ V1.heap.size := by have h1 := hBx; have h2 := hBy; unfold Box at h1 h2; intro e; rw [e, h2] at h1; simp at h1
        have hbx9 := hbV.size
        have hlx : w.heap.size ≤ V2.heap.size := by have := hxl; have := HB.out.2; omega
        have hly : w.heap.size ≤ V1.heap.size := by have := hyl; have := HB.out.2; omega
        obtain ⟨Q5, hQ5⟩ : ∃ Q, Q = (((V3.setCell ⟨V2.heap.size, 0, none⟩ (.slice a1 n1 c1)).setCell ⟨V2.heap.size, 1, none⟩ (.slice b1 m1 d1)).setCell ⟨V2.heap.size, 2, none⟩ (.slice e1 k1 f1)).setCell ⟨V2.heap.size, 3, none⟩ (.int .i64 q1) := ⟨_, rfl⟩
        have hb5 : Below W.heap.size W Q5 := by rw [hQ5]; exact below_set4 hbV hxl _ _ _ _
        have h5x : Box Q5 V2.heap.size 33 #[.slice a1 n1 c1, .slice b1 m1 d1, .slice e1 k1 f1, .int .i64 q1] := by rw [hQ5]; exact box_four hBx _ _ _ _
        have h5y : Box Q5 V1.heap.size 26 #[.slice none 0 0, .slice none 0 0, .slice none 0 0, .int .i64 0] := by rw [hQ5]; exact oth4 hBy hne.symm _ _ _ _
        have h5o : stN.owns W.drew.heap.size Q5 [.slice a1 n1 c1, .slice b1 m1 d1, .slice e1 k1 f1, .int .i64 q1] s := by rw [hQ5]; exact own_set4 stN (by decide) hO hBx _ _ _ _
        refine AnyBut.step (i := 5) (by kernel_rfl) rfl (fun K hK => ?_)
        go_simp
        rw [← hQ5]
        refine hK.out _ _ (HS.out Q5 hb5) ?_
        clear hK hQ5 fx0 fx1 fx2 fx3 fj0 fj1 fj2 fj3 hBx hBy hO hbV
        obtain ⟨fx0, fx1, fx2, fx3, fj0, fj1, fj2, fj3⟩ := h5y.four
        obtain ⟨Q6, hQ6⟩ : ∃ Q, Q = (((Q5.setCell ⟨V1.heap.size, 0, none⟩ (.slice a0 n0 c0)).setCell ⟨V1.heap.size, 1, none⟩ (.slice b0 m0 d0)).setCell ⟨V1.heap.size, 2, none⟩ (.slice e0 k0 f0)).setCell ⟨V1.heap.size, 3, none⟩ (.int .i64 q0) := ⟨_, rfl⟩
        have hb6 : Below W.heap.size W Q6 := by rw [hQ6]; exact below_set4 hb5 hyl _ _ _ _
        have h6x : Box Q6 V2.heap.size 33 #[.slice a1 n1 c1, .slice b1 m1 d1, .slice e1 k1 f1, .int .i64 q1] := by rw [hQ6]; exact oth4 h5x hne _ _ _ _
        have h6y : Box Q6 V1.heap.size 26 #[.slice a0 n0 c0, .slice b0 m0 d0, .slice e0 k0 f0, .int .i64 q0] := by rw [hQ6]; exact box_four h5y _ _ _ _
        have h6o : stN.owns W.drew.heap.size Q6 [.slice a1 n1 c1, .slice b1 m1 d1, .slice e1 k1 f1, .int .i64 q1] s := by rw [hQ6]; exact rset4 stN (by decide) h5o h5y _ _ _ _
        refine AnyBut.step (i := 6) (by kernel_rfl) rfl (fun K hK => ?_)
        go_simp
        rw [← hQ6]
        refine hK.out _ _ (HS.out Q6 hb6) ?_
        clear hK hQ6 fx0 fx1 fx2 fx3 fj0 fj1 fj2 fj3
        refine AnyBut.done (by kernel_rfl) ?_
        refine hMt _ _ (Go.Met.intro (hJ _ _ ?_))
        (repeat (refine Exists.intro ?_ ?_; rotate_left 1))
        refine ⟨?rel2, ?fr2⟩
        case fr2 => rfl
        case rel2 => exact ⟨_, _, rfl, rfl, hne, hlx, hly, _, below_any HB.out.1 hb6, h6x, h6y, ⟨_, h6o⟩, .inl ⟨rfl, rfl⟩⟩
    · go_simp
      obtain ⟨V1, hV1⟩ : ∃ Z, Z = (W.alloc (.cells #[.slice none 0 0, .slice none 0 0, .slice none 0 0, .int .i64 0] 33)).drew := ⟨_, rfl⟩
      have hb9 : Below W.heap.size W V1 := by rw [hV1]; exact ((Below.refl _ _).alloc (Nat.le_refl _) _).drew
      have hBx : Box V1 W.heap.size 33 #[.slice none 0 0, .slice none 0 0, .slice none 0 0, .int .i64 0] := by rw [hV1]; exact Box.drew (Box.new _ _ _)
      have hxl : W.heap.size ≤ W.heap.size := Nat.le_refl _
      rw [← hV1]
      replace hbV : Below W.heap.size W V1 := hb9
      refine hK.out _ _ (HS.out V1 hbV) ?_
      clear hK hV1 hb9
      refine AnyBut.two (i := 1) (j := 4) (by kernel_rfl) rfl rfl (fun K hK => ?_) (fun K hK => ?_)
      · go_simp
        refine Calls.mono (HCO.out V1 hbV) ?_
        rintro e9 V2 ⟨⟨us9, rfl, hO⟩, hb9⟩
        obtain ⟨a1, n1, c1, b1, m1, d1, e1, k1, f1, q1, rfl⟩ := st_fl hO
        dsimp only
        replace hbV : Below W.heap.size W V2 := below_any hbV hb9
        replace hBx := hBx.below hb9 hBx.lt
        refine hK.out _ _ (HS.out V2 hbV) ?_
        clear hK hb9
        refine AnyBut.step (i := 4) (by kernel_rfl) rfl (fun K hK => ?_)
        go_simp
        obtain ⟨V3, hV3⟩ : ∃ Z, Z = V2.alloc (.cells #[.slice none 0 0, .slice none 0 0, .slice none 0 0, .int .i64 0] 26) := ⟨_, rfl⟩
        have hb9 : Below V2.heap.size V2 V3 := by rw [hV3]; exact (Below.refl _ _).alloc (Nat.le_refl _) _
        have hBy : Box V3 V2.heap.size 26 #[.slice none 0 0, .slice none 0 0, .slice none 0 0, .int .i64 0] := by rw [hV3]; exact Box.new _ _ _
        have hyl : W.heap.size ≤ V2.heap.size := hbV.size
        rw [← hV3]
        replace hBx := hBx.below hb9 hBx.lt
        replace hO := stN.obelow hO hb9
        replace hbV : Below W.heap.size W V3 := below_any hbV hb9
        refine hK.out _ _ (HS.out V3 hbV) ?_
        clear hK hV3 hb9
        obtain ⟨fx0, fx1, fx2, fx3, fj0, fj1, fj2, fj3⟩ := hBx.four
        have hne : W.heap.size ≠ V2.heap.size := by have h1 := hBx; have h2 := hBy; unfold Box at h1 h2; intro e; rw [e, h2] at h1; simp at h1
        have hbx9 := hbV.size
        have hlx : w.heap.size ≤ W.heap.size := by have := hxl; have := HB.out.2; omega
        have hly : w.heap.size ≤ V2.heap.size := by have := hyl; have := HB.out.2; omega
        obtain ⟨Q5, hQ5⟩ : ∃ Q, Q = (((V3.setCell ⟨W.heap.size, 0, none⟩ (.slice a1 n1 c1)).setCell ⟨W.heap.size, 1, none⟩ (.slice b1 m1 d1)).setCell ⟨W.heap.size, 2, none⟩ (.slice e1 k1 f1)).setCell ⟨W.heap.size, 3, none⟩ (.int .i64 q1) := ⟨_, rfl⟩
        have hb5 : Below W.heap.size W Q5 := by rw [hQ5]; exact below_set4 hbV hxl _ _ _ _
        have h5x : Box Q5 W.heap.size 33 #[.slice a1 n1 c1, .slice b1 m1 d1, .slice e1 k1 f1, .int .i64 q1] := by rw [hQ5]; exact box_four hBx _ _ _ _
        have h5y : Box Q5 V2.heap.size 26 #[.slice none 0 0, .slice none 0 0, .slice none 0 0, .int .i64 0] := by rw [hQ5]; exact oth4 hBy hne.symm _ _ _ _
        have h5o : stN.owns V1.heap.size Q5 [.slice a1 n1 c1, .slice b1 m1 d1, .slice e1 k1 f1, .int .i64 q1] s := by rw [hQ5]; exact own_set4 stN (by decide) hO hBx _ _ _ _
        refine AnyBut.step (i := 5) (by kernel_rfl) rfl (fun K hK => ?_)
        go_simp
        rw [← hQ5]
        refine hK.out _ _ (HS.out Q5 hb5) ?_
        clear hK hQ5 fx0 fx1 fx2 fx3 fj0 fj1 fj2 fj3 hBx hBy hO hbV
        obtain ⟨fx0, fx1, fx2, fx3, fj0, fj1, fj2, fj3⟩ := h5y.four
        obtain ⟨Q6, hQ6⟩ : ∃ Q, Q = (((Q5.setCell ⟨V2.heap.size, 0, none⟩ (.slice a0 n0 c0)).setCell ⟨V2.heap.size, 1, none⟩ (.slice b0 m0 d0)).setCell ⟨V2.heap.size, 2, none⟩ (.slice e0 k0 f0)).setCell ⟨V2.heap.size, 3, none⟩ (.int .i64 q0) := ⟨_, rfl⟩
        have hb6 : Below W.heap.size W Q6 := by rw [hQ6]; exact below_set4 hb5 hyl _ _ _ _
        have h6x : Box Q6 W.heap.size 33 #[.slice a1 n1 c1, .slice b1 m1 d1, .slice e1 k1 f1, .int .i64 q1] := by rw [hQ6]; exact oth4 h5x hne _ _ _ _
        have h6y : Box Q6 V2.heap.size 26 #[.slice a0 n0 c0, .slice b0 m0 d0, .slice e0 k0 f0, .int .i64 q0] := by rw [hQ6]; exact box_four h5y _ _ _ _
        have h6o : stN.owns V1.heap.size Q6 [.slice a1 n1 c1, .slice b1 m1 d1, .slice e1 k1 f1, .int .i64 q1] s := by rw [hQ6]; exact rset4 stN (by decide) h5o h5y _ _ _ _
        refine AnyBut.step (i := 6) (by kernel_rfl) rfl (fun K hK => ?_)
        go_simp
        rw [← hQ6]
        refine hK.out _ _ (HS.out Q6 hb6) ?_
        clear hK hQ6 fx0 fx1 fx2 fx3 fj0 fj1 fj2 fj3
        refine AnyBut.done (by kernel_rfl) ?_
        refine hMt _ _ (Go.Met.intro (hJ _ _ ?_))
        (repeat (refine Exists.intro ?_ ?_; rotate_left 1))
        refine ⟨?rel3, ?fr3⟩
        case fr3 => rfl
        case rel3 => exact ⟨_, _, rfl, rfl, hne, hlx, hly, _, below_any HB.out.1 hb6, h6x, h6y, ⟨_, h6o⟩, .inl ⟨rfl, rfl⟩⟩
      · go_simp
        obtain ⟨V2, hV2⟩ : ∃ Z, Z = V1.alloc (.cells #[.slice none 0 0, .slice none 0 0, .slice none 0 0, .int .i64 0] 26) := ⟨_, rfl⟩
        have hb9 : Below V1.heap.size V1 V2 := by rw [hV2]; exact (Below.refl _ _).alloc (Nat.le_refl _) _
        have hBy : Box V2 V1.heap.size 26 #[.slice none 0 0, .slice none 0 0, .slice none 0 0, .int .i64 0] := by rw [hV2]; exact Box.new _ _ _
        have hyl : W.heap.size ≤ V1.heap.size := hbV.size
        rw [← hV2]
        replace hBx := hBx.below hb9 hBx.lt
        replace hbV : Below W.heap.size W V2 := below_any hbV hb9
        refine hK.out _ _ (HS.out V2 hbV) ?_
        clear hK hV2 hb9
        refine AnyBut.step (i := 1) (by kernel_rfl) rfl (fun K hK => ?_)
        go_simp
        refine Calls.mono (HCO.out V2 hbV) ?_
        rintro e9 V3 ⟨⟨us9, rfl, hO⟩, hb9⟩
        obtain ⟨a1, n1, c1, b1, m1, d1, e1, k1, f1, q1, rfl⟩ := st_fl hO
        dsimp only
        replace hbV : Below W.heap.size W V3 := below_any hbV hb9
        replace hBx := hBx.below hb9 hBx.lt
        replace hBy := hBy.below hb9 hBy.lt
        refine hK.out _ _ (HS.out V3 hbV) ?_
        clear hK hb9
        obtain ⟨fx0, fx1, fx2, fx3, fj0, fj1, fj2, fj3⟩ := hBx.four
        have hne : W.heap.size ≠ V1.heap.size := by have h1 := hBx; have h2 := hBy; unfold Box at h1 h2; intro e; rw [e, h2] at h1; simp at h1
        have hbx9 := hbV.size
        have hlx : w.heap.size ≤ W.heap.size := by have := hxl; have := HB.out.2; omega
        have hly : w.heap.size ≤ V1.heap.size := by have := hyl; have := HB.out.2; omega
        obtain ⟨Q5, hQ5⟩ : ∃ Q, Q = (((V3.setCell ⟨W.heap.size, 0, none⟩ (.slice a1 n1 c1)).setCell ⟨W.heap.size, 1, none⟩ (.slice b1 m1 d1)).setCell ⟨W.heap.size, 2, none⟩ (.slice e1 k1 f1)).setCell ⟨W.heap.size, 3, none⟩ (.int .i64 q1) := ⟨_, rfl⟩
        have hb5 : Below W.heap.size W Q5 := by rw [hQ5]; exact below_set4 hbV hxl _ _ _ _
        have h5x : Box Q5 W.heap.size 33 #[.slice a1 n1 c1, .slice b1 m1 d1, .slice e1 k1 f1, .int .i64 q1] := by rw [hQ5]; exact box_four hBx _ _ _ _
        have h5y : Box Q5 V1.heap.size 26 #[.slice none 0 0, .slice none 0 0, .slice none 0 0, .int .i64 0] := by rw [hQ5]; exact oth4 hBy hne.symm _ _ _ _
        have h5o : stN.owns V2.heap.size Q5 [.slice a1 n1 c1, .slice b1 m1 d1, .slice e1 k1 f1, .int .i64 q1] s := by rw [hQ5]; exact own_set4 stN (by decide) hO hBx _ _ _ _
        refine AnyBut.step (i := 5) (by kernel_rfl) rfl (fun K hK => ?_)
        go_simp
        rw [← hQ5]
        refine hK.out _ _ (HS.out Q5 hb5) ?_
        clear hK hQ5 fx0 fx1 fx2 fx3 fj0 fj1 fj2 fj3 hBx hBy hO hbV
        obtain ⟨fx0, fx1, fx2, fx3, fj0, fj1, fj2, fj3⟩ := h5y.four
        obtain ⟨Q6, hQ6⟩ : ∃ Q, Q = (((Q5.setCell ⟨V1.heap.size, 0, none⟩ (.slice a0 n0 c0)).setCell ⟨V1.heap.size, 1, none⟩ (.slice b0 m0 d0)).setCell ⟨V1.heap.size, 2, none⟩ (.slice e0 k0 f0)).setCell ⟨V1.heap.size, 3, none⟩ (.int .i64 q0) := ⟨_, rfl⟩
        have hb6 : Below W.heap.size W Q6 := by rw [hQ6]; exact below_set4 hb5 hyl _ _ _ _
        have h6x : Box Q6 W.heap.size 33 #[.slice a1 n1 c1, .slice b1 m1 d1, .slice e1 k1 f1, .int .i64 q1] := by rw [hQ6]; exact oth4 h5x hne _ _ _ _
        have h6y : Box Q6 V1.heap.size 26 #[.slice a0 n0 c0, .slice b0 m0 d0, .slice e0 k0 f0, .int .i64 q0] := by rw [hQ6]; exact box_four h5y _ _ _ _
        have h6o : stN.owns V2.heap.size Q6 [.slice a1 n1 c1, .slice b1 m1 d1, .slice e1 k1 f1, .int .i64 q1] s := by rw [hQ6]; exact rset4 stN (by decide) h5o h5y _ _ _ _
        refine AnyBut.step (i := 6) (by kernel_rfl) rfl (fun K hK => ?_)
        go_simp
        rw [← hQ6]
        refine hK.out _ _ (HS.out Q6 hb6) ?_
        clear hK hQ6 fx0 fx1 fx2 fx3 fj0 fj1 fj2 fj3
        refine AnyBut.done (by kernel_rfl) ?_
        refine hMt _ _ (Go.Met.intro (hJ _ _ ?_))
        (repeat (refine Exists.intro ?_ ?_; rotate_left 1))
        refine ⟨?rel4, ?fr4⟩
        case fr4 => rfl
        case rel4 => exact ⟨_, _, rfl, rfl, hne, hlx, hly, _, below_any HB.out.1 hb6, h6x, h6y, ⟨_, h6o⟩, .inl ⟨rfl, rfl⟩⟩
    · go_simp
      obtain ⟨V1, hV1⟩ : ∃ Z, Z = (W.alloc (.cells #[.slice none 0 0, .slice none 0 0, .slice none 0 0, .int .i64 0] 26)).drew := ⟨_, rfl⟩
      have hb9 : Below W.heap.size W V1 := by rw [hV1]; exact ((Below.refl _ _).alloc (Nat.le_refl _) _).drew
      have hBy : Box V1 W.heap.size 26 #[.slice none 0 0, .slice none 0 0, .slice none 0 0, .int .i64 0] := by rw [hV1]; exact Box.drew (Box.new _ _ _)
      have hyl : W.heap.size ≤ W.heap.size := Nat.le_refl _
      rw [← hV1]
      replace hbV : Below W.heap.size W V1 := hb9
      refine hK.out _ _ (HS.out V1 hbV) ?_
      clear hK hV1 hb9
      refine AnyBut.two (i := 1) (j := 3) (by kernel_rfl) rfl rfl (fun K hK => ?_) (fun K hK => ?_)
      · go_simp
        refine Calls.mono (HCO.out V1 hbV) ?_
        rintro e9 V2 ⟨⟨us9, rfl, hO⟩, hb9⟩
        obtain ⟨a1, n1, c1, b1, m1, d1, e1, k1, f1, q1, rfl⟩ := st_fl hO
        dsimp only
        replace hbV : Below W.heap.size W V2 := below_any hbV hb9
        replace hBy := hBy.below hb9 hBy.lt
        refine hK.out _ _ (HS.out V2 hbV) ?_
        clear hK hb9
        refine AnyBut.step (i := 3) (by kernel_rfl) rfl (fun K hK => ?_)
        go_simp
        obtain ⟨V3, hV3⟩ : ∃ Z, Z = V2.alloc (.cells #[.slice none 0 0, .slice none 0 0, .slice none 0 0, .int .i64 0] 33) := ⟨_, rfl⟩
        have hb9 : Below V2.heap.size V2 V3 := by rw [hV3]; exact (Below.refl _ _).alloc (Nat.le_refl _) _
        have hBx : Box V3 V2.heap.size 33 #[.slice none 0 0, .slice none 0 0, .slice none 0 0, .int .i64 0] := by rw [hV3]; exact Box.new _ _ _
        have hxl : W.heap.size ≤ V2.heap.size := hbV.size
        rw [← hV3]
        replace hBy := hBy.below hb9 hBy.lt
        replace hO := stN.obelow hO hb9
        replace hbV : Below W.heap.size W V3 := below_any hbV hb9
        refine hK.out _ _ (HS.out V3 hbV) ?_
        clear hK hV3 hb9
        obtain ⟨fx0, fx1, fx2, fx3, fj0, fj1, fj2, fj3⟩ := hBx.four
        have hne : V2.heap.size ≠ W.heap.size := by have h1 := hBx; have h2 := hBy; unfold Box at h1 h2; intro e; rw [e, h2] at h1; simp at h1
        have hbx9 := hbV.size
        have hlx : w.heap.size ≤ V2.heap.size := by have := hxl; have := HB.out.2; omega
        have hly : w.heap.size ≤ W.heap.size := by have := hyl; have := HB.out.2; omega
        obtain ⟨Q5, hQ5⟩ : ∃ Q, Q = (((V3.setCell ⟨V2.heap.size, 0, none⟩ (.slice a1 n1 c1)).setCell ⟨V2.heap.size, 1, none⟩ (.slice b1 m1 d1)).setCell ⟨V2.heap.size, 2, none⟩ (.slice e1 k1 f1)).setCell ⟨V2.heap.size, 3, none⟩ (.int .i64 q1) := ⟨_, rfl⟩
        have hb5 : Below W.heap.size W Q5 := by rw [hQ5]; exact below_set4 hbV hxl _ _ _ _
        have h5x : Box Q5 V2.heap.size 33 #[.slice a1 n1 c1, .slice b1 m1 d1, .slice e1 k1 f1, .int .i64 q1] := by rw [hQ5]; exact box_four hBx _ _ _ _
        have h5y : Box Q5 W.heap.size 26 #[.slice none 0 0, .slice none 0 0, .slice none 0 0, .int .i64 0] := by rw [hQ5]; exact oth4 hBy hne.symm _ _ _ _
        have h5o : stN.owns V1.heap.size Q5 [.slice a1 n1 c1, .slice b1 m1 d1, .slice e1 k1 f1, .int .i64 q1] s := by rw [hQ5]; exact own_set4 stN (by decide) hO hBx _ _ _ _
        refine AnyBut.step (i := 5) (by kernel_rfl) rfl (fun K hK => ?_)
        go_simp
        rw [← hQ5]
        refine hK.out _ _ (HS.out Q5 hb5) ?_
        clear hK hQ5 fx0 fx1 fx2 fx3 fj0 fj1 fj2 fj3 hBx hBy hO hbV
        obtain ⟨fx0, fx1, fx2, fx3, fj0, fj1, fj2, fj3⟩ := h5y.four
        obtain ⟨Q6, hQ6⟩ : ∃ Q, Q = (((Q5.setCell ⟨W.heap.size, 0, none⟩ (.slice a0 n0 c0)).setCell ⟨W.heap.size, 1, none⟩ (.slice b0 m0 d0)).setCell ⟨W.heap.size, 2, none⟩ (.slice e0 k0 f0)).setCell ⟨W.heap.size, 3, none⟩ (.int .i64 q0) := ⟨_, rfl⟩
        have hb6 : Below W.heap.size W Q6 := by rw [hQ6]; exact below_set4 hb5 hyl _ _ _ _
        have h6x : Box Q6 V2.heap.size 33 #[.slice a1 n1 c1, .slice b1 m1 d1, .slice e1 k1 f1, .int .i64 q1] := by rw [hQ6]; exact oth4 h5x hne _ _ _ _
        have h6y : Box Q6 W.heap.size 26 #[.slice a0 n0 c0, .slice b0 m0 d0, .slice e0 k0 f0, .int .i64 q0] := by rw [hQ6]; exact box_four h5y _ _ _ _
        have h6o : stN.owns V1.heap.size Q6 [.slice a1 n1 c1, .slice b1 m1 d1, .slice e1 k1 f1, .int .i64 q1] s := by rw [hQ6]; exact rset4 stN (by decide) h5o h5y _ _ _ _
        refine AnyBut.step (i := 6) (by kernel_rfl) rfl (fun K hK => ?_)
        go_simp
        rw [← hQ6]
        refine hK.out _ _ (HS.out Q6 hb6) ?_
        clear hK hQ6 fx0 fx1 fx2 fx3 fj0 fj1 fj2 fj3
        refine AnyBut.done (by kernel_rfl) ?_
        refine hMt _ _ (Go.Met.intro (hJ _ _ ?_))
        (repeat (refine Exists.intro ?_ ?_; rotate_left 1))
        refine ⟨?rel5, ?fr5⟩
        case fr5 => rfl
        case rel5 => exact ⟨_, _, rfl, rfl, hne, hlx, hly, _, below_any HB.out.1 hb6, h6x, h6y, ⟨_, h6o⟩, .inl ⟨rfl, rfl⟩⟩
      · go_simp
        obtain ⟨V2, hV2⟩ : ∃ Z, Z = V1.alloc (.cells #[.slice none 0 0, .slice none 0 0, .slice none 0 0, .int .i64 0] 33) := ⟨_, rfl⟩
        have hb9 : Below V1.heap.size V1 V2 := by rw [hV2]; exact (Below.refl _ _).alloc (Nat.le_refl _) _
        have hBx : Box V2 V1.heap.size 33 #[.slice none 0 0, .slice none 0 0, .slice none 0 0, .int .i64 0] := by rw [hV2]; exact Box.new _ _ _
        have hxl : W.heap.size ≤ V1.heap.size := hbV.size
        rw [← hV2]
        replace hBy := hBy.below hb9 hBy.lt
        replace hbV : Below W.heap.size W V2 := below_any hbV hb9
        refine hK.out _ _ (HS.out V2 hbV) ?_
        clear hK hV2 hb9
        refine AnyBut.step (i := 1) (by kernel_rfl) rfl (fun K hK => ?_)
        go_simp
        refine Calls.mono (HCO.out V2 hbV) ?_
        rintro e9 V3 ⟨⟨us9, rfl, hO⟩, hb9⟩
        obtain ⟨a1, n1, c1, b1, m1, d1, e1, k1, f1, q1, rfl⟩ := st_fl hO
        dsimp only
        replace hbV : Below W.heap.size W V3 := below_any hbV hb9
        replace hBx := hBx.below hb9 hBx.lt
        replace hBy := hBy.below hb9 hBy.lt
        refine hK.out _ _ (HS.out V3 hbV) ?_
        clear hK hb9
        obtain ⟨fx0, fx1, fx2, fx3, fj0, fj1, fj2, fj3⟩ := hBx.four
        have hne : V1.heap.size ≠ W.heap.size := by have h1 := hBx; have h2 := hBy; unfold Box at h1 h2; intro e; rw [e, h2] at h1; simp at h1
        have hbx9 := hbV.size
        have hlx : w.heap.size ≤ V1.heap.size := by have := hxl; have := HB.out.2; omega
        have hly : w.heap.size ≤ W.heap.size := by have := hyl; have := HB.out.2; omega
        obtain ⟨Q5, hQ5⟩ : ∃ Q, Q = (((V3.setCell ⟨V1.heap.size, 0, none⟩ (.slice a1 n1 c1)).setCell ⟨V1.heap.size, 1, none⟩ (.slice b1 m1 d1)).setCell ⟨V1.heap.size, 2, none⟩ (.slice e1 k1 f1)).setCell ⟨V1.heap.size, 3, none⟩ (.int .i64 q1) := ⟨_, rfl⟩
        have hb5 : Below W.heap.size W Q5 := by rw [hQ5]; exact below_set4 hbV hxl _ _ _ _
        have h5x : Box Q5 V1.heap.size 33 #[.slice a1 n1 c1, .slice b1 m1 d1, .slice e1 k1 f1, .int .i64 q1] := by rw [hQ5]; exact box_four hBx _ _ _ _
        have h5y : Box Q5 W.heap.size 26 #[.slice none 0 0, .slice none 0 0, .slice none 0 0, .int .i64 0] := by rw [hQ5]; exact oth4 hBy hne.symm _ _ _ _
        have h5o : stN.owns V2.heap.size Q5 [.slice a1 n1 c1, .slice b1 m1 d1, .slice e1 k1 f1, .int .i64 q1] s := by rw [hQ5]; exact own_set4 stN (by decide) hO hBx _ _ _ _
        refine AnyBut.step (i := 5) (by kernel_rfl) rfl (fun K hK => ?_)
        go_simp
        rw [← hQ5]
        refine hK.out _ _ (HS.out Q5 hb5) ?_
        clear hK hQ5 fx0 fx1 fx2 fx3 fj0 fj1 fj2 fj3 hBx hBy hO hbV
        obtain ⟨fx0, fx1, fx2, fx3, fj0, fj1, fj2, fj3⟩ := h5y.four
        obtain ⟨Q6, hQ6⟩ : ∃ Q, Q = (((Q5.setCell ⟨W.heap.size, 0, none⟩ (.slice a0 n0 c0)).setCell ⟨W.heap.size, 1, none⟩ (.slice b0 m0 d0)).setCell ⟨W.heap.size, 2, none⟩ (.slice e0 k0 f0)).setCell ⟨W.heap.size, 3, none⟩ (.int .i64 q0) := ⟨_, rfl⟩
        have hb6 : Below W.heap.size W Q6 := by rw [hQ6]; exact below_set4 hb5 hyl _ _ _ _
        have h6x : Box Q6 V1.heap.size 33 #[.slice a1 n1 c1, .slice b1 m1 d1, .slice e1 k1 f1, .int .i64 q1] := by rw [hQ6]; exact oth4 h5x hne _ _ _ _
        have h6y : Box Q6 W.heap.size 26 #[.slice a0 n0 c0, .slice b0 m0 d0, .slice e0 k0 f0, .int .i64 q0] := by rw [hQ6]; exact box_four h5y _ _ _ _
        have h6o : stN.owns V2.heap.size Q6 [.slice a1 n1 c1, .slice b1 m1 d1, .slice e1 k1 f1, .int .i64 q1] s := by rw [hQ6]; exact rset4 stN (by decide) h5o h5y _ _ _ _
        refine AnyBut.step (i := 6) (by kernel_rfl) rfl (fun K hK => ?_)
        go_simp
        rw [← hQ6]
        refine hK.out _ _ (HS.out Q6 hb6) ?_
        clear hK hQ6 fx0 fx1 fx2 fx3 fj0 fj1 fj2 fj3
        refine AnyBut.done (by kernel_rfl) ?_
        refine hMt _ _ (Go.Met.intro (hJ _ _ ?_))
        (repeat (refine Exists.intro ?_ ?_; rotate_left 1))
        refine ⟨?rel6, ?fr6⟩
        case fr6 => rfl
        case rel6 => exact ⟨_, _, rfl, rfl, hne, hlx, hly, _, below_any HB.out.1 hb6, h6x, h6y, ⟨_, h6o⟩, .inl ⟨rfl, rfl⟩⟩
  case rest =>
    obtain ⟨Bx, By, rfl, rfl, HXX⟩ := hcut
    obtain ⟨wx, hwx⟩ : ∃ U, U = wc := ⟨_, rfl⟩
    rw [← hwx] at HXX ⊢
    clear hwx HS HCO
    have HBB : Hid (Bx ≠ By ∧ w.heap.size ≤ Bx ∧ w.heap.size ≤ By) := ⟨HXX.out.1, HXX.out.2.1, HXX.out.2.2.1⟩
    go_wp2
    go_loopw [5] (fun v wr => ∃ (j : Nat) (t : St) (ux uy : List Value), j ≤ 12 ∧ v = .int .i64 (j : Int) ∧ Hid (BI w s [.slice a0 n0 c0, .slice b0 m0 d0, .slice e0 k0 f0, .int .i64 q0] Bx By t ux uy wr)) (fun v _ => 12 - (intOf v).toNat)
    case atStart =>
      obtain ⟨_, _, _, ux, hbi⟩ := HXX.out
      exact ⟨0, s, ux, _, Nat.zero_le _, rfl, hbi⟩
    case round =>
      clear HXX
      obtain ⟨j, t, ux, uy, hj, rfl, HI⟩ := hrel
      by_cases hlt : j < 12
      case neg =>
        obtain rfl : j = 12 := by omega
        have HQ : Hid (post (.returned (.bool true)) wr) := HPo.out _ HI.out.1
        have HC := alive16_any wr
        go_wp2_with fail
        refine HC.mono ?_
        rintro e9 w9 ⟨rfl, rfl⟩
        clear HC
        go_wp2
        exact HQ.out
      have hji : (j : Int) < 12 := by omega
      obtain ⟨a1, n1, c1, b1, m1, d1, e1, k1, f1, q1, rfl⟩ := (let ⟨b, h9⟩ := HI.out.2.2.2.1; st_fl h9)
      obtain ⟨a2, n2, c2, b2, m2, d2, e2, k2, f2, q2, rfl, -⟩ := st_flatRl (HI.out.2.2.2.2.lies HL.out HI.out.1)
      obtain ⟨vn, h3⟩ : ∃ z, z = vA t := ⟨_, rfl⟩
      obtain ⟨vv, h4⟩ : ∃ z, z = vQ t := ⟨_, rfl⟩
      obtain ⟨ve, h5⟩ : ∃ z, z = vE t := ⟨_, rfl⟩
      obtain ⟨ce, h6⟩ : ∃ z, z = clE t (vn : Int) vv := ⟨_, rfl⟩
      have HE : Hid (vn = vA t ∧ vv = vQ t ∧ ve = vE t ∧ ce = clE t (vn : Int) vv) := ⟨h3, h4, h5, h6⟩
      clear h3 h4 h5 h6
      have HB : Hid (Below w.heap.size w wr) := HI.out.1
      have AX : Hid (Box wr Bx 33 #[.slice a1 n1 c1, .slice b1 m1 d1, .slice e1 k1 f1, .int .i64 q1] ∧ stN.lies 0 wr [.slice a1 n1 c1, .slice b1 m1 d1, .slice e1 k1 f1, .int .i64 q1] t) := ⟨HI.out.2.1, let ⟨b, h9⟩ := HI.out.2.2.2.1; stN.weaken (stN.olies h9) (Nat.zero_le _)⟩
      have AY : Hid (Box wr By 26 #[.slice a2 n2 c2, .slice b2 m2 d2, .slice e2 k2 f2, .int .i64 q2] ∧ stR.lies 0 wr [.slice a2 n2 c2, .slice b2 m2 d2, .slice e2 k2 f2, .int .i64 q2] t) := ⟨HI.out.2.2.1, HI.out.2.2.2.2.lies HL.out HI.out.1⟩
      have HGR : Hid (wr.heap.size ≤ wr.heap.size) := Nat.le_refl _
      have HC := victim_any 0 [.slice a1 n1 c1, .slice b1 m1 d1, .slice e1 k1 f1, .int .i64 q1] t wr AX.out.2
      rw [← HE.out.1] at HC
      rw [← HE.out.2.1] at HC
      rw [← HE.out.2.2.1] at HC
      obtain ⟨AXc0, AXc1, AXc2, AXc3, -⟩ := AX.out.1.four
      go_wp2_with (go_at_call 36; refine (num16_any _ _).mono ?_; rintro e9 wn ⟨rfl, rfl⟩)
      clear AXc0 AXc1 AXc2 AXc3
      refine HC.mono ?_
      rintro e9 w21 ⟨rfl, hb9⟩
      replace AX : Hid (Box w21 Bx 33 #[.slice a1 n1 c1, .slice b1 m1 d1, .slice e1 k1 f1, .int .i64 q1] ∧ stN.lies 0 w21 [.slice a1 n1 c1, .slice b1 m1 d1, .slice e1 k1 f1, .int .i64 q1] t) := ⟨AX.out.1.below hb9 AX.out.1.lt, stN.below AX.out.2 hb9⟩
      replace AY : Hid (Box w21 By 26 #[.slice a2 n2 c2, .slice b2 m2 d2, .slice e2 k2 f2, .int .i64 q2] ∧ stR.lies 0 w21 [.slice a2 n2 c2, .slice b2 m2 d2, .slice e2 k2 f2, .int .i64 q2] t) := ⟨AY.out.1.below hb9 AY.out.1.lt, stR.below AY.out.2 hb9⟩
      replace HGR : Hid (wr.heap.size ≤ w21.heap.size) := Nat.le_trans HGR.out (hb9).size
      replace HB : Hid (Below w.heap.size w w21) := below_any HB.out hb9
      obtain ⟨X21, hX21⟩ : ∃ X, X = w21.alloc (.cells #[.int .i64 (vn : Int), .int .i64 vv] 74) := ⟨_, rfl⟩
      have hbX : Below w21.heap.size w21 X21 := by rw [hX21]; exact (Below.refl _ _).alloc (Nat.le_refl _) _
      have V1 : Hid (Box X21 w21.heap.size 74 #[.int .i64 (vn : Int), .int .i64 vv]) := by rw [hX21]; exact Box.new _ _ _
      replace AX : Hid (Box X21 Bx 33 #[.slice a1 n1 c1, .slice b1 m1 d1, .slice e1 k1 f1, .int .i64 q1] ∧ stN.lies 0 X21 [.slice a1 n1 c1, .slice b1 m1 d1, .slice e1 k1 f1, .int .i64 q1] t) := ⟨AX.out.1.below hbX AX.out.1.lt, stN.below AX.out.2 hbX⟩
      replace AY : Hid (Box X21 By 26 #[.slice a2 n2 c2, .slice b2 m2 d2, .slice e2 k2 f2, .int .i64 q2] ∧ stR.lies 0 X21 [.slice a2 n2 c2, .slice b2 m2 d2, .slice e2 k2 f2, .int .i64 q2] t) := ⟨AY.out.1.below hbX AY.out.1.lt, stR.below AY.out.2 hbX⟩
      replace HGR : Hid (wr.heap.size ≤ X21.heap.size) := Nat.le_trans HGR.out (hbX).size
      replace HB : Hid (Below w.heap.size w X21) := below_any HB.out hbX
      clear HC hb9 hbX
      go_upto_region 6 with fail
      rw [← hX21]
      clear hX21
      have HC := rvictim_any 0 [.slice a2 n2 c2, .slice b2 m2 d2, .slice e2 k2 f2, .int .i64 q2] t X21 AY.out.2
      rw [← HE.out.1] at HC
      rw [← HE.out.2.1] at HC
      rw [← HE.out.2.2.1] at HC
      obtain ⟨AYc0, AYc1, AYc2, AYc3, -⟩ := AY.out.1.four
      go_wp2_with (go_at_call 36; refine (num16_any _ _).mono ?_; rintro e9 wn ⟨rfl, rfl⟩)
      clear AYc0 AYc1 AYc2 AYc3
      refine HC.mono ?_
      rintro e9 w22 ⟨rfl, hb9⟩
      replace AX : Hid (Box w22 Bx 33 #[.slice a1 n1 c1, .slice b1 m1 d1, .slice e1 k1 f1, .int .i64 q1] ∧ stN.lies 0 w22 [.slice a1 n1 c1, .slice b1 m1 d1, .slice e1 k1 f1, .int .i64 q1] t) := ⟨AX.out.1.below hb9 AX.out.1.lt, stN.below AX.out.2 hb9⟩
      replace AY : Hid (Box w22 By 26 #[.slice a2 n2 c2, .slice b2 m2 d2, .slice e2 k2 f2, .int .i64 q2] ∧ stR.lies 0 w22 [.slice a2 n2 c2, .slice b2 m2 d2, .slice e2 k2 f2, .int .i64 q2] t) := ⟨AY.out.1.below hb9 AY.out.1.lt, stR.below AY.out.2 hb9⟩
      replace HGR : Hid (wr.heap.size ≤ w22.heap.size) := Nat.le_trans HGR.out (hb9).size
      replace V1 : Hid (Box w22 w21.heap.size 74 #[.int .i64 (vn : Int), .int .i64 vv]) := V1.out.below hb9 V1.out.lt
      replace HB : Hid (Below w.heap.size w w22) := below_any HB.out hb9
      obtain ⟨X22, hX22⟩ : ∃ X, X = w22.alloc (.cells #[.int .i64 (vn : Int), .int .i64 vv] 69) := ⟨_, rfl⟩
      have hbX : Below w22.heap.size w22 X22 := by rw [hX22]; exact (Below.refl _ _).alloc (Nat.le_refl _) _
      have V2 : Hid (Box X22 w22.heap.size 69 #[.int .i64 (vn : Int), .int .i64 vv]) := by rw [hX22]; exact Box.new _ _ _
      replace AX : Hid (Box X22 Bx 33 #[.slice a1 n1 c1, .slice b1 m1 d1, .slice e1 k1 f1, .int .i64 q1] ∧ stN.lies 0 X22 [.slice a1 n1 c1, .slice b1 m1 d1, .slice e1 k1 f1, .int .i64 q1] t) := ⟨AX.out.1.below hbX AX.out.1.lt, stN.below AX.out.2 hbX⟩
      replace AY : Hid (Box X22 By 26 #[.slice a2 n2 c2, .slice b2 m2 d2, .slice e2 k2 f2, .int .i64 q2] ∧ stR.lies 0 X22 [.slice a2 n2 c2, .slice b2 m2 d2, .slice e2 k2 f2, .int .i64 q2] t) := ⟨AY.out.1.below hbX AY.out.1.lt, stR.below AY.out.2 hbX⟩
      replace HGR : Hid (wr.heap.size ≤ X22.heap.size) := Nat.le_trans HGR.out (hbX).size
      replace V1 : Hid (Box X22 w21.heap.size 74 #[.int .i64 (vn : Int), .int .i64 vv]) := V1.out.below hbX V1.out.lt
      replace HB : Hid (Below w.heap.size w X22) := below_any HB.out hbX
      clear HC hb9 hbX
      go_upto_region 7 with fail
      rw [← hX22]
      clear hX22
      obtain ⟨V1t0, V1t1, -⟩ := V1.out.two
      obtain ⟨V2t0, V2t1, -⟩ := V2.out.two
      by_cases hve : ve = 0
      case neg =>
        have hvb : (ve == 0) = false := by simpa using hve
        have HQ : Hid (post (.returned (.bool true)) X22) := HPo.out _ HB.out
        have HC := alive16_any X22
        go_wp2_with (first | (go_at_call 36; refine (num16_any _ _).mono ?_; rintro e9 wn ⟨rfl, rfl⟩) | fail)
        refine HC.mono ?_
        rintro e9 w9 ⟨rfl, rfl⟩
        clear HC
        go_wp2
        exact HQ.out
      subst hve
      have HC := clean_any 0 [.slice a1 n1 c1, .slice b1 m1 d1, .slice e1 k1 f1, .int .i64 q1] t (vn : Int) vv X22 AX.out.2
      rw [← HE.out.2.2.2] at HC
      obtain ⟨AXc0, AXc1, AXc2, AXc3, -⟩ := AX.out.1.four
      go_wp2_with (go_at_call 36; refine (num16_any _ _).mono ?_; rintro e9 wn ⟨rfl, rfl⟩)
      clear AXc0 AXc1 AXc2 AXc3
      refine HC.mono ?_
      rintro e9 w23 ⟨⟨us9, rfl, ho9⟩, hb9⟩
      obtain ⟨a3, n3, c3, b3, m3, d3, e3, k3, f3, q3, rfl⟩ := st_fl ho9
      replace AX : Hid (Box w23 Bx 33 #[.slice a1 n1 c1, .slice b1 m1 d1, .slice e1 k1 f1, .int .i64 q1] ∧ stN.lies 0 w23 [.slice a1 n1 c1, .slice b1 m1 d1, .slice e1 k1 f1, .int .i64 q1] t) := ⟨AX.out.1.below hb9 AX.out.1.lt, stN.below AX.out.2 hb9⟩
      replace AY : Hid (Box w23 By 26 #[.slice a2 n2 c2, .slice b2 m2 d2, .slice e2 k2 f2, .int .i64 q2] ∧ stR.lies 0 w23 [.slice a2 n2 c2, .slice b2 m2 d2, .slice e2 k2 f2, .int .i64 q2] t) := ⟨AY.out.1.below hb9 AY.out.1.lt, stR.below AY.out.2 hb9⟩
      replace HGR : Hid (wr.heap.size ≤ w23.heap.size) := Nat.le_trans HGR.out (hb9).size
      replace V1 : Hid (Box w23 w21.heap.size 74 #[.int .i64 (vn : Int), .int .i64 vv]) := V1.out.below hb9 V1.out.lt
      replace V2 : Hid (Box w23 w22.heap.size 69 #[.int .i64 (vn : Int), .int .i64 vv]) := V2.out.below hb9 V2.out.lt
      replace HB : Hid (Below w.heap.size w w23) := below_any HB.out hb9
      obtain ⟨X23, hX23⟩ : ∃ X, X = w23.alloc (.cells #[.slice a3 n3 c3, .slice b3 m3 d3, .slice e3 k3 f3, .int .i64 q3] 33) := ⟨_, rfl⟩
      have hbX : Below w23.heap.size w23 X23 := by rw [hX23]; exact (Below.refl _ _).alloc (Nat.le_refl _) _
      have A3 : Hid (Box X23 w23.heap.size 33 #[.slice a3 n3 c3, .slice b3 m3 d3, .slice e3 k3 f3, .int .i64 q3] ∧ stN.owns X22.heap.size X23 [.slice a3 n3 c3, .slice b3 m3 d3, .slice e3 k3 f3, .int .i64 q3] (clS t (vn : Int) vv)) := ⟨by rw [hX23]; exact Box.new _ _ _, stN.obelow ho9 hbX⟩
      have LA3 : Hid (wr.heap.size ≤ w23.heap.size) := HGR.out
      replace AX : Hid (Box X23 Bx 33 #[.slice a1 n1 c1, .slice b1 m1 d1, .slice e1 k1 f1, .int .i64 q1] ∧ stN.lies 0 X23 [.slice a1 n1 c1, .slice b1 m1 d1, .slice e1 k1 f1, .int .i64 q1] t) := ⟨AX.out.1.below hbX AX.out.1.lt, stN.below AX.out.2 hbX⟩
      replace AY : Hid (Box X23 By 26 #[.slice a2 n2 c2, .slice b2 m2 d2, .slice e2 k2 f2, .int .i64 q2] ∧ stR.lies 0 X23 [.slice a2 n2 c2, .slice b2 m2 d2, .slice e2 k2 f2, .int .i64 q2] t) := ⟨AY.out.1.below hbX AY.out.1.lt, stR.below AY.out.2 hbX⟩
      replace HGR : Hid (wr.heap.size ≤ X23.heap.size) := Nat.le_trans HGR.out (hbX).size
      replace V1 : Hid (Box X23 w21.heap.size 74 #[.int .i64 (vn : Int), .int .i64 vv]) := V1.out.below hbX V1.out.lt
      replace V2 : Hid (Box X23 w22.heap.size 69 #[.int .i64 (vn : Int), .int .i64 vv]) := V2.out.below hbX V2.out.lt
      replace HB : Hid (Below w.heap.size w X23) := below_any HB.out hbX
      clear HC ho9 hb9 hbX
      go_upto_region 11 with fail
      rw [← hX23]
      clear hX23
      clear V1t0 V1t1 V2t0 V2t1
      obtain ⟨V2t0, V2t1, -⟩ := V2.out.two
      have HC := rclean_any 0 [.slice a2 n2 c2, .slice b2 m2 d2, .slice e2 k2 f2, .int .i64 q2] t (vn : Int) vv X23 AY.out.2
      rw [← HE.out.2.2.2] at HC
      obtain ⟨AYc0, AYc1, AYc2, AYc3, -⟩ := AY.out.1.four
      go_wp2_with (go_at_call 36; refine (num16_any _ _).mono ?_; rintro e9 wn ⟨rfl, rfl⟩)
      clear AYc0 AYc1 AYc2 AYc3
      refine HC.mono ?_
      rintro e9 w24 ⟨⟨us9, rfl, ho9⟩, hb9⟩
      obtain ⟨a4, n4, c4, b4, m4, d4, e4, k4, f4, q4, rfl⟩ := st_flatR ho9
      replace AX : Hid (Box w24 Bx 33 #[.slice a1 n1 c1, .slice b1 m1 d1, .slice e1 k1 f1, .int .i64 q1] ∧ stN.lies 0 w24 [.slice a1 n1 c1, .slice b1 m1 d1, .slice e1 k1 f1, .int .i64 q1] t) := ⟨AX.out.1.below hb9 AX.out.1.lt, stN.below AX.out.2 hb9⟩
      replace AY : Hid (Box w24 By 26 #[.slice a2 n2 c2, .slice b2 m2 d2, .slice e2 k2 f2, .int .i64 q2] ∧ stR.lies 0 w24 [.slice a2 n2 c2, .slice b2 m2 d2, .slice e2 k2 f2, .int .i64 q2] t) := ⟨AY.out.1.below hb9 AY.out.1.lt, stR.below AY.out.2 hb9⟩
      replace HGR : Hid (wr.heap.size ≤ w24.heap.size) := Nat.le_trans HGR.out (hb9).size
      replace V1 : Hid (Box w24 w21.heap.size 74 #[.int .i64 (vn : Int), .int .i64 vv]) := V1.out.below hb9 V1.out.lt
      replace V2 : Hid (Box w24 w22.heap.size 69 #[.int .i64 (vn : Int), .int .i64 vv]) := V2.out.below hb9 V2.out.lt
      replace A3 : Hid (Box w24 w23.heap.size 33 #[.slice a3 n3 c3, .slice b3 m3 d3, .slice e3 k3 f3, .int .i64 q3] ∧ stN.owns X22.heap.size w24 [.slice a3 n3 c3, .slice b3 m3 d3, .slice e3 k3 f3, .int .i64 q3] (clS t (vn : Int) vv)) := ⟨A3.out.1.below hb9 A3.out.1.lt, stN.obelow A3.out.2 hb9⟩
      replace HB : Hid (Below w.heap.size w w24) := below_any HB.out hb9
      obtain ⟨X24, hX24⟩ : ∃ X, X = w24.alloc (.cells #[.slice a4 n4 c4, .slice b4 m4 d4, .slice e4 k4 f4, .int .i64 q4] 26) := ⟨_, rfl⟩
      have hbX : Below w24.heap.size w24 X24 := by rw [hX24]; exact (Below.refl _ _).alloc (Nat.le_refl _) _
      have A4 : Hid (Box X24 w24.heap.size 26 #[.slice a4 n4 c4, .slice b4 m4 d4, .slice e4 k4 f4, .int .i64 q4] ∧ stR.owns X23.heap.size X24 [.slice a4 n4 c4, .slice b4 m4 d4, .slice e4 k4 f4, .int .i64 q4] (clS t (vn : Int) vv)) := ⟨by rw [hX24]; exact Box.new _ _ _, stR.obelow ho9 hbX⟩
      have LA4 : Hid (wr.heap.size ≤ w24.heap.size) := HGR.out
      replace AX : Hid (Box X24 Bx 33 #[.slice a1 n1 c1, .slice b1 m1 d1, .slice e1 k1 f1, .int .i64 q1] ∧ stN.lies 0 X24 [.slice a1 n1 c1, .slice b1 m1 d1, .slice e1 k1 f1, .int .i64 q1] t) := ⟨AX.out.1.below hbX AX.out.1.lt, stN.below AX.out.2 hbX⟩
      replace AY : Hid (Box X24 By 26 #[.slice a2 n2 c2, .slice b2 m2 d2, .slice e2 k2 f2, .int .i64 q2] ∧ stR.lies 0 X24 [.slice a2 n2 c2, .slice b2 m2 d2, .slice e2 k2 f2, .int .i64 q2] t) := ⟨AY.out.1.below hbX AY.out.1.lt, stR.below AY.out.2 hbX⟩
      replace HGR : Hid (wr.heap.size ≤ X24.heap.size) := Nat.le_trans HGR.out (hbX).size
      replace V1 : Hid (Box X24 w21.heap.size 74 #[.int .i64 (vn : Int), .int .i64 vv]) := V1.out.below hbX V1.out.lt
      replace V2 : Hid (Box X24 w22.heap.size 69 #[.int .i64 (vn : Int), .int .i64 vv]) := V2.out.below hbX V2.out.lt
      replace A3 : Hid (Box X24 w23.heap.size 33 #[.slice a3 n3 c3, .slice b3 m3 d3, .slice e3 k3 f3, .int .i64 q3] ∧ stN.owns X22.heap.size X24 [.slice a3 n3 c3, .slice b3 m3 d3, .slice e3 k3 f3, .int .i64 q3] (clS t (vn : Int) vv)) := ⟨A3.out.1.below hbX A3.out.1.lt, stN.obelow A3.out.2 hbX⟩
      replace HB : Hid (Below w.heap.size w X24) := below_any HB.out hbX
      clear HC ho9 hb9 hbX
      go_upto_region 12 with fail
      rw [← hX24]
      clear hX24
      clear V2t0 V2t1
      obtain ⟨y0, y1, y2, y3, -⟩ := A3.out.1.four
      obtain ⟨z0, z1, z2, z3, -⟩ := A4.out.1.four
      have HC := alikeL_same 0 0 [.slice a3 n3 c3, .slice b3 m3 d3, .slice e3 k3 f3, .int .i64 q3] [.slice a4 n4 c4, .slice b4 m4 d4, .slice e4 k4 f4, .int .i64 q4] (clS t (vn : Int) vv) X24 (stN.weaken (stN.olies A3.out.2) (Nat.zero_le _)) (stR.weaken (stR.olies A4.out.2) (Nat.zero_le _))
      go_wp2_with (go_at_call 36; refine (num16_any _ _).mono ?_; rintro e9 wn ⟨rfl, rfl⟩)
      clear y0 y1 y2 y3 z0 z1 z2 z3
      refine HC.mono ?_
      rintro e9 wz ⟨rfl, hb9⟩
      replace AX : Hid (Box wz Bx 33 #[.slice a1 n1 c1, .slice b1 m1 d1, .slice e1 k1 f1, .int .i64 q1] ∧ stN.lies 0 wz [.slice a1 n1 c1, .slice b1 m1 d1, .slice e1 k1 f1, .int .i64 q1] t) := ⟨AX.out.1.below hb9 AX.out.1.lt, stN.below AX.out.2 hb9⟩
      replace AY : Hid (Box wz By 26 #[.slice a2 n2 c2, .slice b2 m2 d2, .slice e2 k2 f2, .int .i64 q2] ∧ stR.lies 0 wz [.slice a2 n2 c2, .slice b2 m2 d2, .slice e2 k2 f2, .int .i64 q2] t) := ⟨AY.out.1.below hb9 AY.out.1.lt, stR.below AY.out.2 hb9⟩
      replace HGR : Hid (wr.heap.size ≤ wz.heap.size) := Nat.le_trans HGR.out (hb9).size
      replace V1 : Hid (Box wz w21.heap.size 74 #[.int .i64 (vn : Int), .int .i64 vv]) := V1.out.below hb9 V1.out.lt
      replace V2 : Hid (Box wz w22.heap.size 69 #[.int .i64 (vn : Int), .int .i64 vv]) := V2.out.below hb9 V2.out.lt
      replace A3 : Hid (Box wz w23.heap.size 33 #[.slice a3 n3 c3, .slice b3 m3 d3, .slice e3 k3 f3, .int .i64 q3] ∧ stN.owns X22.heap.size wz [.slice a3 n3 c3, .slice b3 m3 d3, .slice e3 k3 f3, .int .i64 q3] (clS t (vn : Int) vv)) := ⟨A3.out.1.below hb9 A3.out.1.lt, stN.obelow A3.out.2 hb9⟩
      replace A4 : Hid (Box wz w24.heap.size 26 #[.slice a4 n4 c4, .slice b4 m4 d4, .slice e4 k4 f4, .int .i64 q4] ∧ stR.owns X23.heap.size wz [.slice a4 n4 c4, .slice b4 m4 d4, .slice e4 k4 f4, .int .i64 q4] (clS t (vn : Int) vv)) := ⟨A4.out.1.below hb9 A4.out.1.lt, stR.obelow A4.out.2 hb9⟩
      replace HB : Hid (Below w.heap.size w wz) := below_any HB.out hb9
      clear HC hb9
      by_cases hce : ce = 0
      case neg =>
        have hcb : (ce == 0) = false := by simpa using hce
        have HQ : Hid (post (.returned (.bool true)) wz) := HPo.out _ HB.out
        have HC := alive16_any wz
        go_wp2_with (first | (go_at_call 36; refine (num16_any _ _).mono ?_; rintro e9 wn ⟨rfl, rfl⟩) | fail)
        refine HC.mono ?_
        rintro e9 w9 ⟨rfl, rfl⟩
        clear HC
        go_wp2
        exact HQ.out
      subst hce
      have hd3 : w23.heap.size ≠ Bx ∧ w23.heap.size ≠ By ∧ w24.heap.size ≠ Bx ∧ w24.heap.size ≠ By := by
        have h5 := HI.out.2.1.lt
        have h6 := HI.out.2.2.1.lt
        have h7 := LA3.out
        have h8 := LA4.out
        omega
      obtain ⟨Y, hY⟩ : ∃ Y, Y = wz.drew := ⟨_, rfl⟩
      have hYx : Box Y Bx 33 #[.slice a1 n1 c1, .slice b1 m1 d1, .slice e1 k1 f1, .int .i64 q1] := by rw [hY]; exact AX.out.1
      have hYy : Box Y By 26 #[.slice a2 n2 c2, .slice b2 m2 d2, .slice e2 k2 f2, .int .i64 q2] := by rw [hY]; exact AY.out.1
      have hY3 : Box Y w23.heap.size 33 #[.slice a3 n3 c3, .slice b3 m3 d3, .slice e3 k3 f3, .int .i64 q3] := by rw [hY]; exact A3.out.1
      have hY4 : Box Y w24.heap.size 26 #[.slice a4 n4 c4, .slice b4 m4 d4, .slice e4 k4 f4, .int .i64 q4] := by rw [hY]; exact A4.out.1
      have hYb : Below wz.heap.size wz Y := by rw [hY]; exact (Below.refl _ _).drew
      obtain ⟨Q1, hQ1⟩ : ∃ Q, Q = (((Y.setCell ⟨Bx, 0, none⟩ (.slice a3 n3 c3)).setCell ⟨Bx, 1, none⟩ (.slice b3 m3 d3)).setCell ⟨Bx, 2, none⟩ (.slice e3 k3 f3)).setCell ⟨Bx, 3, none⟩ (.int .i64 q3) := ⟨_, rfl⟩
      obtain ⟨Q2, hQ2⟩ : ∃ Q, Q = (((Q1.setCell ⟨By, 0, none⟩ (.slice a4 n4 c4)).setCell ⟨By, 1, none⟩ (.slice b4 m4 d4)).setCell ⟨By, 2, none⟩ (.slice e4 k4 f4)).setCell ⟨By, 3, none⟩ (.int .i64 q4) := ⟨_, rfl⟩
      have hq1x : Box Q1 Bx 33 #[.slice a3 n3 c3, .slice b3 m3 d3, .slice e3 k3 f3, .int .i64 q3] := by rw [hQ1]; exact box_four hYx _ _ _ _
      have hq1y : Box Q1 By 26 #[.slice a2 n2 c2, .slice b2 m2 d2, .slice e2 k2 f2, .int .i64 q2] := by rw [hQ1]; exact oth4 hYy HBB.out.1.symm _ _ _ _
      have hq1o : stN.owns X22.heap.size Q1 [.slice a3 n3 c3, .slice b3 m3 d3, .slice e3 k3 f3, .int .i64 q3] (clS t (vn : Int) vv) := by rw [hQ1]; exact own_set4 stN (by decide) (stN.obelow A3.out.2 hYb) hYx _ _ _ _
      have hq1p : stR.owns X23.heap.size Q1 [.slice a4 n4 c4, .slice b4 m4 d4, .slice e4 k4 f4, .int .i64 q4] (clS t (vn : Int) vv) := by rw [hQ1]; exact rset4 stR (by decide) (stR.obelow A4.out.2 hYb) hYx _ _ _ _
      have hq1b : Below w.heap.size w Q1 := by rw [hQ1]; exact below_set4 (below_any HB.out hYb) HBB.out.2.1 _ _ _ _
      have HQ2 : Hid (BI w s [.slice a0 n0 c0, .slice b0 m0 d0, .slice e0 k0 f0, .int .i64 q0] Bx By (clS t (vn : Int) vv) [.slice a3 n3 c3, .slice b3 m3 d3, .slice e3 k3 f3, .int .i64 q3] [.slice a4 n4 c4, .slice b4 m4 d4, .slice e4 k4 f4, .int .i64 q4] Q2) := by
        rw [hQ2]
        exact ⟨below_set4 hq1b HBB.out.2.2 _ _ _ _, oth4 hq1x HBB.out.1 _ _ _ _, box_four hq1y _ _ _ _, ⟨_, rset4 stN (by decide) hq1o hq1y _ _ _ _⟩, .inr ⟨_, rset4 stR (by decide) hq1p hq1y _ _ _ _⟩⟩
      obtain ⟨u0, u1, u2, u3, v0, v1, v2, v3⟩ := hYx.four
      obtain ⟨p0, p1, p2, p3, s0', s1', s2', s3'⟩ := hq1y.four
      have HSC : Hid (∀ V, Box V w23.heap.size 33 #[.slice a3 n3 c3, .slice b3 m3 d3, .slice e3 k3 f3, .int .i64 q3] → Box V w24.heap.size 26 #[.slice a4 n4 c4, .slice b4 m4 d4, .slice e4 k4 f4, .int .i64 q4] → V.cell? ⟨w23.heap.size, 0, none⟩ = some (.slice a3 n3 c3) ∧ V.cell? ⟨w23.heap.size, 1, none⟩ = some (.slice b3 m3 d3) ∧ V.cell? ⟨w23.heap.size, 2, none⟩ = some (.slice e3 k3 f3) ∧ V.cell? ⟨w23.heap.size, 3, none⟩ = some (.int .i64 q3) ∧ V.cell? ⟨w24.heap.size, 0, none⟩ = some (.slice a4 n4 c4) ∧ V.cell? ⟨w24.heap.size, 1, none⟩ = some (.slice b4 m4 d4) ∧ V.cell? ⟨w24.heap.size, 2, none⟩ = some (.slice e4 k4 f4) ∧ V.cell? ⟨w24.heap.size, 3, none⟩ = some (.int .i64 q4)) := fun V h1 h2 => ⟨h1.four.1, h1.four.2.1, h1.four.2.2.1, h1.four.2.2.2.1, h2.four.1, h2.four.2.1, h2.four.2.2.1, h2.four.2.2.2.1⟩
      have hSS := HSC.out Y hY3 hY4
      have hS1 := HSC.out Q1 (by rw [hQ1]; exact oth4 hY3 hd3.1 _ _ _ _) (by rw [hQ1]; exact oth4 hY4 hd3.2.2.1 _ _ _ _)
      have hS2 := HSC.out Q2 (by rw [hQ2, hQ1]; exact oth4 (oth4 hY3 hd3.1 _ _ _ _) hd3.2.1 _ _ _ _) (by rw [hQ2, hQ1]; exact oth4 (oth4 hY4 hd3.2.2.1 _ _ _ _) hd3.2.2.2 _ _ _ _)
      clear hq1x hq1y hq1o hq1p hq1b hd3 hYx hYy hY3 hY4 hYb
      go_upto_region 15 with (go_at_call 36; refine (num16_any _ _).mono ?_; rintro e9 wn ⟨rfl, rfl⟩)
      refine AnyBut.begin (fun V => V.cell? ⟨w23.heap.size, 0, none⟩ = some (.slice a3 n3 c3) ∧ V.cell? ⟨w23.heap.size, 1, none⟩ = some (.slice b3 m3 d3) ∧ V.cell? ⟨w23.heap.size, 2, none⟩ = some (.slice e3 k3 f3) ∧ V.cell? ⟨w23.heap.size, 3, none⟩ = some (.int .i64 q3) ∧ V.cell? ⟨w24.heap.size, 0, none⟩ = some (.slice a4 n4 c4) ∧ V.cell? ⟨w24.heap.size, 1, none⟩ = some (.slice b4 m4 d4) ∧ V.cell? ⟨w24.heap.size, 2, none⟩ = some (.slice e4 k4 f4) ∧ V.cell? ⟨w24.heap.size, 3, none⟩ = some (.int .i64 q4)) 1000 (by kernel_rfl) ?_
      rw [← hY]
      clear hY
      refine tx 0 66 hSS ?_
      simp only [ua, ub, uc, ud]
      refine tx 1 67 hSS ?_
      simp only [ua, ub, uc, ud]
      refine AnyBut.step (i := 2) (by kernel_rfl) rfl (fun K hK => ?_)
      go_simp
      rw [← hQ1]
      refine hK.out _ _ hS1 ?_
      clear hK hSS u0 u1 u2 u3 v0 v1 v2 v3 hQ1
      refine AnyBut.step (i := 3) (by kernel_rfl) rfl (fun K hK => ?_)
      go_simp
      rw [← hQ2]
      refine hK.out _ _ hS2 ?_
      clear hK hS1 hS2 p0 p1 p2 p3 s0' s1' s2' s3' hQ2
      refine AnyBut.done (by kernel_rfl) ?_
      go_wp2
      go_roundw
      case rel => exact ⟨j + 1, _, _, _, by omega, by go_num, HQ2.out⟩
      case measure => simp [intOf]; omega
set_option maxRecDepth 100000 in
theorem lifted (os : Os) (started : os.Started) (H : Type) (enc : TypeId × Value → H) :
    ReturnsInHanded {} Try.checked os 8 .any (Rows.cleanBestSpec.pre6 enc Try.prog Try.f8 Rows.cleanBestRow.domain false) (Rows.cleanBestSpec.post enc Try.prog Try.f8 false true false false) := by
  refine returnsInHanded_of_change_sized (C := Try.checked) own started (by kernel_rfl) Try.func8
    (ChangeSpec.witness6 (enc := enc) (C := Try.checked) false ⟨#[], #[.agg #[.slice none 0 0, .slice none 0 0, .slice none 0 0, .int .i64 0]], []⟩ 8 (by kernel_rfl) (by kernel_rfl) (by kernel_rfl) (by kernel_rfl)) ?_
  intro W base args ds gs before hval0 hW hcnd hsz0 _
  have hval : ∀ (j : Nat) t v, Try.f8.params[j]? = some t → args[j]? = some v → Value.okWide Try.prog W .any base t v := hval0
  have hW' := hW
  obtain ⟨p, q, hA0, hV, rfl, hfz, hnd⟩ := hW
  have hA : DataW.TrodAll enc Try.prog W 0 (fun _ => true) true Try.f8.params.toList args.toList ds p := hA0
  have hsz : (DataW.weightsEach Try.prog (Try.f8.params.toList ++ Rows.cleanBestSpec.plain.varTypes Try.prog) (ds ++ gs)).all (· ≤ reachBytes) = true := hsz0
  clear hsz0
  rw [Try.params8] at hA hval hsz
  obtain ⟨v0, vs0, d0, ds0, p0, q0, hargs, rfl, rfl, h0, r0⟩ := trodAll_cons hA
  obtain ⟨rfl, rfl, rfl⟩ := trodAll_nil r0
  obtain rfl : args = #[v0] := by cases args; simp_all
  obtain ⟨rfl, rfl⟩ := trodVars_none hV
  obtain ⟨cs0, rfl, hc0⟩ := okWide_struct Try.underlying26 (hval 0 26 v0 rfl rfl)
  obtain ⟨us0, rfl⟩ := as_list cs0
  have k0 := h0
  have lt0 : ∀ x ∈ p0, x.block < W.heap.size := by obtain ⟨m, hm⟩ := k0; exact DataW.trod_lt m _ _ _ hm
  obtain ⟨m0, hm0⟩ := h0
  obtain ⟨s0, A0, F0'⟩ := stR.reads hm0
  have F0 := F0' fun n hn => by have := List.all_eq_true.1 hsz _ (DataW.weights_mem_each (j := 0) rfl rfl n hn); simpa using this
  clear hA0 hval0
  refine (walk 0 us0 s0 W A0 (fits_st F0)).mono fun e W' ⟨he, bel⟩ => ?_
  subst he
  exact ⟨_, rfl, _, _, _, [], _, [], hW', trodAll_mk1 (shut_bool Try.underlying4 _), (trodAll_cons_mk (Below.trod laidOut (by kernel_rfl) (of_decide_eq_true (by kernel_rfl)) k0 bel lt0) trodAll_mk0), rfl, bel.frame _, fun h => by cases h⟩

theorem over : Rows.cleanBestRow.holds Try.pinned (OpenSpec.ofChange Rows.cleanBestSpec) :=
  OpenClaim.holds_of_wide 8 Try.f8 rfl rfl rfl rfl rfl rfl rfl ⟨rfl, rfl, rfl, rfl, rfl⟩ rfl rfl rfl rfl rfl (by kernel_rfl) Try.func8 (by kernel_rfl)
    (of_decide_eq_true (by kernel_rfl)) (by unfold Func.isWrapper; first | (rw [if_pos (by decide +kernel)]; kernel_rfl) | (rw [if_neg (by decide +kernel)]; exact ⟨rfl, rfl⟩))
    (fun os started H enc _ => lifted os started H enc)

end Go.Proofs.Ytkpckadicjdieaa.cleanBest

namespace Go.Proofs.Ytkpckadicjdieaa
theorem cleanBest_holds : Rows.CleanBestSaid := cleanBest.over
#print axioms cleanBest_holds
end Go.Proofs.Ytkpckadicjdieaa
