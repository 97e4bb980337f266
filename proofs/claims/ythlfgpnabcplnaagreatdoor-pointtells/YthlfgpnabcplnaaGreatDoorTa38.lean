/-
  A point as octets: what the document's Encode answers.
-/
import Derived.Test.YthlfgpnabcplnaaGreatDoorTa36
import Derived.Test.YthlfgpnabcplnaaGreatDoorTa29
import Derived.Test.YthlfgpnabcplnaaGreatDoorTa21
import Derived.Test.YthlfgpnabcplnaaGreatDoorTa30
import Derived.Lib.AppendZeros
import Derived.Lib.AppendZerosOnto
namespace Go.Proofs.YthlfgpnabcplnaaGreatDoor.W
open Go.RowKit


set_option maxRecDepth 100000 in
set_option maxHeartbeats 4000000 in
theorem rpenc_any {n1 : Nat} {e s v c : Int} {da : Option Addr} {dl dc : Nat} {d : List Int} (hd : dl = d.length) {w : World} (hD : Arg n1 w (.slice da dl dc) d) :
    Calls Tryz.prog 9 #[.agg #[.int .i64 e, .int .i64 s, .int .i64 v, .int .i64 c, .slice da dl dc]] w fun r w' => (∃ a z, r = .returned (.tuple #[.slice a (ptO (e, s, v, c, d)).length z, .int .i64 (ptE e s v c d.length)]) ∧ Own1 w.heap.size w' (.slice a (ptO (e, s, v, c, d)).length z) (ptO (e, s, v, c, d))) ∧ Below w.heap.size w w' := by
  obtain ⟨W1, hW1⟩ : ∃ W, W = w.alloc (.cells #[.int .i64 e, .int .i64 s, .int .i64 v, .int .i64 c, .slice da dl dc] 24) := ⟨_, rfl⟩
  have hb1 : Below w.heap.size w W1 := by rw [hW1]; exact (Below.refl _ w).alloc (Nat.le_refl _) _
  have hB : Box W1 w.heap.size 24 #[.int .i64 e, .int .i64 s, .int .i64 v, .int .i64 c, .slice da dl dc] := by rw [hW1]; exact Box.new _ _ _
  have hdm : dl ≤ maxLen := by obtain ⟨_, _, _, _, h, _⟩ := hD.shape; rw [hd]; exact h
  have HC := rpcheck_any e s v c da dl dc hdm W1
  have HB : Hid (Below w.heap.size w W1 ∧ Box W1 w.heap.size 24 #[.int .i64 e, .int .i64 s, .int .i64 v, .int .i64 c, .slice da dl dc]) := ⟨hb1, hB⟩
  have HI : Hid (dl = d.length ∧ Arg n1 w (.slice da dl dc) d) := ⟨hd, hD⟩
  obtain ⟨post, hpost⟩ : ∃ post : Ending → World → Prop, post = fun r w' => (∃ a z, r = .returned (.tuple #[.slice a (ptO (e, s, v, c, d)).length z, .int .i64 (ptE e s v c d.length)]) ∧ Own1 w.heap.size w' (.slice a (ptO (e, s, v, c, d)).length z) (ptO (e, s, v, c, d))) ∧ Below w.heap.size w w' := ⟨_, rfl⟩
  obtain ⟨oe, hoe⟩ : ∃ z, z = ptE e s v c dl := ⟨_, rfl⟩
  have HOE : Hid (oe = ptE e s v c d.length) := by
    show _ = _
    rw [hoe, hd]
  have HPo : Hid (∀ (a : Option Addr) (n z : Nat) (O : List Int) w', O = ptO (e, s, v, c, d) → n = O.length → Own1 w.heap.size w' (.slice a n z) O → Below w.heap.size w w' → post (.returned (.tuple #[.slice a n z, .int .i64 oe])) w') := fun a n z O w' h1 h2 h3 h4 => by
    subst h1 h2
    rw [hpost, HOE.out]
    exact ⟨⟨a, z, rfl, h3⟩, h4⟩
  rw [← hpost]
  rw [← hoe] at HC
  obtain ⟨⟨y0, y1, y2, y3, y4⟩, -⟩ := box5 hB
  rw [hW1] at y0 y1 y2 y3 y4
  clear hpost hoe hb1 hB hd hD hdm
  go_enter Tryz.func9, Tryz.ntmps9
  go_wp2_with fail
  rw [← hW1]
  clear hW1 y0 y1 y2 y3 y4
  refine HC.mono ?_
  rintro r w2 ⟨rfl, hb2⟩
  have H2 : Hid (Below W1.heap.size W1 w2 ∧ Below w.heap.size w w2) := ⟨hb2, HB.out.1.trans (hb2.mono HB.out.1.size)⟩
  clear HC hb2
  by_cases hoz : oe = 0
  rotate_left
  · have HQ : Hid (post (.returned (.tuple #[.slice none 0 0, .int .i64 oe])) w2) := HPo.out none 0 0 [] w2 (by unfold ptO ptQ; rw [← HOE.out, if_neg hoz]) rfl (Own1.nil _ _) H2.out.2
    go_wp2
    exact HQ.out
  subst hoz
  have HO : Hid (ptQ (e, s, v, c, d) = 0) := HOE.out.symm
  obtain ⟨W3, hW3⟩ : ∃ W, W = w2.alloc (.cells #[.int .i64 e, .int .i64 s, .int .i64 v, .int .i64 c] 3) := ⟨_, rfl⟩
  have hb3 : Below w2.heap.size w2 W3 := by rw [hW3]; exact (Below.refl _ w2).alloc (Nat.le_refl _) _
  have hB3 : Box W3 w2.heap.size 3 #[.int .i64 e, .int .i64 s, .int .i64 v, .int .i64 c] := by rw [hW3]; exact Box.new _ _ _
  have hs3 : W3.heap.size = w2.heap.size + 1 := by rw [hW3]; exact Array.size_push _
  obtain ⟨W4, hW4⟩ : ∃ W, W = W3.alloc (.cells #[.slice da dl dc] 22) := ⟨_, rfl⟩
  have hb4 : Below W3.heap.size W3 W4 := by rw [hW4]; exact (Below.refl _ W3).alloc (Nat.le_refl _) _
  have hB4 : Box W4 W3.heap.size 22 #[.slice da dl dc] := by rw [hW4]; exact Box.new _ _ _
  have b24 : Below w2.heap.size w2 W4 := below_any hb3 hb4
  have HW4 : Hid (Below w.heap.size w W4) := H2.out.2.trans (b24.mono H2.out.2.size)
  have hD4 : Arg 0 W4 (.slice da dl dc) d := (HI.out.2.below HW4.out).weaken (Nat.zero_le _)
  have hrec : recF.lies 0 W4 [.int .i64 7, .slice (some ⟨w2.heap.size, 0, none⟩) 4 4, .slice (some ⟨W3.heap.size, 0, none⟩) 1 1] (ptRec (e, s, v, c, d)) := by
    obtain ⟨g1, g2, g3, g4, _⟩ := ptE_ok HOE.out.symm
    have hN : intsS.lies 0 W4 [.slice (some ⟨w2.heap.size, 0, none⟩) 4 4] [e, s, v, c] := ⟨_, rfl, cells_box (hB3.below hb4 hB3.lt) rfl (by simp [maxLen]) (Nat.zero_le _), fun x hx => by
      simp only [List.mem_cons, List.not_mem_nil, or_false] at hx
      rcases hx with rfl | rfl | rfl | rfl
      · exact (in_I64 g1).wf
      · exact (in_I64 g2).wf
      · exact (in_I64 g3).wf
      · exact (in_I64 g4).wf⟩
    have hT : textsS.lies 0 W4 [.slice (some ⟨W3.heap.size, 0, none⟩) 1 1] [d] := ⟨_, [[.slice da dl dc]], rfl, cells_box hB4 rfl (by simp [maxLen]) (Nat.zero_le _), hD4, trivial⟩
    exact rec_mk (r := ptRec (e, s, v, c, d)) hN hT (show I64 7 from ⟨by decide, by decide⟩)
  have HE := renc_any 0 _ _ W4 hrec
  rw [chk_pt HO.out] at HE
  obtain ⟨R, hR⟩ : ∃ z, z = encO (ptRec (e, s, v, c, d)) := ⟨_, rfl⟩
  rw [← hR] at HE
  obtain ⟨rl, hrl⟩ : ∃ z, z = R.length := ⟨_, rfl⟩
  rw [← hrl] at HE
  have HR : Hid (R = encO (ptRec (e, s, v, c, d)) ∧ rl = R.length) := ⟨hR, hrl⟩
  obtain ⟨⟨z0, z1, z2, z3, -⟩, -⟩ := box5 (HB.out.2.below H2.out.1 HB.out.2.lt)
  have z4 : W3.cell? ⟨w.heap.size, 4, none⟩ = some (.slice da dl dc) := (HB.out.2.below (below_any H2.out.1 hb3) HB.out.2.lt).cell 4 rfl
  rw [hW3] at z4
  rw [hs3] at HE
  clear hb3 hB3 hs3 hb4 hB4 b24 hD4 hrec hR hrl
  go_wp2_with fail
  rw [← hW3]
  rw [← hW4]
  clear hW3 hW4 z0 z1 z2 z3 z4
  refine HE.mono ?_
  rintro r w5 ⟨⟨a5, c5, rfl, ho5⟩, hb5⟩
  obtain ⟨W6, hW6⟩ : ∃ W, W = w5.alloc (.cells #[.slice a5 rl c5] 22) := ⟨_, rfl⟩
  have hb6 : Below w5.heap.size w5 W6 := by rw [hW6]; exact (Below.refl _ w5).alloc (Nat.le_refl _) _
  have hB6 : Box W6 w5.heap.size 22 #[.slice a5 rl c5] := by rw [hW6]; exact Box.new _ _ _
  have H6 : Hid (Below w.heap.size w W6) := below_any (below_any HW4.out hb5) hb6
  have hT6 : textsS.lies 0 W6 [.slice (some ⟨w5.heap.size, 0, none⟩) 1 1] [R] := ⟨_, [[.slice a5 rl c5]], rfl, cells_box hB6 rfl (by simp [maxLen]) (Nat.zero_le _), (ho5.arg.below hb6).weaken (Nat.zero_le _), trivial⟩
  have HJ := rjoin_any 0 _ _ W6 hT6
  obtain ⟨J, hJ⟩ : ∃ z, z = joinO [R] := ⟨_, rfl⟩
  rw [← hJ] at HJ
  have HJ2 : Hid (J = ptJ (e, s, v, c, d) ∧ joinE [R] = 0) := by
    refine ⟨?_, ?_⟩
    · rw [hJ, HR.out.1]; rfl
    · rw [HR.out.1]; exact (ptJ_eq HO.out).1
  rw [HJ2.out.2] at HJ
  obtain ⟨jl, hjl⟩ : ∃ z, z = J.length := ⟨_, rfl⟩
  rw [← hjl] at HJ
  have HJL : Hid (jl = J.length ∧ J.length ≤ 459) := ⟨hjl, by rw [HJ2.out.1]; exact (ptJ_len HO.out).2⟩
  clear hb5 ho5 hb6 hB6 hT6 hJ hjl HE
  go_wp2_with fail
  rw [← hW6]
  clear hW6
  refine HJ.mono ?_
  rintro r w7 ⟨⟨a7, c7, rfl, ho7⟩, hb7⟩
  have h7 : Below w.heap.size w w7 := below_any H6.out hb7
  have hlen := run_len Tryz.underlying22 a7 jl c7
  obtain ⟨v', V2, hrun, hg2, hgrow⟩ := Dk.append_zeros (base := w.heap.size) w7 (.slice a7 jl c7) jl (512 - jl) (J.map (Value.int .u8)) (by
    have := ho7.row
    rw [← HJL.out.1] at this
    exact (Dk.own_weaken this (H6.out.size))) h7.size (by have := HJL.out; omega)
  have h512 : ((jl + (512 - jl) : Nat)) = 512 := by have := HJL.out; omega
  rw [h512] at hg2
  obtain ⟨a8, c8, rfl⟩ := own_shape hg2
  have HQ : Hid (post (.returned (.tuple #[.slice a8 512 c8, .int .i64 0])) V2) := by
    refine HPo.out _ _ _ (ptO (e, s, v, c, d)) _ rfl (ptO_len HO.out).symm ?_ (h7.grown hgrow h7.size (fun j hj => by
      have := (ho7.row.lt j hj).1
      exact Nat.le_trans H6.out.size this))
    have : (ptO (e, s, v, c, d)) = J ++ List.replicate (512 - J.length) 0 := by unfold ptO; rw [if_pos HO.out, HJ2.out.1]
    refine .mk ?_ ?_
    · rw [ptO_len HO.out, this, List.map_append, List.map_replicate, ← HJL.out.1]
      exact hg2
    · rw [this]
      exact oc_append.2 ⟨ho7.oct, rep_oc _⟩
  have hj9 : jl ≤ 459 := by have := HJL.out; omega
  have hsub : ((512 - jl : Nat) : Int) = 512 - (jl : Int) := by omega
  rw [hsub] at hrun
  clear hsub
  clear hg2 hgrow ho7 hb7 HJ h7 h512
  go_wp2_with (at_builtin; refine Lib.wpList_append_run _ (by rfl) _ _ 22 3 (by rfl) (.slice a7 jl c7) (.int .i64 (512 - (jl : Int))) (by rfl) (by rfl) _ _ hrun ?_)
  exact HQ.out

end Go.Proofs.YthlfgpnabcplnaaGreatDoor.W