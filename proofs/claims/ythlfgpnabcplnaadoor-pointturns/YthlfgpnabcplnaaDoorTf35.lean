import Derived.Test.YthlfgpnabcplnaaDoorTf32
import Derived.Test.YthlfgpnabcplnaaDoorTf26
import Derived.Test.YthlfgpnabcplnaaDoorTf27
import Derived.Test.YthlfgpnabcplnaaDoorTf19
import Derived.Test.YthlfgpnabcplnaaDoorTf16
import Derived.Test.YthlfgpnabcplnaaDoorTf28
/-
  A point as octets: what Encode answers, on both sides.
-/
namespace Go.Proofs.YthlfgpnabcplnaaDoor.W
open Go.RowKit

/-- The record of a point, and the octets of a point that may be. -/
def ptRec (q : Pt) : Rc := (7, [q.1, q.2.1, q.2.2.1, q.2.2.2.1], [q.2.2.2.2])
def ptJ (q : Pt) : List Int := joinO [encO (ptRec q)]
def ptQ (q : Pt) : Int := ptE q.1 q.2.1 q.2.2.1 q.2.2.2.1 q.2.2.2.2.length
def ptO (q : Pt) : List Int := if ptQ q = 0 then ptJ q ++ List.replicate (512 - (ptJ q).length) 0 else []

theorem in_I64 {x : Int} (h : inN x = true) : I64 x := by
  have := inN_iff.1 h
  exact ⟨by omega, by omega⟩
theorem chk_pt {q : Pt} (h : ptQ q = 0) : chkR (ptRec q) = 0 := by
  obtain ⟨h1, h2, h3, h4, h5⟩ := ptE_ok h
  unfold chkR ptRec
  rw [if_neg (by simp), if_neg (by simp), if_neg]
  simp only [List.any_cons, List.any_nil, Bool.or_false, decide_eq_true_eq]
  omega
theorem rec_len {q : Pt} (h : ptQ q = 0) : (encO (ptRec q)).length ≤ 457 := by
  obtain ⟨h1, h2, h3, h4, h5⟩ := ptE_ok h
  unfold encO
  rw [if_pos (chk_pt h), C.sealed_length]
  have hn := laidN_length [q.1, q.2.1, q.2.2.1, q.2.2.2.1] (fun x hx => by
    simp only [List.mem_cons, List.not_mem_nil, or_false] at hx
    rcases hx with rfl | rfl | rfl | rfl
    · exact in_I64 h1
    · exact in_I64 h2
    · exact in_I64 h3
    · exact in_I64 h4)
  have hg := grp_ten q.2.2.2.2.length 10 (Nat.lt_of_le_of_lt h5 (by decide)) (by omega)
  have ht : (laidT [q.2.2.2.2]).length ≤ 10 + 400 := by
    have : laidT [q.2.2.2.2] = grp q.2.2.2.2.length ++ q.2.2.2.2 := by simp [laidT]
    rw [this, List.length_append]
    omega
  simp only [laidR, ptRec, List.length_cons, List.length_append, List.length_nil] at hn ⊢
  omega
theorem ptJ_eq {q : Pt} (h : ptQ q = 0) : joinE [encO (ptRec q)] = 0 ∧ ptJ q = two (encO (ptRec q)).length ++ encO (ptRec q) := by
  have hl := rec_len h
  have hj : joinE [encO (ptRec q)] = 0 := ok_joinE (by simp) (fun t ht => by rw [List.mem_singleton.1 ht]; omega)
  refine ⟨hj, ?_⟩
  unfold ptJ joinO
  rw [if_pos hj]
  simp [laidJ]
theorem ptJ_len {q : Pt} (h : ptQ q = 0) : (ptJ q).length = (encO (ptRec q)).length + 2 ∧ (ptJ q).length ≤ 459 := by
  have := rec_len h
  rw [(ptJ_eq h).2, List.length_append]
  simp only [two, List.length_cons, List.length_nil]
  omega
theorem ptO_len {q : Pt} (h : ptQ q = 0) : (ptO q).length = 512 := by
  have := (ptJ_len h).2
  unfold ptO
  rw [if_pos h, List.length_append, List.length_replicate]
  omega
theorem splice_pt (l : List Int) : splice (Dk.zrow 512) 0 (l.map (Value.int .u8)) = (l ++ List.replicate (512 - l.length) 0).map (Value.int .u8) := by
  simp only [splice, Dk.zrow, List.take_zero, List.nil_append, List.map_append, List.length_map, Nat.zero_add]
  congr 1
  rw [← List.map_drop, List.drop_replicate]
theorem dk_arg {n : Nat} {w : World} {v : Value} {l : List Int} (h : Arg n w v l) : Dk.Arg n w v l := ⟨h.cells, h.oct⟩
theorem rep_oc (n : Nat) : Oc (List.replicate n 0) := fun x hx => by rw [(List.mem_replicate.1 hx).2]; omega


set_option maxRecDepth 100000 in
set_option maxHeartbeats 4000000 in
theorem penc_any {n1 : Nat} {e s v c : Int} {da : Option Addr} {dl dc : Nat} {d : List Int} (hd : dl = d.length) {w : World} (hD : Arg n1 w (.slice da dl dc) d) :
    Calls Tryd.prog 7 #[.agg #[.int .i64 e, .int .i64 s, .int .i64 v, .int .i64 c, .slice da dl dc]] w fun r w' => (∃ a z, r = .returned (.tuple #[.slice a (ptO (e, s, v, c, d)).length z, .int .i64 (ptE e s v c d.length)]) ∧ Own1 w.heap.size w' (.slice a (ptO (e, s, v, c, d)).length z) (ptO (e, s, v, c, d))) ∧ Below w.heap.size w w' := by
  obtain ⟨W1, hW1⟩ : ∃ W, W = w.alloc (.cells #[.int .i64 e, .int .i64 s, .int .i64 v, .int .i64 c, .slice da dl dc] 29) := ⟨_, rfl⟩
  have hb1 : Below w.heap.size w W1 := by rw [hW1]; exact (Below.refl _ w).alloc (Nat.le_refl _) _
  have hB : Box W1 w.heap.size 29 #[.int .i64 e, .int .i64 s, .int .i64 v, .int .i64 c, .slice da dl dc] := by rw [hW1]; exact Box.new _ _ _
  have hdm : dl ≤ maxLen := by obtain ⟨_, _, _, _, h, _⟩ := hD.shape; rw [hd]; exact h
  have HC := pcheck_any e s v c da dl dc hdm W1
  have HB : Hid (Below w.heap.size w W1 ∧ Box W1 w.heap.size 29 #[.int .i64 e, .int .i64 s, .int .i64 v, .int .i64 c, .slice da dl dc]) := ⟨hb1, hB⟩
  have HI : Hid (dl = d.length ∧ Arg n1 w (.slice da dl dc) d) := ⟨hd, hD⟩
  obtain ⟨post, hpost⟩ : ∃ post : Ending → World → Prop, post = fun r w' => (∃ a z, r = .returned (.tuple #[.slice a (ptO (e, s, v, c, d)).length z, .int .i64 (ptE e s v c d.length)]) ∧ Own1 w.heap.size w' (.slice a (ptO (e, s, v, c, d)).length z) (ptO (e, s, v, c, d))) ∧ Below w.heap.size w w' := ⟨_, rfl⟩
  obtain ⟨oe, hoe⟩ : ∃ z, z = ptE e s v c dl := ⟨_, rfl⟩
  have HOE : Hid (oe = ptE e s v c d.length) := by
    show _ = _
    rw [hoe, hd]
  have HPo : Hid (∀ (a : Option Addr) (n z : Nat) (O : List Int) w', O = ptO (e, s, v, c, d) → n = O.length → Own1 w.heap.size w' (.slice a n z) O → Below w.heap.size w w' → post (.returned (.tuple #[.slice a n z, .int .i64 oe])) w') := fun a n z O w' h1 h2 h3 h4 => by
    subst h1 h2
    rw [hpost, HOE.out]
    exact ⟨⟨a, z, rfl, h3⟩, h4⟩
  rw [← hpost]
  rw [← hoe] at HC
  obtain ⟨⟨y0, y1, y2, y3, y4⟩, -⟩ := box5 hB
  rw [hW1] at y0 y1 y2 y3 y4
  clear hpost hoe hb1 hB hd hD hdm
  go_enter Tryd.func7, Tryd.ntmps7
  go_wp2_with fail
  rw [← hW1]
  clear hW1 y0 y1 y2 y3 y4
  refine HC.mono ?_
  rintro r w2 ⟨rfl, hb2⟩
  have H2 : Hid (Below W1.heap.size W1 w2 ∧ Below w.heap.size w w2) := ⟨hb2, HB.out.1.trans (hb2.mono HB.out.1.size)⟩
  clear HC hb2
  by_cases hoz : oe = 0
  rotate_left
  · have HQ : Hid (post (.returned (.tuple #[.slice none 0 0, .int .i64 oe])) w2) := HPo.out none 0 0 [] w2 (by unfold ptO ptQ; rw [← HOE.out, if_neg hoz]) rfl (Own1.nil _ _) H2.out.2
    go_wp2
    exact HQ.out
  subst hoz
  have HO : Hid (ptQ (e, s, v, c, d) = 0) := HOE.out.symm
  obtain ⟨W3, hW3⟩ : ∃ W, W = w2.alloc (.cells #[.int .i64 e, .int .i64 s, .int .i64 v, .int .i64 c] 3) := ⟨_, rfl⟩
  have hb3 : Below w2.heap.size w2 W3 := by rw [hW3]; exact (Below.refl _ w2).alloc (Nat.le_refl _) _
  have hB3 : Box W3 w2.heap.size 3 #[.int .i64 e, .int .i64 s, .int .i64 v, .int .i64 c] := by rw [hW3]; exact Box.new _ _ _
  have hs3 : W3.heap.size = w2.heap.size + 1 := by rw [hW3]; exact Array.size_push _
  obtain ⟨W4, hW4⟩ : ∃ W, W = W3.alloc (.cells #[.slice da dl dc] 22) := ⟨_, rfl⟩
  have hb4 : Below W3.heap.size W3 W4 := by rw [hW4]; exact (Below.refl _ W3).alloc (Nat.le_refl _) _
  have hB4 : Box W4 W3.heap.size 22 #[.slice da dl dc] := by rw [hW4]; exact Box.new _ _ _
  have b24 : Below w2.heap.size w2 W4 := below_any hb3 hb4
  have HW4 : Hid (Below w.heap.size w W4) := H2.out.2.trans (b24.mono H2.out.2.size)
  have hD4 : Arg 0 W4 (.slice da dl dc) d := (HI.out.2.below HW4.out).weaken (Nat.zero_le _)
  have hrec : recF.lies 0 W4 [.int .i64 7, .slice (some ⟨w2.heap.size, 0, none⟩) 4 4, .slice (some ⟨W3.heap.size, 0, none⟩) 1 1] (ptRec (e, s, v, c, d)) := by
    obtain ⟨g1, g2, g3, g4, _⟩ := ptE_ok HOE.out.symm
    have hN : intsS.lies 0 W4 [.slice (some ⟨w2.heap.size, 0, none⟩) 4 4] [e, s, v, c] := ⟨_, rfl, cells_box (hB3.below hb4 hB3.lt) rfl (by simp [maxLen]) (Nat.zero_le _), fun x hx => by
      simp only [List.mem_cons, List.not_mem_nil, or_false] at hx
      rcases hx with rfl | rfl | rfl | rfl
      · exact (in_I64 g1).wf
      · exact (in_I64 g2).wf
      · exact (in_I64 g3).wf
      · exact (in_I64 g4).wf⟩
    have hT : textsS.lies 0 W4 [.slice (some ⟨W3.heap.size, 0, none⟩) 1 1] [d] := ⟨_, [[.slice da dl dc]], rfl, cells_box hB4 rfl (by simp [maxLen]) (Nat.zero_le _), hD4, trivial⟩
    exact rec_mk (r := ptRec (e, s, v, c, d)) hN hT (show I64 7 from ⟨by decide, by decide⟩)
  have HE := enc_any 0 _ _ W4 hrec
  rw [chk_pt HO.out] at HE
  obtain ⟨R, hR⟩ : ∃ z, z = encO (ptRec (e, s, v, c, d)) := ⟨_, rfl⟩
  rw [← hR] at HE
  obtain ⟨rl, hrl⟩ : ∃ z, z = R.length := ⟨_, rfl⟩
  rw [← hrl] at HE
  have HR : Hid (R = encO (ptRec (e, s, v, c, d)) ∧ rl = R.length) := ⟨hR, hrl⟩
  obtain ⟨⟨z0, z1, z2, z3, -⟩, -⟩ := box5 (HB.out.2.below H2.out.1 HB.out.2.lt)
  have z4 : W3.cell? ⟨w.heap.size, 4, none⟩ = some (.slice da dl dc) := (HB.out.2.below (below_any H2.out.1 hb3) HB.out.2.lt).cell 4 rfl
  rw [hW3] at z4
  rw [hs3] at HE
  clear hb3 hB3 hs3 hb4 hB4 b24 hD4 hrec hR hrl
  go_wp2_with fail
  rw [← hW3]
  rw [← hW4]
  clear hW3 hW4 z0 z1 z2 z3 z4
  refine HE.mono ?_
  rintro r w5 ⟨⟨a5, c5, rfl, ho5⟩, hb5⟩
  obtain ⟨W6, hW6⟩ : ∃ W, W = w5.alloc (.cells #[.slice a5 rl c5] 22) := ⟨_, rfl⟩
  have hb6 : Below w5.heap.size w5 W6 := by rw [hW6]; exact (Below.refl _ w5).alloc (Nat.le_refl _) _
  have hB6 : Box W6 w5.heap.size 22 #[.slice a5 rl c5] := by rw [hW6]; exact Box.new _ _ _
  have H6 : Hid (Below w.heap.size w W6) := below_any (below_any HW4.out hb5) hb6
  have hT6 : textsS.lies 0 W6 [.slice (some ⟨w5.heap.size, 0, none⟩) 1 1] [R] := ⟨_, [[.slice a5 rl c5]], rfl, cells_box hB6 rfl (by simp [maxLen]) (Nat.zero_le _), (ho5.arg.below hb6).weaken (Nat.zero_le _), trivial⟩
  have HJ := join_any 0 _ _ W6 hT6
  obtain ⟨J, hJ⟩ : ∃ z, z = joinO [R] := ⟨_, rfl⟩
  rw [← hJ] at HJ
  have HJ2 : Hid (J = ptJ (e, s, v, c, d) ∧ joinE [R] = 0) := by
    refine ⟨?_, ?_⟩
    · rw [hJ, HR.out.1]; rfl
    · rw [HR.out.1]; exact (ptJ_eq HO.out).1
  rw [HJ2.out.2] at HJ
  obtain ⟨jl, hjl⟩ : ∃ z, z = J.length := ⟨_, rfl⟩
  rw [← hjl] at HJ
  have HJL : Hid (jl = J.length ∧ J.length ≤ 459) := ⟨hjl, by rw [HJ2.out.1]; exact (ptJ_len HO.out).2⟩
  clear hb5 ho5 hb6 hB6 hT6 hJ hjl HE
  go_wp2_with fail
  rw [← hW6]
  clear hW6
  refine HJ.mono ?_
  rintro r w7 ⟨⟨a7, c7, rfl, ho7⟩, hb7⟩
  obtain ⟨V, hV⟩ : ∃ W, W = w7.alloc (.cells (Dk.zrow 512).toArray 5) := ⟨_, rfl⟩
  have hbV : Below w7.heap.size w7 V := by rw [hV]; exact (Below.refl _ w7).alloc (Nat.le_refl _) _
  have hmk : (Instr.makeSlice 22 (.int .i64 512) (.int .i64 512)).run Tryd.prog w7 = .ok (.slice (some ⟨w7.heap.size, 0, none⟩) 512 512) V := by rw [hV]; exact Dk.make_many 512 (by omega) w7
  have hnew : V.heap[w7.heap.size]? = some (.cells (Dk.zrow 512).toArray 5 (0, 0)) := by rw [hV]; exact heap_alloc_new w7 _
  have hAJ : Dk.Arg 0 V (.slice a7 J.length c7) J := dk_arg (by rw [← HJL.out.1]; exact (ho7.arg.below hbV).weaken (Nat.zero_le _))
  obtain ⟨V2, hrun, hg2, hgrow, hsz2⟩ := Dk.run_copy_into V w7.heap.size 0 512 512 a7 c7 J _ 5 hnew hAJ (by have := HJL.out.2; omega) (by have := HJL.out.2; simp [Dk.zrow]; omega)
  rw [splice_pt J] at hg2
  rw [← HJL.out.1] at hrun
  have h7 : Below w.heap.size w w7 := below_any H6.out hb7
  have HQ : Hid (post (.returned (.tuple #[.slice (some ⟨w7.heap.size, 0, none⟩) 512 512, .int .i64 0])) V2) := by
    refine HPo.out _ _ _ (ptO (e, s, v, c, d)) _ rfl (ptO_len HO.out).symm ?_ ((h7.trans (hbV.mono h7.size)).grown hgrow (Nat.le_trans h7.size hbV.size) (fun j hj => by cases hj; exact h7.size))
    refine .mk ?_ ?_
    · have : (ptO (e, s, v, c, d)) = J ++ List.replicate (512 - J.length) 0 := by unfold ptO; rw [if_pos HO.out, HJ2.out.1]
      rw [this] at *
      have h512 : (J ++ List.replicate (512 - J.length) (0 : Int)).length = 512 := by have := HJL.out.2; simp; omega
      rw [h512]
      exact Dk.row_own hg2 h7.size (by rw [List.length_map]; exact h512) (by unfold maxLen; omega)
    · unfold ptO
      rw [if_pos HO.out, ← HJ2.out.1]
      exact oc_append.2 ⟨ho7.oct, rep_oc _⟩
  clear hV hbV hnew hAJ hg2 hgrow hsz2 ho7 hb7 HJ h7
  go_wp2
  exact HQ.out

end Go.Proofs.YthlfgpnabcplnaaDoor.W
/-
  Checkpoints on a disk: what Store answers, the program's: whether the disk serves, the sectors of a region, the point put and flushed.
-/
namespace Go.Proofs.YthlfgpnabcplnaaDoor.W
open Go.RowKit
set_option linter.unusedVariables false

/-- Does the disk serve? -/
def cdE (S : Dk.St) : Int := if Dk.cerr S = 0 then (if S.secs.length < 16 then 41 else 0) else Dk.cerr S
/-- Where the region of an epoch begins. -/
def reg (e : Int) : Int := if e % 2 = 0 then 0 else 8
def putS (S : Dk.St) (q : Pt) : Dk.St := Dk.past S (reg q.1) (ptO q)
def stE (S : Dk.St) (q : Pt) : Int := if cdE S ≠ 0 then cdE S else if ptQ q ≠ 0 then ptQ q else if Dk.paerr S (reg q.1) (ptO q) ≠ 0 then Dk.paerr S (reg q.1) (ptO q) else Dk.cerr (putS S q)
def stS (S : Dk.St) (q : Pt) : Dk.St := if cdE S = 0 ∧ ptQ q = 0 ∧ Dk.paerr S (reg q.1) (ptO q) = 0 then Dk.stand (putS S q) (fun _ => true) else Dk.none0
theorem disk_zero (n : Nat) (w : World) : Dk.Disk n w (.agg #[.slice none 0 0, .slice none 0 0]) Dk.none0 := (Dk.own_zero n w 81).disk
theorem cd_ok {S : Dk.St} (h : cdE S = 0) : Dk.cerr S = 0 ∧ Dk.chk S = true ∧ 16 ≤ S.secs.length := by
  unfold cdE at h
  by_cases h1 : Dk.cerr S = 0
  · rw [if_pos h1] at h
    refine ⟨h1, ?_, ?_⟩
    · unfold Dk.cerr at h1
      cases hc : Dk.chk S
      · rw [hc] at h1; cases h1
      · rfl
    · by_cases h2 : S.secs.length < 16
      · rw [if_pos h2] at h; cases h
      · omega
  · rw [if_neg h1] at h; exact absurd h h1
theorem dkd_same2 {n B : Nat} {w : World} {v : Value} {S : Dk.St} (h : Dk.Disk n w v S) (hB : B < n) (x y : Value) : Dk.Disk n ((w.setCell ⟨B, 0, none⟩ x).setCell ⟨B, 1, none⟩ y) v S :=
  h.keep (fun k hk hl => (Below.heap_setCell _ _ _ _ (by simp; omega)).trans (Below.heap_setCell _ _ _ _ (by simp; omega)))
theorem reg_in (e : Int) : -9223372036854775808 ≤ reg e ∧ reg e ≤ 9223372036854775807 := by unfold reg; split <;> omega

set_option maxRecDepth 100000 in
set_option maxHeartbeats 2000000 in
theorem cdisk_any (n0 : Nat) (v : Value) (S : Dk.St) (w : World) (h : Dk.Disk n0 w v S) :
    Calls Tryd.prog 27 #[v] w fun e w' => e = .returned (.int .i64 (cdE S)) ∧ Below w.heap.size w w' := by
  obtain ⟨a1, c1, a2, c2, rfl, hL, hW⟩ := h.shape
  obtain ⟨_, _, _, _, hm, _⟩ := hL.shape
  unfold maxLen at hm
  obtain ⟨W1, hW1⟩ : ∃ W, W = w.alloc (.cells #[.slice a1 S.secs.length c1, .slice a2 S.cache.length c2] 40) := ⟨_, rfl⟩
  have hb1 : Below w.heap.size w W1 := by rw [hW1]; exact (Below.refl _ w).alloc (Nat.le_refl _) _
  have hB1 : Box W1 w.heap.size 40 #[.slice a1 S.secs.length c1, .slice a2 S.cache.length c2] := by rw [hW1]; exact Box.new _ _ _
  have HC := Dk.check_any n0 _ S W1 (h.below hb1)
  have HB : Hid (Below w.heap.size w W1 ∧ Box W1 w.heap.size 40 #[.slice a1 S.secs.length c1, .slice a2 S.cache.length c2]) := ⟨hb1, hB1⟩
  obtain ⟨ce, hce⟩ : ∃ z, z = Dk.cerr S := ⟨_, rfl⟩
  have HCE : Hid (cdE S = (if ce = 0 then (if S.secs.length < 16 then 41 else 0) else ce)) := by show _ = _; unfold cdE; rw [hce]
  obtain ⟨cd, hcd⟩ : ∃ z, z = cdE S := ⟨_, rfl⟩
  have HCD : Hid (cd = cdE S) := hcd
  rw [← hcd]
  rw [← hce] at HC
  have hl := run_len Tryd.underlying37 a1 S.secs.length c1
  obtain ⟨y0, y1, -, -⟩ := hB1.two
  rw [hW1] at y0 y1
  obtain ⟨n, hn⟩ : ∃ z, z = S.secs.length := ⟨_, rfl⟩
  rw [← hn] at HCE HB hl hm y0 hW1 ⊢
  rw [← hn] at HC
  clear h hL hW hb1 hB1 hce hcd hn
  go_enter Tryd.func27, Tryd.ntmps27
  go_wp2_with fail
  rw [← hW1]
  clear hW1 y0 y1
  refine HC.mono ?_
  rintro r w2 ⟨rfl, hb2⟩
  have H2 : Hid (Below w.heap.size w w2) := below_any HB.out.1 hb2
  obtain ⟨g0, g1, -, -⟩ := (HB.out.2.below hb2 HB.out.2.lt).two
  clear HC hb2
  by_cases hz : ce = 0
  rotate_left
  · have hk : Hid (cd = ce) := by show cd = ce; rw [HCD.out, HCE.out, if_neg hz]
    go_wp2
    go_ret
    exact ⟨by rw [hk.out]; rfl, H2.out⟩
  subst hz
  by_cases h16 : n < 16
  · have hk : Hid (cd = 41) := by show cd = 41; rw [HCD.out, HCE.out, if_pos rfl, if_pos h16]
    have h16' : (n : Int) < 16 := by omega
    clear h16
    go_wp2
    go_ret
    exact ⟨by rw [hk.out]; rfl, H2.out⟩
  · have hk : Hid (cd = 0) := by show cd = 0; rw [HCD.out, HCE.out, if_pos rfl, if_neg h16]
    have h16' : ¬ (n : Int) < 16 := by omega
    clear h16
    go_wp2
    go_ret
    exact ⟨by rw [hk.out]; rfl, H2.out⟩

set_option maxHeartbeats 400000 in
theorem first_any (k : Int) (hk : 0 ≤ k ∧ k ≤ 1) (w : World) : Calls Tryd.prog 29 #[.int .i64 k] w fun e w' => e = .returned (.int .i64 (k * 8)) ∧ w = w' := by
  obtain ⟨h1, h2⟩ := hk
  go_enter Tryd.func29, Tryd.ntmps29
  go_wp2
  go_ret
  exact ⟨rfl, rfl⟩
theorem reg_mod {e : Int} (h : inN e = true) : e % 2 * 8 = reg e ∧ 0 ≤ e % 2 ∧ e % 2 ≤ 1 := by
  unfold reg
  split <;> omega

set_option maxRecDepth 100000 in
set_option maxHeartbeats 8000000 in
theorem store_any {n0 n1 : Nat} {vd : Value} {S : Dk.St} {e s v c : Int} {da : Option Addr} {dl dc : Nat} {d : List Int} (hd : dl = d.length) {w : World} (hS : Dk.Disk n0 w vd S) (hD : Arg n1 w (.slice da dl dc) d) :
    Calls Tryd.prog 13 #[vd, .agg #[.int .i64 e, .int .i64 s, .int .i64 v, .int .i64 c, .slice da dl dc]] w fun r w' => ∃ v', r = .returned (.tuple #[v', .int .i64 (stE S (e, s, v, c, d))]) ∧ Dk.Disk w.heap.size w' v' (stS S (e, s, v, c, d)) ∧ Below w.heap.size w w' := by
  obtain ⟨a1, c1, a2, c2, rfl, _, _⟩ := hS.shape
  obtain ⟨n, hn⟩ : ∃ z, z = S.secs.length := ⟨_, rfl⟩
  obtain ⟨m, hm⟩ : ∃ z, z = S.cache.length := ⟨_, rfl⟩
  rw [← hn, ← hm] at hS ⊢
  obtain ⟨W1, hW1⟩ : ∃ W, W = ((w.alloc (.cells #[.slice a1 n c1, .slice a2 m c2] 40)).alloc (.cells #[.int .i64 e, .int .i64 s, .int .i64 v, .int .i64 c, .slice da dl dc] 29)).alloc (.cells #[.slice none 0 0, .slice none 0 0] 40) := ⟨_, rfl⟩
  have hb1 : Below w.heap.size w W1 := by rw [hW1]; exact (((Below.refl _ w).alloc (Nat.le_refl _) _).alloc (by simp) _).alloc (by simp; omega) _
  have hBd : Box W1 w.heap.size 40 #[.slice a1 n c1, .slice a2 m c2] := by rw [hW1]; exact ((Box.new _ _ _).alloc _).alloc _
  have hBp : Box W1 (w.heap.size + 1) 29 #[.int .i64 e, .int .i64 s, .int .i64 v, .int .i64 c, .slice da dl dc] := by
    rw [hW1]
    have := (Box.new (w.alloc (.cells #[.slice a1 n c1, .slice a2 m c2] 40)) 29 #[.int .i64 e, .int .i64 s, .int .i64 v, .int .i64 c, .slice da dl dc]).alloc (.cells #[.slice none 0 0, .slice none 0 0] 40)
    rwa [World.size_alloc] at this
  have hBr : Box W1 (w.heap.size + 1 + 1) 40 #[.slice none 0 0, .slice none 0 0] := by
    rw [hW1]
    have := Box.new ((w.alloc (.cells #[.slice a1 n c1, .slice a2 m c2] 40)).alloc (.cells #[.int .i64 e, .int .i64 s, .int .i64 v, .int .i64 c, .slice da dl dc] 29)) 40 #[.slice none 0 0, .slice none 0 0]
    rwa [World.size_alloc, World.size_alloc] at this
  have HC := cdisk_any n0 _ S W1 (hS.below hb1)
  have HB : Hid (Below w.heap.size w W1 ∧ Box W1 w.heap.size 40 #[.slice a1 n c1, .slice a2 m c2] ∧ Box W1 (w.heap.size + 1) 29 #[.int .i64 e, .int .i64 s, .int .i64 v, .int .i64 c, .slice da dl dc] ∧ Box W1 (w.heap.size + 1 + 1) 40 #[.slice none 0 0, .slice none 0 0] ∧ w.heap.size + 1 + 1 < W1.heap.size) := ⟨hb1, hBd, hBp, hBr, hBr.lt⟩
  have HI : Hid (dl = d.length ∧ Arg n1 w (.slice da dl dc) d ∧ Dk.Disk n0 w (.agg #[.slice a1 n c1, .slice a2 m c2]) S) := ⟨hd, hD, hS⟩
  obtain ⟨post, hpost⟩ : ∃ post : Ending → World → Prop, post = fun r w' => ∃ v', r = .returned (.tuple #[v', .int .i64 (stE S (e, s, v, c, d))]) ∧ Dk.Disk w.heap.size w' v' (stS S (e, s, v, c, d)) ∧ Below w.heap.size w w' := ⟨_, rfl⟩
  have HPo : Hid (∀ (k : Int) u w', k = stE S (e, s, v, c, d) → Dk.Disk w.heap.size w' u (stS S (e, s, v, c, d)) → Below w.heap.size w w' → post (.returned (.tuple #[u, .int .i64 k])) w') := fun k u w' h1 h2 h3 => by rw [hpost, h1]; exact ⟨u, rfl, h2, h3⟩
  have HPz : Hid (∀ (k : Int) V, k = stE S (e, s, v, c, d) → stS S (e, s, v, c, d) = Dk.none0 → Below w.heap.size w V → ∀ u0 u1 U, U = .tuple #[.agg #[.slice none 0 0, .slice none 0 0], .int .i64 k] → post (.returned U) ((V.setCell ⟨w.heap.size + 1 + 1, 0, none⟩ u0).setCell ⟨w.heap.size + 1 + 1, 1, none⟩ u1)) := fun k V h1 h0 h2 u0 u1 U hU => by
    rw [hU]
    refine HPo.out _ _ _ h1 ?_ (below_set2 h2 (by omega) _ _)
    rw [h0]
    exact disk_zero _ _
  rw [← hpost]
  obtain ⟨oe, hoe⟩ : ∃ z, z = cdE S := ⟨_, rfl⟩
  have HOE : Hid (oe = cdE S) := hoe
  rw [← hoe] at HC
  obtain ⟨y0, y1, -, -⟩ := hBd.two
  rw [hW1] at y0 y1
  clear hpost hoe hb1 hBd hBp hBr hd hD hS hn hm
  go_enter Tryd.func13, Tryd.ntmps13
  go_wp2_with fail
  rw [← hW1]
  clear hW1 y0 y1
  refine HC.mono ?_
  rintro r w2 ⟨rfl, hb2⟩
  have H2 : Hid (Below w.heap.size w w2 ∧ Box w2 w.heap.size 40 #[.slice a1 n c1, .slice a2 m c2] ∧ Box w2 (w.heap.size + 1) 29 #[.int .i64 e, .int .i64 s, .int .i64 v, .int .i64 c, .slice da dl dc] ∧ Box w2 (w.heap.size + 1 + 1) 40 #[.slice none 0 0, .slice none 0 0]) := ⟨below_any HB.out.1 hb2, HB.out.2.1.below hb2 HB.out.2.1.lt, HB.out.2.2.1.below hb2 HB.out.2.2.1.lt, HB.out.2.2.2.1.below hb2 HB.out.2.2.2.1.lt⟩
  clear HC hb2
  by_cases hoz : oe = 0
  rotate_left
  · have HQ : Hid (∀ u0 u1 U, U = .tuple #[.agg #[.slice none 0 0, .slice none 0 0], .int .i64 oe] → post (.returned U) ((w2.setCell ⟨w.heap.size + 1 + 1, 0, none⟩ u0).setCell ⟨w.heap.size + 1 + 1, 1, none⟩ u1)) := HPz.out oe w2 (by unfold stE; rw [if_pos (by rw [← HOE.out]; exact hoz), HOE.out]) (by unfold stS; rw [if_neg (fun h => hoz (by rw [HOE.out]; exact h.1))]) H2.out.1
    obtain ⟨d0, d1, e0, e1⟩ := H2.out.2.2.2.two
    go_wp2
    refine bodyPost_ret (v := .tuple #[.agg #[.slice none 0 0, .slice none 0 0], .int .i64 oe]) (by simp [results, Tryd.results13, go_sem, *]) rfl (HQ.out _ _ _ rfl)
  subst hoz
  have HE := penc_any (e := e) (s := s) (v := v) (c := c) HI.out.1 (HI.out.2.1.below H2.out.1)
  obtain ⟨pe, hpe⟩ : ∃ z, z = ptE e s v c d.length := ⟨_, rfl⟩
  obtain ⟨B, hBB⟩ : ∃ z, z = ptO (e, s, v, c, d) := ⟨_, rfl⟩
  rw [← hpe, ← hBB] at HE
  have HPE : Hid (pe = ptQ (e, s, v, c, d) ∧ B = ptO (e, s, v, c, d)) := ⟨hpe, hBB⟩
  obtain ⟨bl, hbl⟩ : ∃ z, z = B.length := ⟨_, rfl⟩
  rw [← hbl] at HE
  have HBL : Hid (bl = B.length) := hbl
  obtain ⟨⟨z0, z1, z2, z3, z4⟩, -⟩ := box5 H2.out.2.2.1
  clear hpe hBB hbl
  go_wp2_with fail
  clear z0 z1 z2 z3 z4
  refine HE.mono ?_
  rintro r w3 ⟨⟨a7, c7, rfl, ho7⟩, hb3⟩
  have H3 : Hid (Below w.heap.size w w3 ∧ Box w3 w.heap.size 40 #[.slice a1 n c1, .slice a2 m c2] ∧ Box w3 (w.heap.size + 1) 29 #[.int .i64 e, .int .i64 s, .int .i64 v, .int .i64 c, .slice da dl dc] ∧ Box w3 (w.heap.size + 1 + 1) 40 #[.slice none 0 0, .slice none 0 0] ∧ Arg 0 w3 (.slice a7 bl c7) B) := ⟨below_any H2.out.1 hb3, H2.out.2.1.below hb3 H2.out.2.1.lt, H2.out.2.2.1.below hb3 H2.out.2.2.1.lt, H2.out.2.2.2.below hb3 H2.out.2.2.2.lt, ho7.arg.weaken (Nat.zero_le _)⟩
  clear HE hb3 ho7 H2
  by_cases hpz : pe = 0
  rotate_left
  · have HQ : Hid (∀ u0 u1 U, U = .tuple #[.agg #[.slice none 0 0, .slice none 0 0], .int .i64 pe] → post (.returned U) ((w3.setCell ⟨w.heap.size + 1 + 1, 0, none⟩ u0).setCell ⟨w.heap.size + 1 + 1, 1, none⟩ u1)) := HPz.out pe w3 (by unfold stE; rw [if_neg (by rw [← HOE.out]; simp), ← HPE.out.1, if_pos hpz]) (by unfold stS; rw [if_neg (fun h => hpz (by rw [HPE.out.1]; exact h.2.1))]) H3.out.1
    obtain ⟨d0, d1, e0, e1⟩ := H3.out.2.2.2.1.two
    go_wp2
    refine bodyPost_ret (v := .tuple #[.agg #[.slice none 0 0, .slice none 0 0], .int .i64 pe]) (by simp [results, Tryd.results13, go_sem, *]) rfl (HQ.out _ _ _ rfl)
  subst hpz
  obtain ⟨hin, -⟩ := ptE_ok HPE.out.1.symm
  obtain ⟨h0e, h1e⟩ := inN_iff.1 hin
  have HREG : Hid (e % 2 * 8 = reg e ∧ 8 * (e % 2) = reg e ∧ 0 ≤ e % 2 ∧ e % 2 ≤ 1 ∧ bl = 512 ∧ B.length = 512 ) := by
    have h512 : B.length = 512 := by rw [HPE.out.2]; exact ptO_len HPE.out.1.symm
    refine ⟨?_, ?_, by omega, by omega, by rw [HBL.out]; exact h512, h512⟩
    · unfold reg; split <;> omega
    · unfold reg; split <;> omega
  have HPUT : Hid (∀ V k, Below w.heap.size w V → Arg 0 V (.slice a7 bl c7) B → k = reg e → Calls Tryd.prog 28 #[.agg #[.slice a1 n c1, .slice a2 m c2], .int .i64 k, .slice a7 bl c7] V fun r w' => ∃ v', r = .returned (.tuple #[v', .int .i64 (Dk.paerr S (reg e) B)]) ∧ Dk.OwnDisk V.heap.size w' 81 v' (Dk.past S (reg e) B) ∧ Below V.heap.size V w') := fun V k hV hA hk => by
    rw [hk]
    exact Dk.putAll_any n0 0 _ _ S (reg e) B V (HI.out.2.2.below hV) (reg_in e) (dk_arg hA) (by rw [HREG.out.2.2.2.2.2]; omega)
  obtain ⟨ue, hue⟩ : ∃ z, z = Dk.paerr S (reg e) B := ⟨_, rfl⟩
  rw [← hue] at HPUT
  have HUE : Hid (ue = Dk.paerr S (reg e) B) := hue
  clear hin hue
  have hee : e % 2 = e % 2 := rfl
  have htm : e.tmod 2 = e % 2 := by rw [Int.tmod_eq_emod_of_nonneg h0e]
  have HEM : Hid (e.tmod 2 = e % 2) := htm
  clear htm hee
  go_upto_region 7 with fail
  obtain ⟨X0, hX0⟩ : ∃ Z, Z = w3.drew := ⟨_, rfl⟩
  have hbX : Below w3.heap.size w3 X0 := by rw [hX0]; exact (Below.refl _ w3).drew
  have hbp0 := (H3.out.2.2.1.below hbX H3.out.2.2.1.lt).cell 0 rfl
  have hSS : X0.cell? ⟨w.heap.size + 1, 0, none⟩ = some (.int .i64 e) := hbp0
  refine AnyBut.begin (fun U => U.cell? ⟨w.heap.size + 1, 0, none⟩ = some (.int .i64 e)) 1000 (by kernel_rfl) ?_
  rw [← hX0]
  clear hX0 hbp0
  have hrem : e.tmod 2 = e % 2 := HEM.out
  refine tx 1 26 hSS ?_
  simp only [ua, ub, uc, ud]
  refine tx 2 27 hSS ?_
  simp only [ua, ub, uc, ud]
  refine tx 3 28 (v := .int .i64 (e % 2)) hSS ?_
  simp only [ua, ub, uc, ud]
  refine tx 5 30 hSS ?_
  simp only [ua, ub, uc, ud]
  obtain ⟨g0, g1, -, -⟩ := (H3.out.2.1.below hbX H3.out.2.1.lt).two
  refine AnyBut.two (i := 0) (j := 4) (by kernel_rfl) rfl rfl (fun K hK => ?_) (fun K hK => ?_)
  · skip
    go_simp
    refine hK.out _ _ hSS ?_
    clear hK
    refine AnyBut.step (i := 4) (by kernel_rfl) rfl (fun K hK => ?_)
    go_simp
    refine (first_any (e % 2) ⟨HREG.out.2.2.1, HREG.out.2.2.2.1⟩ _).mono ?_
    rintro r w4 ⟨rfl, rfl⟩
    dsimp only
    refine hK.out _ _ hSS ?_
    clear hK g0 g1 hrem
    have hP := HPUT.out X0 (e % 2 * 8) (H3.out.1.trans (hbX.mono H3.out.1.size)) (H3.out.2.2.2.2.below hbX) HREG.out.1
    refine AnyBut.step (i := 6) (by kernel_rfl) rfl (fun K hK => ?_)
    go_simp
    refine hP.mono ?_
    rintro r w4 ⟨v4, rfl, ho4, hb4⟩
    dsimp only
    have hd4 := ho4.disk
    obtain ⟨x1, y1, x2, y2, rfl, -, -⟩ := hd4.shape
    obtain ⟨k1, hk1⟩ : ∃ z, z = (Dk.past S (reg e) B).secs.length := ⟨_, rfl⟩
    obtain ⟨k2, hk2⟩ : ∃ z, z = (Dk.past S (reg e) B).cache.length := ⟨_, rfl⟩
    rw [← hk1, ← hk2] at hd4 ⊢
    clear hk1 hk2
    have hb34 : Below w3.heap.size w3 w4 := below_any hbX hb4
    have hSS4 : w4.cell? ⟨w.heap.size + 1, 0, none⟩ = some (.int .i64 e) := (H3.out.2.2.1.below hb34 H3.out.2.2.1.lt).cell 0 rfl
    refine hK.out _ _ hSS4 ?_
    clear hK
    refine tx 7 24 hSS4 ?_
    simp only [ua, ub, uc, ud]
    refine tx 8 32 hSS4 ?_
    simp only [ua, ub, uc, ud]
    refine tx 9 33 hSS4 ?_
    simp only [ua, ub, uc, ud]
    have hB4 := H3.out.2.1.below hb34 H3.out.2.1.lt
    have hR4 := H3.out.2.2.2.1.below hb34 H3.out.2.2.2.1.lt
    have hP4 := H3.out.2.2.1.below hb34 H3.out.2.2.1.lt
    obtain ⟨d0, d1, e0, e1⟩ := hB4.two
    refine AnyBut.step (i := 10) (by kernel_rfl) rfl (fun K hK => ?_)
    go_simp
    obtain ⟨X, hX⟩ : ∃ Z, Z = (w4.setCell ⟨w.heap.size, 0, none⟩ (.slice x1 k1 y1)).setCell ⟨w.heap.size, 1, none⟩ (.slice x2 k2 y2) := ⟨_, rfl⟩
    have HX : Hid (Below w.heap.size w X ∧ Box X (w.heap.size + 1 + 1) 40 #[.slice none 0 0, .slice none 0 0] ∧ Box X w.heap.size 40 #[.slice x1 k1 y1, .slice x2 k2 y2] ∧ Dk.Disk w.heap.size X (.agg #[.slice x1 k1 y1, .slice x2 k2 y2]) (Dk.past S (reg e) B)) := by
      have hlt := H3.out.2.1.lt
      rw [hX]
      exact ⟨below_set2 (H3.out.1.trans (hb34.mono H3.out.1.size)) (Nat.le_refl _) _ _, (hR4.other (by omega)).other (by omega), (hB4.set 0 _).set 1 _, (dkd_same2 hd4 (Nat.lt_of_lt_of_le hlt hbX.size) _ _).weaken (Nat.le_trans H3.out.1.size hbX.size)⟩
    have hSX : X.cell? ⟨w.heap.size + 1, 0, none⟩ = some (.int .i64 e) := by rw [hX]; exact (((hP4.other (by omega)).other (by omega)).cell 0 rfl)
    rw [← hX]
    refine hK.out _ _ hSX ?_
    clear hK hX d0 d1 e0 e1 hB4 hR4 hP4 hd4 ho4 hb4 hb34 hSS4 hP
    refine AnyBut.step (i := 11) (by kernel_rfl) rfl (fun K hK => ?_)
    go_simp
    refine hK.out _ _ hSX ?_
    clear hK hSX
    refine AnyBut.done (by kernel_rfl) ?_
    by_cases huz : ue = 0
    rotate_left
    · have HQ : Hid (∀ u0 u1 U, U = .tuple #[.agg #[.slice none 0 0, .slice none 0 0], .int .i64 ue] → post (.returned U) ((X.setCell ⟨w.heap.size + 1 + 1, 0, none⟩ u0).setCell ⟨w.heap.size + 1 + 1, 1, none⟩ u1)) := HPz.out ue X (by unfold stE; rw [if_neg (by rw [← HOE.out]; simp), ← HPE.out.1, if_neg (by simp), ← HPE.out.2, ← HUE.out, if_pos huz]) (by unfold stS; rw [if_neg (fun h => huz (by rw [HUE.out, HPE.out.2]; exact h.2.2))]) HX.out.1
      obtain ⟨d0, d1, e0, e1⟩ := HX.out.2.1.two
      go_wp2
      refine bodyPost_ret (v := .tuple #[.agg #[.slice none 0 0, .slice none 0 0], .int .i64 ue]) (by simp [results, Tryd.results13, go_sem, *]) rfl (HQ.out _ _ _ rfl)
    subst huz
    have HF := Dk.flush_any w.heap.size _ (Dk.past S (reg e) B) X HX.out.2.2.2
    obtain ⟨fe, hfe⟩ : ∃ z, z = Dk.cerr (Dk.past S (reg e) B) := ⟨_, rfl⟩
    rw [← hfe] at HF
    have HFE : Hid (fe = stE S (e, s, v, c, d) ∧ Dk.stand (Dk.past S (reg e) B) (fun _ => true) = stS S (e, s, v, c, d)) := by
      refine ⟨?_, ?_⟩
      · unfold stE
        rw [if_neg (by rw [← HOE.out]; simp), ← HPE.out.1, if_neg (by simp), ← HPE.out.2, ← HUE.out, if_neg (by simp), hfe, HPE.out.2]
        rfl
      · unfold stS
        rw [if_pos ⟨HOE.out.symm, HPE.out.1.symm, by rw [← HPE.out.2]; exact HUE.out.symm⟩, HPE.out.2]
        rfl
    obtain ⟨g0, g1, -, -⟩ := HX.out.2.2.1.two
    clear hfe
    go_wp2_with fail
    clear g0 g1
    refine HF.mono ?_
    rintro r w9 ⟨v9, rfl, hd9, hb9⟩
    have hd9 : Dk.Disk X.heap.size w9 v9 (stS S (e, s, v, c, d)) := by rw [← HFE.out.2]; exact hd9
    obtain ⟨x1, y1, x2, y2, rfl, -, -⟩ := hd9.shape
    obtain ⟨k1, hk1⟩ : ∃ z, z = (stS S (e, s, v, c, d)).secs.length := ⟨_, rfl⟩
    obtain ⟨k2, hk2⟩ : ∃ z, z = (stS S (e, s, v, c, d)).cache.length := ⟨_, rfl⟩
    rw [← hk1, ← hk2] at hd9 ⊢
    have HQ : Hid (∀ u0 u1 U, U = .tuple #[.agg #[.slice x1 k1 y1, .slice x2 k2 y2], .int .i64 fe] → post (.returned U) ((w9.setCell ⟨w.heap.size + 1 + 1, 0, none⟩ u0).setCell ⟨w.heap.size + 1 + 1, 1, none⟩ u1)) := fun u0 u1 U hU => by
      rw [hU]
      refine HPo.out _ _ _ HFE.out.1 ?_ (below_set2 (below_any HX.out.1 hb9) (by omega) _ _)
      exact (dkd_same2 hd9 (Nat.lt_of_lt_of_le HX.out.2.1.lt (Nat.le_refl _)) u0 u1).weaken HX.out.1.size
    obtain ⟨d0, d1, e0, e1⟩ := (HX.out.2.1.below hb9 HX.out.2.1.lt).two
    clear hd9 hb9 HF hk1 hk2
    go_wp2
    refine bodyPost_ret (v := .tuple #[.agg #[.slice x1 k1 y1, .slice x2 k2 y2], .int .i64 fe]) (by simp [results, Tryd.results13, go_sem, *]) rfl (HQ.out _ _ _ rfl)
  · skip
    go_simp
    refine (first_any (e % 2) ⟨HREG.out.2.2.1, HREG.out.2.2.2.1⟩ _).mono ?_
    rintro r w4 ⟨rfl, rfl⟩
    dsimp only
    refine hK.out _ _ hSS ?_
    clear hK
    refine AnyBut.step (i := 0) (by kernel_rfl) rfl (fun K hK => ?_)
    go_simp
    refine hK.out _ _ hSS ?_
    clear hK g0 g1 hrem
    have hP := HPUT.out X0 (e % 2 * 8) (H3.out.1.trans (hbX.mono H3.out.1.size)) (H3.out.2.2.2.2.below hbX) HREG.out.1
    refine AnyBut.step (i := 6) (by kernel_rfl) rfl (fun K hK => ?_)
    go_simp
    refine hP.mono ?_
    rintro r w4 ⟨v4, rfl, ho4, hb4⟩
    dsimp only
    have hd4 := ho4.disk
    obtain ⟨x1, y1, x2, y2, rfl, -, -⟩ := hd4.shape
    obtain ⟨k1, hk1⟩ : ∃ z, z = (Dk.past S (reg e) B).secs.length := ⟨_, rfl⟩
    obtain ⟨k2, hk2⟩ : ∃ z, z = (Dk.past S (reg e) B).cache.length := ⟨_, rfl⟩
    rw [← hk1, ← hk2] at hd4 ⊢
    clear hk1 hk2
    have hb34 : Below w3.heap.size w3 w4 := below_any hbX hb4
    have hSS4 : w4.cell? ⟨w.heap.size + 1, 0, none⟩ = some (.int .i64 e) := (H3.out.2.2.1.below hb34 H3.out.2.2.1.lt).cell 0 rfl
    refine hK.out _ _ hSS4 ?_
    clear hK
    refine tx 7 24 hSS4 ?_
    simp only [ua, ub, uc, ud]
    refine tx 8 32 hSS4 ?_
    simp only [ua, ub, uc, ud]
    refine tx 9 33 hSS4 ?_
    simp only [ua, ub, uc, ud]
    have hB4 := H3.out.2.1.below hb34 H3.out.2.1.lt
    have hR4 := H3.out.2.2.2.1.below hb34 H3.out.2.2.2.1.lt
    have hP4 := H3.out.2.2.1.below hb34 H3.out.2.2.1.lt
    obtain ⟨d0, d1, e0, e1⟩ := hB4.two
    refine AnyBut.step (i := 10) (by kernel_rfl) rfl (fun K hK => ?_)
    go_simp
    obtain ⟨X, hX⟩ : ∃ Z, Z = (w4.setCell ⟨w.heap.size, 0, none⟩ (.slice x1 k1 y1)).setCell ⟨w.heap.size, 1, none⟩ (.slice x2 k2 y2) := ⟨_, rfl⟩
    have HX : Hid (Below w.heap.size w X ∧ Box X (w.heap.size + 1 + 1) 40 #[.slice none 0 0, .slice none 0 0] ∧ Box X w.heap.size 40 #[.slice x1 k1 y1, .slice x2 k2 y2] ∧ Dk.Disk w.heap.size X (.agg #[.slice x1 k1 y1, .slice x2 k2 y2]) (Dk.past S (reg e) B)) := by
      have hlt := H3.out.2.1.lt
      rw [hX]
      exact ⟨below_set2 (H3.out.1.trans (hb34.mono H3.out.1.size)) (Nat.le_refl _) _ _, (hR4.other (by omega)).other (by omega), (hB4.set 0 _).set 1 _, (dkd_same2 hd4 (Nat.lt_of_lt_of_le hlt hbX.size) _ _).weaken (Nat.le_trans H3.out.1.size hbX.size)⟩
    have hSX : X.cell? ⟨w.heap.size + 1, 0, none⟩ = some (.int .i64 e) := by rw [hX]; exact (((hP4.other (by omega)).other (by omega)).cell 0 rfl)
    rw [← hX]
    refine hK.out _ _ hSX ?_
    clear hK hX d0 d1 e0 e1 hB4 hR4 hP4 hd4 ho4 hb4 hb34 hSS4 hP
    refine AnyBut.step (i := 11) (by kernel_rfl) rfl (fun K hK => ?_)
    go_simp
    refine hK.out _ _ hSX ?_
    clear hK hSX
    refine AnyBut.done (by kernel_rfl) ?_
    by_cases huz : ue = 0
    rotate_left
    · have HQ : Hid (∀ u0 u1 U, U = .tuple #[.agg #[.slice none 0 0, .slice none 0 0], .int .i64 ue] → post (.returned U) ((X.setCell ⟨w.heap.size + 1 + 1, 0, none⟩ u0).setCell ⟨w.heap.size + 1 + 1, 1, none⟩ u1)) := HPz.out ue X (by unfold stE; rw [if_neg (by rw [← HOE.out]; simp), ← HPE.out.1, if_neg (by simp), ← HPE.out.2, ← HUE.out, if_pos huz]) (by unfold stS; rw [if_neg (fun h => huz (by rw [HUE.out, HPE.out.2]; exact h.2.2))]) HX.out.1
      obtain ⟨d0, d1, e0, e1⟩ := HX.out.2.1.two
      go_wp2
      refine bodyPost_ret (v := .tuple #[.agg #[.slice none 0 0, .slice none 0 0], .int .i64 ue]) (by simp [results, Tryd.results13, go_sem, *]) rfl (HQ.out _ _ _ rfl)
    subst huz
    have HF := Dk.flush_any w.heap.size _ (Dk.past S (reg e) B) X HX.out.2.2.2
    obtain ⟨fe, hfe⟩ : ∃ z, z = Dk.cerr (Dk.past S (reg e) B) := ⟨_, rfl⟩
    rw [← hfe] at HF
    have HFE : Hid (fe = stE S (e, s, v, c, d) ∧ Dk.stand (Dk.past S (reg e) B) (fun _ => true) = stS S (e, s, v, c, d)) := by
      refine ⟨?_, ?_⟩
      · unfold stE
        rw [if_neg (by rw [← HOE.out]; simp), ← HPE.out.1, if_neg (by simp), ← HPE.out.2, ← HUE.out, if_neg (by simp), hfe, HPE.out.2]
        rfl
      · unfold stS
        rw [if_pos ⟨HOE.out.symm, HPE.out.1.symm, by rw [← HPE.out.2]; exact HUE.out.symm⟩, HPE.out.2]
        rfl
    obtain ⟨g0, g1, -, -⟩ := HX.out.2.2.1.two
    clear hfe
    go_wp2_with fail
    clear g0 g1
    refine HF.mono ?_
    rintro r w9 ⟨v9, rfl, hd9, hb9⟩
    have hd9 : Dk.Disk X.heap.size w9 v9 (stS S (e, s, v, c, d)) := by rw [← HFE.out.2]; exact hd9
    obtain ⟨x1, y1, x2, y2, rfl, -, -⟩ := hd9.shape
    obtain ⟨k1, hk1⟩ : ∃ z, z = (stS S (e, s, v, c, d)).secs.length := ⟨_, rfl⟩
    obtain ⟨k2, hk2⟩ : ∃ z, z = (stS S (e, s, v, c, d)).cache.length := ⟨_, rfl⟩
    rw [← hk1, ← hk2] at hd9 ⊢
    have HQ : Hid (∀ u0 u1 U, U = .tuple #[.agg #[.slice x1 k1 y1, .slice x2 k2 y2], .int .i64 fe] → post (.returned U) ((w9.setCell ⟨w.heap.size + 1 + 1, 0, none⟩ u0).setCell ⟨w.heap.size + 1 + 1, 1, none⟩ u1)) := fun u0 u1 U hU => by
      rw [hU]
      refine HPo.out _ _ _ HFE.out.1 ?_ (below_set2 (below_any HX.out.1 hb9) (by omega) _ _)
      exact (dkd_same2 hd9 (Nat.lt_of_lt_of_le HX.out.2.1.lt (Nat.le_refl _)) u0 u1).weaken HX.out.1.size
    obtain ⟨d0, d1, e0, e1⟩ := (HX.out.2.1.below hb9 HX.out.2.1.lt).two
    clear hd9 hb9 HF hk1 hk2
    go_wp2
    refine bodyPost_ret (v := .tuple #[.agg #[.slice x1 k1 y1, .slice x2 k2 y2], .int .i64 fe]) (by simp [results, Tryd.results13, go_sem, *]) rfl (HQ.out _ _ _ rfl)

end Go.Proofs.YthlfgpnabcplnaaDoor.W