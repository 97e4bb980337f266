/-
  What the program's Put answers, for every store and block.
-/
import Derived.Test.YtkpckadicjdieabLClone
import Derived.Test.YtkpckadicjdieabLCheck2
import Derived.Test.YtkpckadicjdieabLLast
namespace Go.Proofs.Ytkpckadicjdieab
open Go.RowKit

/-! Bounds of a store that may be. -/
theorem Ok.data {s : St} (h : Ok s) : ∀ p ∈ s.1, ∀ b ∈ p.2, mayB b = true := fun p hp b hb => by
  cases hf : freeB p
  · exact List.all_eq_true.1 (h.each p hp hf).1.2.2 b hb
  · have := (free_iff.1 hf).2
    rw [List.eq_nil_of_length_eq_zero this] at hb
    cases hb
theorem may_len {b : Bk} (h : mayB b = true) : b.2.2.length ≤ 32 := (may_iff.1 h).2.2
theorem Ok.fits {s : St} (h : Ok s) : FitsL s := by
  refine ⟨⟨by have := h.slots.2; omega, fun p hp => ⟨by have := h.small p hp; omega, fun b hb => ?_⟩⟩, by have := h.held; have := h.slots.2; omega, by have := h.few; omega, fun b hb => ?_⟩
  · have := may_len (h.data p hp b hb); omega
  · have := may_len (List.all_eq_true.1 h.may b hb); omega
theorem chk_one (b : Bk) : chkB (1, [b]) = mayB b := by
  unfold chkB
  cases h : mayB b <;> simp [h]

/-- One more element, that lies elsewhere in memory of its own, behind the others. -/
theorem list_append2 {α : Type} [Inhabited α] (S : Shape α) (t : TypeId) (ht) (hc) {i : TypeInfo} {z : Value} {bytes : Nat} (hi : Try.prog.info? S.ty = some i) (hz : i.zero = some z) (hsz : i.size = S.size) (hby : i.bytes = bytes) (hzs : z.cells.size = S.size) (h0 : 0 < S.size) (hid : S.ty ∉ S.ids)
    {base : Nat} {wr : World} {v : Value} {l : List α} {ad : Addr} {cap : Nat} {us : List Value} {x : α} (hO : (S.list t ht hc).owns base wr [v] l) (hu : S.owns base wr us x) (hcs : ∀ j u, us[j]? = some u → wr.cell? (ad.add j) = some u) (hb : base ≤ wr.heap.size) (hbytes : (l.length + 1) * bytes ≤ 140737488355328) (hm : l.length + 1 ≤ maxLen) :
    ∃ g cap' w3, (Builtin.append_ #[t, t] t #[v, .slice (some ad) 1 cap]).run Try.prog wr = .ok (.slice (some ⟨g, 0, none⟩) (l.length + 1) cap') w3 ∧
      (S.list t ht hc).owns base w3 [.slice (some ⟨g, 0, none⟩) (l.length + 1) cap'] (l ++ [x]) ∧ wr.grownBy w3 v.ownBlock := by
  obtain ⟨v', vss, hv, hown, hE⟩ := hO
  obtain rfl : v = v' := by simpa using hv
  have hul : us.length = S.size := S.length (S.olies hu)
  obtain ⟨g, cap', w3, h1, h2, h3, _, _⟩ := run_append_lies (P := Try.prog) wr t t base S.ty i z S.size bytes ht hi hz hsz hby hzs h0 v l.length vss.flatten hown ad 1 cap us (by omega) hcs (S.ones (S.olies hu)) (by omega) hm hbytes hb _ rfl
  exact ⟨g, cap', w3, h1, Shape.list_push (S := S) (ht := ht) (hc := hc) hid hE hown hu h3 h2, h3⟩

/-- One block in a slice of its own. -/
theorem one_lies {n : Nat} {w : World} {us : List Value} {b : Bk} (h : bkN.lies n w us b) (hn : n ≤ w.heap.size) : bksN.lies n (w.alloc (.cells us.toArray 48)) [.slice (some ⟨w.heap.size, 0, none⟩) 1 1] [b] := by
  have hl : us.length = 3 := bkN.length h
  refine ⟨_, [us], rfl, ⟨by simp [hl]; rfl, .inr ⟨⟨w.heap.size, 0, none⟩, 1, rfl, Nat.le_refl _, by show 1 ≤ maxLen; unfold maxLen; omega, hn, fun i u hu => ?_⟩⟩, ⟨bkN.below h ((Below.refl _ w).alloc (Nat.le_refl _) _), trivial⟩⟩
  have hB := Box.new w 48 us.toArray
  rw [add_plain]
  have := hB.cell i (u := u) (by simpa using hu)
  simpa using this

/-- One block in memory of its own: where it lies. -/
theorem one_own {n : Nat} {w : World} {v : Value} {b : Bk} (h : bksN.owns n w [v] [b]) : ∃ g cap us, v = .slice (some ⟨g, 0, none⟩) 1 cap ∧ bkN.owns n w us b ∧ ∀ j u, us[j]? = some u → w.cell? ((⟨g, 0, none⟩ : Addr).add j) = some u := by
  obtain ⟨v', vss, hv, hown, hE⟩ := h
  obtain rfl : v = v' := by simpa using hv
  obtain ⟨us, hu, hO⟩ := hE.get (i := 0) (b := b) rfl
  obtain ⟨g, cap, rfl⟩ : ∃ g cap, v = .slice (some ⟨g, 0, none⟩) 1 cap := by
    rcases hown.2 with ⟨_, h0⟩ | ⟨g, cap, cur, h', _⟩
    · simp at h0
    · exact ⟨g, cap, h'⟩
  refine ⟨g, cap, us, rfl, hO, fun j u hj => hown.cells rfl j u ?_⟩
  have := flat_get (size := 3) (vss := vss) (i := 0) (j := j) (us := us) (u := u) (fun us' hus => by
    obtain ⟨_, _, h⟩ := hE.left hus
    exact bkN.length (bkN.olies h)) hu hj
  simpa using this

def s0 : St := ([], [], [], 0)
theorem s0_owns (n : Nat) (w : World) : stN.owns n w [.slice none 0 0, .slice none 0 0, .slice none 0 0, .int .i64 0] s0 := st_nilN n w
/-- What Put answers. -/
def pE (s : St) (b : Bk) : Int := if okB s = false then 9 else if mayB b = false then 1 else if 8 ≤ s.2.2.1.length then 51 else 0
def pS (s : St) (b : Bk) : St := if pE s b = 0 then (s.1, s.2.1, s.2.2.1 ++ [b], s.2.2.2) else s0
/-- A call that answers a store and a number. -/
def TellsS (k : Int) (s' : St) (w : World) (e : Ending) (w' : World) : Prop := (∃ us', e = .returned (.tuple #[.agg us'.toArray, .int .i64 k]) ∧ stN.owns w.heap.size w' us' s') ∧ Below w.heap.size w w'

set_option maxRecDepth 100000 in
set_option maxHeartbeats 8000000 in
theorem put_any (n0 n1 : Nat) (us : List Value) (s : St) (ub : List Value) (p : Bk) (w : World) (h : stN.lies n0 w us s) (hp : bkN.lies n1 w ub p) (h1 : n1 ≤ w.heap.size) :
    Calls Try.prog 22 #[.agg us.toArray, .agg ub.toArray] w (TellsS (pE s p) (pS s p) w) := by
  obtain ⟨a, c, b, d, e, f, rfl, hS, hH, hO, hN, m1, m2, m3⟩ := st_viewN h
  obtain ⟨x, cap, rfl, hA, hpo, hpi⟩ := bk_view hp
  obtain ⟨po, pi, pd⟩ := p
  simp only at hA hpo hpi ⊢
  obtain ⟨post, hpost⟩ : ∃ post : Ending → World → Prop, post = TellsS (pE s (po, pi, pd)) (pS s (po, pi, pd)) w := ⟨_, rfl⟩
  have HNO : Hid (∀ k w', pE s (po, pi, pd) = k → k ≠ 0 → Below w.heap.size w w' → post (.returned (.tuple #[.agg #[.slice none 0 0, .slice none 0 0, .slice none 0 0, .int .i64 0], .int .i64 k])) w') := fun k w' e1 e2 e3 => by
    rw [hpost]
    refine ⟨⟨_, by rw [e1], ?_⟩, e3⟩
    unfold pS
    rw [if_neg (by rw [e1]; exact e2)]
    exact s0_owns _ _
  have HYES : Hid (∀ us' w', pE s (po, pi, pd) = 0 → stN.owns w.heap.size w' us' (s.1, s.2.1, s.2.2.1 ++ [(po, pi, pd)], s.2.2.2) → Below w.heap.size w w' → post (.returned (.tuple #[.agg us'.toArray, .int .i64 0])) w') := fun us' w' e1 e2 e3 => by
    rw [hpost]
    refine ⟨⟨us', by rw [e1], ?_⟩, e3⟩
    unfold pS
    rw [if_pos e1]
    exact e2
  rw [← hpost]
  clear hpost
  obtain ⟨m, hm⟩ : ∃ m, m = pd.length := ⟨_, rfl⟩
  rw [← hm] at hA ⊢
  obtain ⟨n, hn⟩ : ∃ n, n = s.1.length := ⟨_, rfl⟩
  obtain ⟨nh, hnh⟩ : ∃ n, n = s.2.1.length := ⟨_, rfl⟩
  obtain ⟨no, hno⟩ : ∃ n, n = s.2.2.1.length := ⟨_, rfl⟩
  obtain ⟨nx, hnx⟩ : ∃ n, n = s.2.2.2 := ⟨_, rfl⟩
  rw [← hn, ← hnh, ← hno, ← hnx] at h ⊢
  obtain ⟨W, hW⟩ : ∃ W, W = ((w.alloc (.cells #[.slice a n c, .slice b nh d, .slice e no f, .int .i64 nx] 31)).alloc (.cells #[.int .i64 po, .int .i64 pi, .slice x m cap] 48)).alloc (.cells #[.slice none 0 0, .slice none 0 0, .slice none 0 0, .int .i64 0] 31) := ⟨_, rfl⟩
  have hbW : Below w.heap.size w W := by rw [hW]; exact (((Below.refl _ w).alloc (Nat.le_refl _) _).alloc (by simp) _).alloc (by simp; omega) _
  have hB1 : Box W w.heap.size 31 #[.slice a n c, .slice b nh d, .slice e no f, .int .i64 nx] := by rw [hW]; exact ((Box.new _ _ _).alloc _).alloc _
  have hB2 : Box W (w.heap.size + 1) 48 #[.int .i64 po, .int .i64 pi, .slice x m cap] := by
    rw [hW]
    have := Box.new (w.alloc (.cells #[.slice a n c, .slice b nh d, .slice e no f, .int .i64 nx] 31)) 48 #[.int .i64 po, .int .i64 pi, .slice x m cap]
    rw [World.size_alloc] at this
    exact this.alloc _
  have hB3 : Box W (w.heap.size + 2) 31 #[.slice none 0 0, .slice none 0 0, .slice none 0 0, .int .i64 0] := by
    rw [hW]
    have := Box.new ((w.alloc (.cells #[.slice a n c, .slice b nh d, .slice e no f, .int .i64 nx] 31)).alloc (.cells #[.int .i64 po, .int .i64 pi, .slice x m cap] 48)) 31 #[.slice none 0 0, .slice none 0 0, .slice none 0 0, .int .i64 0]
    rwa [World.size_alloc, World.size_alloc] at this
  have HC := checkL_any n0 [.slice a n c, .slice b nh d, .slice e no f, .int .i64 nx] s W (stN.below h hbW)
  have HW : Hid (Below w.heap.size w W ∧ W.heap.size = w.heap.size + 3 ∧ ∀ V, Below W.heap.size W V → Box V w.heap.size 31 #[.slice a n c, .slice b nh d, .slice e no f, .int .i64 nx] ∧ Box V (w.heap.size + 1) 48 #[.int .i64 po, .int .i64 pi, .slice x m cap] ∧ Box V (w.heap.size + 2) 31 #[.slice none 0 0, .slice none 0 0, .slice none 0 0, .int .i64 0]) := ⟨hbW, by rw [hW]; simp, fun V hV => ⟨hB1.below hV hB1.lt, hB2.below hV hB2.lt, hB3.below hV hB3.lt⟩⟩
  have HA : Hid (stN.lies n0 w [.slice a n c, .slice b nh d, .slice e no f, .int .i64 nx] s ∧ Arg n1 w (.slice x m cap) pd ∧ I64 po ∧ I64 pi ∧ m = pd.length ∧ no = s.2.2.1.length ∧ n1 ≤ w.heap.size) := ⟨h, hA, hpo, hpi, hm, hno, h1⟩
  obtain ⟨g0, g1, g2, g3, -⟩ := hB1.four
  rw [hW] at g0 g1 g2 g3
  clear h hp h1 hS hH hO hN m1 m2 m3 hA hpo hpi hbW hB1 hB2 hB3 hm hn hnh hno hnx
  go_enter Try.func22, Try.ntmps22
  go_wp2_with fail
  rw [← hW]
  clear hW g0 g1 g2 g3
  refine HC.mono ?_
  rintro e1 w1 ⟨rfl, hb1⟩
  obtain ⟨hx1, hx2, hx3⟩ := HW.out.2.2 w1 hb1
  have HB1 : Hid (Below W.heap.size W w1) := hb1
  rcases okE_cases s with ⟨hk, hok⟩ | ⟨hk, hok⟩
  case inr =>
    rw [hk]
    obtain ⟨y0, y1, y2, y3, j0, j1, j2, j3⟩ := hx3.four
    have HE := HNO.out 9 ((((w1.setCell ⟨w.heap.size + 2, 0, none⟩ (.slice none 0 0)).setCell ⟨w.heap.size + 2, 1, none⟩ (.slice none 0 0)).setCell ⟨w.heap.size + 2, 2, none⟩ (.slice none 0 0)).setCell ⟨w.heap.size + 2, 3, none⟩ (.int .i64 0)) (by
      have : okB s = false := by cases hb : okB s with | false => rfl | true => exact absurd (ok_iff.1 hb) hok
      unfold pE; rw [if_pos this]) (by decide) (below_set4 (below_any HW.out.1 hb1) (by omega) _ _ _ _)
    have HE : Hid _ := HE
    clear hb1 hx1 hx2 hx3 hok hk
    go_wp2
    refine bodyPost_ret (v := .tuple #[.agg #[.slice none 0 0, .slice none 0 0, .slice none 0 0, .int .i64 0], .int .i64 9]) (by simp [results, Try.results22, go_sem, *]) rfl HE.out
  case inl =>
    rw [hk]
    obtain ⟨q0, q1, q2, -⟩ := hx2.three
    have HOK : Hid (Ok s ∧ okB s = true) := ⟨hok, ok_iff.2 hok⟩
    have hbw1 := below_any HW.out.1 hb1
    obtain ⟨V, hV⟩ : ∃ V, V = w1.alloc (.cells #[.int .i64 po, .int .i64 pi, .slice x m cap] 48) := ⟨_, rfl⟩
    have hL1 : bkN.lies n1 w1 [.int .i64 po, .int .i64 pi, .slice x m cap] (po, pi, pd) := bk_mk (p := (po, pi, pd)) (HA.out.2.1.below hbw1) HA.out.2.2.1 HA.out.2.2.2.1
    have HM := mayStand_any n1 (.slice (some ⟨w1.heap.size, 0, none⟩) 1 1) [(po, pi, pd)] V (by rw [hV]; exact one_lies hL1 (by have := HA.out.2.2.2.2.2.2; have := hbw1.size; omega))
    rw [chk_one] at HM
    have hbV : Below W.heap.size W V := by rw [hV]; exact hb1.alloc hb1.size _
    have HV : Hid (Below W.heap.size W V) := hbV
    clear hk hok hx1 hx2 hx3 hb1 hbw1 hL1 hbV
    cases hmay : mayB (po, pi, pd)
    · rw [hmay] at HM
      go_wp2_with fail
      rw [← hV]
      clear hV
      refine HM.mono ?_
      rintro e2 w2 ⟨rfl, hb2⟩
      have hbw := HV.out.trans (hb2.mono HV.out.size)
      obtain ⟨y0, y1, y2, y3, j0, j1, j2, j3⟩ := (HW.out.2.2 w2 hbw).2.2.four
      have HE := HNO.out 1 ((((w2.setCell ⟨w.heap.size + 2, 0, none⟩ (.slice none 0 0)).setCell ⟨w.heap.size + 2, 1, none⟩ (.slice none 0 0)).setCell ⟨w.heap.size + 2, 2, none⟩ (.slice none 0 0)).setCell ⟨w.heap.size + 2, 3, none⟩ (.int .i64 0)) (by unfold pE; rw [if_neg (by rw [HOK.out.2]; simp), if_pos hmay]) (by decide) (below_set4 (below_any HW.out.1 hbw) (by omega) _ _ _ _)
      have HE : Hid _ := HE
      clear hb2 hbw hmay
      go_wp2
      refine bodyPost_ret (v := .tuple #[.agg #[.slice none 0 0, .slice none 0 0, .slice none 0 0, .int .i64 0], .int .i64 1]) (by simp [results, Try.results22, go_sem, *]) rfl HE.out
    · rw [hmay] at HM
      have HMY : Hid (mayB (po, pi, pd) = true) := hmay
      go_wp2_with fail
      rw [← hV]
      clear hV hmay
      refine HM.mono ?_
      rintro e2 w2 ⟨rfl, hb2⟩
      have hbw := HV.out.trans (hb2.mono HV.out.size)
      have HB2 : Hid (Below W.heap.size W w2) := hbw
      obtain ⟨hx1, hx2, hx3⟩ := HW.out.2.2 w2 hbw
      obtain ⟨z0, z1, z2, z3, i0, i1, i2, i3⟩ := hx1.four
      have hl3 := run_len Try.underlying29 e no f
      clear hb2 hbw HM q0 q1 q2
      by_cases h8 : no = 8
      · have HE := HNO.out 51 ((((w2.setCell ⟨w.heap.size + 2, 0, none⟩ (.slice none 0 0)).setCell ⟨w.heap.size + 2, 1, none⟩ (.slice none 0 0)).setCell ⟨w.heap.size + 2, 2, none⟩ (.slice none 0 0)).setCell ⟨w.heap.size + 2, 3, none⟩ (.int .i64 0)) (by unfold pE; rw [if_neg (by rw [HOK.out.2]; simp), if_neg (by rw [HMY.out]; simp), if_pos (by rw [← HA.out.2.2.2.2.2.1]; omega)]) (by decide) (below_set4 (below_any HW.out.1 HB2.out) (by omega) _ _ _ _)
        have HE : Hid _ := HE
        subst h8
        obtain ⟨y0, y1, y2, y3, j0, j1, j2, j3⟩ := hx3.four
        clear hx1 hx2 hx3
        go_wp2
        refine bodyPost_ret (v := .tuple #[.agg #[.slice none 0 0, .slice none 0 0, .slice none 0 0, .int .i64 0], .int .i64 51]) (by simp [results, Try.results22, go_sem, *]) rfl HE.out
      · have h8i : ((no : Int) == 8) = false := by simp; omega
        have h8j : ¬ (no : Int) = 8 := by omega
        have HCC := copied_any n0 [.slice a n c, .slice b nh d, .slice e no f, .int .i64 nx] s w2 (stN.below HA.out.1 (below_any HW.out.1 HB2.out)) HOK.out.1.fits
        have HPE : Hid (pE s (po, pi, pd) = 0) := by
          show pE _ _ = 0
          unfold pE
          rw [if_neg (by rw [HOK.out.2]; simp), if_neg (by rw [HMY.out]; simp), if_neg (by rw [← HA.out.2.2.2.2.2.1]; have := HOK.out.1.few; have := HA.out.2.2.2.2.2.1; omega)]
        clear hx1 hx2 hx3 h8
        go_wp2_with fail
        refine HCC.mono ?_
        rintro e3 w3 ⟨⟨us3, rfl, ho3⟩, hb3⟩
        obtain ⟨v1, v2, v3, B, rfl, hB0, hB1, hSG, hOP, hNX⟩ := ho3
        obtain ⟨a1, c1, _, hv1, -⟩ := Shape.list_own (S := sgN) (ht := Try.underlying28) (hc := cells28) (hSG w3 (fun _ _ _ => rfl)).1
        obtain ⟨a2, c2, hv2, -⟩ := Leaf.row_len (L := bL) (ht := Try.underlying23) (hc := cells23) (boolsS.olies (hSG w3 (fun _ _ _ => rfl)).2)
        obtain ⟨a3, c3, _, hv3, -⟩ := Shape.list_own (S := bkN) (ht := Try.underlying29) (hc := cells29) hOP
        obtain rfl : v1 = _ := by simpa using hv1
        obtain rfl : v2 = _ := by simpa using hv2
        obtain rfl : v3 = _ := by simpa using hv3
        have hbw3 : Below W.heap.size W w3 := HB2.out.trans (hb3.mono HB2.out.size)
        obtain ⟨hx1, hx2, hx3⟩ := HW.out.2.2 w3 hbw3
        obtain ⟨l, hd, op, nx'⟩ := s
        simp only at hSG hOP hNX hv1 hv2 hv3 ⊢
        obtain ⟨z0', z1', z2', z3', i0', i1', i2', i3'⟩ := hx1.four
        obtain ⟨X, hX⟩ : ∃ X, X = (((w3.setCell ⟨w.heap.size, 0, none⟩ (.slice a1 l.length c1)).setCell ⟨w.heap.size, 1, none⟩ (.slice a2 hd.length c2)).setCell ⟨w.heap.size, 2, none⟩ (.slice a3 op.length c3)).setCell ⟨w.heap.size, 3, none⟩ (.int .i64 nx') := ⟨_, rfl⟩
        have hxX : Box X w.heap.size 31 #[.slice a1 l.length c1, .slice a2 hd.length c2, .slice a3 op.length c3, .int .i64 nx'] := by rw [hX]; exact (((hx1.set 0 _).set 1 _).set 2 _).set 3 _
        have hyX : Box X (w.heap.size + 1) 48 #[.int .i64 po, .int .i64 pi, .slice x m cap] := by rw [hX]; exact (((hx2.other (by omega)).other (by omega)).other (by omega)).other (by omega)
        have hzX : Box X (w.heap.size + 2) 31 #[.slice none 0 0, .slice none 0 0, .slice none 0 0, .int .i64 0] := by rw [hX]; exact (((hx3.other (by omega)).other (by omega)).other (by omega)).other (by omega)
        have hbX : Below w.heap.size w X := by rw [hX]; exact below_set4 (below_any HW.out.1 hbw3) (Nat.le_refl _) _ _ _ _
        have hW3 := HW.out.2.1
        have hw2 : w.heap.size + 3 ≤ w2.heap.size := by have := HB2.out.size; omega
        have hXs : X.heap.size = w3.heap.size := by rw [hX]; simp [World.setCell]
        have hsX : Same (w2.heap.size + 2) w3 X := by rw [hX]; exact .set4 (by omega)
        have HX : Hid (Below w.heap.size w X ∧ w.heap.size + 3 ≤ B ∧ B ≤ X.heap.size ∧ (∀ U : World, (∀ k, w2.heap.size + 2 ≤ k → k < B → U.heap[k]? = X.heap[k]?) → sgsN.owns (w2.heap.size + 2) U [.slice a1 l.length c1] l ∧ boolsS.owns (w2.heap.size + 2) U [.slice a2 hd.length c2] hd) ∧ bksN.owns B X [.slice a3 op.length c3] op ∧ I64 nx' ∧ w.heap.size + 3 ≤ w2.heap.size) := ⟨hbX, by omega, by omega, fun U hU => hSG U (fun k h1 h2 => (hU k h1 h2).trans (hsX k h1 (by omega))), bksN.osame hOP (by rw [hX]; exact .set4 (by omega)), hNX, hw2⟩
        have HXB : Hid (∀ U, Below X.heap.size X U → Box U w.heap.size 31 #[.slice a1 l.length c1, .slice a2 hd.length c2, .slice a3 op.length c3, .int .i64 nx'] ∧ Box U (w.heap.size + 1) 48 #[.int .i64 po, .int .i64 pi, .slice x m cap] ∧ Box U (w.heap.size + 2) 31 #[.slice none 0 0, .slice none 0 0, .slice none 0 0, .int .i64 0]) := fun U hU => ⟨hxX.below hU hxX.lt, hyX.below hU hyX.lt, hzX.below hU hzX.lt⟩
        have HS : Hid (∀ U, Box U w.heap.size 31 #[.slice a1 l.length c1, .slice a2 hd.length c2, .slice a3 op.length c3, .int .i64 nx'] → Box U (w.heap.size + 1) 48 #[.int .i64 po, .int .i64 pi, .slice x m cap] → U.cell? ⟨w.heap.size, 2, none⟩ = some (.slice a3 op.length c3) ∧ U.cell? ⟨w.heap.size + 1, 0, none⟩ = some (.int .i64 po) ∧ U.cell? ⟨w.heap.size + 1, 1, none⟩ = some (.int .i64 pi) ∧ U.cell? ⟨w.heap.size + 1, 2, none⟩ = some (.slice x m cap)) := fun U h1 h2 => ⟨h1.four.2.2.1, h2.three.1, h2.three.2.1, h2.three.2.2.1⟩
        have HFEW : Hid (op.length ≤ 8) := HOK.out.1.few
        go_upto_region 9 with fail
        rw [← hX]
        clear hX hxX hyX hzX hbX hW3 hw2 hXs hsX hSG hOP hNX hv1 hv2 hv3 hb3 hbw3 hx1 hx2 hx3 hB0 hB1 z0 z1 z2 z3 i0 i1 i2 i3 z0' z1' z2' z3' i0' i1' i2' i3' HCC h8i h8j
        refine AnyBut.begin (fun U => U.cell? ⟨w.heap.size, 2, none⟩ = some (.slice a3 op.length c3) ∧ U.cell? ⟨w.heap.size + 1, 0, none⟩ = some (.int .i64 po) ∧ U.cell? ⟨w.heap.size + 1, 1, none⟩ = some (.int .i64 pi) ∧ U.cell? ⟨w.heap.size + 1, 2, none⟩ = some (.slice x m cap)) 7 (by kernel_rfl) ?_
        have hbD : Below X.heap.size X X.drew := (Below.refl _ X).drew
        have hSS := HS.out X.drew (HXB.out X.drew hbD).1 (HXB.out X.drew hbD).2.1
        refine tt 0 25 ?_ hSS ?_ ?_; rotate_left
        · intro W hSW; (try dsimp only at hSW); go_simp; try with_reducible rfl
        simp only [ua, ub, uc, ud]
        refine tt 1 26 ?_ hSS ?_ ?_; rotate_left
        · intro W hSW; (try dsimp only at hSW); go_simp; try with_reducible rfl
        simp only [ua, ub, uc, ud]
        refine tt 2 27 ?_ hSS ?_ ?_; rotate_left
        · intro W hSW; (try dsimp only at hSW); go_simp; try with_reducible rfl
        simp only [ua, ub, uc, ud]
        refine AnyBut.step (i := 3) (by kernel_rfl) rfl (fun K hK => ?_)
        go_simp
        obtain ⟨V, hV⟩ : ∃ V, V = (X.alloc (.cells #[.int .i64 po, .int .i64 pi, .slice x m cap] 48)).drew := ⟨_, rfl⟩
        have hbV : Below X.heap.size X V := by rw [hV]; exact ((Below.refl _ X).alloc (Nat.le_refl _) _).drew
        have hlV : bksN.lies n1 V [.slice (some ⟨X.heap.size, 0, none⟩) 1 1] [(po, pi, pd)] := by
          rw [hV]
          exact bksN.below (one_lies (bk_mk (p := (po, pi, pd)) (HA.out.2.1.below HX.out.1) HA.out.2.2.1 HA.out.2.2.2.1) (by have := HA.out.2.2.2.2.2.2; have := HX.out.1.size; omega)) (Below.refl _ _).drew
        rw [← hV]
        refine hK.out _ _ (HS.out V (HXB.out V hbV).1 (HXB.out V hbV).2.1) ?_
        clear hK hSS hV
        have HCB := cblocks_any n1 (.slice (some ⟨X.heap.size, 0, none⟩) 1 1) [(po, pi, pd)] V hlV ⟨by simp, fun q hq => by
          obtain rfl := List.mem_singleton.1 hq
          have := may_len HMY.out
          omega⟩
        refine AnyBut.step (i := 4) (by kernel_rfl) rfl (fun K hK => ?_)
        go_simp
        refine HCB.mono ?_
        rintro e4 w4 ⟨⟨u4, rfl, ho4⟩, hb4⟩
        dsimp only
        have hb4 : Below X.heap.size X w4 := hbV.trans (hb4.mono hbV.size)
        refine hK.out _ _ (HS.out w4 (HXB.out w4 hb4).1 (HXB.out w4 hb4).2.1) ?_
        clear hK
        obtain ⟨g4, c4, us4, rfl, hu4, hc4⟩ := one_own ho4
        obtain ⟨i3, hi3, hz30, hz31, hz32⟩ := info_parts Try.info48
        have hBX := HX.out.2.2.1
        obtain ⟨g5, c5, w5, hrun, ho5, hg5⟩ := list_append2 bkN 29 Try.underlying29 cells29 hi3 hz30 hz31 hz32 rfl (by decide) (by decide) (cap := c4) (bksN.obelow HX.out.2.2.2.2.1 hb4) (bkN.oweaken hu4 (by have := hbV.size; omega)) hc4 (by have := hb4.size; omega) (by have := HFEW.out; omega) (by have := HFEW.out; unfold maxLen; omega)
        obtain ⟨_, hrow⟩ := bksN_row (bksN.obelow HX.out.2.2.2.2.1 hb4)
        have hbB : Below B X w5 := below_row (hb4.mono hBX) hrow hg5 (by have := hb4.size; omega)
        have hne : ∀ j, j < B → some j ≠ (Value.slice a3 op.length c3).ownBlock := fun j hj => row_ne hrow hj
        have hB3 := HX.out.2.1
        have hx5 := (HXB.out w4 hb4).1.grown hg5 (hne _ (by omega))
        have hy5 := (HXB.out w4 hb4).2.1.grown hg5 (hne _ (by omega))
        have hz5 := (HXB.out w4 hb4).2.2.grown hg5 (hne _ (by omega))
        refine AnyBut.step (i := 5) (by kernel_rfl) rfl (fun K hK => ?_)
        refine step_app rfl _ _ 29 rfl rfl rfl rfl hrun ?_
        refine hK.out _ _ (HS.out w5 hx5 hy5) ?_
        clear hK
        have hSS := HS.out w5 hx5 hy5
        refine tt 6 31 ?_ hSS ?_ ?_; rotate_left
        · intro W hSW; (try dsimp only at hSW); go_simp; try with_reducible rfl
        obtain ⟨z0, z1, z2, z3, j0, j1, j2, j3⟩ := hx5.four
        obtain ⟨Y, hY⟩ : ∃ Y, Y = w5.setCell ⟨w.heap.size, 2, none⟩ (.slice (some ⟨g5, 0, none⟩) (op.length + 1) c5) := ⟨_, rfl⟩
        have hxY : Box Y w.heap.size 31 #[.slice a1 l.length c1, .slice a2 hd.length c2, .slice (some ⟨g5, 0, none⟩) (op.length + 1) c5, .int .i64 nx'] := by rw [hY]; exact hx5.set 2 _
        have hzY : Box Y (w.heap.size + 2) 31 #[.slice none 0 0, .slice none 0 0, .slice none 0 0, .int .i64 0] := by rw [hY]; exact hz5.other (by omega)
        have hyY : Box Y (w.heap.size + 1) 48 #[.int .i64 po, .int .i64 pi, .slice x m cap] := by rw [hY]; exact hy5.other (by omega)
        have hsY : Same (w.heap.size + 1) w5 Y := by rw [hY]; exact .set (by omega)
        have hsgY := HX.out.2.2.2.1 Y (fun k h1 h2 => (hsY k (by have := HX.out.2.2.2.2.2.2; omega) (by have := hbB.size; have := hb4.size; have := hg5.size; omega)).trans (hbB.block k h2))
        have hoY : bksN.owns B Y [.slice (some ⟨g5, 0, none⟩) (op.length + 1) c5] (op ++ [(po, pi, pd)]) := bksN.osame ho5 (by rw [hY]; exact .set (by omega))
        have hbY : Below w.heap.size w Y := by rw [hY]; exact (HX.out.1.trans (hbB.mono (by omega))).setCell (p := ⟨w.heap.size, 2, none⟩) (Nat.le_refl _) _
        have HY : Hid (stN.owns (w.heap.size + 3) Y [.slice a1 l.length c1, .slice a2 hd.length c2, .slice (some ⟨g5, 0, none⟩) (op.length + 1) c5, .int .i64 nx'] (l, hd, op ++ [(po, pi, pd)], nx') ∧ Below w.heap.size w Y) := ⟨st_omkN (s := (l, hd, op ++ [(po, pi, pd)], nx')) (sgsN.oweaken hsgY.1 (by have := HX.out.2.2.2.2.2.2; omega)) (boolsS.oweaken hsgY.2 (by have := HX.out.2.2.2.2.2.2; omega)) (bksN.oweaken hoY hB3) HX.out.2.2.2.2.2.1, hbY⟩
        refine AnyBut.last (by kernel_rfl) (by kernel_rfl) rfl (fun K hK => ?_)
        go_simp
        rw [← hY]
        refine hK.out _ _ ?_
        clear hK hSS
        obtain ⟨q0, q1, q2, q3, -⟩ := hxY.four
        obtain ⟨y0, y1, y2, y3, f0, f1, f2, f3⟩ := hzY.four
        have HPE2 : Hid (∀ U, Same (w.heap.size + 3) Y U → Below w.heap.size w U → post (.returned (.tuple #[.agg #[.slice a1 l.length c1, .slice a2 hd.length c2, .slice (some ⟨g5, 0, none⟩) (op.length + 1) c5, .int .i64 nx'], .int .i64 0])) U) := fun U h1 h2 => HYES.out [_, _, _, _] U HPE.out (stN.oweaken (stN.osame HY.out.1 h1) (by omega)) h2
        have HYB : Hid (Below w.heap.size w Y) := HY.out.2
        clear hY hxY hzY hyY hsY hsgY hoY hbY HY hx5 hy5 hz5 hbB hne hrow hrun ho5 hg5 hu4 hc4 ho4 hb4 hbV hlV HCB z0 z1 z2 z3 j0 j1 j2 j3 hi3 hz30 hz31 hz32 hB3 hBX HX HXB HS
        go_wp2
        refine bodyPost_ret (v := .tuple #[.agg #[.slice a1 l.length c1, .slice a2 hd.length c2, .slice (some ⟨g5, 0, none⟩) (op.length + 1) c5, .int .i64 nx'], .int .i64 0]) (by simp [results, Try.results22, go_sem, *]) rfl ?_
        exact HPE2.out _ (.set4 (by omega)) (below_set4 HYB.out (by omega) _ _ _ _)

end Go.Proofs.Ytkpckadicjdieab
