import Derived.Test.YtkpckadicjdieabLClone
import Derived.Test.YtkpckadicjdieabZ19
import Derived.Test.YtkpckadicjdieabZ22
/-
  What the program's Put answers, for every store and block.
-/
namespace Go.Proofs.Ytkpckadicjdieab
open Go.RowKit

/-! Bounds of a store that may be. -/
theorem Ok.data {s : St} (h : Ok s) : ∀ p ∈ s.1, ∀ b ∈ p.2, mayB b = true := fun p hp b hb => by
  cases hf : freeB p
  · exact List.all_eq_true.1 (h.each p hp hf).1.2.2 b hb
  · have := (free_iff.1 hf).2
    rw [List.eq_nil_of_length_eq_zero this] at hb
    cases hb
theorem may_len {b : Bk} (h : mayB b = true) : b.2.2.length ≤ 32 := (may_iff.1 h).2.2
theorem Ok.fits {s : St} (h : Ok s) : FitsL s := by
  refine ⟨⟨by have := h.slots.2; omega, fun p hp => ⟨by have := h.small p hp; omega, fun b hb => ?_⟩⟩, by have := h.held; have := h.slots.2; omega, by have := h.few; omega, fun b hb => ?_⟩
  · have := may_len (h.data p hp b hb); omega
  · have := may_len (List.all_eq_true.1 h.may b hb); omega
theorem chk_one (b : Bk) : chkB (1, [b]) = mayB b := by
  unfold chkB
  cases h : mayB b <;> simp [h]

/-- One more element, that lies elsewhere in memory of its own, behind the others. -/
theorem list_append2 {α : Type} [Inhabited α] (S : Shape α) (t : TypeId) (ht) (hc) {i : TypeInfo} {z : Value} {bytes : Nat} (hi : Try.prog.info? S.ty = some i) (hz : i.zero = some z) (hsz : i.size = S.size) (hby : i.bytes = bytes) (hzs : z.cells.size = S.size) (h0 : 0 < S.size) (hid : S.ty ∉ S.ids)
    {base : Nat} {wr : World} {v : Value} {l : List α} {ad : Addr} {cap : Nat} {us : List Value} {x : α} (hO : (S.list t ht hc).owns base wr [v] l) (hu : S.owns base wr us x) (hcs : ∀ j u, us[j]? = some u → wr.cell? (ad.add j) = some u) (hb : base ≤ wr.heap.size) (hbytes : (l.length + 1) * bytes ≤ 140737488355328) (hm : l.length + 1 ≤ maxLen) :
    ∃ g cap' w3, (Builtin.append_ #[t, t] t #[v, .slice (some ad) 1 cap]).run Try.prog wr = .ok (.slice (some ⟨g, 0, none⟩) (l.length + 1) cap') w3 ∧
      (S.list t ht hc).owns base w3 [.slice (some ⟨g, 0, none⟩) (l.length + 1) cap'] (l ++ [x]) ∧ wr.grownBy w3 v.ownBlock := by
  obtain ⟨v', vss, hv, hown, hE⟩ := hO
  obtain rfl : v = v' := by simpa using hv
  have hul : us.length = S.size := S.length (S.olies hu)
  obtain ⟨g, cap', w3, h1, h2, h3, _, _⟩ := run_append_lies (P := Try.prog) wr t t base S.ty i z S.size bytes ht hi hz hsz hby hzs h0 v l.length vss.flatten hown ad 1 cap us (by omega) hcs (S.ones (S.olies hu)) (by omega) hm hbytes hb _ rfl
  exact ⟨g, cap', w3, h1, Shape.list_push (S := S) (ht := ht) (hc := hc) hid hE hown hu h3 h2, h3⟩

/-- One block in a slice of its own. -/
theorem one_lies {n : Nat} {w : World} {us : List Value} {b : Bk} (h : bkN.lies n w us b) (hn : n ≤ w.heap.size) : bksN.lies n (w.alloc (.cells us.toArray 48)) [.slice (some ⟨w.heap.size, 0, none⟩) 1 1] [b] := by
  have hl : us.length = 3 := bkN.length h
  refine ⟨_, [us], rfl, ⟨by simp [hl]; rfl, .inr ⟨⟨w.heap.size, 0, none⟩, 1, rfl, Nat.le_refl _, by show 1 ≤ maxLen; unfold maxLen; omega, hn, fun i u hu => ?_⟩⟩, ⟨bkN.below h ((Below.refl _ w).alloc (Nat.le_refl _) _), trivial⟩⟩
  have hB := Box.new w 48 us.toArray
  rw [add_plain]
  have := hB.cell i (u := u) (by simpa using hu)
  simpa using this

/-- One block in memory of its own: where it lies. -/
theorem one_own {n : Nat} {w : World} {v : Value} {b : Bk} (h : bksN.owns n w [v] [b]) : ∃ g cap us, v = .slice (some ⟨g, 0, none⟩) 1 cap ∧ bkN.owns n w us b ∧ ∀ j u, us[j]? = some u → w.cell? ((⟨g, 0, none⟩ : Addr).add j) = some u := by
  obtain ⟨v', vss, hv, hown, hE⟩ := h
  obtain rfl : v = v' := by simpa using hv
  obtain ⟨us, hu, hO⟩ := hE.get (i := 0) (b := b) rfl
  obtain ⟨g, cap, rfl⟩ : ∃ g cap, v = .slice (some ⟨g, 0, none⟩) 1 cap := by
    rcases hown.2 with ⟨_, h0⟩ | ⟨g, cap, cur, h', _⟩
    · simp at h0
    · exact ⟨g, cap, h'⟩
  refine ⟨g, cap, us, rfl, hO, fun j u hj => hown.cells rfl j u ?_⟩
  have := flat_get (size := 3) (vss := vss) (i := 0) (j := j) (us := us) (u := u) (fun us' hus => by
    obtain ⟨_, _, h⟩ := hE.left hus
    exact bkN.length (bkN.olies h)) hu hj
  simpa using this

def s0 : St := ([], [], [], 0)
theorem s0_owns (n : Nat) (w : World) : stN.owns n w [.slice none 0 0, .slice none 0 0, .slice none 0 0, .int .i64 0] s0 := st_nilN n w
/-- What Put answers. -/
def pE (s : St) (b : Bk) : Int := if okB s = false then 9 else if mayB b = false then 1 else if 8 ≤ s.2.2.1.length then 51 else 0
def pS (s : St) (b : Bk) : St := if pE s b = 0 then (s.1, s.2.1, s.2.2.1 ++ [b], s.2.2.2) else s0
/-- A call that answers a store and a number. -/
def TellsS (k : Int) (s' : St) (w : World) (e : Ending) (w' : World) : Prop := (∃ us', e = .returned (.tuple #[.agg us'.toArray, .int .i64 k]) ∧ stN.owns w.heap.size w' us' s') ∧ Below w.heap.size w w'

set_option maxRecDepth 100000 in
set_option maxHeartbeats 8000000 in
theorem put_any (n0 n1 : Nat) (us : List Value) (s : St) (ub : List Value) (p : Bk) (w : World) (h : stN.lies n0 w us s) (hp : bkN.lies n1 w ub p) (h1 : n1 ≤ w.heap.size) :
    Calls Try.prog 22 #[.agg us.toArray, .agg ub.toArray] w (TellsS (pE s p) (pS s p) w) := by
  obtain ⟨a, c, b, d, e, f, rfl, hS, hH, hO, hN, m1, m2, m3⟩ := st_viewN h
  obtain ⟨x, cap, rfl, hA, hpo, hpi⟩ := bk_view hp
  obtain ⟨po, pi, pd⟩ := p
  simp only at hA hpo hpi ⊢
  obtain ⟨post, hpost⟩ : ∃ post : Ending → World → Prop, post = TellsS (pE s (po, pi, pd)) (pS s (po, pi, pd)) w := ⟨_, rfl⟩
  have HNO : Hid (∀ k w', pE s (po, pi, pd) = k → k ≠ 0 → Below w.heap.size w w' → post (.returned (.tuple #[.agg #[.slice none 0 0, .slice none 0 0, .slice none 0 0, .int .i64 0], .int .i64 k])) w') := fun k w' e1 e2 e3 => by
    rw [hpost]
    refine ⟨⟨_, by rw [e1], ?_⟩, e3⟩
    unfold pS
    rw [if_neg (by rw [e1]; exact e2)]
    exact s0_owns _ _
  have HYES : Hid (∀ us' w', pE s (po, pi, pd) = 0 → stN.owns w.heap.size w' us' (s.1, s.2.1, s.2.2.1 ++ [(po, pi, pd)], s.2.2.2) → Below w.heap.size w w' → post (.returned (.tuple #[.agg us'.toArray, .int .i64 0])) w') := fun us' w' e1 e2 e3 => by
    rw [hpost]
    refine ⟨⟨us', by rw [e1], ?_⟩, e3⟩
    unfold pS
    rw [if_pos e1]
    exact e2
  rw [← hpost]
  clear hpost
  obtain ⟨m, hm⟩ : ∃ m, m = pd.length := ⟨_, rfl⟩
  rw [← hm] at hA ⊢
  obtain ⟨n, hn⟩ : ∃ n, n = s.1.length := ⟨_, rfl⟩
  obtain ⟨nh, hnh⟩ : ∃ n, n = s.2.1.length := ⟨_, rfl⟩
  obtain ⟨no, hno⟩ : ∃ n, n = s.2.2.1.length := ⟨_, rfl⟩
  obtain ⟨nx, hnx⟩ : ∃ n, n = s.2.2.2 := ⟨_, rfl⟩
  rw [← hn, ← hnh, ← hno, ← hnx] at h ⊢
  obtain ⟨W, hW⟩ : ∃ W, W = ((w.alloc (.cells #[.slice a n c, .slice b nh d, .slice e no f, .int .i64 nx] 31)).alloc (.cells #[.int .i64 po, .int .i64 pi, .slice x m cap] 48)).alloc (.cells #[.slice none 0 0, .slice none 0 0, .slice none 0 0, .int .i64 0] 31) := ⟨_, rfl⟩
  have hbW : Below w.heap.size w W := by rw [hW]; exact (((Below.refl _ w).alloc (Nat.le_refl _) _).alloc (by simp) _).alloc (by simp; omega) _
  have hB1 : Box W w.heap.size 31 #[.slice a n c, .slice b nh d, .slice e no f, .int .i64 nx] := by rw [hW]; exact ((Box.new _ _ _).alloc _).alloc _
  have hB2 : Box W (w.heap.size + 1) 48 #[.int .i64 po, .int .i64 pi, .slice x m cap] := by
    rw [hW]
    have := Box.new (w.alloc (.cells #[.slice a n c, .slice b nh d, .slice e no f, .int .i64 nx] 31)) 48 #[.int .i64 po, .int .i64 pi, .slice x m cap]
    rw [World.size_alloc] at this
    exact this.alloc _
  have hB3 : Box W (w.heap.size + 2) 31 #[.slice none 0 0, .slice none 0 0, .slice none 0 0, .int .i64 0] := by
    rw [hW]
    have := Box.new ((w.alloc (.cells #[.slice a n c, .slice b nh d, .slice e no f, .int .i64 nx] 31)).alloc (.cells #[.int .i64 po, .int .i64 pi, .slice x m cap] 48)) 31 #[.slice none 0 0, .slice none 0 0, .slice none 0 0, .int .i64 0]
    rwa [World.size_alloc, World.size_alloc] at this
  have HC := checkL_any n0 [.slice a n c, .slice b nh d, .slice e no f, .int .i64 nx] s W (stN.below h hbW)
  have HW : Hid (Below w.heap.size w W ∧ W.heap.size = w.heap.size + 3 ∧ ∀ V, Below W.heap.size W V → Box V w.heap.size 31 #[.slice a n c, .slice b nh d, .slice e no f, .int .i64 nx] ∧ Box V (w.heap.size + 1) 48 #[.int .i64 po, .int .i64 pi, .slice x m cap] ∧ Box V (w.heap.size + 2) 31 #[.slice none 0 0, .slice none 0 0, .slice none 0 0, .int .i64 0]) := ⟨hbW, by rw [hW]; simp, fun V hV => ⟨hB1.below hV hB1.lt, hB2.below hV hB2.lt, hB3.below hV hB3.lt⟩⟩
  have HA : Hid (stN.lies n0 w [.slice a n c, .slice b nh d, .slice e no f, .int .i64 nx] s ∧ Arg n1 w (.slice x m cap) pd ∧ I64 po ∧ I64 pi ∧ m = pd.length ∧ no = s.2.2.1.length ∧ n1 ≤ w.heap.size) := ⟨h, hA, hpo, hpi, hm, hno, h1⟩
  obtain ⟨g0, g1, g2, g3, -⟩ := hB1.four
  rw [hW] at g0 g1 g2 g3
  clear h hp h1 hS hH hO hN m1 m2 m3 hA hpo hpi hbW hB1 hB2 hB3 hm hn hnh hno hnx
  go_enter Try.func22, Try.ntmps22
  go_wp2_with fail
  rw [← hW]
  clear hW g0 g1 g2 g3
  refine HC.mono ?_
  rintro e1 w1 ⟨rfl, hb1⟩
  obtain ⟨hx1, hx2, hx3⟩ := HW.out.2.2 w1 hb1
  have HB1 : Hid (Below W.heap.size W w1) := hb1
  rcases okE_cases s with ⟨hk, hok⟩ | ⟨hk, hok⟩
  case inr =>
    rw [hk]
    obtain ⟨y0, y1, y2, y3, j0, j1, j2, j3⟩ := hx3.four
    have HE := HNO.out 9 ((((w1.setCell ⟨w.heap.size + 2, 0, none⟩ (.slice none 0 0)).setCell ⟨w.heap.size + 2, 1, none⟩ (.slice none 0 0)).setCell ⟨w.heap.size + 2, 2, none⟩ (.slice none 0 0)).setCell ⟨w.heap.size + 2, 3, none⟩ (.int .i64 0)) (by
      have : okB s = false := by cases hb : okB s with | false => rfl | true => exact absurd (ok_iff.1 hb) hok
      unfold pE; rw [if_pos this]) (by decide) (below_set4 (below_any HW.out.1 hb1) (by omega) _ _ _ _)
    have HE : Hid _ := HE
    clear hb1 hx1 hx2 hx3 hok hk
    go_wp2
    refine bodyPost_ret (v := .tuple #[.agg #[.slice none 0 0, .slice none 0 0, .slice none 0 0, .int .i64 0], .int .i64 9]) (by simp [results, Try.results22, go_sem, *]) rfl HE.out
  case inl =>
    rw [hk]
    obtain ⟨q0, q1, q2, -⟩ := hx2.three
    have HOK : Hid (Ok s ∧ okB s = true) := ⟨hok, ok_iff.2 hok⟩
    have hbw1 := below_any HW.out.1 hb1
    obtain ⟨V, hV⟩ : ∃ V, V = w1.alloc (.cells #[.int .i64 po, .int .i64 pi, .slice x m cap] 48) := ⟨_, rfl⟩
    have hL1 : bkN.lies n1 w1 [.int .i64 po, .int .i64 pi, .slice x m cap] (po, pi, pd) := bk_mk (p := (po, pi, pd)) (HA.out.2.1.below hbw1) HA.out.2.2.1 HA.out.2.2.2.1
    have HM := mayStand_any n1 (.slice (some ⟨w1.heap.size, 0, none⟩) 1 1) [(po, pi, pd)] V (by rw [hV]; exact one_lies hL1 (by have := HA.out.2.2.2.2.2.2; have := hbw1.size; omega))
    rw [chk_one] at HM
    have hbV : Below W.heap.size W V := by rw [hV]; exact hb1.alloc hb1.size _
    have HV : Hid (Below W.heap.size W V) := hbV
    clear hk hok hx1 hx2 hx3 hb1 hbw1 hL1 hbV
    cases hmay : mayB (po, pi, pd)
    · rw [hmay] at HM
      go_wp2_with fail
      rw [← hV]
      clear hV
      refine HM.mono ?_
      rintro e2 w2 ⟨rfl, hb2⟩
      have hbw := HV.out.trans (hb2.mono HV.out.size)
      obtain ⟨y0, y1, y2, y3, j0, j1, j2, j3⟩ := (HW.out.2.2 w2 hbw).2.2.four
      have HE := HNO.out 1 ((((w2.setCell ⟨w.heap.size + 2, 0, none⟩ (.slice none 0 0)).setCell ⟨w.heap.size + 2, 1, none⟩ (.slice none 0 0)).setCell ⟨w.heap.size + 2, 2, none⟩ (.slice none 0 0)).setCell ⟨w.heap.size + 2, 3, none⟩ (.int .i64 0)) (by unfold pE; rw [if_neg (by rw [HOK.out.2]; simp), if_pos hmay]) (by decide) (below_set4 (below_any HW.out.1 hbw) (by omega) _ _ _ _)
      have HE : Hid _ := HE
      clear hb2 hbw hmay
      go_wp2
      refine bodyPost_ret (v := .tuple #[.agg #[.slice none 0 0, .slice none 0 0, .slice none 0 0, .int .i64 0], .int .i64 1]) (by simp [results, Try.results22, go_sem, *]) rfl HE.out
    · rw [hmay] at HM
      have HMY : Hid (mayB (po, pi, pd) = true) := hmay
      go_wp2_with fail
      rw [← hV]
      clear hV hmay
      refine HM.mono ?_
      rintro e2 w2 ⟨rfl, hb2⟩
      have hbw := HV.out.trans (hb2.mono HV.out.size)
      have HB2 : Hid (Below W.heap.size W w2) := hbw
      obtain ⟨hx1, hx2, hx3⟩ := HW.out.2.2 w2 hbw
      obtain ⟨z0, z1, z2, z3, i0, i1, i2, i3⟩ := hx1.four
      have hl3 := run_len Try.underlying29 e no f
      clear hb2 hbw HM q0 q1 q2
      by_cases h8 : no = 8
      · have HE := HNO.out 51 ((((w2.setCell ⟨w.heap.size + 2, 0, none⟩ (.slice none 0 0)).setCell ⟨w.heap.size + 2, 1, none⟩ (.slice none 0 0)).setCell ⟨w.heap.size + 2, 2, none⟩ (.slice none 0 0)).setCell ⟨w.heap.size + 2, 3, none⟩ (.int .i64 0)) (by unfold pE; rw [if_neg (by rw [HOK.out.2]; simp), if_neg (by rw [HMY.out]; simp), if_pos (by rw [← HA.out.2.2.2.2.2.1]; omega)]) (by decide) (below_set4 (below_any HW.out.1 HB2.out) (by omega) _ _ _ _)
        have HE : Hid _ := HE
        subst h8
        obtain ⟨y0, y1, y2, y3, j0, j1, j2, j3⟩ := hx3.four
        clear hx1 hx2 hx3
        go_wp2
        refine bodyPost_ret (v := .tuple #[.agg #[.slice none 0 0, .slice none 0 0, .slice none 0 0, .int .i64 0], .int .i64 51]) (by simp [results, Try.results22, go_sem, *]) rfl HE.out
      · have h8i : ((no : Int) == 8) = false := by simp; omega
        have h8j : ¬ (no : Int) = 8 := by omega
        have HCC := copied_any n0 [.slice a n c, .slice b nh d, .slice e no f, .int .i64 nx] s w2 (stN.below HA.out.1 (below_any HW.out.1 HB2.out)) HOK.out.1.fits
        have HPE : Hid (pE s (po, pi, pd) = 0) := by
          show pE _ _ = 0
          unfold pE
          rw [if_neg (by rw [HOK.out.2]; simp), if_neg (by rw [HMY.out]; simp), if_neg (by rw [← HA.out.2.2.2.2.2.1]; have := HOK.out.1.few; have := HA.out.2.2.2.2.2.1; omega)]
        clear hx1 hx2 hx3 h8
        go_wp2_with fail
        refine HCC.mono ?_
        rintro e3 w3 ⟨⟨us3, rfl, ho3⟩, hb3⟩
        obtain ⟨v1, v2, v3, B, rfl, hB0, hB1, hSG, hOP, hNX⟩ := ho3
        obtain ⟨a1, c1, _, hv1, -⟩ := Shape.list_own (S := sgN) (ht := Try.underlying28) (hc := cells28) (hSG w3 (fun _ _ _ => rfl)).1
        obtain ⟨a2, c2, hv2, -⟩ := Leaf.row_len (L := bL) (ht := Try.underlying23) (hc := cells23) (boolsS.olies (hSG w3 (fun _ _ _ => rfl)).2)
        obtain ⟨a3, c3, _, hv3, -⟩ := Shape.list_own (S := bkN) (ht := Try.underlying29) (hc := cells29) hOP
        obtain rfl : v1 = _ := by simpa using hv1
        obtain rfl : v2 = _ := by simpa using hv2
        obtain rfl : v3 = _ := by simpa using hv3
        have hbw3 : Below W.heap.size W w3 := HB2.out.trans (hb3.mono HB2.out.size)
        obtain ⟨hx1, hx2, hx3⟩ := HW.out.2.2 w3 hbw3
        obtain ⟨l, hd, op, nx'⟩ := s
        simp only at hSG hOP hNX hv1 hv2 hv3 ⊢
        obtain ⟨z0', z1', z2', z3', i0', i1', i2', i3'⟩ := hx1.four
        obtain ⟨X, hX⟩ : ∃ X, X = (((w3.setCell ⟨w.heap.size, 0, none⟩ (.slice a1 l.length c1)).setCell ⟨w.heap.size, 1, none⟩ (.slice a2 hd.length c2)).setCell ⟨w.heap.size, 2, none⟩ (.slice a3 op.length c3)).setCell ⟨w.heap.size, 3, none⟩ (.int .i64 nx') := ⟨_, rfl⟩
        have hxX : Box X w.heap.size 31 #[.slice a1 l.length c1, .slice a2 hd.length c2, .slice a3 op.length c3, .int .i64 nx'] := by rw [hX]; exact (((hx1.set 0 _).set 1 _).set 2 _).set 3 _
        have hyX : Box X (w.heap.size + 1) 48 #[.int .i64 po, .int .i64 pi, .slice x m cap] := by rw [hX]; exact (((hx2.other (by omega)).other (by omega)).other (by omega)).other (by omega)
        have hzX : Box X (w.heap.size + 2) 31 #[.slice none 0 0, .slice none 0 0, .slice none 0 0, .int .i64 0] := by rw [hX]; exact (((hx3.other (by omega)).other (by omega)).other (by omega)).other (by omega)
        have hbX : Below w.heap.size w X := by rw [hX]; exact below_set4 (below_any HW.out.1 hbw3) (Nat.le_refl _) _ _ _ _
        have hW3 := HW.out.2.1
        have hw2 : w.heap.size + 3 ≤ w2.heap.size := by have := HB2.out.size; omega
        have hXs : X.heap.size = w3.heap.size := by rw [hX]; simp [World.setCell]
        have hsX : Same (w2.heap.size + 2) w3 X := by rw [hX]; exact .set4 (by omega)
        have HX : Hid (Below w.heap.size w X ∧ w.heap.size + 3 ≤ B ∧ B ≤ X.heap.size ∧ (∀ U : World, (∀ k, w2.heap.size + 2 ≤ k → k < B → U.heap[k]? = X.heap[k]?) → sgsN.owns (w2.heap.size + 2) U [.slice a1 l.length c1] l ∧ boolsS.owns (w2.heap.size + 2) U [.slice a2 hd.length c2] hd) ∧ bksN.owns B X [.slice a3 op.length c3] op ∧ I64 nx' ∧ w.heap.size + 3 ≤ w2.heap.size) := ⟨hbX, by omega, by omega, fun U hU => hSG U (fun k h1 h2 => (hU k h1 h2).trans (hsX k h1 (by omega))), bksN.osame hOP (by rw [hX]; exact .set4 (by omega)), hNX, hw2⟩
        have HXB : Hid (∀ U, Below X.heap.size X U → Box U w.heap.size 31 #[.slice a1 l.length c1, .slice a2 hd.length c2, .slice a3 op.length c3, .int .i64 nx'] ∧ Box U (w.heap.size + 1) 48 #[.int .i64 po, .int .i64 pi, .slice x m cap] ∧ Box U (w.heap.size + 2) 31 #[.slice none 0 0, .slice none 0 0, .slice none 0 0, .int .i64 0]) := fun U hU => ⟨hxX.below hU hxX.lt, hyX.below hU hyX.lt, hzX.below hU hzX.lt⟩
        have HS : Hid (∀ U, Box U w.heap.size 31 #[.slice a1 l.length c1, .slice a2 hd.length c2, .slice a3 op.length c3, .int .i64 nx'] → Box U (w.heap.size + 1) 48 #[.int .i64 po, .int .i64 pi, .slice x m cap] → U.cell? ⟨w.heap.size, 2, none⟩ = some (.slice a3 op.length c3) ∧ U.cell? ⟨w.heap.size + 1, 0, none⟩ = some (.int .i64 po) ∧ U.cell? ⟨w.heap.size + 1, 1, none⟩ = some (.int .i64 pi) ∧ U.cell? ⟨w.heap.size + 1, 2, none⟩ = some (.slice x m cap)) := fun U h1 h2 => ⟨h1.four.2.2.1, h2.three.1, h2.three.2.1, h2.three.2.2.1⟩
        have HFEW : Hid (op.length ≤ 8) := HOK.out.1.few
        go_upto_region 9 with fail
        rw [← hX]
        clear hX hxX hyX hzX hbX hW3 hw2 hXs hsX hSG hOP hNX hv1 hv2 hv3 hb3 hbw3 hx1 hx2 hx3 hB0 hB1 z0 z1 z2 z3 i0 i1 i2 i3 z0' z1' z2' z3' i0' i1' i2' i3' HCC h8i h8j
        refine AnyBut.begin (fun U => U.cell? ⟨w.heap.size, 2, none⟩ = some (.slice a3 op.length c3) ∧ U.cell? ⟨w.heap.size + 1, 0, none⟩ = some (.int .i64 po) ∧ U.cell? ⟨w.heap.size + 1, 1, none⟩ = some (.int .i64 pi) ∧ U.cell? ⟨w.heap.size + 1, 2, none⟩ = some (.slice x m cap)) 7 (by kernel_rfl) ?_
        have hbD : Below X.heap.size X X.drew := (Below.refl _ X).drew
        have hSS := HS.out X.drew (HXB.out X.drew hbD).1 (HXB.out X.drew hbD).2.1
        refine tt 0 25 ?_ hSS ?_ ?_; rotate_left
        · intro W hSW; (try dsimp only at hSW); go_simp; try with_reducible rfl
        simp only [ua, ub, uc, ud]
        refine tt 1 26 ?_ hSS ?_ ?_; rotate_left
        · intro W hSW; (try dsimp only at hSW); go_simp; try with_reducible rfl
        simp only [ua, ub, uc, ud]
        refine tt 2 27 ?_ hSS ?_ ?_; rotate_left
        · intro W hSW; (try dsimp only at hSW); go_simp; try with_reducible rfl
        simp only [ua, ub, uc, ud]
        refine AnyBut.step (i := 3) (by kernel_rfl) rfl (fun K hK => ?_)
        go_simp
        obtain ⟨V, hV⟩ : ∃ V, V = (X.alloc (.cells #[.int .i64 po, .int .i64 pi, .slice x m cap] 48)).drew := ⟨_, rfl⟩
        have hbV : Below X.heap.size X V := by rw [hV]; exact ((Below.refl _ X).alloc (Nat.le_refl _) _).drew
        have hlV : bksN.lies n1 V [.slice (some ⟨X.heap.size, 0, none⟩) 1 1] [(po, pi, pd)] := by
          rw [hV]
          exact bksN.below (one_lies (bk_mk (p := (po, pi, pd)) (HA.out.2.1.below HX.out.1) HA.out.2.2.1 HA.out.2.2.2.1) (by have := HA.out.2.2.2.2.2.2; have := HX.out.1.size; omega)) (Below.refl _ _).drew
        rw [← hV]
        refine hK.out _ _ (HS.out V (HXB.out V hbV).1 (HXB.out V hbV).2.1) ?_
        clear hK hSS hV
        have HCB := cblocks_any n1 (.slice (some ⟨X.heap.size, 0, none⟩) 1 1) [(po, pi, pd)] V hlV ⟨by simp, fun q hq => by
          obtain rfl := List.mem_singleton.1 hq
          have := may_len HMY.out
          omega⟩
        refine AnyBut.step (i := 4) (by kernel_rfl) rfl (fun K hK => ?_)
        go_simp
        refine HCB.mono ?_
        rintro e4 w4 ⟨⟨u4, rfl, ho4⟩, hb4⟩
        dsimp only
        have hb4 : Below X.heap.size X w4 := hbV.trans (hb4.mono hbV.size)
        refine hK.out _ _ (HS.out w4 (HXB.out w4 hb4).1 (HXB.out w4 hb4).2.1) ?_
        clear hK
        obtain ⟨g4, c4, us4, rfl, hu4, hc4⟩ := one_own ho4
        obtain ⟨i3, hi3, hz30, hz31, hz32⟩ := info_parts Try.info48
        have hBX := HX.out.2.2.1
        obtain ⟨g5, c5, w5, hrun, ho5, hg5⟩ := list_append2 bkN 29 Try.underlying29 cells29 hi3 hz30 hz31 hz32 rfl (by decide) (by decide) (cap := c4) (bksN.obelow HX.out.2.2.2.2.1 hb4) (bkN.oweaken hu4 (by have := hbV.size; omega)) hc4 (by have := hb4.size; omega) (by have := HFEW.out; omega) (by have := HFEW.out; unfold maxLen; omega)
        obtain ⟨_, hrow⟩ := bksN_row (bksN.obelow HX.out.2.2.2.2.1 hb4)
        have hbB : Below B X w5 := below_row (hb4.mono hBX) hrow hg5 (by have := hb4.size; omega)
        have hne : ∀ j, j < B → some j ≠ (Value.slice a3 op.length c3).ownBlock := fun j hj => row_ne hrow hj
        have hB3 := HX.out.2.1
        have hx5 := (HXB.out w4 hb4).1.grown hg5 (hne _ (by omega))
        have hy5 := (HXB.out w4 hb4).2.1.grown hg5 (hne _ (by omega))
        have hz5 := (HXB.out w4 hb4).2.2.grown hg5 (hne _ (by omega))
        refine AnyBut.step (i := 5) (by kernel_rfl) rfl (fun K hK => ?_)
        refine step_app rfl _ _ 29 rfl rfl rfl rfl hrun ?_
        refine hK.out _ _ (HS.out w5 hx5 hy5) ?_
        clear hK
        have hSS := HS.out w5 hx5 hy5
        refine tt 6 31 ?_ hSS ?_ ?_; rotate_left
        · intro W hSW; (try dsimp only at hSW); go_simp; try with_reducible rfl
        obtain ⟨z0, z1, z2, z3, j0, j1, j2, j3⟩ := hx5.four
        obtain ⟨Y, hY⟩ : ∃ Y, Y = w5.setCell ⟨w.heap.size, 2, none⟩ (.slice (some ⟨g5, 0, none⟩) (op.length + 1) c5) := ⟨_, rfl⟩
        have hxY : Box Y w.heap.size 31 #[.slice a1 l.length c1, .slice a2 hd.length c2, .slice (some ⟨g5, 0, none⟩) (op.length + 1) c5, .int .i64 nx'] := by rw [hY]; exact hx5.set 2 _
        have hzY : Box Y (w.heap.size + 2) 31 #[.slice none 0 0, .slice none 0 0, .slice none 0 0, .int .i64 0] := by rw [hY]; exact hz5.other (by omega)
        have hyY : Box Y (w.heap.size + 1) 48 #[.int .i64 po, .int .i64 pi, .slice x m cap] := by rw [hY]; exact hy5.other (by omega)
        have hsY : Same (w.heap.size + 1) w5 Y := by rw [hY]; exact .set (by omega)
        have hsgY := HX.out.2.2.2.1 Y (fun k h1 h2 => (hsY k (by have := HX.out.2.2.2.2.2.2; omega) (by have := hbB.size; have := hb4.size; have := hg5.size; omega)).trans (hbB.block k h2))
        have hoY : bksN.owns B Y [.slice (some ⟨g5, 0, none⟩) (op.length + 1) c5] (op ++ [(po, pi, pd)]) := bksN.osame ho5 (by rw [hY]; exact .set (by omega))
        have hbY : Below w.heap.size w Y := by rw [hY]; exact (HX.out.1.trans (hbB.mono (by omega))).setCell (p := ⟨w.heap.size, 2, none⟩) (Nat.le_refl _) _
        have HY : Hid (stN.owns (w.heap.size + 3) Y [.slice a1 l.length c1, .slice a2 hd.length c2, .slice (some ⟨g5, 0, none⟩) (op.length + 1) c5, .int .i64 nx'] (l, hd, op ++ [(po, pi, pd)], nx') ∧ Below w.heap.size w Y) := ⟨st_omkN (s := (l, hd, op ++ [(po, pi, pd)], nx')) (sgsN.oweaken hsgY.1 (by have := HX.out.2.2.2.2.2.2; omega)) (boolsS.oweaken hsgY.2 (by have := HX.out.2.2.2.2.2.2; omega)) (bksN.oweaken hoY hB3) HX.out.2.2.2.2.2.1, hbY⟩
        refine AnyBut.last (by kernel_rfl) (by kernel_rfl) rfl (fun K hK => ?_)
        go_simp
        rw [← hY]
        refine hK.out _ _ ?_
        clear hK hSS
        obtain ⟨q0, q1, q2, q3, -⟩ := hxY.four
        obtain ⟨y0, y1, y2, y3, f0, f1, f2, f3⟩ := hzY.four
        have HPE2 : Hid (∀ U, Same (w.heap.size + 3) Y U → Below w.heap.size w U → post (.returned (.tuple #[.agg #[.slice a1 l.length c1, .slice a2 hd.length c2, .slice (some ⟨g5, 0, none⟩) (op.length + 1) c5, .int .i64 nx'], .int .i64 0])) U) := fun U h1 h2 => HYES.out [_, _, _, _] U HPE.out (stN.oweaken (stN.osame HY.out.1 h1) (by omega)) h2
        have HYB : Hid (Below w.heap.size w Y) := HY.out.2
        clear hY hxY hzY hyY hsY hsgY hoY hbY HY hx5 hy5 hz5 hbB hne hrow hrun ho5 hg5 hu4 hc4 ho4 hb4 hbV hlV HCB z0 z1 z2 z3 j0 j1 j2 j3 hi3 hz30 hz31 hz32 hB3 hBX HX HXB HS
        go_wp2
        refine bodyPost_ret (v := .tuple #[.agg #[.slice a1 l.length c1, .slice a2 hd.length c2, .slice (some ⟨g5, 0, none⟩) (op.length + 1) c5, .int .i64 nx'], .int .i64 0]) (by simp [results, Try.results22, go_sem, *]) rfl ?_
        exact HPE2.out _ (.set4 (by omega)) (below_set4 HYB.out (by omega) _ _ _ _)

end Go.Proofs.Ytkpckadicjdieab

/-
  What the program's Seal answers, for every store.
-/
namespace Go.Proofs.Ytkpckadicjdieab
open Go.RowKit

/-! The lowest slot that is free and not held. -/
def lowAt : List Sg → List Bool → Nat
  | p :: l, h :: hd => if (freeB p && !h) = true then 0 else lowAt l hd + 1
  | _, _ => 0
def tst (l : List Sg) (hd : List Bool) (j : Nat) : Bool := ((l[j]?).map freeB).getD false && !(hd[j]?).getD true
theorem low_at : ∀ {l : List Sg} {hd : List Bool} {k : Nat}, (∀ j, j < k → tst l hd j = false) → tst l hd k = true → lowAt l hd = k
  | [], _, k, _, h => by simp [tst] at h
  | _ :: _, [], k, _, h => by simp [tst] at h
  | p :: l, x :: hd, 0, _, h => by simp [tst] at h; simp [lowAt, h]
  | p :: l, x :: hd, k + 1, h0, h => by
    have h1 := h0 0 (by omega)
    have h1' : (freeB p && !x) = false := by simpa [tst] using h1
    unfold lowAt
    rw [if_neg (by rw [h1']; simp), low_at (k := k) (fun j hj => by have := h0 (j + 1) (by omega); simpa [tst] using this) (by simpa [tst] using h)]
theorem low_none : ∀ {l : List Sg} {hd : List Bool}, hd.length = l.length → (∀ j, j < l.length → tst l hd j = false) → lowAt l hd = l.length
  | [], hd, _, _ => by simp [lowAt]
  | p :: l, [], h, _ => by simp at h
  | p :: l, x :: hd, h, h0 => by
    have h1 := h0 0 (by simp)
    have h1' : (freeB p && !x) = false := by simpa [tst] using h1
    unfold lowAt
    rw [if_neg (by rw [h1']; simp), low_none (by simpa using h) (fun j hj => by have := h0 (j + 1) (by simp; omega); simpa [tst] using this)]
    rfl
theorem tst_at {l : List Sg} {hd : List Bool} {k : Nat} {p : Sg} {x : Bool} (h1 : l[k]? = some p) (h2 : hd[k]? = some x) : tst l hd k = (freeB p && !x) := by simp [tst, h1, h2]

set_option maxRecDepth 100000 in
set_option maxHeartbeats 4000000 in
theorem lowest_any (n0 : Nat) (us : List Value) (s : St) (w : World) (h : stN.lies n0 w us s) (hh : s.2.1.length = s.1.length) :
    Calls Try.prog 56 #[.agg us.toArray] w fun e w' => e = .returned (.tuple #[.int .i64 ((if lowAt s.1 s.2.1 < s.1.length then lowAt s.1 s.2.1 else 0 : Nat)), .bool (decide (lowAt s.1 s.2.1 < s.1.length))]) ∧ Below w.heap.size w w' := by
  obtain ⟨a, c, b, d, e, f, rfl, hS, hH, hO, hN, m1, m2, m3⟩ := st_viewN h
  obtain ⟨l, hd, op, nx⟩ := s
  simp only at hS hH hO hN m1 m2 m3 hh ⊢
  unfold maxLen at m1 m2 m3
  obtain ⟨post, hpost⟩ : ∃ post : Ending → World → Prop, post = fun e w' => e = .returned (.tuple #[.int .i64 ((if lowAt l hd < l.length then lowAt l hd else 0 : Nat)), .bool (decide (lowAt l hd < l.length))]) ∧ Below w.heap.size w w' := ⟨_, rfl⟩
  have HYES : Hid (∀ (k : Nat) w', lowAt l hd = k → k < l.length → Below w.heap.size w w' → post (.returned (.tuple #[.int .i64 k, .bool true])) w') := fun k w' e1 e2 e3 => by
    rw [hpost]
    exact ⟨by rw [e1, if_pos e2, decide_eq_true e2], e3⟩
  have HNO : Hid (∀ w', lowAt l hd = l.length → Below w.heap.size w w' → post (.returned (.tuple #[.int .i64 0, .bool false])) w') := fun w' e1 e3 => by
    rw [hpost]
    exact ⟨by rw [e1, if_neg (Nat.lt_irrefl _), decide_eq_false (Nat.lt_irrefl _)]; rfl, e3⟩
  rw [← hpost]
  clear hpost
  obtain ⟨n, hn⟩ : ∃ n, n = l.length := ⟨_, rfl⟩
  obtain ⟨no, hno⟩ : ∃ n, n = op.length := ⟨_, rfl⟩
  rw [hh, ← hn, ← hno]
  rw [← hn] at m1
  have HN : Hid (n = l.length ∧ hd.length = l.length) := ⟨hn, hh⟩
  have HA : Hid (sgsN.lies n0 w [.slice a n c] l ∧ boolsS.lies n0 w [.slice b n d] hd) := ⟨by rw [hn]; exact hS, by rw [hn, ← hh]; exact hH⟩
  have hl1 := run_len Try.underlying28 a n c
  obtain ⟨W, hW⟩ : ∃ W, W = w.alloc (.cells #[.slice a n c, .slice b n d, .slice e no f, .int .i64 nx] 31) := ⟨_, rfl⟩
  have hbW : Below w.heap.size w W := by rw [hW]; exact (Below.refl _ w).alloc (Nat.le_refl _) _
  have hB1 : Box W w.heap.size 31 #[.slice a n c, .slice b n d, .slice e no f, .int .i64 nx] := by rw [hW]; exact Box.new _ _ _
  have HW : Hid (Below w.heap.size w W ∧ Box W w.heap.size 31 #[.slice a n c, .slice b n d, .slice e no f, .int .i64 nx]) := ⟨hbW, hB1⟩
  obtain ⟨g0, g1, g2, g3, -⟩ := hB1.four
  rw [hW] at g0 g1 g2 g3
  clear h hS hH hO hN hbW hB1 hn hno hh m2 m3
  go_enter Try.func56, Try.ntmps56
  go_wp2
  rw [← hW]
  clear g0 g1 g2 g3 hW
  go_loopw [9] (fun i wr => ∃ k : Nat, k ≤ n ∧ i = .int .i64 k ∧ Hid ((∀ j, j < k → tst l hd j = false) ∧ Below W.heap.size W wr)) (fun i _ => n - (intOf i).toNat)
  case atStart => exact ⟨0, Nat.zero_le _, rfl, fun j hj => by omega, Below.refl _ _⟩
  case round =>
    obtain ⟨k, hk, rfl, HJ⟩ := hrel
    by_cases hlt : k < n
    · obtain ⟨p, hp⟩ := get_lt (l := l) (k := k) (by rw [← HN.out.1]; exact hlt)
      obtain ⟨x, hx⟩ := get_lt (l := hd) (k := k) (by have := HN.out; omega)
      have hbr := below_any HW.out.1 HJ.out.2
      obtain ⟨pb, po, xx, cap, hix, c0, c1, hL, _⟩ := sgs_atN (sgsN.below HA.out.1 hbr) k p hp
      obtain ⟨hb, ho, hix2, _, hc⟩ := bools_at HA.out.2 k x hx
      have hki : (k : Int) < (n : Int) := by omega
      have HT : Hid (tst l hd k = (freeB p && !x)) := tst_at hp hx
      obtain ⟨q, pl⟩ := p
      simp only at c0 c1
      obtain ⟨m, hm⟩ : ∃ m, m = pl.length := ⟨_, rfl⟩
      rw [← hm] at c1
      obtain ⟨V, hV⟩ : ∃ V, V = wr.alloc (.cells #[.int .i64 q, .slice xx m cap] 45) := ⟨_, rfl⟩
      have hbV : Below W.heap.size W V := by rw [hV]; exact HJ.out.2.alloc HJ.out.2.size _
      have hxV : Box V wr.heap.size 45 #[.int .i64 q, .slice xx m cap] := by rw [hV]; exact Box.new _ _ _
      have HC := isFree_any q xx m cap V
      have HFR : Hid (freeB (q, pl) = (decide (q = 0) && decide (m = 0))) := by show freeB _ = _; rw [hm]; rfl
      obtain ⟨fr, hfr⟩ : ∃ fr, fr = freeB (q, pl) := ⟨_, rfl⟩
      rw [← HFR.out, ← hfr] at HC
      rw [← hfr] at HT
      have HV : Hid (Below W.heap.size W V ∧ ∀ U, Below W.heap.size W U → U.cell? ⟨w.heap.size, 1, none⟩ = some (.slice b n d) ∧ U.cell? ⟨hb, ho, none⟩ = some (.bool x)) := ⟨hbV, fun U hU => ⟨((HW.out.2.below hU HW.out.2.lt).four).2.1, by rw [(below_any HW.out.1 hU).cell (cell_lt hc)]; exact hc⟩⟩
      obtain ⟨v0, v1, -⟩ := hxV.two
      clear hp hx hL hbr hm hbV hxV hfr HFR hc
      go_upto_region 4 with fail
      rw [← hV]
      clear hV hix c0 c1
      cases fr with
      | false =>
        go_wp2_with fail
        refine HC.mono ?_
        rintro e2 w2 ⟨rfl, hb2⟩
        have HJ2 : Hid ((∀ j, j < k + 1 → tst l hd j = false) ∧ Below W.heap.size W w2) := ⟨fun j hj => by
          by_cases ej : j = k
          · rw [ej, HT.out]; rfl
          · exact HJ.out.1 j (by omega), HV.out.1.trans (hb2.mono HV.out.1.size)⟩
        clear hb2 v0 v1 hix2
        go_wp2
        go_roundw
        case rel => exact ⟨k + 1, by omega, by go_num, HJ2.out⟩
        case measure => simp [intOf]; omega
      | true =>
        cases x with
        | true =>
          go_wp2_with fail
          refine HC.mono ?_
          rintro e2 w2 ⟨rfl, hb2⟩
          have hbw := HV.out.1.trans (hb2.mono HV.out.1.size)
          obtain ⟨z1, z2⟩ := HV.out.2 w2 hbw
          have HJ2 : Hid ((∀ j, j < k + 1 → tst l hd j = false) ∧ Below W.heap.size W w2) := ⟨fun j hj => by
            by_cases ej : j = k
            · rw [ej, HT.out]; rfl
            · exact HJ.out.1 j (by omega), hbw⟩
          clear hb2 v0 v1 hbw
          go_wp2
          go_roundw
          case rel => exact ⟨k + 1, by omega, by go_num, HJ2.out⟩
          case measure => simp [intOf]; omega
        | false =>
          go_wp2_with fail
          refine HC.mono ?_
          rintro e2 w2 ⟨rfl, hb2⟩
          have hbw := HV.out.1.trans (hb2.mono HV.out.1.size)
          obtain ⟨z1, z2⟩ := HV.out.2 w2 hbw
          have HE : Hid (post (.returned (.tuple #[.int .i64 k, .bool true])) w2) := HYES.out k w2 (low_at HJ.out.1 (by rw [HT.out]; rfl)) (by have := HN.out.1; omega) (below_any HW.out.1 hbw)
          clear hb2 v0 v1 hbw
          go_wp2
          exact HE.out
    · obtain rfl : k = n := by omega
      have HE : Hid (post (.returned (.tuple #[.int .i64 0, .bool false])) wr) := HNO.out wr (low_none HN.out.2 (by rw [← HN.out.1]; exact HJ.out.1)) (below_any HW.out.1 HJ.out.2)
      go_wp2
      exact HE.out

/-- A segment in a row of its own: where it lies, and what a store makes of the row. -/
theorem sgs_set {n : Nat} {w : World} {v : Value} {l : List Sg} (h : sgsN.owns n w [v] l) (i : Nat) (hi : i < l.length) :
    ∃ g cap, v = .slice (some ⟨g, 0, none⟩) l.length cap ∧ n ≤ g ∧ g < w.heap.size ∧ (∀ W, (Instr.indexAt 28 v (.int .i64 i)).run Try.prog W = .ok (.pointer (some ⟨g, i * 2, none⟩)) W) ∧ (∃ u0 u1, w.cell? ⟨g, i * 2, none⟩ = some u0 ∧ w.cell? ⟨g, i * 2 + 1, none⟩ = some u1) ∧ w.frozen? ⟨g, i * 2, none⟩ = false ∧ w.frozen? ⟨g, i * 2 + 1, none⟩ = false ∧
      ∀ q u bl, I64 q → bksN.owns n w [u] bl → sgsN.owns n ((w.setCell ⟨g, i * 2, none⟩ (.int .i64 q)).setCell ⟨g, i * 2 + 1, none⟩ u) [v] (l.set i (q, bl)) ∧ w.grownBy ((w.setCell ⟨g, i * 2, none⟩ (.int .i64 q)).setCell ⟨g, i * 2 + 1, none⟩ u) (some g) ∧ Clear w (some g) [4, 48, 5] := by
  obtain ⟨i0, hi0, _, hz, _⟩ := info_parts Try.info45
  obtain ⟨v', vss, hv, hC, hE⟩ := h
  obtain rfl : v = v' := by simpa using hv
  obtain ⟨g, cap, rfl⟩ : ∃ g cap, v = .slice (some ⟨g, 0, none⟩) l.length cap := by
    rcases hC.2 with ⟨_, h0⟩ | ⟨g, cap, cur, h', _⟩
    · omega
    · exact ⟨g, cap, h'⟩
  have hob : (Value.slice (some ⟨g, 0, none⟩) l.length cap).ownBlock = some g := rfl
  have hlt := hC.lt g hob
  have hsz : ∀ us ∈ vss, us.length = 2 := fun us h => by
    obtain ⟨q, _, hq⟩ := hE.left h
    exact sgN.length (sgN.olies hq)
  obtain ⟨p, hp⟩ := get_lt (l := l) (k := i) hi
  obtain ⟨us, hu, hO⟩ := hE.get hp
  obtain ⟨a, c, rfl, _⟩ := sg_ownN hO
  refine ⟨g, cap, rfl, hlt.1, hlt.2, fun W => ?_, ⟨.int .i64 p.1, .slice a p.2.length c, ?_, ?_⟩, hC.frozenAt _, hC.frozenAt _, fun q u bl hq hb => ?_⟩
  · have := run_index (size := 2) Try.underlying28 hi0 hz g 0 l.length cap i hi W
    simpa using this
  · have hc := hC.cells hob (i * 2 + 0) (.int .i64 p.1) (flat_get hsz hu rfl)
    rwa [add_plain, Nat.zero_add] at hc
  · have hc := hC.cells hob (i * 2 + 1) (.slice a p.2.length c) (flat_get hsz hu rfl)
    rwa [add_plain, Nat.zero_add] at hc
  · obtain ⟨h1, h2⟩ := hC.stored (i * 2 + 0) (.int .i64 q)
    rw [flat_set hsz hu (by omega)] at h1
    obtain ⟨h3, h4⟩ := h1.stored (i * 2 + 1) u
    rw [flat_set (us := [.int .i64 q, .slice a p.2.length c]) (fun x hx => by
      rcases List.mem_or_eq_of_mem_set hx with hx | hx
      · exact hsz x hx
      · rw [hx]; rfl) (by rw [List.getElem?_set_self (by rw [hE.length]; exact hi)]; rfl) (by omega), List.set_set] at h3
    have hg : w.grownBy ((w.setCell ⟨g, i * 2, none⟩ (.int .i64 q)).setCell ⟨g, i * 2 + 1, none⟩ u) (some g) := grown_trans h2 h4
    have hcl : ∀ ids, 45 ∉ ids → Clear w (some g) ids := fun ids h => by rw [← hob]; exact .own hC h
    have kp : ∀ x y, sgN.owns n w x y → sgN.owns n ((w.setCell ⟨g, i * 2, none⟩ (.int .i64 q)).setCell ⟨g, i * 2 + 1, none⟩ u) x y := fun x y h => sgN.ogrown h hg (hcl _ (by decide))
    refine ⟨⟨_, vss.set i [.int .i64 q, u], rfl, by rw [List.length_set]; exact h3, ?_⟩, hg, hcl _ (by decide)⟩
    refine each_of (by rw [List.length_set, List.length_set, hE.length]) fun j x y hx hy => ?_
    by_cases ej : j = i
    · subst ej
      rw [List.getElem?_set_self (by rw [hE.length]; exact hi)] at hx
      rw [List.getElem?_set_self hi] at hy
      obtain rfl := Option.some.inj hx
      obtain rfl := Option.some.inj hy
      exact kp _ _ (sg_omkN (s := (q, bl)) hb hq)
    · rw [List.getElem?_set_ne (by omega)] at hx hy
      obtain ⟨us', h5, h6⟩ := hE.get hy
      rw [hx] at h5
      obtain rfl := Option.some.inj h5
      exact kp _ _ h6

def sE (s : St) : Int := if okB s = false then 9 else if s.2.2.1.length = 0 then 71 else if s.1.length ≤ lowAt s.1 s.2.1 ∨ 1099511627776 ≤ s.2.2.2 then 51 else 0
def sS (s : St) : St := if sE s = 0 then (s.1.set (lowAt s.1 s.2.1) (s.2.2.2, s.2.2.1), s.2.1, [], s.2.2.2 + 1) else s0
def sP (s : St) : Nat := if sE s = 0 then lowAt s.1 s.2.1 else 0
def TellsP (k : Int) (p : Nat) (s' : St) (w : World) (e : Ending) (w' : World) : Prop := (∃ us', e = .returned (.tuple #[.agg us'.toArray, .int .i64 p, .int .i64 k]) ∧ stN.owns w.heap.size w' us' s') ∧ Below w.heap.size w w'

set_option maxRecDepth 100000 in
set_option maxHeartbeats 8000000 in
theorem seal_any (n0 : Nat) (us : List Value) (s : St) (w : World) (h : stN.lies n0 w us s) :
    Calls Try.prog 23 #[.agg us.toArray] w (TellsP (sE s) (sP s) (sS s) w) := by
  obtain ⟨a, c, b, d, e, f, rfl, hS, hH, hO, hN, m1, m2, m3⟩ := st_viewN h
  obtain ⟨post, hpost⟩ : ∃ post : Ending → World → Prop, post = TellsP (sE s) (sP s) (sS s) w := ⟨_, rfl⟩
  have HNO : Hid (∀ k w', sE s = k → k ≠ 0 → Below w.heap.size w w' → post (.returned (.tuple #[.agg #[.slice none 0 0, .slice none 0 0, .slice none 0 0, .int .i64 0], .int .i64 0, .int .i64 k])) w') := fun k w' e1 e2 e3 => by
    rw [hpost]
    refine ⟨⟨_, by unfold sP; rw [e1, if_neg e2]; rfl, ?_⟩, e3⟩
    unfold sS
    rw [if_neg (by rw [e1]; exact e2)]
    exact s0_owns _ _
  have HYES : Hid (∀ us' w', sE s = 0 → stN.owns w.heap.size w' us' (s.1.set (lowAt s.1 s.2.1) (s.2.2.2, s.2.2.1), s.2.1, [], s.2.2.2 + 1) → Below w.heap.size w w' → post (.returned (.tuple #[.agg us'.toArray, .int .i64 (lowAt s.1 s.2.1), .int .i64 0])) w') := fun us' w' e1 e2 e3 => by
    rw [hpost]
    refine ⟨⟨us', by unfold sP; rw [e1, if_pos rfl], ?_⟩, e3⟩
    unfold sS
    rw [if_pos e1]
    exact e2
  rw [← hpost]
  clear hpost
  obtain ⟨n, hn⟩ : ∃ n, n = s.1.length := ⟨_, rfl⟩
  obtain ⟨nh, hnh⟩ : ∃ n, n = s.2.1.length := ⟨_, rfl⟩
  obtain ⟨no, hno⟩ : ∃ n, n = s.2.2.1.length := ⟨_, rfl⟩
  obtain ⟨nx, hnx⟩ : ∃ n, n = s.2.2.2 := ⟨_, rfl⟩
  rw [← hn, ← hnh, ← hno, ← hnx] at h ⊢
  obtain ⟨W, hW⟩ : ∃ W, W = (w.alloc (.cells #[.slice a n c, .slice b nh d, .slice e no f, .int .i64 nx] 31)).alloc (.cells #[.slice none 0 0, .slice none 0 0, .slice none 0 0, .int .i64 0] 31) := ⟨_, rfl⟩
  have hbW : Below w.heap.size w W := by rw [hW]; exact ((Below.refl _ w).alloc (Nat.le_refl _) _).alloc (by simp) _
  have hB1 : Box W w.heap.size 31 #[.slice a n c, .slice b nh d, .slice e no f, .int .i64 nx] := by rw [hW]; exact (Box.new _ _ _).alloc _
  have hB2 : Box W (w.heap.size + 1) 31 #[.slice none 0 0, .slice none 0 0, .slice none 0 0, .int .i64 0] := by
    rw [hW]
    have := Box.new (w.alloc (.cells #[.slice a n c, .slice b nh d, .slice e no f, .int .i64 nx] 31)) 31 #[.slice none 0 0, .slice none 0 0, .slice none 0 0, .int .i64 0]
    rwa [World.size_alloc] at this
  have HC := checkL_any n0 [.slice a n c, .slice b nh d, .slice e no f, .int .i64 nx] s W (stN.below h hbW)
  have HW : Hid (Below w.heap.size w W ∧ W.heap.size = w.heap.size + 2 ∧ ∀ V, Below W.heap.size W V → Box V w.heap.size 31 #[.slice a n c, .slice b nh d, .slice e no f, .int .i64 nx] ∧ Box V (w.heap.size + 1) 31 #[.slice none 0 0, .slice none 0 0, .slice none 0 0, .int .i64 0]) := ⟨hbW, by rw [hW]; simp, fun V hV => ⟨hB1.below hV hB1.lt, hB2.below hV hB2.lt⟩⟩
  have HA : Hid (stN.lies n0 w [.slice a n c, .slice b nh d, .slice e no f, .int .i64 nx] s ∧ no = s.2.2.1.length ∧ nx = s.2.2.2 ∧ I64 nx) := ⟨h, hno, hnx, by rw [hnx]; exact hN⟩
  have hl3 := run_len Try.underlying29 e no f
  obtain ⟨g0, g1, g2, g3, -⟩ := hB1.four
  rw [hW] at g0 g1 g2 g3
  clear h hS hH hO hN m1 m2 m3 hbW hB1 hB2 hn hnh hno hnx
  go_enter Try.func23, Try.ntmps23
  go_wp2_with fail
  rw [← hW]
  clear hW g0 g1 g2 g3
  refine HC.mono ?_
  rintro e1 w1 ⟨rfl, hb1⟩
  obtain ⟨hx1, hx3⟩ := HW.out.2.2 w1 hb1
  have HB1 : Hid (Below W.heap.size W w1) := hb1
  rcases okE_cases s with ⟨hk, hok⟩ | ⟨hk, hok⟩
  case inr =>
    rw [hk]
    obtain ⟨y0, y1, y2, y3, j0, j1, j2, j3⟩ := hx3.four
    have HE := HNO.out 9 ((((w1.setCell ⟨w.heap.size + 1, 0, none⟩ (.slice none 0 0)).setCell ⟨w.heap.size + 1, 1, none⟩ (.slice none 0 0)).setCell ⟨w.heap.size + 1, 2, none⟩ (.slice none 0 0)).setCell ⟨w.heap.size + 1, 3, none⟩ (.int .i64 0)) (by
      have : okB s = false := by cases hb : okB s with | false => rfl | true => exact absurd (ok_iff.1 hb) hok
      unfold sE; rw [if_pos this]) (by decide) (below_set4 (below_any HW.out.1 hb1) (by omega) _ _ _ _)
    have HE : Hid _ := HE
    clear hb1 hx1 hx3 hok hk
    go_wp2
    refine bodyPost_ret (v := .tuple #[.agg #[.slice none 0 0, .slice none 0 0, .slice none 0 0, .int .i64 0], .int .i64 0, .int .i64 9]) (by simp [results, Try.results23, go_sem, *]) rfl HE.out
  case inl =>
    rw [hk]
    obtain ⟨q0, q1, q2, q3, -⟩ := hx1.four
    have HOK : Hid (Ok s ∧ okB s = true) := ⟨hok, ok_iff.2 hok⟩
    clear hk hok hx1 hb1
    by_cases h0 : no = 0
    · have HE := HNO.out 71 ((((w1.setCell ⟨w.heap.size + 1, 0, none⟩ (.slice none 0 0)).setCell ⟨w.heap.size + 1, 1, none⟩ (.slice none 0 0)).setCell ⟨w.heap.size + 1, 2, none⟩ (.slice none 0 0)).setCell ⟨w.heap.size + 1, 3, none⟩ (.int .i64 0)) (by unfold sE; rw [if_neg (by rw [HOK.out.2]; simp), if_pos (by rw [← HA.out.2.1]; exact h0)]) (by decide) (below_set4 (below_any HW.out.1 HB1.out) (by omega) _ _ _ _)
      have HE : Hid _ := HE
      subst h0
      obtain ⟨y0, y1, y2, y3, j0, j1, j2, j3⟩ := hx3.four
      clear hx3
      go_wp2
      refine bodyPost_ret (v := .tuple #[.agg #[.slice none 0 0, .slice none 0 0, .slice none 0 0, .int .i64 0], .int .i64 0, .int .i64 71]) (by simp [results, Try.results23, go_sem, *]) rfl HE.out
    · have h0i : ((no : Int) == 0) = false := by simp; omega
      have h0j : ¬ (no : Int) = 0 := by omega
      have HCL := lowest_any n0 [.slice a n c, .slice b nh d, .slice e no f, .int .i64 nx] s w1 (stN.below HA.out.1 (below_any HW.out.1 HB1.out)) HOK.out.1.held
      obtain ⟨lo, hlo⟩ : ∃ lo, lo = lowAt s.1 s.2.1 := ⟨_, rfl⟩
      have HLO : Hid (lo = lowAt s.1 s.2.1) := hlo
      rw [← hlo] at HCL HYES
      have H0 : Hid (¬ s.2.2.1.length = 0) := show ¬ _ by rw [← HA.out.2.1]; exact h0
      clear hx3 h0 hlo
      by_cases hlt : lo < s.1.length
      · rw [if_pos hlt, decide_eq_true hlt] at HCL
        go_wp2_with fail
        refine HCL.mono ?_
        rintro e2 w2 ⟨rfl, hb2⟩
        have HB2 : Hid (Below W.heap.size W w2) := HB1.out.trans (hb2.mono HB1.out.size)
        obtain ⟨hx1, hx3⟩ := HW.out.2.2 w2 HB2.out
        obtain ⟨z0, z1, z2, z3, i0, i1, i2, i3⟩ := hx1.four
        have HLT : Hid (lo < s.1.length) := hlt
        clear hb2 q0 q1 q2 q3 HCL hlt
        by_cases hmx : nx = 1099511627776
        · have HE := HNO.out 51 ((((w2.setCell ⟨w.heap.size + 1, 0, none⟩ (.slice none 0 0)).setCell ⟨w.heap.size + 1, 1, none⟩ (.slice none 0 0)).setCell ⟨w.heap.size + 1, 2, none⟩ (.slice none 0 0)).setCell ⟨w.heap.size + 1, 3, none⟩ (.int .i64 0)) (by unfold sE; rw [if_neg (by rw [HOK.out.2]; simp), if_neg H0.out, if_pos (.inr (by rw [← HA.out.2.2.1]; omega))]) (by decide) (below_set4 (below_any HW.out.1 HB2.out) (by omega) _ _ _ _)
          have HE : Hid _ := HE
          subst hmx
          obtain ⟨y0, y1, y2, y3, j0, j1, j2, j3⟩ := hx3.four
          clear hx1 hx3
          go_wp2
          refine bodyPost_ret (v := .tuple #[.agg #[.slice none 0 0, .slice none 0 0, .slice none 0 0, .int .i64 0], .int .i64 0, .int .i64 51]) (by simp [results, Try.results23, go_sem, *]) rfl HE.out
        · have hmi : (nx == 1099511627776) = false := by simp [hmx]
          have HNX : Hid (nx < 1099511627776 ∧ 1 ≤ nx) := ⟨by have := HOK.out.1.next.2; have := HA.out.2.2.1; omega, by have := HOK.out.1.next.1; have := HA.out.2.2.1; omega⟩
          have HSE : Hid (sE s = 0) := by
            show sE s = 0
            unfold sE
            rw [if_neg (by rw [HOK.out.2]; simp), if_neg H0.out, if_neg (by have := HNX.out; have := HLO.out; have := HLT.out; have := HA.out.2.2.1; omega)]
          have HCC := copied_any n0 [.slice a n c, .slice b nh d, .slice e no f, .int .i64 nx] s w2 (stN.below HA.out.1 (below_any HW.out.1 HB2.out)) HOK.out.1.fits
          clear hx1 hx3 
          go_wp2_with fail
          refine HCC.mono ?_
          rintro e3 w3 ⟨⟨us3, rfl, ho3⟩, hb3⟩
          replace ho3 := ho3.owns
          obtain ⟨l, hd, op, nx'⟩ := s
          obtain ⟨a1, c1, a2, c2, a3, c3, rfl, hs1, hs2, hs3, hI⟩ := st_ownN ho3
          simp only at hs1 hs2 hs3 hI ⊢
          have hbw3 : Below W.heap.size W w3 := HB2.out.trans (hb3.mono HB2.out.size)
          obtain ⟨hx1, hx3⟩ := HW.out.2.2 w3 hbw3
          obtain ⟨r0, r1, r2, r3, k0, k1, k2, k3⟩ := hx1.four
          obtain ⟨X, hX⟩ : ∃ X, X = (((w3.setCell ⟨w.heap.size, 0, none⟩ (.slice a1 l.length c1)).setCell ⟨w.heap.size, 1, none⟩ (.slice a2 hd.length c2)).setCell ⟨w.heap.size, 2, none⟩ (.slice a3 op.length c3)).setCell ⟨w.heap.size, 3, none⟩ (.int .i64 nx') := ⟨_, rfl⟩
          have hxX : Box X w.heap.size 31 #[.slice a1 l.length c1, .slice a2 hd.length c2, .slice a3 op.length c3, .int .i64 nx'] := by rw [hX]; exact (((hx1.set 0 _).set 1 _).set 2 _).set 3 _
          have hzX : Box X (w.heap.size + 1) 31 #[.slice none 0 0, .slice none 0 0, .slice none 0 0, .int .i64 0] := by rw [hX]; exact (((hx3.other (by omega)).other (by omega)).other (by omega)).other (by omega)
          have hbX : Below w.heap.size w X := by rw [hX]; exact below_set4 (below_any HW.out.1 hbw3) (Nat.le_refl _) _ _ _ _
          have hW2 := HW.out.2.1
          have hw2 : w.heap.size + 2 ≤ w2.heap.size := by have := HB2.out.size; omega
          have hsX : Same (w2.heap.size + 2) w3 X := by rw [hX]; exact .set4 (by omega)
          have hg1 := sgsN.osame hs1 hsX
          have hg2 := boolsS.osame hs2 hsX
          have hg3 := bksN.osame hs3 hsX
          obtain ⟨g, cap, hv, hgB, hgl, hix, ⟨u0, u1, cc0, cc1⟩, ff0, ff1, hst⟩ := sgs_set hg1 lo HLT.out
          obtain ⟨rfl, rfl⟩ : a1 = some ⟨g, 0, none⟩ ∧ c1 = cap := by simpa using hv
          obtain ⟨hY1, hYg, hcl⟩ := hst nx' (.slice a3 op.length c3) op hI hg3
          obtain ⟨Y, hY⟩ : ∃ Y, Y = (X.setCell ⟨g, lo * 2, none⟩ (.int .i64 nx')).setCell ⟨g, lo * 2 + 1, none⟩ (.slice a3 op.length c3) := ⟨_, rfl⟩
          rw [← hY] at hY1 hYg
          have hxY := hxX.grown hYg (by simp; omega)
          have hzY := hzX.grown hYg (by simp; omega)
          have hbY : Below w.heap.size w Y := by rw [hY]; exact (hbX.setCell (p := ⟨g, lo * 2, none⟩) (by show w.heap.size ≤ g; omega) _).setCell (p := ⟨g, lo * 2 + 1, none⟩) (by show w.heap.size ≤ g; omega) _
          have hY2 := boolsS.ogrown hg2 hYg (hcl.sub (fun x hx => by
            have : x = 4 := List.mem_singleton.1 hx
            rw [this]; simp))
          have HY : Hid (sgsN.owns (w2.heap.size + 2) Y [.slice (some ⟨g, 0, none⟩) l.length c1] (l.set lo (nx', op)) ∧ boolsS.owns (w2.heap.size + 2) Y [.slice a2 hd.length c2] hd ∧ Below w.heap.size w Y ∧ Box Y w.heap.size 31 #[.slice (some ⟨g, 0, none⟩) l.length c1, .slice a2 hd.length c2, .slice a3 op.length c3, .int .i64 nx'] ∧ Box Y (w.heap.size + 1) 31 #[.slice none 0 0, .slice none 0 0, .slice none 0 0, .int .i64 0] ∧ w.heap.size + 2 ≤ w2.heap.size) := ⟨hY1, hY2, hbY, hxY, hzY, hw2⟩
          obtain ⟨s0', s1', s2', s3', -⟩ := hxX.four
          have hnx1 : nx = nx' := HA.out.2.2.1
          subst hnx1
          go_upto_region 10 with fail
          rw [← hX]
          clear hX hxX hzX hbX hW2 hw2 hsX hg1 hg2 hg3 hst hcl hY1 hYg hxY hzY hbY hY2 hs1 hs2 hs3 ho3 hb3 hbw3 hx1 hx3 HCC r0 r1 r2 r3 k0 k1 k2 k3 z0 z1 z2 z3 i0 i1 i2 i3
          go_upto_region 11 with fail
          rw [← hY]
          clear hY cc0 cc1 ff0 ff1 hix s0' s1' s2' s3'
          obtain ⟨x0, x1, x2, x3, p0, p1, p2, p3⟩ := HY.out.2.2.2.1.four
          obtain ⟨Z, hZ⟩ : ∃ Z, Z = (Y.setCell ⟨w.heap.size, 2, none⟩ (.slice none 0 0)).setCell ⟨w.heap.size, 3, none⟩ (.int .i64 (nx + 1)) := ⟨_, rfl⟩
          have hxZ : Box Z w.heap.size 31 #[.slice (some ⟨g, 0, none⟩) l.length c1, .slice a2 hd.length c2, .slice none 0 0, .int .i64 (nx + 1)] := by rw [hZ]; exact (HY.out.2.2.2.1.set 2 _).set 3 _
          have hzZ : Box Z (w.heap.size + 1) 31 #[.slice none 0 0, .slice none 0 0, .slice none 0 0, .int .i64 0] := by rw [hZ]; exact (HY.out.2.2.2.2.1.other (by omega)).other (by omega)
          have hsZ : Same (w.heap.size + 2) Y Z := by rw [hZ]; exact Same.trans (.set (by omega)) (by simp [World.setCell]) (.set (by omega))
          have hbZ : Below w.heap.size w Z := by rw [hZ]; exact (HY.out.2.2.1.setCell (p := ⟨w.heap.size, 2, none⟩) (Nat.le_refl _) _).setCell (p := ⟨w.heap.size, 3, none⟩) (Nat.le_refl _) _
          have hw2' := HY.out.2.2.2.2.2
          have hzown : stN.owns (w.heap.size + 2) Z [.slice (some ⟨g, 0, none⟩) l.length c1, .slice a2 hd.length c2, .slice none 0 0, .int .i64 (nx + 1)] (l.set lo (nx, op), hd, [], nx + 1) := st_omkN (s := (l.set lo (nx, op), hd, [], nx + 1)) (sgsN.osame (sgsN.oweaken HY.out.1 (by omega)) hsZ) (boolsS.osame (boolsS.oweaken HY.out.2.1 (by omega)) hsZ) (Shape.list_nil bkN 29 Try.underlying29 cells29 _ _) ⟨by have := HNX.out; show _ ≤ nx + 1; omega, by have := HNX.out; show nx + 1 ≤ _; omega⟩
          have HEND : Hid (∀ U, Same (w.heap.size + 2) Z U → Below w.heap.size w U → post (.returned (.tuple #[.agg #[.slice (some ⟨g, 0, none⟩) l.length c1, .slice a2 hd.length c2, .slice none 0 0, .int .i64 (nx + 1)], .int .i64 lo, .int .i64 0])) U) := fun U h1 h2 => HYES.out [_, _, _, _] U HSE.out (stN.oweaken (stN.osame hzown h1) (by omega)) h2
          have HBZ : Hid (Below w.heap.size w Z) := hbZ
          obtain ⟨q0, q1, q2, q3, -⟩ := hxZ.four
          obtain ⟨y0, y1, y2, y3, f0, f1, f2, f3⟩ := hzZ.four
          have hn1 := HNX.out
          go_upto_region 12 with fail
          obtain ⟨Y2, hY2⟩ : ∃ Y2, Y2 = Y.setCell ⟨w.heap.size, 2, none⟩ (.slice none 0 0) := ⟨_, rfl⟩
          have hxY2 : Box Y2 w.heap.size 31 #[.slice (some ⟨g, 0, none⟩) l.length c1, .slice a2 hd.length c2, .slice none 0 0, .int .i64 nx] := by rw [hY2]; exact HY.out.2.2.2.1.set 2 _
          rw [← hY2] at hZ ⊢
          clear hY2 x0 x1 x2 x3 p0 p1 p2 p3
          obtain ⟨x0, x1, x2, x3, p0, p1, p2, p3⟩ := hxY2.four
          go_upto_region 13 with fail
          rw [← hZ]
          clear hZ hxZ hzZ hsZ hbZ hzown hxY2 x0 x1 x2 x3 p0 p1 p2 p3 HY
          go_wp2
          refine bodyPost_ret (v := .tuple #[.agg #[.slice (some ⟨g, 0, none⟩) l.length c1, .slice a2 hd.length c2, .slice none 0 0, .int .i64 (nx + 1)], .int .i64 lo, .int .i64 0]) (by simp [results, Try.results23, go_sem, *]) rfl ?_
          exact HEND.out _ (.set4 (by omega)) (below_set4 HBZ.out (by omega) _ _ _ _)
      · rw [if_neg hlt, decide_eq_false hlt] at HCL
        have HLT : Hid (¬ lo < s.1.length) := hlt
        clear hlt
        go_wp2_with fail
        refine HCL.mono ?_
        rintro e2 w2 ⟨rfl, hb2⟩
        have HB2 : Hid (Below W.heap.size W w2) := HB1.out.trans (hb2.mono HB1.out.size)
        obtain ⟨y0, y1, y2, y3, j0, j1, j2, j3⟩ := (HW.out.2.2 w2 HB2.out).2.four
        have HE := HNO.out 51 ((((w2.setCell ⟨w.heap.size + 1, 0, none⟩ (.slice none 0 0)).setCell ⟨w.heap.size + 1, 1, none⟩ (.slice none 0 0)).setCell ⟨w.heap.size + 1, 2, none⟩ (.slice none 0 0)).setCell ⟨w.heap.size + 1, 3, none⟩ (.int .i64 0)) (by unfold sE; rw [if_neg (by rw [HOK.out.2]; simp), if_neg H0.out, if_pos (.inl (by have := HLT.out; have := HLO.out; omega))]) (by decide) (below_set4 (below_any HW.out.1 HB2.out) (by omega) _ _ _ _)
        have HE : Hid _ := HE
        clear hb2 q0 q1 q2 q3 HCL
        go_wp2
        refine bodyPost_ret (v := .tuple #[.agg #[.slice none 0 0, .slice none 0 0, .slice none 0 0, .int .i64 0], .int .i64 0, .int .i64 51]) (by simp [results, Try.results23, go_sem, *]) rfl HE.out

end Go.Proofs.Ytkpckadicjdieab

/-
  Which blocks of a slot are live, as the program tells them.
-/
namespace Go.Proofs.Ytkpckadicjdieab
open Go.RowKit

/-! A row of blocks of its own whose data lie elsewhere. -/
def BX (w0 w : World) (base : Nat) (v : Value) (L : List Bk) : Prop := ∃ vss : List (List Value), w.ownsRow base 48 3 v L.length vss.flatten ∧ Each (bkN.lies 0 w0) vss L
theorem BX.nil (w0 w : World) (base : Nat) : BX w0 w base (.slice none 0 0) [] := ⟨[], World.ownsRow_nil _ _ _ _, trivial⟩
theorem BX.below {w0 w w' : World} {base : Nat} {v : Value} {L : List Bk} (h : BX w0 w base v L) (hb : Below w.heap.size w w') : BX w0 w' base v L := by
  obtain ⟨vss, h1, h2⟩ := h
  exact ⟨vss, own_below h1 hb, h2⟩
theorem BX.weaken {w0 w : World} {base b2 : Nat} {v : Value} {L : List Bk} (h : BX w0 w base v L) (hb : b2 ≤ base) : BX w0 w b2 v L := by
  obtain ⟨vss, h1, h2⟩ := h
  exact ⟨vss, own_weaken h1 hb, h2⟩
theorem BX.row {w0 w : World} {base : Nat} {v : Value} {L : List Bk} (h : BX w0 w base v L) : ∃ xs, w.ownsRow base 48 3 v L.length xs := let ⟨_, h1, _⟩ := h; ⟨_, h1⟩
theorem BX.shape {w0 w : World} {base : Nat} {v : Value} {L : List Bk} (h : BX w0 w base v L) : ∃ a c, v = .slice a L.length c := let ⟨_, h1⟩ := h.row; own_shape h1
theorem BX.lies {w0 w : World} {base : Nat} {v : Value} {L : List Bk} (h : BX w0 w base v L) (hb : Below w0.heap.size w0 w) : bksN.lies 0 w [v] L := by
  obtain ⟨vss, h1, h2⟩ := h
  exact ⟨v, vss, rfl, (Cells.own h1).weaken (Nat.zero_le _), h2.mono fun _ _ h => bkN.below h hb⟩
theorem BX.push {w0 wr : World} {base : Nat} {v : Value} {L : List Bk} {us : List Value} {b : Bk} (h : BX w0 wr base v L) (hu : bkN.lies 0 w0 us b) (hb : base ≤ wr.heap.size) (hl : L.length ≤ 10000) :
    ∃ g cap w3, (Builtin.append_ #[29, 29] 29 #[v, .slice (some ⟨wr.heap.size, 0, none⟩) 1 1]).run Try.prog (wr.alloc (.cells us.toArray 48)) = .ok (.slice (some ⟨g, 0, none⟩) (L.length + 1) cap) w3 ∧ BX w0 w3 base (.slice (some ⟨g, 0, none⟩) (L.length + 1) cap) (L ++ [b]) ∧ wr.grownBy w3 v.ownBlock := by
  obtain ⟨vss, hown, hE⟩ := h
  obtain ⟨i, hi, hz, hsz, hby⟩ := info_parts Try.info48
  have hul : us.length = 3 := bkN.length hu
  obtain ⟨g, cap, w3, h1, h2, h3, _, _⟩ := run_append_lies (P := Try.prog) (wr.alloc (.cells us.toArray 48)) 29 29 base 48 i _ 3 40 Try.underlying29 hi hz hsz hby rfl (by decide) v L.length vss.flatten (hown.alloc _) ⟨wr.heap.size, 0, none⟩ 1 1 us (by omega)
    (fun j u hj => World.news_of_block (cs := us.toArray) (t := 48) (fr := (0, 0)) (heap_alloc_new wr _) j u (by simpa using hj)) (bkN.ones hu) (by omega) (by unfold maxLen; omega) (by omega) (by simp; omega) (wr.heap.size + 1) (by simp)
  refine ⟨g, cap, w3, h1, ⟨vss ++ [us], by rw [List.length_append, flat_snoc]; exact h2, hE.snoc hu⟩, ?_⟩
  refine ⟨h3.os, h3.tape, h3.output, ?_, fun k hk hne => ?_⟩
  · have := h3.size
    simp at this
    omega
  · rw [h3.block k (by simp; omega) hne, Below.heap_alloc wr _ k hk]
theorem BX.grow {w0 w wr w3 : World} {base : Nat} {v : Value} {L : List Bk} (h : BX w0 wr base v L) (hg : wr.grownBy w3 v.ownBlock) (hb : Below base w wr) (hs : base ≤ wr.heap.size) : Below base w w3 := let ⟨_, h1⟩ := h.row; below_row hb h1 hg hs

/-! Slots in use. -/
def usedB (s : St) (k : Int) : Bool := decide (0 ≤ k) && ((s.1[k.toNat]?).map fun p => !freeB p).getD false
def uE (s : St) (k : Int) : Int := if okB s = false then 9 else if usedB s k = false then 71 else 0
theorem used_at {s : St} {k : Int} (h : usedB s k = true) : ∃ (i : Nat) (p : Sg), k = i ∧ i < s.1.length ∧ s.1[i]? = some p ∧ freeB p = false := by
  unfold usedB at h
  rw [Bool.and_eq_true, decide_eq_true_eq] at h
  obtain ⟨h0, h1⟩ := h
  cases hp : s.1[k.toNat]? with
  | none => rw [hp] at h1; cases h1
  | some p => exact ⟨k.toNat, p, by omega, (List.getElem?_eq_some_iff.1 hp).1, hp, by rw [hp] at h1; simpa using h1⟩

set_option maxRecDepth 100000 in
set_option maxHeartbeats 4000000 in
theorem inUse_any (n0 : Nat) (us : List Value) (s : St) (k : Int) (w : World) (h : stN.lies n0 w us s) :
    Calls Try.prog 63 #[.agg us.toArray, .int .i64 k] w fun e w' => e = .returned (.int .i64 (uE s k)) ∧ Below w.heap.size w w' := by
  obtain ⟨a, c, b, d, e, f, rfl, hS, hH, hO, hN, m1, m2, m3⟩ := st_viewN h
  obtain ⟨post, hpost⟩ : ∃ post : Ending → World → Prop, post = fun e w' => e = .returned (.int .i64 (uE s k)) ∧ Below w.heap.size w w' := ⟨_, rfl⟩
  have HP : Hid (∀ r w', uE s k = r → Below w.heap.size w w' → post (.returned (.int .i64 r)) w') := fun r w' h1 h2 => by rw [hpost]; exact ⟨by rw [h1], h2⟩
  rw [← hpost]
  clear hpost
  unfold maxLen at m1
  obtain ⟨n, hn⟩ : ∃ n, n = s.1.length := ⟨_, rfl⟩
  obtain ⟨nh, hnh⟩ : ∃ n, n = s.2.1.length := ⟨_, rfl⟩
  obtain ⟨no, hno⟩ : ∃ n, n = s.2.2.1.length := ⟨_, rfl⟩
  obtain ⟨nx, hnx⟩ : ∃ n, n = s.2.2.2 := ⟨_, rfl⟩
  rw [← hn, ← hnh, ← hno, ← hnx] at h ⊢
  rw [← hn] at hS m1
  obtain ⟨W, hW⟩ : ∃ W, W = w.alloc (.cells #[.slice a n c, .slice b nh d, .slice e no f, .int .i64 nx] 31) := ⟨_, rfl⟩
  have hbW : Below w.heap.size w W := by rw [hW]; exact (Below.refl _ w).alloc (Nat.le_refl _) _
  have hB1 : Box W w.heap.size 31 #[.slice a n c, .slice b nh d, .slice e no f, .int .i64 nx] := by rw [hW]; exact Box.new _ _ _
  have HC := checkL_any n0 [.slice a n c, .slice b nh d, .slice e no f, .int .i64 nx] s W (stN.below h hbW)
  have HW : Hid (Below w.heap.size w W ∧ Box W w.heap.size 31 #[.slice a n c, .slice b nh d, .slice e no f, .int .i64 nx] ∧ sgsN.lies n0 w [.slice a n c] s.1 ∧ n = s.1.length) := ⟨hbW, hB1, hS, hn⟩
  have hl1 := run_len Try.underlying28 a n c
  obtain ⟨g0, g1, g2, g3, -⟩ := hB1.four
  rw [hW] at g0 g1 g2 g3
  clear h hS hH hO hN m2 m3 hbW hB1 hn hnh hno hnx
  go_enter Try.func63, Try.ntmps63
  go_wp2_with fail
  rw [← hW]
  clear hW g0 g1 g2 g3
  refine HC.mono ?_
  rintro e1 w1 ⟨rfl, hb1⟩
  have hx1 := HW.out.2.1.below hb1 HW.out.2.1.lt
  have HB1 : Hid (Below w.heap.size w w1) := below_any HW.out.1 hb1
  obtain ⟨q0, q1, q2, q3, -⟩ := hx1.four
  clear hx1 hb1 HC
  rcases okE_cases s with ⟨hk, hok⟩ | ⟨hk, hok⟩
  case inr =>
    rw [hk]
    have HE : Hid (post (.returned (.int .i64 9)) w1) := HP.out 9 w1 (by
      have : okB s = false := by cases hb : okB s with | false => rfl | true => exact absurd (ok_iff.1 hb) hok
      unfold uE; rw [if_pos this]) HB1.out
    clear hk hok
    go_wp2
    exact HE.out
  case inl =>
    rw [hk]
    have HOK : Hid (Ok s ∧ okB s = true) := ⟨hok, ok_iff.2 hok⟩
    have HBAD : Hid (usedB s k = false → post (.returned (.int .i64 71)) w1) := fun h => HP.out 71 w1 (by unfold uE; rw [if_neg (by rw [HOK.out.2]; simp), if_pos h]) HB1.out
    clear hk hok
    by_cases h0 : k < 0
    · have HE : Hid (post (.returned (.int .i64 71)) w1) := HBAD.out (by unfold usedB; rw [decide_eq_false (by omega)]; rfl)
      go_wp2
      exact HE.out
    · obtain ⟨i, rfl⟩ : ∃ i : Nat, k = i := ⟨k.toNat, by omega⟩
      by_cases h1 : n ≤ i
      · have h1i : (n : Int) ≤ (i : Int) := by omega
        have HE : Hid (post (.returned (.int .i64 71)) w1) := HBAD.out (by unfold usedB; rw [Int.toNat_natCast, List.getElem?_eq_none (by rw [← HW.out.2.2.2]; exact h1)]; simp)
        go_wp2
        exact HE.out
      · have h1i : ¬ (n : Int) ≤ (i : Int) := by omega
        obtain ⟨p, hp⟩ := get_lt (l := s.1) (k := i) (by rw [← HW.out.2.2.2]; omega)
        obtain ⟨pb, po, x, cap, hix, c0, c1, hL, _⟩ := sgs_atN (sgsN.below HW.out.2.2.1 HB1.out) i p hp
        have HU : Hid (usedB s (i : Int) = !freeB p) := by
          show usedB s (i : Int) = _
          unfold usedB
          rw [Int.toNat_natCast, hp, decide_eq_true (by omega)]
          rfl
        obtain ⟨q, pl⟩ := p
        simp only at c0 c1
        obtain ⟨m, hm⟩ : ∃ m, m = pl.length := ⟨_, rfl⟩
        rw [← hm] at c1
        have HFR : Hid (freeB (q, pl) = (decide (q = 0) && decide (m = 0))) := by show freeB _ = _; rw [hm]; rfl
        have HC := isFree_any q x m cap w1
        rw [← HFR.out] at HC
        cases hfr : freeB (q, pl)
        · rw [hfr] at HC HU
          clear hp hL hm hfr
          go_wp2_with fail
          refine HC.mono ?_
          rintro e2 w2 ⟨rfl, hb2⟩
          have HE : Hid (post (.returned (.int .i64 0)) w2) := HP.out 0 w2 (by unfold uE; rw [if_neg (by rw [HOK.out.2]; simp), if_neg (by rw [HU.out]; simp)]) (below_any HB1.out hb2)
          clear hb2
          go_wp2
          exact HE.out
        · rw [hfr] at HC HU
          clear hp hL hm hfr
          go_wp2_with fail
          refine HC.mono ?_
          rintro e2 w2 ⟨rfl, hb2⟩
          have HE : Hid (post (.returned (.int .i64 71)) w2) := HP.out 71 w2 (by unfold uE; rw [if_neg (by rw [HOK.out.2]; simp), if_pos (by rw [HU.out]; rfl)]) (below_any HB1.out hb2)
          clear hb2
          go_wp2
          exact HE.out

/-! Live blocks. -/
def isLive (s : St) (x : Ver) : Bool := decide ((last s x.2.2.1 x.2.2.2.1).2.1 = x.1) && decide ((last s x.2.2.1 x.2.2.2.1).2.2.1 = x.2.1) && (!decide (x.2.2.2.2.length = 0) || decide (1 < (last s x.2.2.1 x.2.2.2.1).2.2.2))
def lvs (s : St) (q : Int) (l : List Bk) : List Bk := ((plc q l).filter (isLive s)).map (·.2.2)
theorem lvs_take {s : St} {q : Int} {l : List Bk} {k : Nat} {b : Bk} (h : l[k]? = some b) : lvs s q (l.take (k + 1)) = if isLive s (q, k, b) = true then lvs s q (l.take k) ++ [b] else lvs s q (l.take k) := by
  unfold lvs
  rw [plc_take h, List.filter_append]
  cases hb : isLive s (q, k, b) <;> simp [hb]
theorem lvs_le (s : St) (q : Int) (l : List Bk) : (lvs s q l).length ≤ l.length := by
  unfold lvs
  rw [List.length_map]
  exact Nat.le_trans (List.length_filter_le _ _) (by rw [plc_length]; exact Nat.le_refl _)

end Go.Proofs.Ytkpckadicjdieab

/-
  Which blocks of a slot are live, as the program tells them: the walk.
-/
namespace Go.Proofs.Ytkpckadicjdieab
open Go.RowKit

set_option maxRecDepth 100000 in
set_option maxHeartbeats 8000000 in
theorem live_any (n0 : Nat) (us : List Value) (s : St) (i : Nat) (p : Sg) (w : World) (h : stN.lies n0 w us s) (hok : Ok s) (hp : s.1[i]? = some p) :
    Calls Try.prog 64 #[.agg us.toArray, .int .i64 i] w fun e w' => (∃ v', e = .returned v' ∧ BX w w' w.heap.size v' (lvs s p.1 p.2)) ∧ Below w.heap.size w w' := by
  obtain ⟨a, c, b, d, e, f, rfl, hS, hH, hO, hN, m1, m2, m3⟩ := st_viewN h
  obtain ⟨post, hpost⟩ : ∃ post : Ending → World → Prop, post = fun e w' => (∃ v', e = .returned v' ∧ BX w w' w.heap.size v' (lvs s p.1 p.2)) ∧ Below w.heap.size w w' := ⟨_, rfl⟩
  have HP : Hid (∀ v' w', BX w w' w.heap.size v' (lvs s p.1 p.2) → Below w.heap.size w w' → post (.returned v') w') := fun v' w' h1 h2 => by rw [hpost]; exact ⟨⟨v', rfl, h1⟩, h2⟩
  rw [← hpost]
  clear hpost
  obtain ⟨n, hn⟩ : ∃ n, n = s.1.length := ⟨_, rfl⟩
  obtain ⟨nh, hnh⟩ : ∃ n, n = s.2.1.length := ⟨_, rfl⟩
  obtain ⟨no, hno⟩ : ∃ n, n = s.2.2.1.length := ⟨_, rfl⟩
  obtain ⟨nx, hnx⟩ : ∃ n, n = s.2.2.2 := ⟨_, rfl⟩
  rw [← hn, ← hnh, ← hno, ← hnx] at h ⊢
  rw [← hn] at hS
  obtain ⟨W, hW⟩ : ∃ W, W = w.alloc (.cells #[.slice a n c, .slice b nh d, .slice e no f, .int .i64 nx] 31) := ⟨_, rfl⟩
  have hbW : Below w.heap.size w W := by rw [hW]; exact (Below.refl _ w).alloc (Nat.le_refl _) _
  have hB1 : Box W w.heap.size 31 #[.slice a n c, .slice b nh d, .slice e no f, .int .i64 nx] := by rw [hW]; exact Box.new _ _ _
  obtain ⟨pb, po, x, cap, hix, c0, c1, hL, _⟩ := sgs_atN hS i p hp
  obtain ⟨_, _, e0, hLb, hI, _⟩ := sg_viewN hL
  have HLB : Hid (bksN.lies n0 w [.slice x p.2.length cap] p.2 ∧ p.2.length ≤ 8 ∧ I64 p.1) := ⟨by simp at e0; obtain ⟨rfl, rfl⟩ := e0; exact hLb, hok.small p (List.mem_of_getElem? hp), hI⟩
  have HCL : Hid (∀ V, Below W.heap.size W V → Calls Try.prog 32 #[.agg #[.slice a n c, .slice b nh d, .slice e no f, .int .i64 nx]] V fun e w' => (∃ b, e = .returned (.map (some b)) ∧ LV V w' b (vers s) ∧ V.heap.size ≤ b) ∧ Below V.heap.size V w') := fun V hV => last_any n0 [.slice a n c, .slice b nh d, .slice e no f, .int .i64 nx] s V (stN.below h (below_any hbW hV)) hok
  have HW : Hid (Below w.heap.size w W ∧ ∀ U, Below W.heap.size W U → (U.cell? ⟨w.heap.size, 0, none⟩ = some (.slice a n c) ∧ U.cell? ⟨w.heap.size, 1, none⟩ = some (.slice b nh d) ∧ U.cell? ⟨w.heap.size, 2, none⟩ = some (.slice e no f) ∧ U.cell? ⟨w.heap.size, 3, none⟩ = some (.int .i64 nx)) ∧ U.cell? ⟨pb, po, none⟩ = some (.int .i64 p.1) ∧ U.cell? ⟨pb, po + 1, none⟩ = some (.slice x p.2.length cap)) := ⟨hbW, fun U hU => by
    have h1 := (hB1.below hU hB1.lt).four
    have h2 := below_any hbW hU
    exact ⟨⟨h1.1, h1.2.1, h1.2.2.1, h1.2.2.2.1⟩, by rw [h2.cell (cell_lt c0)]; exact c0, by rw [h2.cell (cell_lt c1)]; exact c1⟩⟩
  obtain ⟨m, hm⟩ : ∃ m, m = p.2.length := ⟨_, rfl⟩
  have HM : Hid (m = p.2.length) := hm
  rw [← hm] at HLB HW
  have hm8 := HLB.out.2.1
  have hl3 := run_len Try.underlying29 x m cap
  clear h hS hH hO hN m1 m2 m3 hbW hB1 c0 c1 hL hLb hI e0 hn hnh hno hnx hok hp hm
  go_enter Try.func64, Try.ntmps64
  go_upto_region 1 with fail
  rw [← hW]
  clear hW
  go_cut [5, 6] (fun u v wx => ∃ bb dd, u = .map (some bb) ∧ v = .pointer (some ⟨dd, 0, none⟩) ∧ Hid (W.heap.size ≤ dd) ∧ Hid (Below W.heap.size W wx ∧ (∃ w0, LV w0 wx bb (vers s)) ∧ Box wx dd 45 #[.int .i64 p.1, .slice x m cap]))
  case first =>
    rename_i J K1 hJ hMt
    refine AnyBut.begin (fun U => (U.cell? ⟨w.heap.size, 0, none⟩ = some (.slice a n c) ∧ U.cell? ⟨w.heap.size, 1, none⟩ = some (.slice b nh d) ∧ U.cell? ⟨w.heap.size, 2, none⟩ = some (.slice e no f) ∧ U.cell? ⟨w.heap.size, 3, none⟩ = some (.int .i64 nx)) ∧ U.cell? ⟨pb, po, none⟩ = some (.int .i64 p.1) ∧ U.cell? ⟨pb, po + 1, none⟩ = some (.slice x m cap)) 1000 (by kernel_rfl) ?_
    have hSS := HW.out.2 W.drew (Below.refl _ W).drew
    refine tx 0 12 hSS ?_
    simp only [ua, ub, uc, ud]
    refine tx 2 14 hSS ?_
    simp only [ua, ub, uc, ud]
    refine tx 3 15 hSS ?_
    simp only [ua, ub, uc, ud]
    refine tx 4 16 hSS ?_
    simp only [ua, ub, uc, ud]
    refine tx 5 17 hSS ?_
    simp only [ua, ub, uc, ud]
    refine tx 6 18 hSS ?_
    simp only [ua, ub, uc, ud]
    refine AnyBut.two (i := 1) (j := 7) (by kernel_rfl) rfl rfl (fun K hK => ?_) (fun K hK => ?_)
    · go_simp
      refine Calls.mono (HCL.out W.drew (Below.refl _ W).drew) ?_
      rintro e1 w1 ⟨⟨bb, rfl, hLV, hbb⟩, hb1⟩
      dsimp only
      have hb1 : Below W.heap.size W w1 := ((Below.refl _ W).drew).trans hb1
      refine hK.out _ _ (HW.out.2 w1 hb1) ?_
      clear hK hSS
      refine AnyBut.step (i := 7) (by kernel_rfl) rfl (fun K hK => ?_)
      go_simp
      refine hK.out _ _ (HW.out.2 _ (hb1.alloc hb1.size _)) ?_
      clear hK
      have hSS := HW.out.2 _ (hb1.alloc hb1.size (.cells #[.int .i64 0, .slice none 0 0] 45))
      refine tx 8 5 hSS ?_
      simp only [ua, ub, uc, ud]
      refine AnyBut.step (i := 9) (by kernel_rfl) rfl (fun K hK => ?_)
      go_simp
      refine hK.out _ _ (HW.out.2 _ (hb1.alloc hb1.size _)) ?_
      clear hK
      refine AnyBut.done (by kernel_rfl) ?_
      refine hMt _ _ (Go.Met.intro (hJ _ _ ?_))
      (repeat (refine Exists.intro ?_ ?_; rotate_left 1))
      refine ⟨?rel1, ?fr1⟩
      case fr1 => rfl
      case rel1 => exact ⟨_, _, rfl, rfl, hb1.size, hb1.alloc hb1.size _, ⟨_, hLV.below ((Below.refl _ _).alloc (Nat.le_refl _) _)⟩, Box.new _ _ _⟩
    · go_simp
      obtain ⟨Z, hZ⟩ : ∃ Z, Z = (W.alloc (.cells #[.int .i64 0, .slice none 0 0] 45)).drew := ⟨_, rfl⟩
      have hbz : Below W.heap.size W Z := by rw [hZ]; exact ((Below.refl _ W).alloc (Nat.le_refl _) _).drew
      have hBz : Box Z W.heap.size 45 #[.int .i64 0, .slice none 0 0] := by rw [hZ]; exact Box.drew (Box.new _ _ _)
      rw [← hZ]
      refine hK.out _ _ (HW.out.2 Z hbz) ?_
      clear hK hSS hZ
      refine AnyBut.step (i := 1) (by kernel_rfl) rfl (fun K hK => ?_)
      go_simp
      refine Calls.mono (HCL.out Z hbz) ?_
      rintro e1 w1 ⟨⟨bb, rfl, hLV, hbb⟩, hb1⟩
      dsimp only
      have hBp := hBz.below hb1 hBz.lt
      have hb1 : Below W.heap.size W w1 := hbz.trans (hb1.mono hbz.size)
      refine hK.out _ _ (HW.out.2 w1 hb1) ?_
      clear hK
      have hSS := HW.out.2 w1 hb1
      refine tx 8 5 hSS ?_
      simp only [ua, ub, uc, ud]
      obtain ⟨z0, z1, y0, y1⟩ := hBp.two
      have HbQ : Hid (∀ u0 u1, Below W.heap.size W ((w1.setCell ⟨W.heap.size, 0, none⟩ u0).setCell ⟨W.heap.size, 1, none⟩ u1) ∧ Box ((w1.setCell ⟨W.heap.size, 0, none⟩ u0).setCell ⟨W.heap.size, 1, none⟩ u1) W.heap.size 45 #[u0, u1] ∧ LV Z ((w1.setCell ⟨W.heap.size, 0, none⟩ u0).setCell ⟨W.heap.size, 1, none⟩ u1) bb (vers s)) := fun u0 u1 => ⟨below_set2 hb1 (Nat.le_refl _) _ _, (hBp.set 0 _).set 1 _, hLV.kept (by
        have h9 : W.heap.size < Z.heap.size := hBz.lt
        rw [Below.heap_setCell _ _ _ _ (by show bb ≠ W.heap.size; omega), Below.heap_setCell _ _ _ _ (by show bb ≠ W.heap.size; omega)])⟩
      clear hBp hBz hbz
      refine AnyBut.step (i := 9) (by kernel_rfl) rfl (fun K hK => ?_)
      go_simp
      refine hK.out _ _ (HW.out.2 _ (HbQ.out _ _).1) ?_
      clear hK
      refine AnyBut.done (by kernel_rfl) ?_
      refine hMt _ _ (Go.Met.intro (hJ _ _ ?_))
      (repeat (refine Exists.intro ?_ ?_; rotate_left 1))
      refine ⟨?rel2, ?fr2⟩
      case fr2 => rfl
      case rel2 => exact ⟨_, _, rfl, rfl, Nat.le_refl _, (HbQ.out _ _).1, ⟨_, (HbQ.out _ _).2.2⟩, (HbQ.out _ _).2.1⟩
  case rest =>
    obtain ⟨bb, dd, rfl, rfl, HDD, HXX⟩ := hcut
    obtain ⟨wx, hwx⟩ : ∃ U, U = wc := ⟨_, rfl⟩
    rw [← hwx] at HXX ⊢
    clear hwx hix
    obtain ⟨hbx, ⟨w0, hLV⟩, hBX⟩ := HXX.out
    have HLV : Hid (LV w0 wx bb (vers s)) := hLV
    have HXB : Hid (Below W.heap.size W wx ∧ Box wx dd 45 #[.int .i64 p.1, .slice x m cap]) := ⟨hbx, hBX⟩
    obtain ⟨q0, q1, -⟩ := hBX.two
    clear HXX hbx hLV hBX
    go_wp2
    clear q0 q1
    go_loopw [7, 22] (fun v i wr => ∃ j : Nat, j ≤ m ∧ i = .int .i64 j ∧ Hid (BX w wr wx.heap.size v (lvs s p.1 (p.2.take j)) ∧ Below wx.heap.size wx wr)) (fun _ i _ => m - (intOf i).toNat)
    case atStart => exact ⟨0, Nat.zero_le _, rfl, BX.nil _ _ _, Below.refl _ _⟩
    case round =>
      obtain ⟨j, hj, rfl, HJ⟩ := hrel
      by_cases hlt : j < m
      · obtain ⟨t, ht⟩ := get_lt (l := p.2) (k := j) (by rw [← HM.out]; exact hlt)
        have hbr : Below w.heap.size w wr := below_any (below_any HW.out.1 HXB.out.1) HJ.out.2
        obtain ⟨tb, tof, tx', tcap, hix, k0, k1, k2, hA, hto, hti, _⟩ := bks_atN HLB.out.1 j t ht
        have g0 : wr.cell? ⟨tb, tof, none⟩ = some (.int .i64 t.1) := by rw [hbr.cell (cell_lt k0)]; exact k0
        have g1 : wr.cell? ⟨tb, tof + 1, none⟩ = some (.int .i64 t.2.1) := by rw [hbr.cell (cell_lt k1)]; exact k1
        have g2 : wr.cell? ⟨tb, tof + 2, none⟩ = some (.slice tx' t.2.2.length tcap) := by rw [hbr.cell (cell_lt k2)]; exact k2
        have HTK : Hid (lvs s p.1 (p.2.take (j + 1)) = if isLive s (p.1, j, t) = true then lvs s p.1 (p.2.take j) ++ [t] else lvs s p.1 (p.2.take j)) := lvs_take ht
        have HLL : Hid ((lvs s p.1 (p.2.take j)).length ≤ 8) := Nat.le_trans (lvs_le _ _ _) (by rw [List.length_take]; omega)
        obtain ⟨ml, hml⟩ : ∃ k, k = t.2.2.length := ⟨_, rfl⟩
        rw [← hml] at g2 hA
        have HUS : Hid (bkN.lies 0 w [.int .i64 t.1, .int .i64 t.2.1, .slice tx' ml tcap] t) := bk_mk (p := t) (hA.weaken (Nat.zero_le _)) hto hti
        obtain ⟨V, hV⟩ : ∃ V, V = wr.alloc (.cells #[.int .i64 t.1, .int .i64 t.2.1, .slice tx' ml tcap] 48) := ⟨_, rfl⟩
        have hbV : Below wr.heap.size wr V := by rw [hV]; exact (Below.refl _ _).alloc (Nat.le_refl _) _
        have hxV : Box V wr.heap.size 48 #[.int .i64 t.1, .int .i64 t.2.1, .slice tx' ml tcap] := by rw [hV]; exact Box.new _ _ _
        obtain ⟨kvv, hlk, hkv⟩ := HLV.out.look hto hti
        obtain ⟨ka, kc, hkv0, _⟩ := hkv
        obtain ⟨⟨kb, sq, pl, ct⟩, hkk⟩ : ∃ y, y = kn (vers s) t.1 t.2.1 := ⟨_, rfl⟩
        rw [← hkk] at hkv0
        simp only at hkv0
        subst hkv0
        have HLT : Hid (isLive s (p.1, j, t) = (decide (sq = p.1) && decide (pl = j) && (!decide (ml = 0) || decide (1 < ct)))) := by
          show isLive s (p.1, j, t) = _
          unfold isLive last
          simp only
          rw [← hkk, ← hml]
        have HC := kindOf_any t.1 t.2.1 tx' ml tcap V
        have HV : Hid (Below wr.heap.size wr V ∧ Box V wr.heap.size 48 #[.int .i64 t.1, .int .i64 t.2.1, .slice tx' ml tcap]) := ⟨hbV, hxV⟩
        obtain ⟨v0, v1, v2, -⟩ := hxV.three
        have hji : (j : Int) < (m : Int) := by omega
        have hbm := HLV.out.lt
        have HLK : Hid (∀ U, Below wx.heap.size wx U → Sem.run Try.prog (Instr.lookup 77 (.map (some bb)) (.agg #[.int .i64 t.1, .int .i64 t.2.1]) false) U = .ok (.agg #[.int .i64 kb.1, .int .i64 kb.2.1, .slice ka kb.2.2.length kc, .int .i64 sq, .int .i64 (pl : Nat), .int .i64 (ct : Nat)]) U) := fun U hU => hlk U (hU.block bb hbm)
        clear ht hA hto hti k0 k1 k2 hml hbV hxV hkk hlk hbr hbm
        obtain ⟨a7, c7, rfl⟩ := HJ.out.1.shape
        go_upto_region 6 with fail
        rw [← hV]
        clear hV hix g0 g1 g2
        go_wp2_with fail
        refine HC.mono ?_
        rintro e2 w2 ⟨rfl, hb2⟩
        have hlk2 := HLK.out w2 (HJ.out.2.trans ((HV.out.1.trans (hb2.mono HV.out.1.size)).mono HJ.out.2.size))
        obtain ⟨V2, hV2⟩ : ∃ V2, V2 = w2.alloc (.cells #[.int .i64 kb.1, .int .i64 kb.2.1, .slice ka kb.2.2.length kc, .int .i64 sq, .int .i64 (pl : Nat), .int .i64 (ct : Nat)] 82) := ⟨_, rfl⟩
        have hbV2 : Below wr.heap.size wr V2 := by rw [hV2]; exact (HV.out.1.trans (hb2.mono HV.out.1.size)).alloc (by have := HV.out.1.size; have := hb2.size; omega) _
        have hxV2 : Box V2 w2.heap.size 82 #[.int .i64 kb.1, .int .i64 kb.2.1, .slice ka kb.2.2.length kc, .int .i64 sq, .int .i64 (pl : Nat), .int .i64 (ct : Nat)] := by rw [hV2]; exact Box.new _ _ _
        have hyV2 : Box V2 wr.heap.size 48 #[.int .i64 t.1, .int .i64 t.2.1, .slice tx' ml tcap] := by rw [hV2]; exact (HV.out.2.below hb2 HV.out.2.lt).alloc _
        have HVV : Hid (Below wr.heap.size wr V2 ∧ ∀ U, Below V2.heap.size V2 U → Box U w2.heap.size 82 #[.int .i64 kb.1, .int .i64 kb.2.1, .slice ka kb.2.2.length kc, .int .i64 sq, .int .i64 (pl : Nat), .int .i64 (ct : Nat)] ∧ Box U wr.heap.size 48 #[.int .i64 t.1, .int .i64 t.2.1, .slice tx' ml tcap]) := ⟨hbV2, fun U hU => ⟨hxV2.below hU hxV2.lt, hyV2.below hU hyV2.lt⟩⟩
        have hsV2 := HXB.out.2.below (HJ.out.2.trans (hbV2.mono HJ.out.2.size)) HXB.out.2.lt
        have HG := isGone_any t.1 t.2.1 tx' ml tcap V2
        have HBX : Hid (BX w wr wx.heap.size (.slice a7 (lvs s p.1 (p.2.take j)).length c7) (lvs s p.1 (p.2.take j))) := HJ.out.1
        have HSKIP : Hid (isLive s (p.1, j, t) = false → ∀ U, Below V2.heap.size V2 U → Hid (BX w U wx.heap.size (.slice a7 (lvs s p.1 (p.2.take j)).length c7) (lvs s p.1 (p.2.take (j + 1))) ∧ Below wx.heap.size wx U)) := fun hl U hU => by
          have h1 := hbV2.trans (hU.mono hbV2.size)
          refine ⟨?_, HJ.out.2.trans (h1.mono HJ.out.2.size)⟩
          rw [HTK.out, hl]
          exact HBX.out.below h1
        have HPUSH : Hid (isLive s (p.1, j, t) = true → ∀ U, Below V2.heap.size V2 U → ∀ v3 w6, U.grownBy w6 (Value.slice a7 (lvs s p.1 (p.2.take j)).length c7).ownBlock → BX w w6 wx.heap.size v3 (lvs s p.1 (p.2.take j) ++ [t]) → BX w w6 wx.heap.size v3 (lvs s p.1 (p.2.take (j + 1))) ∧ Below wx.heap.size wx w6) := fun hl U hU v3 w6 hg h6 => by
          have h1 := hbV2.trans (hU.mono hbV2.size)
          refine ⟨by rw [HTK.out, hl, if_pos rfl]; exact h6, ?_⟩
          exact (HBX.out.below h1).grow hg (HJ.out.2.trans (h1.mono HJ.out.2.size)) (by have := HJ.out.2.size; have := h1.size; omega)
        obtain ⟨x0, x1, x2, x3, x4, x5⟩ := hxV2.six
        obtain ⟨b0, b1, b2, -⟩ := hyV2.three
        obtain ⟨s0', s1', -⟩ := hsV2.two
        go_upto_region 7 with fail
        rw [← hV2]
        clear hV2 hbV2 hxV2 hyV2 hsV2 hb2 HC v0 v1 v2 hlk2
        by_cases h1 : sq = p.1
        · subst h1
          by_cases h2 : pl = j
          · subst h2
            by_cases h3 : ml = 0
            · subst h3
              by_cases h4 : 1 < ct
              · have h4i : (1 : Int) < (ct : Int) := by omega
                have HLIV : Hid (isLive s (p.1, pl, t) = true) := show _ = _ by rw [HLT.out]; simp [h4]
                go_wp2_with fail
                refine HG.mono ?_
                rintro e5 w5 ⟨rfl, hb5⟩
                obtain ⟨y0, y1, y2, y3, y4, y5⟩ := (HVV.out.2 w5 hb5).1.six
                obtain ⟨d0, d1, d2, -⟩ := (HVV.out.2 w5 hb5).2.three
                obtain ⟨gg, cap3, w6, hrun, hbx6, hg6⟩ := (HBX.out.below (HVV.out.1.trans (hb5.mono HVV.out.1.size))).push HUS.out (by have := HJ.out.2.size; have := HVV.out.1.size; have := hb5.size; omega) (by have := HLL.out; omega)
                have HF : Hid (BX w w6 wx.heap.size (.slice (some ⟨gg, 0, none⟩) ((lvs s p.1 (p.2.take pl)).length + 1) cap3) (lvs s p.1 (p.2.take (pl + 1))) ∧ Below wx.heap.size wx w6) := HPUSH.out HLIV.out w5 hb5 _ _ hg6 hbx6
                clear hb5 HG x0 x1 x2 x3 x4 x5 b0 b1 b2 s0' s1' hbx6 hg6
                go_wp2_with (at_builtin; refine list_app rfl _ _ 29 rfl rfl rfl rfl hrun ?_)
                go_roundw
                case rel => exact ⟨pl + 1, by omega, by go_num, HF.out⟩
                case measure => simp [intOf]; omega
              · have h4i : ¬ (1 : Int) < (ct : Int) := by omega
                have HLIV : Hid (isLive s (p.1, pl, t) = false) := show _ = _ by rw [HLT.out]; simp [h4]
                go_wp2_with fail
                refine HG.mono ?_
                rintro e5 w5 ⟨rfl, hb5⟩
                obtain ⟨y0, y1, y2, y3, y4, y5⟩ := (HVV.out.2 w5 hb5).1.six
                have HS5 := HSKIP.out HLIV.out w5 hb5
                clear hb5 HG x0 x1 x2 x3 x4 x5 b0 b1 b2 s0' s1'
                go_wp2
                go_roundw
                case rel => exact ⟨pl + 1, by omega, by go_num, HS5.out⟩
                case measure => simp [intOf]; omega
            · have h3d : decide (ml = 0) = false := decide_eq_false h3
              have HLIV : Hid (isLive s (p.1, pl, t) = true) := show _ = _ by rw [HLT.out]; simp [h3]
              rw [h3d] at HG
              go_wp2_with fail
              refine HG.mono ?_
              rintro e5 w5 ⟨rfl, hb5⟩
              obtain ⟨y0, y1, y2, y3, y4, y5⟩ := (HVV.out.2 w5 hb5).1.six
              obtain ⟨d0, d1, d2, -⟩ := (HVV.out.2 w5 hb5).2.three
              obtain ⟨gg, cap3, w6, hrun, hbx6, hg6⟩ := (HBX.out.below (HVV.out.1.trans (hb5.mono HVV.out.1.size))).push HUS.out (by have := HJ.out.2.size; have := HVV.out.1.size; have := hb5.size; omega) (by have := HLL.out; omega)
              have HF : Hid (BX w w6 wx.heap.size (.slice (some ⟨gg, 0, none⟩) ((lvs s p.1 (p.2.take pl)).length + 1) cap3) (lvs s p.1 (p.2.take (pl + 1))) ∧ Below wx.heap.size wx w6) := HPUSH.out HLIV.out w5 hb5 _ _ hg6 hbx6
              clear hb5 HG x0 x1 x2 x3 x4 x5 b0 b1 b2 s0' s1' hbx6 hg6
              go_wp2_with (at_builtin; refine list_app rfl _ _ 29 rfl rfl rfl rfl hrun ?_)
              go_roundw
              case rel => exact ⟨pl + 1, by omega, by go_num, HF.out⟩
              case measure => simp [intOf]; omega
          · have h2i : ((pl : Int) == (j : Int)) = false := by simp; omega
            have HLIV : Hid (isLive s (p.1, j, t) = false) := show _ = _ by rw [HLT.out]; simp [h2]
            clear HG
            go_wp2
            go_roundw
            case rel => exact ⟨j + 1, by omega, by go_num, (HSKIP.out HLIV.out V2 (Below.refl _ _)).out⟩
            case measure => simp [intOf]; omega
        · have h1i : (sq == p.1) = false := by simp [h1]
          have HLIV : Hid (isLive s (p.1, j, t) = false) := show _ = _ by rw [HLT.out]; simp [h1]
          clear HG
          go_wp2
          go_roundw
          case rel => exact ⟨j + 1, by omega, by go_num, (HSKIP.out HLIV.out V2 (Below.refl _ _)).out⟩
          case measure => simp [intOf]; omega
      · obtain rfl : j = m := by omega
        have HE : Hid (BX w wr wx.heap.size u7 (lvs s p.1 p.2) ∧ Below wx.heap.size wx wr) := by
          show _ ∧ _
          have := HJ.out
          rwa [HM.out, List.take_length] at this
        go_wp2
        exact HP.out _ _ (HE.out.1.weaken (by have := HW.out.1.size; have := HXB.out.1.size; omega)) (below_any (below_any HW.out.1 HXB.out.1) HE.out.2)

end Go.Proofs.Ytkpckadicjdieab

/-
  What the program's Live and Free answer, for every store and slot.
-/
namespace Go.Proofs.Ytkpckadicjdieab
open Go.RowKit

def slotOf (s : St) (k : Int) : Sg := (s.1[k.toNat]?).getD (0, [])
def lL (s : St) (k : Int) : List Bk := if uE s k = 0 then lvs s (slotOf s k).1 (slotOf s k).2 else []
def fE (s : St) (k : Int) : Int := if uE s k = 0 then (if 0 < (lL s k).length then 91 else 0) else uE s k
def fS (s : St) (k : Int) : St := if fE s k = 0 then (s.1.set k.toNat (0, []), s.2.1, s.2.2.1, s.2.2.2) else s0
theorem uE_cases (s : St) (k : Int) : (uE s k = 0 ∧ Ok s ∧ ∃ (i : Nat) (p : Sg), k = i ∧ i < s.1.length ∧ s.1[i]? = some p ∧ slotOf s k = p) ∨ (uE s k ≠ 0 ∧ (uE s k = 9 ∨ uE s k = 71)) := by
  unfold uE
  cases h : okB s
  · right; simp
  · cases hu : usedB s k
    · right; simp
    · left
      obtain ⟨i, p, rfl, h1, h2, _⟩ := used_at hu
      exact ⟨by simp, ok_iff.1 h, i, p, rfl, h1, h2, by unfold slotOf; rw [Int.toNat_natCast, h2]; rfl⟩
theorem lvs_mem {s : St} {q : Int} {l : List Bk} {b : Bk} (h : b ∈ lvs s q l) : b ∈ l := by
  unfold lvs plc at h
  obtain ⟨x, hx, rfl⟩ := List.mem_map.1 h
  obtain ⟨y, hy, rfl⟩ := List.mem_map.1 (List.mem_filter.1 hx).1
  obtain ⟨y1, y2⟩ := y
  exact (List.mem_zipIdx hy).2.2 ▸ List.getElem_mem _

set_option maxRecDepth 100000 in
set_option maxHeartbeats 4000000 in
theorem liveL_any (n0 : Nat) (us : List Value) (s : St) (k : Int) (w : World) (h : stN.lies n0 w us s) :
    Calls Try.prog 29 #[.agg us.toArray, .int .i64 k] w fun e w' => (∃ v', e = .returned (.tuple #[v', .int .i64 (uE s k)]) ∧ bksN.owns w.heap.size w' [v'] (lL s k)) ∧ Below w.heap.size w w' := by
  obtain ⟨a, c, b, d, e, f, rfl, hS, hH, hO, hN, m1, m2, m3⟩ := st_viewN h
  obtain ⟨post, hpost⟩ : ∃ post : Ending → World → Prop, post = fun e w' => (∃ v', e = .returned (.tuple #[v', .int .i64 (uE s k)]) ∧ bksN.owns w.heap.size w' [v'] (lL s k)) ∧ Below w.heap.size w w' := ⟨_, rfl⟩
  have HNO : Hid (∀ r w', uE s k = r → r ≠ 0 → Below w.heap.size w w' → post (.returned (.tuple #[.slice none 0 0, .int .i64 r])) w') := fun r w' h1 h2 h3 => by
    rw [hpost]
    refine ⟨⟨_, by rw [h1], ?_⟩, h3⟩
    unfold lL
    rw [if_neg (by rw [h1]; exact h2)]
    exact Shape.list_nil bkN 29 Try.underlying29 cells29 _ _
  have HYES : Hid (∀ v' w', uE s k = 0 → bksN.owns w.heap.size w' [v'] (lL s k) → Below w.heap.size w w' → post (.returned (.tuple #[v', .int .i64 0])) w') := fun v' w' h1 h2 h3 => by
    rw [hpost]
    exact ⟨⟨v', by rw [h1], h2⟩, h3⟩
  rw [← hpost]
  clear hpost
  obtain ⟨n, hn⟩ : ∃ n, n = s.1.length := ⟨_, rfl⟩
  obtain ⟨nh, hnh⟩ : ∃ n, n = s.2.1.length := ⟨_, rfl⟩
  obtain ⟨no, hno⟩ : ∃ n, n = s.2.2.1.length := ⟨_, rfl⟩
  obtain ⟨nx, hnx⟩ : ∃ n, n = s.2.2.2 := ⟨_, rfl⟩
  rw [← hn, ← hnh, ← hno, ← hnx] at h ⊢
  obtain ⟨W, hW⟩ : ∃ W, W = w.alloc (.cells #[.slice a n c, .slice b nh d, .slice e no f, .int .i64 nx] 31) := ⟨_, rfl⟩
  have hbW : Below w.heap.size w W := by rw [hW]; exact (Below.refl _ w).alloc (Nat.le_refl _) _
  have hB1 : Box W w.heap.size 31 #[.slice a n c, .slice b nh d, .slice e no f, .int .i64 nx] := by rw [hW]; exact Box.new _ _ _
  have HC := inUse_any n0 [.slice a n c, .slice b nh d, .slice e no f, .int .i64 nx] s k W (stN.below h hbW)
  have HW : Hid (Below w.heap.size w W ∧ Box W w.heap.size 31 #[.slice a n c, .slice b nh d, .slice e no f, .int .i64 nx] ∧ stN.lies n0 w [.slice a n c, .slice b nh d, .slice e no f, .int .i64 nx] s) := ⟨hbW, hB1, h⟩
  obtain ⟨g0, g1, g2, g3, -⟩ := hB1.four
  rw [hW] at g0 g1 g2 g3
  clear h hS hH hO hN m1 m2 m3 hbW hB1 hn hnh hno hnx
  go_enter Try.func29, Try.ntmps29
  go_wp2_with fail
  rw [← hW]
  clear hW g0 g1 g2 g3
  refine HC.mono ?_
  rintro e1 w1 ⟨rfl, hb1⟩
  have HB1 : Hid (Below w.heap.size w w1) := below_any HW.out.1 hb1
  obtain ⟨q0, q1, q2, q3, -⟩ := (HW.out.2.1.below hb1 HW.out.2.1.lt).four
  clear hb1 HC
  rcases uE_cases s k with ⟨hu, hok, i, p, hki, hil, hip, hsl⟩ | ⟨hu, hv⟩
  · rw [hu]
    have HU : Hid (uE s k = 0 ∧ lL s k = lvs s p.1 p.2) := ⟨hu, by unfold lL; rw [if_pos hu, hsl]⟩
    subst hki
    have HCL := live_any n0 [.slice a n c, .slice b nh d, .slice e no f, .int .i64 nx] s i p w1 (stN.below HW.out.2.2 HB1.out) hok hip
    have HFB : Hid (FitsB (lvs s p.1 p.2)) := ⟨by have := lvs_le s p.1 p.2; have := hok.small p (List.mem_of_getElem? hip); omega, fun t ht => by
      have := may_len (hok.data p (List.mem_of_getElem? hip) t (lvs_mem ht))
      omega⟩
    clear hu hok hil hip hsl
    go_wp2_with fail
    refine HCL.mono ?_
    rintro e2 w2 ⟨⟨v2, rfl, hbx2⟩, hb2⟩
    have HCB := cblocks_any 0 v2 (lvs s p.1 p.2) w2 (hbx2.lies hb2) HFB.out
    obtain ⟨a2, c2, rfl⟩ := hbx2.shape
    have HB2 : Hid (Below w.heap.size w w2) := below_any HB1.out hb2
    clear hbx2 hb2 HCL q0 q1 q2 q3
    generalize (lvs s p.1 p.2).length = n2 at HCB
    go_wp2_with fail
    refine HCB.mono ?_
    rintro e3 w3 ⟨⟨v3, rfl, ho3⟩, hb3⟩
    have HE : Hid (post (.returned (.tuple #[v3, .int .i64 0])) w3) := HYES.out v3 w3 HU.out.1 (by rw [HU.out.2]; exact bksN.oweaken ho3 HB2.out.size) (below_any HB2.out hb3)
    clear ho3 hb3 HCB
    go_wp2
    exact HE.out
  · have HE : Hid (post (.returned (.tuple #[.slice none 0 0, .int .i64 (uE s k)])) w1) := HNO.out _ w1 rfl hu HB1.out
    generalize uE s k = r at hu hv HE
    have hri : (r == 0) = false := by simp [hu]
    clear hv
    go_wp2
    exact HE.out

set_option maxRecDepth 100000 in
set_option maxHeartbeats 8000000 in
theorem free_any (n0 : Nat) (us : List Value) (s : St) (k : Int) (w : World) (h : stN.lies n0 w us s) :
    Calls Try.prog 31 #[.agg us.toArray, .int .i64 k] w (TellsS (fE s k) (fS s k) w) := by
  obtain ⟨a, c, b, d, e, f, rfl, hS, hH, hO, hN, m1, m2, m3⟩ := st_viewN h
  obtain ⟨post, hpost⟩ : ∃ post : Ending → World → Prop, post = TellsS (fE s k) (fS s k) w := ⟨_, rfl⟩
  have HNO : Hid (∀ r w', fE s k = r → r ≠ 0 → Below w.heap.size w w' → post (.returned (.tuple #[.agg #[.slice none 0 0, .slice none 0 0, .slice none 0 0, .int .i64 0], .int .i64 r])) w') := fun k w' e1 e2 e3 => by
    rw [hpost]
    refine ⟨⟨_, by rw [e1], ?_⟩, e3⟩
    unfold fS
    rw [if_neg (by rw [e1]; exact e2)]
    exact s0_owns _ _
  have HYES : Hid (∀ us' w', fE s k = 0 → stN.owns w.heap.size w' us' (s.1.set k.toNat (0, []), s.2.1, s.2.2.1, s.2.2.2) → Below w.heap.size w w' → post (.returned (.tuple #[.agg us'.toArray, .int .i64 0])) w') := fun us' w' e1 e2 e3 => by
    rw [hpost]
    refine ⟨⟨us', by rw [e1], ?_⟩, e3⟩
    unfold fS
    rw [if_pos e1]
    exact e2
  rw [← hpost]
  clear hpost
  obtain ⟨n, hn⟩ : ∃ n, n = s.1.length := ⟨_, rfl⟩
  obtain ⟨nh, hnh⟩ : ∃ n, n = s.2.1.length := ⟨_, rfl⟩
  obtain ⟨no, hno⟩ : ∃ n, n = s.2.2.1.length := ⟨_, rfl⟩
  obtain ⟨nx, hnx⟩ : ∃ n, n = s.2.2.2 := ⟨_, rfl⟩
  rw [← hn, ← hnh, ← hno, ← hnx] at h ⊢
  obtain ⟨W, hW⟩ : ∃ W, W = (w.alloc (.cells #[.slice a n c, .slice b nh d, .slice e no f, .int .i64 nx] 31)).alloc (.cells #[.slice none 0 0, .slice none 0 0, .slice none 0 0, .int .i64 0] 31) := ⟨_, rfl⟩
  have hbW : Below w.heap.size w W := by rw [hW]; exact ((Below.refl _ w).alloc (Nat.le_refl _) _).alloc (by simp) _
  have hB1 : Box W w.heap.size 31 #[.slice a n c, .slice b nh d, .slice e no f, .int .i64 nx] := by rw [hW]; exact (Box.new _ _ _).alloc _
  have hB2 : Box W (w.heap.size + 1) 31 #[.slice none 0 0, .slice none 0 0, .slice none 0 0, .int .i64 0] := by
    rw [hW]
    have := Box.new (w.alloc (.cells #[.slice a n c, .slice b nh d, .slice e no f, .int .i64 nx] 31)) 31 #[.slice none 0 0, .slice none 0 0, .slice none 0 0, .int .i64 0]
    rwa [World.size_alloc] at this
  have HC := inUse_any n0 [.slice a n c, .slice b nh d, .slice e no f, .int .i64 nx] s k W (stN.below h hbW)
  have HW : Hid (Below w.heap.size w W ∧ W.heap.size = w.heap.size + 2 ∧ ∀ V, Below W.heap.size W V → Box V w.heap.size 31 #[.slice a n c, .slice b nh d, .slice e no f, .int .i64 nx] ∧ Box V (w.heap.size + 1) 31 #[.slice none 0 0, .slice none 0 0, .slice none 0 0, .int .i64 0]) := ⟨hbW, by rw [hW]; simp, fun V hV => ⟨hB1.below hV hB1.lt, hB2.below hV hB2.lt⟩⟩
  have HA : Hid (stN.lies n0 w [.slice a n c, .slice b nh d, .slice e no f, .int .i64 nx] s) := h
  obtain ⟨g0, g1, g2, g3, -⟩ := hB1.four
  rw [hW] at g0 g1 g2 g3
  clear h hS hH hO hN m1 m2 m3 hbW hB1 hB2 hn hnh hno hnx
  go_enter Try.func31, Try.ntmps31
  go_wp2_with fail
  rw [← hW]
  clear hW g0 g1 g2 g3
  refine HC.mono ?_
  rintro e1 w1 ⟨rfl, hb1⟩
  obtain ⟨hx1, hx3⟩ := HW.out.2.2 w1 hb1
  have HB1 : Hid (Below W.heap.size W w1) := hb1
  rcases uE_cases s k with ⟨hu, hok, i, p, hki, hil, hip, hsl⟩ | ⟨hu, hv⟩
  case inr =>
    obtain ⟨y0, y1, y2, y3, j0, j1, j2, j3⟩ := hx3.four
    have HE := HNO.out (uE s k) ((((w1.setCell ⟨w.heap.size + 1, 0, none⟩ (.slice none 0 0)).setCell ⟨w.heap.size + 1, 1, none⟩ (.slice none 0 0)).setCell ⟨w.heap.size + 1, 2, none⟩ (.slice none 0 0)).setCell ⟨w.heap.size + 1, 3, none⟩ (.int .i64 0)) (by unfold fE; rw [if_neg hu]) hu (below_set4 (below_any HW.out.1 hb1) (by omega) _ _ _ _)
    have HE : Hid _ := HE
    generalize uE s k = r at hu hv HE
    have hri : (r == 0) = false := by simp [hu]
    clear hb1 hx1 hx3 hv
    go_wp2
    refine bodyPost_ret (v := .tuple #[.agg #[.slice none 0 0, .slice none 0 0, .slice none 0 0, .int .i64 0], .int .i64 r]) (by simp [results, Try.results31, go_sem, *]) rfl HE.out
  case inl =>
    rw [hu]
    have HU : Hid (uE s k = 0 ∧ lL s k = lvs s p.1 p.2 ∧ Ok s ∧ i < s.1.length ∧ k.toNat = i) := ⟨hu, by unfold lL; rw [if_pos hu, hsl], hok, hil, by omega⟩
    have HCL := live_any n0 [.slice a n c, .slice b nh d, .slice e no f, .int .i64 nx] s i p w1 (stN.below HA.out (below_any HW.out.1 HB1.out)) hok hip
    rw [HU.out.2.2.2.2] at HYES
    subst hki
    obtain ⟨q0, q1, q2, q3, -⟩ := hx1.four
    clear hu hok hil hip hsl hx1 hx3 hb1
    go_wp2_with fail
    refine HCL.mono ?_
    rintro e2 w2 ⟨⟨v2, rfl, hbx2⟩, hb2⟩
    obtain ⟨a2, c2, rfl⟩ := hbx2.shape
    have HB2 : Hid (Below W.heap.size W w2) := HB1.out.trans (hb2.mono HB1.out.size)
    obtain ⟨n2, hn2⟩ : ∃ n2, n2 = (lvs s p.1 p.2).length := ⟨_, rfl⟩
    have HN2 : Hid (n2 = (lL s (i : Int)).length) := show _ = _ by rw [HU.out.2.1]; exact hn2
    rw [← hn2]
    have hl2 := run_len Try.underlying29 a2 n2 c2
    obtain ⟨hx1, hx3⟩ := HW.out.2.2 w2 HB2.out
    clear hbx2 hb2 HCL q0 q1 q2 q3 hn2
    by_cases h0 : 0 < n2
    · have h0i : (0 : Int) < (n2 : Int) := by omega
      obtain ⟨y0, y1, y2, y3, j0, j1, j2, j3⟩ := hx3.four
      have HE := HNO.out 91 ((((w2.setCell ⟨w.heap.size + 1, 0, none⟩ (.slice none 0 0)).setCell ⟨w.heap.size + 1, 1, none⟩ (.slice none 0 0)).setCell ⟨w.heap.size + 1, 2, none⟩ (.slice none 0 0)).setCell ⟨w.heap.size + 1, 3, none⟩ (.int .i64 0)) (by unfold fE; rw [if_pos HU.out.1, if_pos (by rw [← HN2.out]; exact h0)]) (by decide) (below_set4 (below_any HW.out.1 HB2.out) (by omega) _ _ _ _)
      have HE : Hid _ := HE
      clear hx1 hx3
      go_wp2
      refine bodyPost_ret (v := .tuple #[.agg #[.slice none 0 0, .slice none 0 0, .slice none 0 0, .int .i64 0], .int .i64 91]) (by simp [results, Try.results31, go_sem, *]) rfl HE.out
    · have h0i : ¬ (0 : Int) < (n2 : Int) := by omega
      have HFE : Hid (fE s (i : Int) = 0) := show _ = _ by unfold fE; rw [if_pos HU.out.1, if_neg (by rw [← HN2.out]; exact h0)]
      have HCC := copied_any n0 [.slice a n c, .slice b nh d, .slice e no f, .int .i64 nx] s w2 (stN.below HA.out (below_any HW.out.1 HB2.out)) HU.out.2.2.1.fits
      obtain ⟨z0, z1, z2, z3, -⟩ := hx1.four
      clear hx1 hx3
      go_wp2_with fail
      refine HCC.mono ?_
      rintro e3 w3 ⟨⟨us3, rfl, ho3⟩, hb3⟩
      replace ho3 := ho3.owns
      obtain ⟨l, hd, op, nx'⟩ := s
      obtain ⟨a1, c1, a2, c2, a3, c3, rfl, hs1, hs2, hs3, hI⟩ := st_ownN ho3
      simp only at hs1 hs2 hs3 hI ⊢
      have hbw3 : Below W.heap.size W w3 := HB2.out.trans (hb3.mono HB2.out.size)
      obtain ⟨hx1, hx3⟩ := HW.out.2.2 w3 hbw3
      obtain ⟨r0, r1, r2, r3, k0, k1, k2, k3⟩ := hx1.four
      obtain ⟨X, hX⟩ : ∃ X, X = (((w3.setCell ⟨w.heap.size, 0, none⟩ (.slice a1 l.length c1)).setCell ⟨w.heap.size, 1, none⟩ (.slice a2 hd.length c2)).setCell ⟨w.heap.size, 2, none⟩ (.slice a3 op.length c3)).setCell ⟨w.heap.size, 3, none⟩ (.int .i64 nx') := ⟨_, rfl⟩
      have hxX : Box X w.heap.size 31 #[.slice a1 l.length c1, .slice a2 hd.length c2, .slice a3 op.length c3, .int .i64 nx'] := by rw [hX]; exact (((hx1.set 0 _).set 1 _).set 2 _).set 3 _
      have hzX : Box X (w.heap.size + 1) 31 #[.slice none 0 0, .slice none 0 0, .slice none 0 0, .int .i64 0] := by rw [hX]; exact (((hx3.other (by omega)).other (by omega)).other (by omega)).other (by omega)
      have hbX : Below w.heap.size w X := by rw [hX]; exact below_set4 (below_any HW.out.1 hbw3) (Nat.le_refl _) _ _ _ _
      have hW2 := HW.out.2.1
      have hw2 : w.heap.size + 2 ≤ w2.heap.size := by have := HB2.out.size; omega
      have hsX : Same (w2.heap.size + 2) w3 X := by rw [hX]; exact .set4 (by omega)
      have hg1 := sgsN.osame hs1 hsX
      have hg2 := boolsS.osame hs2 hsX
      have hg3 := bksN.osame hs3 hsX
      obtain ⟨g, cap, hv, hgB, hgl, hix, ⟨u0, u1, cc0, cc1⟩, ff0, ff1, hst⟩ := sgs_set hg1 i HU.out.2.2.2.1
      obtain ⟨rfl, rfl⟩ : a1 = some ⟨g, 0, none⟩ ∧ c1 = cap := by simpa using hv
      obtain ⟨hY1, hYg, hcl⟩ := hst 0 (.slice none 0 0) [] ⟨by omega, by omega⟩ (Shape.list_nil bkN 29 Try.underlying29 cells29 _ _)
      obtain ⟨Y, hY⟩ : ∃ Y, Y = (X.setCell ⟨g, i * 2, none⟩ (.int .i64 0)).setCell ⟨g, i * 2 + 1, none⟩ (.slice none 0 0) := ⟨_, rfl⟩
      rw [← hY] at hY1 hYg
      have hxY := hxX.grown hYg (by simp; omega)
      have hzY := hzX.grown hYg (by simp; omega)
      have hbY : Below w.heap.size w Y := by rw [hY]; exact (hbX.setCell (p := ⟨g, i * 2, none⟩) (by show w.heap.size ≤ g; omega) _).setCell (p := ⟨g, i * 2 + 1, none⟩) (by show w.heap.size ≤ g; omega) _
      have hY2 := boolsS.ogrown hg2 hYg (hcl.sub (fun x hx => by
        have : x = 4 := List.mem_singleton.1 hx
        rw [this]; simp))
      have hY3 := bksN.ogrown hg3 hYg (hcl.sub (fun x hx => by
        have : x = 48 ∨ x = 5 := by
          rcases List.mem_cons.1 hx with h | h
          · exact .inl h
          · exact .inr (List.mem_singleton.1 h)
        rcases this with rfl | rfl <;> simp))
      have hzown : stN.owns (w.heap.size + 2) Y [.slice (some ⟨g, 0, none⟩) l.length c1, .slice a2 hd.length c2, .slice a3 op.length c3, .int .i64 nx'] (l.set i (0, []), hd, op, nx') := st_omkN (s := (l.set i (0, []), hd, op, nx')) (sgsN.oweaken hY1 (by omega)) (boolsS.oweaken hY2 (by omega)) (bksN.oweaken hY3 (by omega)) hI
      have HEND : Hid (∀ U, Same (w.heap.size + 2) Y U → Below w.heap.size w U → post (.returned (.tuple #[.agg #[.slice (some ⟨g, 0, none⟩) l.length c1, .slice a2 hd.length c2, .slice a3 op.length c3, .int .i64 nx'], .int .i64 0])) U) := fun U h1 h2 => HYES.out [_, _, _, _] U HFE.out (stN.oweaken (stN.osame hzown h1) (by omega)) h2
      have HBZ : Hid (Below w.heap.size w Y) := hbY
      obtain ⟨s0', s1', s2', s3', -⟩ := hxX.four
      obtain ⟨q0, q1, q2, q3, -⟩ := hxY.four
      obtain ⟨y0, y1, y2, y3, f0, f1, f2, f3⟩ := hzY.four
      go_upto_region 7 with fail
      rw [← hX]
      clear hX hxX hzX hbX hW2 hw2 hsX hg1 hg2 hg3 hst hcl hY1 hYg hxY hzY hbY hY2 hY3 hs1 hs2 hs3 ho3 hb3 hbw3 hx1 hx3 HCC r0 r1 r2 r3 k0 k1 k2 k3 z0 z1 z2 z3 hzown
      go_upto_region 8 with fail
      rw [← hY]
      clear hY cc0 cc1 ff0 ff1 hix s0' s1' s2' s3'
      go_wp2
      refine bodyPost_ret (v := .tuple #[.agg #[.slice (some ⟨g, 0, none⟩) l.length c1, .slice a2 hd.length c2, .slice a3 op.length c3, .int .i64 nx'], .int .i64 0]) (by simp [results, Try.results31, go_sem, *]) rfl ?_
      exact HEND.out _ (.set4 (by omega)) (below_set4 HBZ.out (by omega) _ _ _ _)

end Go.Proofs.Ytkpckadicjdieab

/-
  What the program's Get answers, for every store and kind.
-/
namespace Go.Proofs.Ytkpckadicjdieab
open Go.RowKit

def gB (s : St) (o i : Int) : List Int := if okB s = true then (last s o i).1.2.2 else []
theorem kn_mem : ∀ (m : List Ver) (x : Kn), ((m.foldl knStep x).1 = x.1) ∨ ∃ y ∈ m, (m.foldl knStep x).1 = y.2.2
  | [], _ => .inl rfl
  | y :: m, x => by
    rw [List.foldl_cons]
    rcases kn_mem m (knStep x y) with h | ⟨z, hz, h⟩
    · rw [h]
      unfold knStep
      split
      · exact .inr ⟨y, by simp, rfl⟩
      · exact .inl rfl
    · exact .inr ⟨z, by simp [hz], h⟩
theorem vers_mem {s : St} {x : Ver} (h : x ∈ vers s) : (∃ p ∈ s.1, x.2.2 ∈ p.2 ∧ x.1 = p.1) ∨ (x.2.2 ∈ s.2.2.1 ∧ x.1 = s.2.2.2) := by
  have hpl : ∀ (q : Int) (l : List Bk), x ∈ plc q l → x.2.2 ∈ l ∧ x.1 = q := fun q l hx => by
    unfold plc at hx
    obtain ⟨y, hy, rfl⟩ := List.mem_map.1 hx
    obtain ⟨y1, y2⟩ := y
    exact ⟨(List.mem_zipIdx hy).2.2 ▸ List.getElem_mem _, rfl⟩
  rcases List.mem_append.1 h with h | h
  · unfold segv at h
    obtain ⟨l, hl, hx⟩ := List.mem_flatten.1 h
    obtain ⟨p, hp, rfl⟩ := List.mem_map.1 hl
    exact .inl ⟨p, hp, hpl _ _ hx⟩
  · exact .inr (hpl _ _ h)
theorem last_may {s : St} (h : Ok s) (o i : Int) : (last s o i).1.2.2.length ≤ 32 := by
  unfold last kn
  rcases kn_mem ((vers s).filter (isK o i)) kn0 with e | ⟨y, hy, e⟩
  · rw [e]; simp [kn0]
  · rw [e]
    rcases vers_mem (List.mem_filter.1 hy).1 with ⟨p, hp, hb, _⟩ | ⟨hb, _⟩
    · exact may_len (h.data p hp _ hb)
    · exact may_len (List.all_eq_true.1 h.may _ hb)

set_option maxRecDepth 100000 in
set_option maxHeartbeats 4000000 in
theorem get_any (n0 : Nat) (us : List Value) (s : St) (o i : Int) (w : World) (h : stN.lies n0 w us s) (ho : I64 o) (hi : I64 i) :
    Calls Try.prog 54 #[.agg us.toArray, .int .i64 o, .int .i64 i] w fun e w' => (∃ v', e = .returned (.tuple #[v', .bool (!decide ((gB s o i).length = 0)), .int .i64 (okE s)]) ∧ Own1 w.heap.size w' v' (gB s o i)) ∧ Below w.heap.size w w' := by
  obtain ⟨a, c, b, d, e, f, rfl, hS, hH, hO, hN, m1, m2, m3⟩ := st_viewN h
  obtain ⟨post, hpost⟩ : ∃ post : Ending → World → Prop, post = fun e w' => (∃ v', e = .returned (.tuple #[v', .bool (!decide ((gB s o i).length = 0)), .int .i64 (okE s)]) ∧ Own1 w.heap.size w' v' (gB s o i)) ∧ Below w.heap.size w w' := ⟨_, rfl⟩
  have HNO : Hid (∀ w', ¬ Ok s → Below w.heap.size w w' → post (.returned (.tuple #[.slice none 0 0, .bool false, .int .i64 9])) w') := fun w' h1 h3 => by
    have hb : gB s o i = [] := by unfold gB; rw [if_neg (fun c => h1 (ok_iff.1 c))]
    rw [hpost]
    refine ⟨⟨_, by rw [okE_bad h1, hb]; rfl, ?_⟩, h3⟩
    rw [hb]
    exact .mk (World.ownsRow_nil _ _ _ _) (fun _ h => by cases h)
  have HYES : Hid (∀ v' w', Ok s → Own1 w.heap.size w' v' (last s o i).1.2.2 → Below w.heap.size w w' → post (.returned (.tuple #[v', .bool (!decide ((last s o i).1.2.2.length = 0)), .int .i64 0])) w') := fun v' w' h1 h2 h3 => by
    have hb : gB s o i = (last s o i).1.2.2 := by unfold gB; rw [if_pos (ok_iff.2 h1)]
    rw [hpost]
    exact ⟨⟨v', by rw [okE_ok h1, hb], by rw [hb]; exact h2⟩, h3⟩
  rw [← hpost]
  clear hpost
  obtain ⟨n, hn⟩ : ∃ n, n = s.1.length := ⟨_, rfl⟩
  obtain ⟨nh, hnh⟩ : ∃ n, n = s.2.1.length := ⟨_, rfl⟩
  obtain ⟨no, hno⟩ : ∃ n, n = s.2.2.1.length := ⟨_, rfl⟩
  obtain ⟨nx, hnx⟩ : ∃ n, n = s.2.2.2 := ⟨_, rfl⟩
  rw [← hn, ← hnh, ← hno, ← hnx] at h ⊢
  obtain ⟨W, hW⟩ : ∃ W, W = w.alloc (.cells #[.slice a n c, .slice b nh d, .slice e no f, .int .i64 nx] 31) := ⟨_, rfl⟩
  have hbW : Below w.heap.size w W := by rw [hW]; exact (Below.refl _ w).alloc (Nat.le_refl _) _
  have hB1 : Box W w.heap.size 31 #[.slice a n c, .slice b nh d, .slice e no f, .int .i64 nx] := by rw [hW]; exact Box.new _ _ _
  have HC := checkL_any n0 [.slice a n c, .slice b nh d, .slice e no f, .int .i64 nx] s W (stN.below h hbW)
  have HW : Hid (Below w.heap.size w W ∧ Box W w.heap.size 31 #[.slice a n c, .slice b nh d, .slice e no f, .int .i64 nx] ∧ stN.lies n0 w [.slice a n c, .slice b nh d, .slice e no f, .int .i64 nx] s ∧ I64 o ∧ I64 i) := ⟨hbW, hB1, h, ho, hi⟩
  obtain ⟨g0, g1, g2, g3, -⟩ := hB1.four
  rw [hW] at g0 g1 g2 g3
  clear h hS hH hO hN m1 m2 m3 hbW hB1 hn hnh hno hnx ho hi
  go_enter Try.func54, Try.ntmps54
  go_wp2_with fail
  rw [← hW]
  clear hW g0 g1 g2 g3
  refine HC.mono ?_
  rintro e1 w1 ⟨rfl, hb1⟩
  have HB1 : Hid (Below w.heap.size w w1) := below_any HW.out.1 hb1
  obtain ⟨q0, q1, q2, q3, -⟩ := (HW.out.2.1.below hb1 HW.out.2.1.lt).four
  clear hb1 HC
  rcases okE_cases s with ⟨hk, hok⟩ | ⟨hk, hok⟩
  case inr =>
    rw [hk]
    have HE : Hid (post (.returned (.tuple #[.slice none 0 0, .bool false, .int .i64 9])) w1) := HNO.out w1 hok HB1.out
    clear hk hok
    go_wp2
    go_ret3
    exact HE.out
  case inl =>
    rw [hk]
    have HOK : Hid (Ok s) := hok
    have HCL := last_any n0 [.slice a n c, .slice b nh d, .slice e no f, .int .i64 nx] s w1 (stN.below HW.out.2.2.1 HB1.out) hok
    clear hk hok
    go_wp2_with fail
    refine HCL.mono ?_
    rintro e2 w2 ⟨⟨bb, rfl, hLV, -⟩, hb2⟩
    obtain ⟨kvv, hlk, hkv⟩ := hLV.look HW.out.2.2.2.1 HW.out.2.2.2.2
    have hlk2 := hlk w2 rfl
    obtain ⟨ka, kc, hkv0, hKA, _⟩ := hkv
    have HLA : Hid (∀ v' w', Own1 w.heap.size w' v' (last s o i).1.2.2 → Below w.heap.size w w' → post (.returned (.tuple #[v', .bool (!decide ((last s o i).1.2.2.length = 0)), .int .i64 0])) w') := fun v' w' h1 h2 => HYES.out v' w' HOK.out h1 h2
    have HLM : Hid ((last s o i).1.2.2.length ≤ 32) := last_may HOK.out o i
    unfold last at HLA HLM
    obtain ⟨⟨kb, sq, pl, ct⟩, hkk⟩ : ∃ y, y = kn (vers s) o i := ⟨_, rfl⟩
    rw [← hkk] at hkv0 hKA HLA HLM
    simp only at hkv0 hKA HLA HLM
    obtain ⟨m, hm⟩ : ∃ m, m = kb.2.2.length := ⟨_, rfl⟩
    rw [← hm] at hkv0 hKA HLA HLM
    subst hkv0
    obtain ⟨V, hV⟩ : ∃ V, V = w2.alloc (.cells #[.int .i64 kb.1, .int .i64 kb.2.1, .slice ka m kc, .int .i64 sq, .int .i64 (pl : Nat), .int .i64 (ct : Nat)] 82) := ⟨_, rfl⟩
    have hbV : Below w2.heap.size w2 V := by rw [hV]; exact (Below.refl _ _).alloc (Nat.le_refl _) _
    have hxV : Box V w2.heap.size 82 #[.int .i64 kb.1, .int .i64 kb.2.1, .slice ka m kc, .int .i64 sq, .int .i64 (pl : Nat), .int .i64 (ct : Nat)] := by rw [hV]; exact Box.new _ _ _
    have HV : Hid (Below w.heap.size w V ∧ Arg 0 V (.slice ka m kc) kb.2.2 ∧ ∀ U, Below V.heap.size V U → U.cell? ⟨w2.heap.size, 0, none⟩ = some (.int .i64 kb.1) ∧ U.cell? ⟨w2.heap.size, 1, none⟩ = some (.int .i64 kb.2.1) ∧ U.cell? ⟨w2.heap.size, 2, none⟩ = some (.slice ka m kc)) := ⟨below_any (below_any HB1.out hb2) hbV, (hKA.below hb2).below hbV, fun U hU => by
      have h1 := (hxV.below hU hxV.lt).six
      exact ⟨h1.1, h1.2.1, h1.2.2.1⟩⟩
    have HM : Hid (m = kb.2.2.length) := hm
    clear hLV hb2 hlk hKA hkk hm hbV hxV HCL
    go_upto_region 5 with fail
    rw [← hV]
    clear hV hlk2 q0 q1 q2 q3
    refine AnyBut.begin (fun U => U.cell? ⟨w2.heap.size, 0, none⟩ = some (.int .i64 kb.1) ∧ U.cell? ⟨w2.heap.size, 1, none⟩ = some (.int .i64 kb.2.1) ∧ U.cell? ⟨w2.heap.size, 2, none⟩ = some (.slice ka m kc)) 1000 (by kernel_rfl) ?_
    have hSS := HV.out.2.2 V.drew (Below.refl _ V).drew
    refine tx 0 22 hSS ?_
    simp only [ua, ub, uc, ud]
    refine tx 1 23 hSS ?_
    simp only [ua, ub, uc, ud]
    refine tx 2 24 hSS ?_
    simp only [ua, ub, uc, ud]
    refine tx 4 26 hSS ?_
    simp only [ua, ub, uc, ud]
    refine tx 5 27 hSS ?_
    simp only [ua, ub, uc, ud]
    refine AnyBut.step (i := 3) (by kernel_rfl) rfl (fun K hK => ?_)
    go_simp
    refine Calls.mono (octets_any 0 (.slice ka m kc) kb.2.2 V.drew (HV.out.2.1.below (Below.refl _ V).drew) (by have := HLM.out; have := HM.out; omega)) ?_
    rintro e3 w3 ⟨⟨v3, rfl, ho3⟩, hb3⟩
    have hb3 : Below V.heap.size V w3 := ((Below.refl _ V).drew).trans hb3
    dsimp only
    refine hK.out _ _ (HV.out.2.2 w3 hb3) ?_
    clear hK hSS
    have hSS := HV.out.2.2 w3 hb3
    refine AnyBut.step (i := 6) (by kernel_rfl) rfl (fun K hK => ?_)
    go_simp
    refine Calls.mono (isGone_any kb.1 kb.2.1 ka m kc w3) ?_
    rintro e4 w4 ⟨rfl, hb4⟩
    have hb34 := hb4
    have hb4 : Below V.heap.size V w4 := hb3.trans (hb4.mono hb3.size)
    dsimp only
    refine hK.out _ _ (HV.out.2.2 w4 hb4) ?_
    clear hK hSS
    have hSS := HV.out.2.2 w4 hb4
    have HE : Hid (post (.returned (.tuple #[v3, .bool (!decide (m = 0)), .int .i64 0])) w4) := HLA.out v3 w4 (bytesS.oweaken (bytesS.obelow ho3 hb34) HV.out.1.size) (below_any HV.out.1 hb4)
    obtain ⟨a3, c3, rfl⟩ := ho3.shape
    generalize decide (m = 0) = gn at HE
    refine tx 7 29 hSS ?_
    simp only [ua, ub, uc, ud]
    refine tx 8 6 hSS ?_
    simp only [ua, ub, uc, ud]
    refine tx 9 7 hSS ?_
    simp only [ua, ub, uc, ud]
    refine tx 10 8 hSS ?_
    simp only [ua, ub, uc, ud]
    refine AnyBut.done (by kernel_rfl) ?_
    clear ho3 hb3 hb4 hb34 hSS
    go_wp2
    go_ret3
    exact HE.out

/-! New stores. -/
def nE (k : Int) : Int := if k < 1 ∨ 64 < k then 4 else 0
def nS (k : Int) : St := if nE k = 0 then (List.replicate k.toNat (0, []), List.replicate k.toNat false, [], 1) else s0
theorem each_rep {α β : Type} {R : α → β → Prop} {a : α} {b : β} (h : R a b) : ∀ n, Each R (List.replicate n a) (List.replicate n b)
  | 0 => trivial
  | n + 1 => ⟨h, each_rep h n⟩
theorem made_two (z1 z2 : Value) (n : Nat) : (madeCells #[z1, z2] (n * 2)).toList = (List.replicate n [z1, z2]).flatten := by
  apply List.ext_getElem?
  intro j
  by_cases hj : j < n * 2
  · have h1 : (List.replicate n [z1, z2])[j / 2]? = some [z1, z2] := by rw [List.getElem?_replicate, if_pos (by omega)]
    have h2 : ([z1, z2] : List Value)[j % 2]? = some (if j % 2 = 0 then z1 else z2) := by
      have : j % 2 = 0 ∨ j % 2 = 1 := by omega
      rcases this with e | e <;> rw [e] <;> rfl
    have h3 := flat_get (size := 2) (fun us hus => by rw [List.eq_of_mem_replicate hus]; rfl) h1 h2
    rw [show j / 2 * 2 + j % 2 = j by omega] at h3
    rw [h3]
    have : j % 2 = 0 ∨ j % 2 = 1 := by omega
    rcases this with e | e <;> simp [madeCells, hj, e]
  · have h4 : ((List.replicate n [z1, z2]).flatten).length = n * 2 := by rw [flat_length (size := 2) (fun us hus => by rw [List.eq_of_mem_replicate hus]; rfl), List.length_replicate]
    have h5 : ((List.replicate n [z1, z2]).flatten)[j]? = none := List.getElem?_eq_none (by rw [h4]; omega)
    rw [h5]
    simp [madeCells, hj]

end Go.Proofs.Ytkpckadicjdieab

/-
  What the program's New answers.
-/
namespace Go.Proofs.Ytkpckadicjdieab
open Go.RowKit

set_option maxRecDepth 100000 in
set_option maxHeartbeats 4000000 in
theorem new_any (k : Int) (w : World) : Calls Try.prog 21 #[.int .i64 k] w (TellsS (nE k) (nS k) w) := by
  obtain ⟨post, hpost⟩ : ∃ post : Ending → World → Prop, post = TellsS (nE k) (nS k) w := ⟨_, rfl⟩
  have HNO : Hid (∀ w', nE k = 4 → Below w.heap.size w w' → post (.returned (.tuple #[.agg #[.slice none 0 0, .slice none 0 0, .slice none 0 0, .int .i64 0], .int .i64 4])) w') := fun w' e1 e3 => by
    rw [hpost]
    refine ⟨⟨_, by rw [e1], ?_⟩, e3⟩
    unfold nS
    rw [if_neg (by rw [e1]; decide)]
    exact s0_owns _ _
  have HYES : Hid (∀ us' w', nE k = 0 → stN.owns w.heap.size w' us' (List.replicate k.toNat (0, []), List.replicate k.toNat false, [], 1) → Below w.heap.size w w' → post (.returned (.tuple #[.agg us'.toArray, .int .i64 0])) w') := fun us' w' e1 e2 e3 => by
    rw [hpost]
    refine ⟨⟨us', by rw [e1], ?_⟩, e3⟩
    unfold nS
    rw [if_pos e1]
    exact e2
  rw [← hpost]
  clear hpost
  obtain ⟨W, hW⟩ : ∃ W, W = w.alloc (.cells #[.slice none 0 0, .slice none 0 0, .slice none 0 0, .int .i64 0] 31) := ⟨_, rfl⟩
  have hbW : Below w.heap.size w W := by rw [hW]; exact (Below.refl _ w).alloc (Nat.le_refl _) _
  have hB1 : Box W w.heap.size 31 #[.slice none 0 0, .slice none 0 0, .slice none 0 0, .int .i64 0] := by rw [hW]; exact Box.new _ _ _
  have HW : Hid (Below w.heap.size w W ∧ Box W w.heap.size 31 #[.slice none 0 0, .slice none 0 0, .slice none 0 0, .int .i64 0] ∧ W.heap.size = w.heap.size + 1) := ⟨hbW, hB1, by rw [hW]; simp⟩
  obtain ⟨g0, g1, g2, g3, f0, f1, f2, f3⟩ := hB1.four
  clear hbW hB1
  by_cases h1 : k < 1
  · have HE := HNO.out ((((W.setCell ⟨w.heap.size, 0, none⟩ (.slice none 0 0)).setCell ⟨w.heap.size, 1, none⟩ (.slice none 0 0)).setCell ⟨w.heap.size, 2, none⟩ (.slice none 0 0)).setCell ⟨w.heap.size, 3, none⟩ (.int .i64 0)) (by unfold nE; rw [if_pos (.inl h1)]) (below_set4 HW.out.1 (Nat.le_refl _) _ _ _ _)
    have HE : Hid _ := HE
    go_enter Try.func21, Try.ntmps21
    go_upto_region 1 with fail
    rw [← hW]
    clear hW
    go_wp2
    refine bodyPost_ret (v := .tuple #[.agg #[.slice none 0 0, .slice none 0 0, .slice none 0 0, .int .i64 0], .int .i64 4]) (by simp [results, Try.results21, go_sem, *]) rfl HE.out
  by_cases h2 : 64 < k
  · have HE := HNO.out ((((W.setCell ⟨w.heap.size, 0, none⟩ (.slice none 0 0)).setCell ⟨w.heap.size, 1, none⟩ (.slice none 0 0)).setCell ⟨w.heap.size, 2, none⟩ (.slice none 0 0)).setCell ⟨w.heap.size, 3, none⟩ (.int .i64 0)) (by unfold nE; rw [if_pos (.inr h2)]) (below_set4 HW.out.1 (Nat.le_refl _) _ _ _ _)
    have HE : Hid _ := HE
    go_enter Try.func21, Try.ntmps21
    go_upto_region 1 with fail
    rw [← hW]
    clear hW
    go_wp2
    refine bodyPost_ret (v := .tuple #[.agg #[.slice none 0 0, .slice none 0 0, .slice none 0 0, .int .i64 0], .int .i64 4]) (by simp [results, Try.results21, go_sem, *]) rfl HE.out
  obtain ⟨n, rfl⟩ : ∃ n : Nat, k = n := ⟨k.toNat, by omega⟩
  have HN : Hid (nE (n : Int) = 0 ∧ n ≤ 64) := ⟨by unfold nE; rw [if_neg (by omega)], by omega⟩
  rw [Int.toNat_natCast] at HYES
  obtain ⟨i1, hi1, hz10, hz11, hz12⟩ := info_parts Try.info45
  obtain ⟨i4, hi4, hz40, hz41, hz42⟩ := info_parts Try.info4
  have HMS : Hid (∀ U, w.heap.size + 1 ≤ U.heap.size → ∃ w', (Instr.makeSlice 28 (.int .i64 (n : Int)) (.int .i64 (n : Int))).run Try.prog U = .ok (.slice (some ⟨U.heap.size, 0, none⟩) n n) w' ∧ sgsN.owns (w.heap.size + 1) w' [.slice (some ⟨U.heap.size, 0, none⟩) n n] (List.replicate n (0, [])) ∧ U.grownBy w' none) := fun U hU => by
    obtain ⟨w', h1, h2, h3⟩ := run_make_full U (w.heap.size + 1) 28 45 i1 _ 2 Try.underlying28 hi1 hz10 hz11 .i64 .i64 n (by rw [hz12]; have := HN.out.2; omega) (by have := HN.out.2; unfold maxLen; omega) hU
    have hm : (madeCells (Value.agg #[.int .i64 0, .slice none 0 0]).cells (n * 2)).toList = (List.replicate n [Value.int .i64 0, Value.slice none 0 0]).flatten := made_two (.int .i64 0) (.slice none 0 0) n
    rw [hm] at h2
    exact ⟨w', h1, ⟨_, List.replicate n [.int .i64 0, .slice none 0 0], rfl, by rw [List.length_replicate]; exact h2, each_rep (sg_omkN (s := (0, [])) (Shape.list_nil bkN 29 Try.underlying29 cells29 _ _) ⟨by show _ ≤ (0 : Int); omega, by show (0 : Int) ≤ _; omega⟩) n⟩, h3⟩
  have HMB : Hid (∀ U, w.heap.size + 1 ≤ U.heap.size → ∃ w', (Instr.makeSlice 23 (.int .i64 (n : Int)) (.int .i64 (n : Int))).run Try.prog U = .ok (.slice (some ⟨U.heap.size, 0, none⟩) n n) w' ∧ boolsS.owns (w.heap.size + 1) w' [.slice (some ⟨U.heap.size, 0, none⟩) n n] (List.replicate n false) ∧ U.grownBy w' none) := fun U hU => by
    obtain ⟨w', h1, h2, h3⟩ := run_make_full U (w.heap.size + 1) 23 4 i4 _ 1 Try.underlying23 hi4 hz40 hz41 .i64 .i64 n (by rw [hz42]; have := HN.out.2; omega) (by have := HN.out.2; unfold maxLen; omega) hU
    have hm : (madeCells (Value.bool false).cells (n * 1)).toList = (List.replicate n false).map Value.bool := by rw [Nat.mul_one, List.map_replicate]; exact toList_madeCells_one _ _
    rw [hm] at h2
    exact ⟨w', h1, ⟨_, rfl, by rw [List.length_replicate]; exact h2, fun _ _ => trivial⟩, h3⟩
  have HEND : Hid (∀ a b w3, Below w.heap.size w w3 → sgsN.owns (w.heap.size + 1) w3 [a] (List.replicate n (0, [])) → boolsS.owns (w.heap.size + 1) w3 [b] (List.replicate n false) → post (.returned (.tuple #[.agg #[a, b, .slice none 0 0, .int .i64 1], .int .i64 0])) ((((w3.setCell ⟨w.heap.size, 0, none⟩ a).setCell ⟨w.heap.size, 1, none⟩ b).setCell ⟨w.heap.size, 2, none⟩ (.slice none 0 0)).setCell ⟨w.heap.size, 3, none⟩ (.int .i64 1))) := fun a b w3 hb h1 h2 => HYES.out [_, _, _, _] _ HN.out.1 (stN.oweaken (n := w.heap.size + 1) (stN.osame (st_omkN (s := (List.replicate n (0, []), List.replicate n false, [], 1)) h1 h2 (Shape.list_nil bkN 29 Try.underlying29 cells29 _ _) ⟨by show _ ≤ (1 : Int); omega, by show (1 : Int) ≤ _; omega⟩) (.set4 (by omega))) (by omega)) (below_set4 hb (Nat.le_refl _) _ _ _ _)
  have hni : (1 : Int) ≤ (n : Int) ∧ (n : Int) ≤ 64 := ⟨by omega, by omega⟩
  clear hi1 hz10 hz11 hz12 hi4 hz40 hz41 hz42
  go_enter Try.func21, Try.ntmps21
  go_upto_region 1 with fail
  rw [← hW]
  clear hW
  go_upto_region 3 with fail
  refine AnyBut.begin (fun _ => True) 1000 (by kernel_rfl) ?_
  have hSS : True := trivial
  refine tx 0 11 hSS ?_
  simp only [ua, ub, uc, ud]
  refine tx 2 13 hSS ?_
  simp only [ua, ub, uc, ud]
  refine AnyBut.two (i := 1) (j := 3) (by kernel_rfl) rfl rfl (fun K hK => ?_) (fun K hK => ?_)
  · obtain ⟨w1, hr1, ho1, hg1⟩ := HMS.out W.drew (by have := HW.out.2.2; show _ ≤ W.heap.size; omega)
    go_simp
    refine hK.out _ _ trivial ?_
    clear hK
    obtain ⟨w2, hr2, ho2, hg2⟩ := HMB.out w1 (by have := hg1.size; have := HW.out.2.2; have h9 : W.drew.heap.size = W.heap.size := rfl; omega)
    refine AnyBut.step (i := 3) (by kernel_rfl) rfl (fun K hK => ?_)
    go_simp
    refine hK.out _ _ trivial ?_
    clear hK
    refine tx 4 15 hSS ?_
    simp only [ua, ub, uc, ud]
    have hbx2 := ((HW.out.2.1.drew.grown hg1 (by simp)).grown hg2 (by simp))
    obtain ⟨y0, y1, y2, y3, j0, j1, j2, j3⟩ := hbx2.four
    have hb2 : Below w.heap.size w w2 := (HW.out.1.drew.grown hg1 HW.out.1.size (fun _ h => by cases h)).grown hg2 (by have := hg1.size; have := HW.out.1.size; have h9 : W.drew.heap.size = W.heap.size := rfl; omega) (fun _ h => by cases h)
    have HE : Hid _ := HEND.out _ _ w2 hb2 (sgsN.osame ho1 (fun k _ h => hg2.block k h (by simp))) ho2
    clear hb2 hbx2 ho1 ho2 hg1 hg2 hr1 hr2 g0 g1 g2 g3 f0 f1 f2 f3
    refine AnyBut.step (i := 5) (by kernel_rfl) rfl (fun K hK => ?_)
    go_simp
    refine hK.out _ _ trivial ?_
    clear hK
    refine tx 6 3 hSS ?_
    simp only [ua, ub, uc, ud]
    refine AnyBut.done (by kernel_rfl) ?_
    go_wp2
    refine bodyPost_ret (v := .tuple #[.agg #[_, _, .slice none 0 0, .int .i64 1], .int .i64 0]) (by simp [results, Try.results21, go_sem, *]) rfl HE.out
  · obtain ⟨w1, hr1, ho1, hg1⟩ := HMB.out W.drew (by have := HW.out.2.2; show _ ≤ W.heap.size; omega)
    go_simp
    refine hK.out _ _ trivial ?_
    clear hK
    obtain ⟨w2, hr2, ho2, hg2⟩ := HMS.out w1 (by have := hg1.size; have := HW.out.2.2; have h9 : W.drew.heap.size = W.heap.size := rfl; omega)
    refine AnyBut.step (i := 1) (by kernel_rfl) rfl (fun K hK => ?_)
    go_simp
    refine hK.out _ _ trivial ?_
    clear hK
    refine tx 4 15 hSS ?_
    simp only [ua, ub, uc, ud]
    have hbx2 := ((HW.out.2.1.drew.grown hg1 (by simp)).grown hg2 (by simp))
    obtain ⟨y0, y1, y2, y3, j0, j1, j2, j3⟩ := hbx2.four
    have hb2 : Below w.heap.size w w2 := (HW.out.1.drew.grown hg1 HW.out.1.size (fun _ h => by cases h)).grown hg2 (by have := hg1.size; have := HW.out.1.size; have h9 : W.drew.heap.size = W.heap.size := rfl; omega) (fun _ h => by cases h)
    have HE : Hid _ := HEND.out _ _ w2 hb2 ho2 (boolsS.osame ho1 (fun k _ h => hg2.block k h (by simp)))
    clear hb2 hbx2 ho1 ho2 hg1 hg2 hr1 hr2 g0 g1 g2 g3 f0 f1 f2 f3
    refine AnyBut.step (i := 5) (by kernel_rfl) rfl (fun K hK => ?_)
    go_simp
    refine hK.out _ _ trivial ?_
    clear hK
    refine tx 6 3 hSS ?_
    simp only [ua, ub, uc, ud]
    refine AnyBut.done (by kernel_rfl) ?_
    go_wp2
    refine bodyPost_ret (v := .tuple #[.agg #[_, _, .slice none 0 0, .int .i64 1], .int .i64 0]) (by simp [results, Try.results21, go_sem, *]) rfl HE.out

end Go.Proofs.Ytkpckadicjdieab
