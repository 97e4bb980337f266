/-
  What dir.Add answers, for every entries and every entry.
-/
import Derived.Test.YthppbmbhoedphaaCut
import Derived.Deep.RegionHeld3
namespace Go.Proofs.Ythppbmbhoedphaa
open Go.RowKit

/-- The entries with e among them. -/
def ins (l : List En) (e : En) : List En := l.take (pos l e.1) ++ e :: l.drop (pos l e.1)
def aerr (l : List En) (e : En) : Int := if Chk l then (if nameOk e.1 = true then (if inoOk e.2 = true then (if there l e.1 = true then 102 else if l.length = 63 then 51 else 0) else 4) else 106) else 9
def aval (l : List En) (e : En) : List En := if aerr l e = 0 then ins l e else []

theorem ArgE.len {n : Nat} {w : World} {v : Value} {l : List En} (h : ArgE n w v l) (W : World) : (Builtin.len_ #[25] 3 #[v]).run Try.prog W = .ok (.int .i64 l.length) W := by
  obtain ⟨a, c, rfl, _⟩ := h.shape
  exact run_len Try.underlying25 a l.length c W
theorem ArgE.lenR {n : Nat} {w : World} {v : Value} {l : List En} (h : ArgE n w v l) (W : World) : (Builtin.len_ #[22] 3 #[v]).run Try.prog W = .ok (.int .i64 l.length) W := by
  obtain ⟨a, c, rfl, _⟩ := h.shape
  exact run_len Try.underlying22 a l.length c W

theorem Cells.box {w : World} {g : Nat} {t : TypeId} {cs : Array Value} (h : Box w g t cs) {n0 size n : Nat} (hs : cs.size = n * size) (hn : n ≤ maxLen) (hg : n0 ≤ g) : Cells n0 w size (.slice (some ⟨g, 0, none⟩) n n) n cs.toList := by
  refine ⟨by simpa using hs, .inr ⟨⟨g, 0, none⟩, n, rfl, Nat.le_refl _, hn, hg, fun i u hu => ?_⟩⟩
  rw [add_plain, Nat.zero_add]
  exact h.cell i (by simpa using hu)
theorem ArgE.box {w : World} {g : Nat} {t : TypeId} {p : En} (h : Box w g t #[.string p.1, .int .i64 p.2]) {n0 : Nat} (hp : EOk p) (hg : n0 ≤ g) : ArgE n0 w (.slice (some ⟨g, 0, none⟩) 1 1) [p] :=
  ⟨Cells.box h (by rfl) (by unfold maxLen; omega) hg, fun q hq => by rw [List.mem_singleton.1 hq]; exact hp⟩

set_option maxRecDepth 100000 in
set_option maxHeartbeats 4000000 in
theorem add_any (n0 : Nat) (v : Value) (l : List En) (e : En) (w : World) (h : ArgE n0 w v l) (hok : EOk e) :
    Calls Try.prog 12 #[v, .agg #[.string e.1, .int .i64 e.2]] w fun r w' => (∃ v', r = .returned (.tuple #[v', .int .i64 (aerr l e)]) ∧ OwnE 34 w.heap.size w' v' (aval l e)) ∧ Below w.heap.size w w' := by
  obtain ⟨s, x⟩ := e
  simp only
  obtain ⟨W, hW⟩ : ∃ W, W = w.alloc (.cells #[.string s, .int .i64 x] 34) := ⟨_, rfl⟩
  have hbW : Below w.heap.size w W := by rw [hW]; exact (Below.refl _ w).alloc (Nat.le_refl _) _
  have hBx : Box W w.heap.size 34 #[.string s, .int .i64 x] := by rw [hW]; exact Box.new _ _ _
  have HW : Hid (Below w.heap.size w W ∧ Box W w.heap.size 34 #[.string s, .int .i64 x] ∧ ArgE n0 W v l ∧ EOk (s, x)) := ⟨hbW, hBx, h.below hbW, hok⟩
  have HC := check_any n0 v l W (h.below hbW)
  have hln := h.len
  obtain ⟨E, hE⟩ : ∃ E, E = aerr l (s, x) := ⟨_, rfl⟩
  obtain ⟨R, hR⟩ : ∃ R, R = aval l (s, x) := ⟨_, rfl⟩
  rw [← hE, ← hR]
  have HE : Hid (E = aerr l (s, x) ∧ R = aval l (s, x)) := ⟨hE, hR⟩
  have HZ : Hid (E ≠ 0 → R = []) := fun h0 => by rw [hR]; unfold aval; rw [if_neg (by rw [← hE]; exact h0)]
  clear h hbW hBx hok hE hR
  by_cases hck : Chk l
  case neg =>
    obtain rfl : E = 9 := by rw [HE.out.1]; exact if_neg hck
    obtain rfl := HZ.out (by omega)
    rw [cerr_bad hck] at HC
    clear hck
    go_enter Try.func12, Try.ntmps12
    go_wp2_with fail
    rw [← hW]
    clear hW
    refine HC.mono ?_
    rintro r w1 ⟨rfl, hb1⟩
    go_wp2
    go_ret2
    exact ⟨⟨_, rfl, OwnE.nil _ _ _⟩, below_any HW.out.1 hb1⟩
  rw [cerr_ok hck] at HC
  have HCK : Hid (Chk l) := hck
  by_cases hnm : nameOk s = true
  case neg =>
    obtain rfl : E = 106 := by rw [HE.out.1]; unfold aerr; rw [if_pos hck]; exact if_neg hnm
    obtain rfl := HZ.out (by omega)
    have hne : nerr s = 106 := if_neg hnm
    have HNE : Hid (nerr s = 106) := hne
    clear hck hnm hne
    go_enter Try.func12, Try.ntmps12
    go_wp2_with fail
    rw [← hW]
    clear hW
    refine HC.mono ?_
    rintro r w1 ⟨rfl, hb1⟩
    obtain ⟨g0, g1, _, _⟩ := (HW.out.2.1.below hb1 HW.out.2.1.lt).two
    have HN := name_any s w1
    rw [HNE.out] at HN
    go_wp2_with fail
    refine HN.mono ?_
    rintro r w2 ⟨rfl, hb2⟩
    go_wp2
    go_ret2
    exact ⟨⟨_, rfl, OwnE.nil _ _ _⟩, below_any (below_any HW.out.1 hb1) hb2⟩
  have HNE : Hid (nerr s = 0) := if_pos hnm
  cases hino : inoOk x
  case false =>
    obtain rfl : E = 4 := by rw [HE.out.1]; unfold aerr; rw [if_pos hck, if_pos hnm, if_neg (by rw [hino]; decide)]
    obtain rfl := HZ.out (by omega)
    have HI : Hid (inoOk x = false) := hino
    clear hck hnm hino
    go_enter Try.func12, Try.ntmps12
    go_wp2_with fail
    rw [← hW]
    clear hW
    refine HC.mono ?_
    rintro r w1 ⟨rfl, hb1⟩
    obtain ⟨g0, g1, _, _⟩ := (HW.out.2.1.below hb1 HW.out.2.1.lt).two
    have HN := name_any s w1
    rw [HNE.out] at HN
    go_wp2_with fail
    clear g0 g1
    refine HN.mono ?_
    rintro r w2 ⟨rfl, hb2⟩
    have hb12 := below_any hb1 hb2
    obtain ⟨g0, g1, _, _⟩ := (HW.out.2.1.below hb12 HW.out.2.1.lt).two
    have HM := may_any x w2
    rw [HI.out] at HM
    go_wp2_with (go_at_call 30; refine HM.mono ?_; rintro r w3 ⟨rfl, rfl⟩)
    go_ret2
    exact ⟨⟨_, rfl, OwnE.nil _ _ _⟩, below_any HW.out.1 hb12⟩
  have HI : Hid (inoOk x = true) := hino
  have HE2 : Hid (E = if there l s = true then 102 else if l.length = 63 then 51 else 0) := by
    show _ = _
    rw [HE.out.1]; unfold aerr; rw [if_pos hck, if_pos hnm, if_pos hino]
  have hpl := pos_le l s
  obtain ⟨n, hn⟩ : ∃ n, n = l.length := ⟨_, rfl⟩
  obtain ⟨m, hm⟩ : ∃ m, m = pos l s := ⟨_, rfl⟩
  have HNM : Hid (n = l.length ∧ m = pos l s) := ⟨hn, hm⟩
  have h63 : n ≤ 63 := by rw [hn]; exact hck.1
  rw [← hn] at hln hpl
  rw [← hm] at hpl
  clear hck hnm hino hn hm
  go_enter Try.func12, Try.ntmps12
  go_wp2_with fail
  rw [← hW]
  clear hW
  refine HC.mono ?_
  rintro r w1 ⟨rfl, hb1⟩
  obtain ⟨g0, g1, _, _⟩ := (HW.out.2.1.below hb1 HW.out.2.1.lt).two
  have HN := name_any s w1
  rw [HNE.out] at HN
  go_wp2_with fail
  clear g0 g1
  refine HN.mono ?_
  rintro r w2 ⟨rfl, hb2⟩
  have hb12 := below_any hb1 hb2
  obtain ⟨g0, g1, _, _⟩ := (HW.out.2.1.below hb12 HW.out.2.1.lt).two
  have HM := may_any x w2
  rw [HI.out] at HM
  have HP := place_any n0 v l HCK.out.2.2 s w2 (HW.out.2.2.1.below hb12) HCK.out.1
  rw [← HNM.out.2] at HP
  clear HC HN
  go_wp2_with (go_at_call 30; refine HM.mono ?_; rintro r w3 ⟨rfl, rfl⟩)
  clear g0 g1
  refine HP.mono ?_
  rintro r w3 ⟨rfl, hb3⟩
  have hb13 := below_any hb12 hb3
  have HB3 : Hid (Below w.heap.size w w3 ∧ Below W.heap.size W w3) := ⟨below_any HW.out.1 hb13, hb13⟩
  clear hb1 hb2 hb12 hb3 HP
  cases ht : there l s
  case true =>
    obtain rfl : E = 102 := by rw [HE2.out, if_pos ht]
    obtain rfl := HZ.out (by omega)
    clear ht hb13
    go_wp2
    go_ret2
    exact ⟨⟨_, rfl, OwnE.nil _ _ _⟩, HB3.out.1⟩
  by_cases hfull : n = 63
  · obtain rfl : E = 51 := by rw [HE2.out, if_neg (by rw [ht]; decide), if_pos (by rw [← HNM.out.1]; exact hfull)]
    obtain rfl := HZ.out (by omega)
    subst hfull
    clear ht hb13
    go_wp2
    go_ret2
    exact ⟨⟨_, rfl, OwnE.nil _ _ _⟩, HB3.out.1⟩
  have hE0 : E = 0 := by rw [HE2.out, if_neg (by rw [ht]; decide), if_neg (by rw [← HNM.out.1]; exact hfull)]
  have HR : Hid (R = l.take m ++ [(s, x)] ++ l.drop m) := by
    show _ = _
    rw [HE.out.2]; unfold aval
    rw [if_pos (by rw [← HE.out.1]; exact hE0), HNM.out.2]
    simp [ins]
  subst hE0
  have hfi : ¬ (n : Int) = 63 := by omega
  obtain ⟨v1, hA1, hsl1⟩ := HW.out.2.2.1.ahead m (by rw [← HNM.out.1]; exact hpl)
  obtain ⟨v2, hA2, hsl2⟩ := HW.out.2.2.1.behind m (by rw [← HNM.out.1]; exact hpl)
  obtain ⟨x1, c1, rfl, _⟩ := hA1.shape
  obtain ⟨x2, c2, rfl, _⟩ := hA2.shape
  obtain ⟨k1, hk1⟩ : ∃ k, k = (l.take m).length := ⟨_, rfl⟩
  obtain ⟨k2, hk2⟩ : ∃ k, k = (l.drop m).length := ⟨_, rfl⟩
  rw [← hk1] at hA1 hsl1
  rw [← hk2] at hA2 hsl2
  obtain ⟨g0, g1, _, _⟩ := (HW.out.2.1.below hb13 HW.out.2.1.lt).two
  obtain ⟨V, hV⟩ : ∃ V, V = ((w3.alloc (.cells #[.string s, .int .i64 x] 34)).alloc (.cells #[.slice x1 k1 c1, .slice (some ⟨w3.heap.size, 0, none⟩) 1 1, .slice x2 k2 c2] 25)).drew := ⟨_, rfl⟩
  have hbV : Below w3.heap.size w3 V := by rw [hV]; exact (((Below.refl _ w3).alloc (Nat.le_refl _) _).alloc (by simp) _).drew
  have HVB : Hid (Box V w.heap.size 34 #[.string s, .int .i64 x] ∧ Below w.heap.size w V) := ⟨(HW.out.2.1.below hb13 HW.out.2.1.lt).below hbV (HW.out.2.1.below hb13 HW.out.2.1.lt).lt, below_any HB3.out.1 hbV⟩
  have HC : Hid (Calls Try.prog 31 #[.slice (some ⟨w3.heap.size + 1, 0, none⟩) 3 3] V fun r w' => (∃ v', r = .returned v' ∧ OwnE 34 V.heap.size w' v' R) ∧ Below V.heap.size V w') := by
    have hbx : Box V (w3.heap.size + 1) 25 #[.slice x1 k1 c1, .slice (some ⟨w3.heap.size, 0, none⟩) 1 1, .slice x2 k2 c2] := by
      rw [hV]
      have := Box.new (w3.alloc (.cells #[.string s, .int .i64 x] 34)) 25 #[.slice x1 k1 c1, .slice (some ⟨w3.heap.size, 0, none⟩) 1 1, .slice x2 k2 c2]
      rw [World.size_alloc] at this
      exact this.drew
    have hbe : Box V w3.heap.size 34 #[.string s, .int .i64 x] := by rw [hV]; exact ((Box.new w3 34 #[.string s, .int .i64 x]).alloc _).drew
    have := concat_any 0 0 (.slice (some ⟨w3.heap.size + 1, 0, none⟩) 3 3) [.slice x1 k1 c1, .slice (some ⟨w3.heap.size, 0, none⟩) 1 1, .slice x2 k2 c2] [l.take m, [(s, x)], l.drop m] V (Cells.box hbx (by rfl) (by unfold maxLen; omega) (Nat.zero_le _))
      ⟨((hA1.below hb13).below hbV).weaken (Nat.zero_le _), ArgE.box (p := (s, x)) hbe HW.out.2.2.2 (Nat.zero_le _), ((hA2.below hb13).below hbV).weaken (Nat.zero_le _), trivial⟩ (by simp; have := HNM.out.1; omega) (by simp)
    show Calls _ _ _ _ _
    rw [HR.out]
    simpa using this
  clear hk1 hk2 hA1 hA2 ht hb13 HM hbV
  go_wp2
  go_region_held3 (fun w' => w'.cell? ⟨w.heap.size, 0, none⟩ = some (.string s) ∧ w'.cell? ⟨w.heap.size, 1, none⟩ = some (.int .i64 x))
    (first | exact ⟨g0, g1⟩ | exact ⟨b0, b1⟩ | go_keep)
    ((go_simp; rw [← hV]; refine HC.out.mono ?_; rintro r w5 ⟨⟨v5, rfl, hv5⟩, hb5⟩; obtain ⟨b0, b1, _, _⟩ := (HVB.out.1.below hb5 HVB.out.1.lt).two))
  have HF : Hid (OwnE 34 w.heap.size w5 v5 R ∧ Below w.heap.size w w5) := ⟨hv5.weaken HVB.out.2.size, below_any HVB.out.2 hb5⟩
  clear hv5 hb5
  go_wp2
  go_ret2
  exact ⟨⟨_, rfl, HF.out.1⟩, HF.out.2⟩

end Go.Proofs.Ythppbmbhoedphaa
