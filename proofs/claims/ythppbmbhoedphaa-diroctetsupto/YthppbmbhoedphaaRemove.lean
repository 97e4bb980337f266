/-
  What dir.Remove answers, for every entries and every name.
-/
import Derived.Test.YthppbmbhoedphaaAdd
namespace Go.Proofs.Ythppbmbhoedphaa
open Go.RowKit

/-- The entries without that of a name. -/
def del (l : List En) (x : ByteArray) : List En := l.take (pos l x) ++ l.drop (pos l x + 1)
def rerr (l : List En) (x : ByteArray) : Int := if Chk l then (if there l x = true then 0 else 101) else 9
def rval (l : List En) (x : ByteArray) : List En := if rerr l x = 0 then del l x else []

theorem there_lt {l : List En} (hU : Up l) {x : ByteArray} (h : there l x = true) : pos l x < l.length := by
  obtain ⟨i, p, hp, he⟩ := (there_iff l x).1 h
  have := there_pos hU hp he
  have := (List.getElem?_eq_some_iff.1 hp).1
  omega

set_option maxRecDepth 100000 in
set_option maxHeartbeats 4000000 in
theorem remove_any (n0 : Nat) (v : Value) (l : List En) (s : ByteArray) (w : World) (h : ArgE n0 w v l) :
    Calls Try.prog 14 #[v, .string s] w fun r w' => (∃ v', r = .returned (.tuple #[v', .int .i64 (rerr l s)]) ∧ OwnE 34 w.heap.size w' v' (rval l s)) ∧ Below w.heap.size w w' := by
  have HC := check_any n0 v l w h
  have HW : Hid (ArgE n0 w v l) := h
  obtain ⟨E, hE⟩ : ∃ E, E = rerr l s := ⟨_, rfl⟩
  obtain ⟨R, hR⟩ : ∃ R, R = rval l s := ⟨_, rfl⟩
  rw [← hE, ← hR]
  have HE : Hid (E = rerr l s ∧ R = rval l s) := ⟨hE, hR⟩
  have HZ : Hid (E ≠ 0 → R = []) := fun h0 => by rw [hR]; unfold rval; rw [if_neg (by rw [← hE]; exact h0)]
  clear h hE hR
  by_cases hck : Chk l
  case neg =>
    obtain rfl : E = 9 := by rw [HE.out.1]; exact if_neg hck
    obtain rfl := HZ.out (by omega)
    rw [cerr_bad hck] at HC
    clear hck
    go_enter Try.func14, Try.ntmps14
    go_wp2_with fail
    refine HC.mono ?_
    rintro r w1 ⟨rfl, hb1⟩
    go_wp2
    go_ret2
    exact ⟨⟨_, rfl, OwnE.nil _ _ _⟩, hb1⟩
  rw [cerr_ok hck] at HC
  have HCK : Hid (Chk l) := hck
  have HE2 : Hid (E = if there l s = true then 0 else 101) := by
    show _ = _
    rw [HE.out.1]; unfold rerr; rw [if_pos hck]
  obtain ⟨n, hn⟩ : ∃ n, n = l.length := ⟨_, rfl⟩
  obtain ⟨m, hm⟩ : ∃ m, m = pos l s := ⟨_, rfl⟩
  have HNM : Hid (n = l.length ∧ m = pos l s) := ⟨hn, hm⟩
  have h63 : n ≤ 63 := by rw [hn]; exact hck.1
  clear hck hn hm
  go_enter Try.func14, Try.ntmps14
  go_wp2_with fail
  refine HC.mono ?_
  rintro r w1 ⟨rfl, hb1⟩
  have HP := place_any n0 v l HCK.out.2.2 s w1 (HW.out.below hb1) HCK.out.1
  rw [← HNM.out.2] at HP
  clear HC
  go_wp2_with fail
  refine HP.mono ?_
  rintro r w3 ⟨rfl, hb3⟩
  have hb13 := below_any hb1 hb3
  have HB3 : Hid (Below w.heap.size w w3) := hb13
  clear hb1 hb3 HP
  cases ht : there l s
  case false =>
    obtain rfl : E = 101 := by rw [HE2.out, if_neg (by rw [ht]; decide)]
    obtain rfl := HZ.out (by omega)
    clear ht hb13
    go_wp2
    go_ret2
    exact ⟨⟨_, rfl, OwnE.nil _ _ _⟩, HB3.out⟩
  have hE0 : E = 0 := by rw [HE2.out, if_pos ht]
  have hml : m < n := by rw [HNM.out.1, HNM.out.2]; exact there_lt HCK.out.2.2 ht
  have HR : Hid (R = l.take m ++ l.drop (m + 1)) := by
    show _ = _
    rw [HE.out.2]; unfold rval
    rw [if_pos (by rw [← HE.out.1]; exact hE0), HNM.out.2]
    rfl
  subst hE0
  have hmw : IntKind.i64.wrap ((m : Int) + 1) = (m : Int) + 1 := wrap_small _ (by omega) (by omega)
  obtain ⟨v1, hA1, hsl1⟩ := HW.out.ahead m (by rw [← HNM.out.1]; omega)
  obtain ⟨v2, hA2, hsl2⟩ := HW.out.behind (m + 1) (by rw [← HNM.out.1]; omega)
  have hsl2' : ∀ W, (Instr.slice 25 v (some (.int .i64 ((m : Int) + 1))) none none).run Try.prog W = .ok v2 W := hsl2
  obtain ⟨x1, c1, rfl, _⟩ := hA1.shape
  obtain ⟨x2, c2, rfl, _⟩ := hA2.shape
  obtain ⟨k1, hk1⟩ : ∃ k, k = (l.take m).length := ⟨_, rfl⟩
  obtain ⟨k2, hk2⟩ : ∃ k, k = (l.drop (m + 1)).length := ⟨_, rfl⟩
  rw [← hk1] at hA1 hsl1
  rw [← hk2] at hA2 hsl2'
  obtain ⟨V, hV⟩ : ∃ V, V = (w3.alloc (.cells #[.slice x1 k1 c1, .slice x2 k2 c2] 25)).drew := ⟨_, rfl⟩
  have hbV : Below w3.heap.size w3 V := by rw [hV]; exact ((Below.refl _ w3).alloc (Nat.le_refl _) _).drew
  have HVB : Hid (Below w.heap.size w V) := below_any HB3.out hbV
  have HC : Hid (Calls Try.prog 31 #[.slice (some ⟨w3.heap.size, 0, none⟩) 2 2] V fun r w' => (∃ v', r = .returned v' ∧ OwnE 34 V.heap.size w' v' R) ∧ Below V.heap.size V w') := by
    have hbx : Box V w3.heap.size 25 #[.slice x1 k1 c1, .slice x2 k2 c2] := by
      rw [hV]
      exact (Box.new w3 25 #[.slice x1 k1 c1, .slice x2 k2 c2]).drew
    have := concat_any 0 0 (.slice (some ⟨w3.heap.size, 0, none⟩) 2 2) [.slice x1 k1 c1, .slice x2 k2 c2] [l.take m, l.drop (m + 1)] V (Cells.box hbx (by rfl) (by unfold maxLen; omega) (Nat.zero_le _))
      ⟨((hA1.below hb13).below hbV).weaken (Nat.zero_le _), ((hA2.below hb13).below hbV).weaken (Nat.zero_le _), trivial⟩ (by simp; have := HNM.out.1; omega) (by simp)
    show Calls _ _ _ _ _
    rw [HR.out]
    simpa using this
  clear hk1 hk2 hA1 hA2 ht hb13 hbV hsl2
  go_wp2
  go_region_held3 (fun _ => True) (trivial)
    ((go_simp; rw [← hV]; refine HC.out.mono ?_; rintro r w5 ⟨⟨v5, rfl, hv5⟩, hb5⟩))
  have HF : Hid (OwnE 34 w.heap.size w5 v5 R ∧ Below w.heap.size w w5) := ⟨hv5.weaken HVB.out.size, below_any HVB.out hb5⟩
  clear hv5 hb5
  go_wp2
  go_ret2
  exact ⟨⟨_, rfl, HF.out.1⟩, HF.out.2⟩

end Go.Proofs.Ythppbmbhoedphaa
