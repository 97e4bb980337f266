/-
  DirOwn: for every entries and every entry the law answers true: what Add makes shares nothing with what was handed to it. No condition.
-/
import Derived.Test.YthppbmbhoedphaaAlive
namespace Go.Proofs.Ythppbmbhoedphaa

/-- A row that is written over; all from B on, and all that was, stays. -/
def ZR (w U : World) (B : Nat) (v : Value) (n : Nat) (wr : World) : Prop :=
  Same B U wr ∧ U.heap.size ≤ wr.heap.size ∧ Go.RowKit.Below w.heap.size w wr ∧ ((v = .slice none 0 0 ∧ n = 0) ∨ ∃ g cap cur, v = .slice (some ⟨g, 0, none⟩) n cap ∧ w.heap.size ≤ g ∧ g < B ∧ Box wr g 34 cur ∧ n * 2 ≤ cur.size)
theorem ZR.set {w U : World} {B : Nat} {v : Value} {n : Nat} {wr : World} (h : ZR w U B v n wr) {g cap : Nat} (hv : v = .slice (some ⟨g, 0, none⟩) n cap) (i j : Nat) (x y : Value) : ZR w U B v n ((wr.setCell ⟨g, i, none⟩ x).setCell ⟨g, j, none⟩ y) := by
  obtain ⟨h1, h2, h3, ⟨h4, _⟩ | ⟨g', cap', cur, hv', hg1, hg2, hB, hs⟩⟩ := h
  · rw [h4] at hv; cases hv
  · rw [hv] at hv'
    cases hv'
    refine ⟨(h1.trans h2 (Same.set hg2)).trans (by simpa [World.setCell] using h2) (Same.set hg2), by simpa [World.setCell] using h2, (h3.setCell (p := ⟨g, i, none⟩) hg1 _).setCell (p := ⟨g, j, none⟩) hg1 _, .inr ⟨g, cap, _, hv, hg1, hg2, (hB.set i x).set j y, by simpa using hs⟩⟩
theorem ZR.of {w U w1 : World} {B : Nat} {v : Value} {l : List En} (hO : OwnE 34 w1.heap.size U v l) (hb : Go.RowKit.Below w.heap.size w U) (h1 : w.heap.size ≤ w1.heap.size) (hB : ∀ g, v.ownBlock = some g → g < B) : ZR w U B v l.length U := by
  refine ⟨fun _ _ _ => rfl, Nat.le_refl _, hb, ?_⟩
  rcases hO.1.2 with ⟨rfl, h0⟩ | ⟨g, cap, cur, rfl, hg, hh, h2, _, h3, _⟩
  · exact .inl ⟨rfl, h0⟩
  · exact .inr ⟨g, cap, cur, rfl, by omega, hB g rfl, hh, by rw [h3]; exact Nat.mul_le_mul_right _ h2⟩
theorem ZR.at {w U : World} {B : Nat} {v : Value} {n : Nat} {wr : World} (h : ZR w U B v n wr) (k : Nat) (hk : k < n) :
    ∃ g cap u0 u1, v = .slice (some ⟨g, 0, none⟩) n cap ∧ (∀ W, (Instr.indexAt 25 v (.int .i64 k)).run Try.prog W = .ok (.pointer (some ⟨g, k * 2, none⟩)) W) ∧ wr.cell? ⟨g, k * 2, none⟩ = some u0 ∧ wr.cell? ⟨g, k * 2 + 1, none⟩ = some u1 ∧ wr.frozen? ⟨g, k * 2, none⟩ = false ∧ wr.frozen? ⟨g, k * 2 + 1, none⟩ = false := by
  obtain ⟨_, _, _, ⟨_, h0⟩ | ⟨g, cap, cur, rfl, _, _, hB, hs⟩⟩ := h
  · omega
  · obtain ⟨i0, hi0, _, hz, _⟩ := info_parts Try.info34
    refine ⟨g, cap, _, _, rfl, fun W => ?_, hB.cell (k * 2) (Array.getElem?_eq_getElem (by omega)), hB.cell (k * 2 + 1) (Array.getElem?_eq_getElem (by omega)), hB.frozen _, hB.frozen _⟩
    have := run_index Try.underlying25 hi0 hz g 0 n cap k hk W
    rwa [Nat.zero_add] at this

end Go.Proofs.Ythppbmbhoedphaa

namespace Go.Proofs.Ythppbmbhoedphaa.dirOwn
open Go.ChangeShapes Go.WideShapes Go.ChangeAt Go.RowKit

set_option maxRecDepth 100000 in
set_option maxHeartbeats 4000000 in
theorem walk (v : Value) (l : List En) (us : List Value) (p : En) (w : World) (h : ArgE 0 w v l) (hf : l.length * 24 ≤ 140737488351232) (hp : enF.lies 0 w us p) : Calls Try.prog 8 #[v, .agg us.toArray] w fun e w' => e = .returned (.bool true) ∧ Below w.heap.size w w' := by
  obtain ⟨rfl, hok⟩ := en_view hp
  obtain ⟨s, x⟩ := p
  show Calls Try.prog 8 #[v, .agg #[.string s, .int .i64 x]] w _
  obtain ⟨U0, hU0⟩ : ∃ U, U = w.alloc (.cells #[.string s, .int .i64 x] 24) := ⟨_, rfl⟩
  have hb0 : Below w.heap.size w U0 := by rw [hU0]; exact (Below.refl _ w).alloc (Nat.le_refl _) _
  have KF : Hid (∀ V, Below U0.heap.size U0 V → Box V w.heap.size 24 #[.string s, .int .i64 x] ∧ ArgE 0 V v l ∧ Below w.heap.size w V) := fun V hV => by
    have hB : Box U0 w.heap.size 24 #[.string s, .int .i64 x] := by rw [hU0]; exact Box.new _ _ _
    have hbb := below_any hb0 hV
    exact ⟨hB.below hV hB.lt, h.below hbb, hbb⟩
  have HI : Hid (l.length * 24 ≤ 140737488351232 ∧ EOk (s, x) ∧ w.heap.size ≤ U0.heap.size) := ⟨hf, hok, hb0.size⟩
  have HA := alive_any U0
  clear h hf hp hb0 hok
  go_enter Try.func8, Try.ntmps8
  go_wp2_with fail
  rw [← hU0]
  clear hU0
  refine HA.mono ?_
  rintro e w1 ⟨rfl, hb1⟩
  have HL1 : Hid (Below U0.heap.size U0 w1) := hb1
  have H2 := of_any 0 v l w1 (KF.out w1 hb1).2.1 HI.out.1
  clear HA hb1
  go_wp2_with fail
  refine H2.mono ?_
  rintro e w2 ⟨⟨v2, rfl, hO2⟩, hb2⟩
  have HL2 : Hid (Below w1.heap.size w1 w2 ∧ OwnE 34 w1.heap.size w2 v2 l) := ⟨hb2, hO2⟩
  have hb02 := below_any HL1.out hb2
  obtain ⟨g0, g1, _, _⟩ := (KF.out w2 hb02).1.two
  have H3 := add_any w1.heap.size v2 l (s, x) w2 hO2.arg HI.out.2.1
  clear H2 hO2 hb2
  go_wp2_with fail
  clear g0 g1
  refine H3.mono ?_
  rintro e w3 ⟨⟨v3, rfl, hO3⟩, hb3⟩
  have HL3 : Hid (Below w2.heap.size w2 w3 ∧ OwnE 34 w2.heap.size w3 v3 (aval l (s, x))) := ⟨hb3, hO3⟩
  have hb03 := below_any hb02 hb3
  obtain ⟨g0, g1, _, _⟩ := (KF.out w3 hb03).1.two
  have H4 := radd_any 0 v l (s, x) w3 (KF.out w3 hb03).2.1 HI.out.2.1
  clear H3 hO3 hb3
  go_wp2_with fail
  clear g0 g1
  refine H4.mono ?_
  rintro e w4 ⟨⟨v4, rfl, hO4⟩, hb4⟩
  have hb04 := below_any hb03 hb4
  have HL4 : Hid (OwnE 24 w3.heap.size w4 v4 (aval l (s, x)) ∧ OwnE 34 w2.heap.size w4 v3 (aval l (s, x)) ∧ w2.heap.size ≤ w3.heap.size) := ⟨hO4, HL3.out.2.below hb4, HL3.out.1.size⟩
  have hln := (HL2.out.2.arg).len
  have HZ0 : Hid (ZR w w4 w2.heap.size v2 l.length w4) := ZR.of (HL2.out.2.below (below_any HL3.out.1 hb4)) (KF.out w4 hb04).2.2 (by have := HL1.out.size; have := HI.out.2.2; omega) (fun g hg => (HL2.out.2.1.lt g hg).2)
  obtain ⟨E, hE⟩ : ∃ E, E = aerr l (s, x) := ⟨_, rfl⟩
  rw [← hE]
  obtain ⟨n, hn⟩ : ∃ n, n = l.length := ⟨_, rfl⟩
  rw [← hn] at HZ0 hln
  have hnb : n * 24 ≤ 140737488351232 := by rw [hn]; exact HI.out.1
  clear H4 hO4 hb4 hb04 hb03 hb02 hE hn
  go_wp2
  go_loopw [10] (fun i wr => ∃ k : Nat, k ≤ n ∧ i = .int .i64 k ∧ ZR w w4 w2.heap.size v2 n wr) (fun i _ => n - (intOf i).toNat)
  case atStart => exact ⟨0, Nat.zero_le _, rfl, HZ0.out⟩
  case round =>
    obtain ⟨k, hk, rfl, hZ⟩ := hrel
    have HZ : Hid (ZR w w4 w2.heap.size v2 n wr) := hZ
    by_cases hlt : k < n
    · obtain ⟨g, cap, u0, u1, hv, hix, c0, c1, f0, f1⟩ := hZ.at k hlt
      have HV : Hid (v2 = .slice (some ⟨g, 0, none⟩) n cap) := hv
      have hki : (k : Int) < (n : Int) := by omega
      clear hZ hv
      go_wp2
      go_roundw
      case rel => exact ⟨k + 1, by omega, by go_num, HZ.out.set HV.out _ _ _ _⟩
      case measure => simp [intOf]; omega
    · obtain rfl : k = n := by omega
      have HK := alike_any w2.heap.size w3.heap.size v3 v4 (aval l (s, x)) (aval l (s, x)) wr (HL4.out.2.1.same hZ.1).arg ((HL4.out.1.same (fun i h1 h2 => hZ.1 i (by have := HL4.out.2.2; omega) h2)).arg)
      rw [if_pos rfl] at HK
      clear hZ
      go_wp2_with (go_at_call 16; refine (num_any _ _).mono ?_; rintro e w8 ⟨rfl, rfl⟩)
      refine HK.mono ?_
      rintro e w8 ⟨rfl, q, hq⟩
      have HB8 : Hid (Below w.heap.size w w8) := by rw [hq]; exact below_drewN HZ.out.2.2.1 q
      clear hq
      go_wp2
      go_ret
      exact ⟨rfl, HB8.out⟩

set_option maxRecDepth 100000 in
theorem lifted (os : Os) (started : os.Started) (H : Type) (enc : TypeId × Value → H) :
    ReturnsInHanded {} Try.checked os 8 .any (Rows.dirOwnSpec.pre6 enc Try.prog Try.f8 Rows.dirOwnRow.domain false) (Rows.dirOwnSpec.post enc Try.prog Try.f8 false true false false) := by
  refine returnsInHanded_of_change_sized (C := Try.checked) own started (by kernel_rfl) Try.func8
    (ChangeSpec.witness6 (enc := enc) (C := Try.checked) false ⟨#[], #[.slice none 0 0, .agg #[.string ⟨#[]⟩, .int .i64 0]], []⟩ 8 (by kernel_rfl) (by kernel_rfl) (by kernel_rfl) (by kernel_rfl)) ?_
  intro W base args ds gs before hval0 hW hcnd hsz0 _
  have hval : ∀ (j : Nat) t v, Try.f8.params[j]? = some t → args[j]? = some v → Value.okWide Try.prog W .any base t v := hval0
  have hW' := hW
  obtain ⟨p, q, hA0, hV, rfl, hfz, hnd⟩ := hW
  have hA : DataW.TrodAll enc Try.prog W 0 (fun _ => true) true Try.f8.params.toList args.toList ds p := hA0
  have hsz : (DataW.weightsEach Try.prog (Try.f8.params.toList ++ Rows.dirOwnSpec.plain.varTypes Try.prog) (ds ++ gs)).all (· ≤ reachBytes) = true := hsz0
  clear hsz0
  rw [Try.params8] at hA hval hsz
  obtain ⟨v0, vs0, d0, ds0, p0, q0, hargs, rfl, rfl, h0, r0⟩ := trodAll_cons hA
  obtain ⟨v1, vs1, d1, ds1, p1, q1, rfl, rfl, rfl, h1, r1⟩ := trodAll_cons r0
  obtain ⟨rfl, rfl, rfl⟩ := trodAll_nil r1
  obtain rfl : args = #[v0, v1] := by cases args; simp_all
  obtain ⟨rfl, rfl⟩ := trodVars_none hV
  obtain ⟨x0, len0, cap0, rfl⟩ := okWide_slice Try.underlying22 (hval 0 22 v0 rfl rfl)
  have k0 := h0
  have lt0 : ∀ x ∈ p0, x.block < W.heap.size := by obtain ⟨m, hm⟩ := k0; exact DataW.trod_lt m _ _ _ hm
  obtain ⟨m0, hm0⟩ := h0
  obtain ⟨s0, A0, F0'⟩ := ensR.reads hm0
  have F0 := F0' fun n hn => by have := List.all_eq_true.1 hsz _ (DataW.weights_mem_each (j := 0) rfl rfl n hn); simpa using this
  obtain ⟨cs1, rfl, hc1⟩ := okWide_struct Try.underlying24 (hval 1 24 v1 rfl rfl)
  obtain ⟨us1, rfl⟩ := as_list cs1
  have k1 := h1
  have lt1 : ∀ x ∈ p1, x.block < W.heap.size := by obtain ⟨m, hm⟩ := k1; exact DataW.trod_lt m _ _ _ hm
  obtain ⟨m1, hm1⟩ := h1
  obtain ⟨s1, A1, F1'⟩ := enR.reads hm1
  have F1 := F1' fun n hn => by have := List.all_eq_true.1 hsz _ (DataW.weights_mem_each (j := 1) rfl rfl n hn); simpa using this
  clear hA0 hval0
  refine (walk _ s0 us1 s1 W (args_of A0) (fits_of F0) A1).mono fun e W' ⟨he, bel⟩ => ?_
  subst he
  exact ⟨_, rfl, _, _, _, [], _, [], hW', trodAll_mk1 (shut_bool Try.underlying4 _), (trodAll_cons_mk (Below.trod laidOut (by kernel_rfl) (of_decide_eq_true (by kernel_rfl)) k0 bel lt0) (trodAll_cons_mk (Below.trod laidOut (by kernel_rfl) (of_decide_eq_true (by kernel_rfl)) k1 bel lt1) trodAll_mk0)), rfl, bel.frame _, fun h => by cases h⟩

theorem over : Rows.dirOwnRow.holds Try.pinned (OpenSpec.ofChange Rows.dirOwnSpec) :=
  OpenClaim.holds_of_wide 8 Try.f8 rfl rfl rfl rfl rfl rfl rfl ⟨rfl, rfl, rfl, rfl, rfl⟩ rfl rfl rfl rfl rfl (by kernel_rfl) Try.func8 (by kernel_rfl)
    (of_decide_eq_true (by kernel_rfl)) (by unfold Func.isWrapper; first | (rw [if_pos (by decide +kernel)]; kernel_rfl) | (rw [if_neg (by decide +kernel)]; exact ⟨rfl, rfl⟩))
    (fun os started H enc _ => lifted os started H enc)

end Go.Proofs.Ythppbmbhoedphaa.dirOwn

namespace Go.Proofs.Ythppbmbhoedphaa
theorem dirOwn_holds : Rows.DirOwnSaid := dirOwn.over
#print axioms dirOwn_holds
end Go.Proofs.Ythppbmbhoedphaa
