/-
  DirOrder: for every entries and every numbers the law answers true: entries added in any order make one directory. No condition.
-/
import Derived.Test.YthppbmbhoedphaaLawMath
namespace Go.Proofs.Ythppbmbhoedphaa
open Go.RowKit

theorem wrap64_in' (x : Int) (h : -9223372036854775808 ≤ x ∧ x ≤ 9223372036854775807) : wrap64 x = x := by unfold wrap64; omega
theorem mod_pos (x : Int) (m : Nat) (hm : 0 < m) (hb : m ≤ 10000) : ∃ r : Nat, r < m ∧ (wrap64 (x.tmod m + m)).tmod m = (r : Int) := by
  have h1 := Int.tmod_lt_of_pos x (show (0 : Int) < m by omega)
  have h2 := Int.lt_tmod_of_pos x (show (0 : Int) < m by omega)
  have e : wrap64 (x.tmod m + m) = x.tmod m + m := wrap64_in' _ (by omega)
  rw [e, Int.tmod_eq_emod_of_nonneg (by omega)]
  have h3 := Int.emod_nonneg (x.tmod m + m) (show (m : Int) ≠ 0 by omega)
  have h4 := Int.emod_lt_of_pos (x.tmod m + m) (show (0 : Int) < m by omega)
  exact ⟨((x.tmod m + m) % m).toNat, by omega, by omega⟩

theorem evs_cons (p : En) (l : List En) : evs (p :: l) = .string p.1 :: .int .i64 p.2 :: evs l := by simp [evs, ev]
theorem evs_set : ∀ (l : List En) (k : Nat) (p : En), evs (l.set k p) = ((evs l).set (k * 2) (.string p.1)).set (k * 2 + 1) (.int .i64 p.2)
  | [], k, p => by simp [evs]
  | q :: l, 0, p => by simp [evs_cons]
  | q :: l, k + 1, p => by
    rw [List.set_cons_succ, evs_cons, evs_cons, evs_set l k p, show (k + 1) * 2 = k * 2 + 1 + 1 by omega]
    simp
theorem own_prefix {w : World} {base : Nat} {e : TypeId} {size g n cap : Nat} {xs : List Value} (h : w.ownsRow base e size (.slice (some ⟨g, 0, none⟩) n cap) n xs) (j : Nat) (hj : j ≤ n) : w.ownsRow base e size (.slice (some ⟨g, 0, none⟩) j cap) j (xs.take (j * size)) := by
  have hjs : j * size ≤ n * size := Nat.mul_le_mul_right _ hj
  refine ⟨by rw [List.length_take, h.1, Nat.min_eq_left hjs], .inr ?_⟩
  rcases h.2 with ⟨h', _⟩ | ⟨g', cap', cur, h', hb, hg, hnc, hcm, hcs, htake⟩
  · cases h'
  · cases h'
    refine ⟨g, cap, cur, rfl, hb, hg, by omega, hcm, hcs, ?_⟩
    rw [← htake, List.take_take, Nat.min_eq_left hjs]

/-- The last one takes the place of one that goes. -/
theorem OwnE.gone {base : Nat} {w : World} {g cap j : Nat} {l : List En} (h : OwnE 34 base w (.slice (some ⟨g, 0, none⟩) (j + 1) cap) l) (hj : l.length = j + 1) (k : Nat) (p : En) (hp : l[j]? = some p) :
    OwnE 34 base ((w.setCell ⟨g, k * 2, none⟩ (.string p.1)).setCell ⟨g, k * 2 + 1, none⟩ (.int .i64 p.2)) (.slice (some ⟨g, 0, none⟩) j cap) (gone l k) := by
  have h1 := h.1
  rw [hj] at h1
  have h2 := (h1.stored (k * 2) (.string p.1)).1
  have h3 := (h2.stored (k * 2 + 1) (.int .i64 p.2)).1
  rw [← evs_set] at h3
  have h4 := own_prefix h3 j (by omega)
  rw [← evs_take] at h4
  have hd : l.getD (l.length - 1) (⟨#[]⟩, 0) = p := by rw [hj]; simp [List.getD, hp]
  have hg : Go.Proofs.Ythppbmbhoedphaa.gone l k = (l.set k p).take j := by
    show (l.set k (l.getD (l.length - 1) (⟨#[]⟩, 0))).take (l.length - 1) = _
    rw [hd, hj]
    rfl
  rw [hg]
  refine ⟨?_, ?_⟩
  · rw [show ((l.set k p).take j).length = j by rw [List.length_take, List.length_set, hj]; omega]
    exact h4
  · intro q hq
    rcases List.mem_or_eq_of_mem_set (List.mem_of_mem_take hq) with hq | rfl
    · exact h.2 q hq
    · exact h.2.get hp

end Go.Proofs.Ythppbmbhoedphaa

namespace Go.Proofs.Ythppbmbhoedphaa.dirOrder
open Go.ChangeShapes Go.WideShapes Go.ChangeAt Go.RowKit

set_option maxRecDepth 100000 in
set_option maxHeartbeats 4000000 in
theorem walk (v : Value) (l : List En) (vo : Value) (lo : List Int) (w : World) (h : ArgE 0 w v l) (hf : l.length * 24 ≤ 140737488351232) (ho : intsS.lies 0 w [vo] lo) : Calls Try.prog 7 #[v, vo] w fun e w' => e = .returned (.bool true) ∧ Below w.heap.size w w' := by
  have KF : Hid (∀ V, Below w.heap.size w V → ArgE 0 V v l ∧ ∀ (i : Nat) (x : Int), lo[i]? = some x → ∃ b o, (∀ W, (Instr.indexAt 58 vo (.int .i64 i)).run Try.prog W = .ok (.pointer (some ⟨b, o, none⟩)) W) ∧ V.cell? ⟨b, o, none⟩ = some (.int .i64 x)) := fun V hV => ⟨h.below hV, fun i x hx => by
    obtain ⟨i0, hi0, _, hz, _⟩ := info_parts Try.info3
    obtain ⟨b, o, h1, _, h2, _⟩ := Leaf.row_at (L := i64L) (ht := Try.underlying58) (hc := by kernel_rfl) (intsS.below ho hV) hi0 hz i x hx
    exact ⟨b, o, h1, h2⟩⟩
  have hlo : ∀ W, (Builtin.len_ #[58] 3 #[vo]).run Try.prog W = .ok (.int .i64 lo.length) W := fun W => by
    obtain ⟨a, c, hv, _⟩ := Leaf.row_len (L := i64L) (ht := Try.underlying58) (hc := by kernel_rfl) ho
    obtain rfl : vo = _ := by simpa using hv
    exact run_len Try.underlying58 a lo.length c W
  have HI : Hid (l.length * 24 ≤ 140737488351232) := hf
  have HA := alive_any w
  clear h hf ho
  go_enter Try.func7, Try.ntmps7
  go_wp2_with fail
  refine HA.mono ?_
  rintro e w1 ⟨rfl, hb1⟩
  have HB1 : Hid (Below w.heap.size w w1) := hb1
  have H2 := rcheck_any 0 v l w1 (KF.out w1 hb1).1
  clear HA hb1
  by_cases hck : Chk l
  case neg =>
    rw [cerr_bad hck] at H2
    have HCK : Hid (¬ Chk l) := hck
    clear hck
    go_wp2_with fail
    refine H2.mono ?_
    rintro e w2 ⟨rfl, q2, hq2⟩
    have HB2 : Hid (Below w.heap.size w w2) := below_any HB1.out (by rw [hq2]; exact below_drewN (Below.refl _ _) _)
    have H3 := of_any 0 v l w2 (KF.out w2 HB2.out).1 HI.out
    clear H2 hq2
    go_wp2_with fail
    refine H3.mono ?_
    rintro e w3 ⟨⟨v3, rfl, hO3⟩, hb3⟩
    have H4 := check_any _ v3 l w3 hO3.arg
    rw [cerr_bad HCK.out] at H4
    have HB3 : Hid (Below w.heap.size w w3) := below_any HB2.out hb3
    clear H3 hO3 hb3
    go_wp2_with fail
    refine H4.mono ?_
    rintro e w4 ⟨rfl, hb4⟩
    go_wp2_with (go_at_call 16; refine (num_any _ _).mono ?_; rintro e w5 ⟨rfl, rfl⟩)
    go_ret
    exact ⟨rfl, below_any HB3.out hb4⟩
  rw [cerr_ok hck] at H2
  have HCK : Hid (Chk l) := hck
  clear hck
  go_wp2_with fail
  refine H2.mono ?_
  rintro e w2 ⟨rfl, q2, hq2⟩
  have HB2 : Hid (Below w.heap.size w w2) := below_any HB1.out (by rw [hq2]; exact below_drewN (Below.refl _ _) _)
  have H3 := of_any 0 v l w2 (KF.out w2 HB2.out).1 HI.out
  clear H2 hq2
  go_wp2_with fail
  refine H3.mono ?_
  rintro e w3 ⟨⟨v3, rfl, hO3⟩, hb3⟩
  have HS : Hid (OwnE 34 w2.heap.size w3 v3 l ∧ Below w.heap.size w w3 ∧ (∀ g, v3.ownBlock = some g → g < w3.heap.size)) := ⟨hO3, below_any HB2.out hb3, fun g hg => (hO3.1.lt g hg).2⟩
  clear H3 hO3 hb3
  go_wp2
  go_loopw [5, 6, 7] (fun vl vn i wr => ∃ (own left : List En) (n : Nat), i = .int .i64 n ∧ n + left.length = l.length ∧ OwnE 34 w2.heap.size wr vl left ∧ (∀ g, vl.ownBlock = some g → g < w3.heap.size) ∧ OwnE 34 w3.heap.size wr vn own ∧ Sorts l own left ∧ Below w.heap.size w wr ∧ w3.heap.size ≤ wr.heap.size) (fun _ _ i _ => l.length - (intOf i).toNat)
  case atStart => exact ⟨[], l, 0, rfl, by omega, HS.out.1, HS.out.2.2, OwnE.nil _ _ _, Sorts.start l, HS.out.2.1, Nat.le_refl _⟩
  case round =>
    obtain ⟨own, left, n, rfl, hn, hL, hgl, hN, hso, hbel, hsz⟩ := hrel
    have h63 : l.length ≤ 63 := HCK.out.1
    have HR : Hid (OwnE 34 w2.heap.size wr u5 left ∧ OwnE 34 w3.heap.size wr u6 own ∧ Below w.heap.size w wr ∧ w3.heap.size ≤ wr.heap.size) := ⟨hL, hN, hbel, hsz⟩
    by_cases hj : left.length = 0
    · have hnil : left = [] := List.eq_nil_of_length_eq_zero hj
      have hl0 := hL.arg.len
      rw [hj] at hl0
      have hown : own = l := Sorts.done HCK.out (by rw [← hnil]; exact hso)
      have H9 := alike_any _ 0 u6 v l l wr (by have := hN.arg; rw [hown] at this; exact this) (KF.out wr hbel).1
      rw [if_pos rfl] at H9
      have HBW : Hid (Below w.heap.size w wr) := hbel
      clear hL hgl hN hso hbel hsz hnil hown
      go_wp2_with fail
      refine H9.mono ?_
      rintro e w9 ⟨rfl, q9, hq9⟩
      have HB9 : Hid (Below w.heap.size w w9) := by rw [hq9]; exact below_drewN HBW.out q9
      clear hq9
      go_wp2
      go_ret
      exact ⟨rfl, HB9.out⟩
    · obtain ⟨j, hjj⟩ : ∃ j, left.length = j + 1 := ⟨left.length - 1, by omega⟩
      obtain ⟨g, cap, hv⟩ : ∃ g cap, u5 = .slice (some ⟨g, 0, none⟩) (j + 1) cap := by
        rcases hL.1.2 with ⟨_, h0⟩ | ⟨g, cap, _, hv, _⟩
        · omega
        · exact ⟨g, cap, by rw [hv, hjj]⟩
      have HV : Hid (u5 = .slice (some ⟨g, 0, none⟩) (j + 1) cap) := hv
      have HV2 : Hid (left.length = j + 1) := hjj
      have HG : Hid (g < w3.heap.size) := hgl g (by rw [hv]; rfl)
      have HGW : Hid (w.heap.size ≤ g) := by
        have h1 := (hL.1.lt g (by rw [hv]; rfl)).1
        have h2 := HB2.out.size
        show _ ≤ _
        omega
      have HGL : Hid (∀ g', (Value.slice (some ⟨g, 0, none⟩) j cap).ownBlock = some g' → g' < w3.heap.size) := fun g' hg' => by
        obtain rfl : g = g' := by simpa [Value.ownBlock] using hg'
        exact HG.out
      have hcap : j + 1 ≤ cap := by
        obtain ⟨a', c', he, h1, _⟩ := hL.arg.shape
        rw [hv, hjj] at he
        obtain ⟨_, _, rfl⟩ := Value.slice.inj he
        omega
      have HCELL : Hid (∀ V, OwnE 34 w2.heap.size V u5 left → ∀ (k : Nat) (p : En), left[k]? = some p → V.cell? ⟨g, k * 2, none⟩ = some (.string p.1) ∧ V.cell? ⟨g, k * 2 + 1, none⟩ = some (.int .i64 p.2)) := fun V hV k p hp => by
        have h1 := hV.1
        rw [hv, hjj] at h1
        have hk := (List.getElem?_eq_some_iff.1 hp).1
        exact ⟨by rw [h1.cellAt (k * 2) (by omega)]; exact (evs_at hp).1, by rw [h1.cellAt (k * 2 + 1) (by omega)]; exact (evs_at hp).2⟩
      have HFR : Hid (∀ V, OwnE 34 w2.heap.size V u5 left → ∀ k : Nat, V.frozen? ⟨g, k * 2, none⟩ = false ∧ V.frozen? ⟨g, k * 2 + 1, none⟩ = false) := fun V hV k => by
        have h1 := hV.1
        rw [hv, hjj] at h1
        exact ⟨h1.frozenAt _, h1.frozenAt _⟩
      have HIX : Hid (∀ k : Nat, k < j + 1 → ∀ W, (Instr.indexAt 25 u5 (.int .i64 k)).run Try.prog W = .ok (.pointer (some ⟨g, k * 2, none⟩)) W) := fun k hk W => by
        obtain ⟨i0, hi0, _, hz, _⟩ := info_parts Try.info34
        have := run_index Try.underlying25 hi0 hz g 0 (j + 1) cap k hk W
        rw [hv]
        rwa [Nat.zero_add] at this
      have hixj : ∀ W, (Instr.indexAt 25 u5 (.int .i64 (j : Int))).run Try.prog W = .ok (.pointer (some ⟨g, j * 2, none⟩)) W := HIX.out j (by omega)
      have hsl : ∀ W, (Instr.slice 25 u5 none (some (.int .i64 (j : Int))) none).run Try.prog W = .ok (.slice (some ⟨g, 0, none⟩) j cap) W := fun W => by
        rw [hv, run_slice_h W 25 (some ⟨g, 0, none⟩) (j + 1) cap elem25 .i64 j (by omega) (by omega), size34]
        simp [Result.andThen, sliced, add_plain]
      have hln : ∀ W, (Builtin.len_ #[25] 3 #[u5]).run Try.prog W = .ok (.int .i64 ((j : Int) + 1)) W := fun W => by
        have := hL.arg.len W
        rw [hjj] at this
        exact this
      obtain ⟨pt, hpt⟩ := get_lt (l := left) (k := j) (by omega)
      obtain ⟨t, y⟩ := pt
      have HT : Hid (left[j]? = some (t, y)) := hpt
      have hj0 : (0 : Int) < (j : Int) + 1 := by omega
      clear hL hgl hN hsz hv hj hcap hpt
      by_cases hno : n < lo.length
      · obtain ⟨z, hz⟩ := get_lt (l := lo) (k := n) hno
        obtain ⟨ob, oo, hixo, hco⟩ := (KF.out wr hbel).2 n z hz
        have hnoi : (n : Int) < (lo.length : Int) := by omega
        obtain ⟨r, hr1, hr2⟩ := mod_pos z (j + 1) (by omega) (by omega)
        have hr3 : (wrap64 (z.tmod ((j : Int) + 1) + ((j : Int) + 1))).tmod ((j : Int) + 1) = (r : Int) := hr2
        clear hr2 hz hno
        obtain ⟨p, hp⟩ := get_lt (l := left) (k := r) (by omega)
        have hstep := hso.step HCK.out hp
        obtain ⟨d0, d1⟩ := HCELL.out wr HR.out.1 r p hp
        have hokp := HR.out.1.2.get hp
        obtain ⟨s, x⟩ := p
        simp only at d0 d1
        have H4 := add_any w3.heap.size u6 own (s, x) wr HR.out.2.1.arg hokp
        rw [hstep.1] at H4
        have hixk : ∀ W, (Instr.indexAt 25 u5 (.int .i64 (r : Int))).run Try.prog W = .ok (.pointer (some ⟨g, r * 2, none⟩)) W := fun W => (HIX.out r (by omega) W)
        have HSO : Hid (Sorts l (aval own (s, x)) (gone left r)) := hstep.2
        clear hp hokp hstep hso
        go_wp2_with fail
        refine H4.mono ?_
        rintro e w5 ⟨⟨v5, rfl, hO5⟩, hb5⟩
        have HR5 : Hid (OwnE 34 w2.heap.size w5 u5 left ∧ OwnE 34 w3.heap.size w5 v5 (aval own (s, x)) ∧ Below w.heap.size w w5 ∧ w3.heap.size ≤ w5.heap.size) := ⟨HR.out.1.below hb5, hO5.weaken HR.out.2.2.2, below_any HR.out.2.2.1 hb5, by have := hb5.size; have := HR.out.2.2.2; omega⟩
        obtain ⟨e0, e1⟩ := HCELL.out w5 HR5.out.1 j (t, y) HT.out
        obtain ⟨pk, hpk⟩ := get_lt (l := left) (k := r) (by omega)
        obtain ⟨c0, c1⟩ := HCELL.out w5 HR5.out.1 r pk hpk
        obtain ⟨f0, f1⟩ := HFR.out w5 HR5.out.1 r
        simp only at e0 e1
        have HGO : Hid (OwnE 34 w2.heap.size ((w5.setCell ⟨g, r * 2, none⟩ (.string t)).setCell ⟨g, r * 2 + 1, none⟩ (.int .i64 y)) (.slice (some ⟨g, 0, none⟩) j cap) (gone left r)) := by
          have := HR5.out.1
          rw [HV.out] at this
          exact this.gone HV2.out r (t, y) HT.out
        clear H4 hO5 hb5 d0 d1 hpk
        go_wp2_with (go_at_call 16; refine (num_any _ _).mono ?_; rintro e w6 ⟨rfl, rfl⟩)
        go_roundw
        case rel =>
          refine ⟨_, gone left r, n + 1, by go_num, by rw [gone_length]; omega, HGO.out, HGL.out, ?_, HSO.out, ?_, ?_⟩
          · exact (HR5.out.2.1.same (.set HG.out)).same (.set HG.out)
          · exact (HR5.out.2.2.1.setCell (p := ⟨g, r * 2, none⟩) HGW.out _).setCell (p := ⟨g, r * 2 + 1, none⟩) HGW.out _
          · simpa [World.setCell] using HR5.out.2.2.2
        case measure => simp [intOf]; omega
      · have hnoi : ¬ (n : Int) < (lo.length : Int) := by omega
        clear hno
        obtain ⟨p, hp⟩ := get_lt (l := left) (k := 0) (by omega)
        have hstep := hso.step HCK.out hp
        obtain ⟨d0, d1⟩ := HCELL.out wr HR.out.1 0 p hp
        have hokp := HR.out.1.2.get hp
        obtain ⟨s, x⟩ := p
        simp only at d0 d1
        have H4 := add_any w3.heap.size u6 own (s, x) wr HR.out.2.1.arg hokp
        rw [hstep.1] at H4
        have hixk : ∀ W, (Instr.indexAt 25 u5 (.int .i64 0)).run Try.prog W = .ok (.pointer (some ⟨g, 0, none⟩)) W := fun W => (HIX.out 0 (by omega) W)
        have HSO : Hid (Sorts l (aval own (s, x)) (gone left 0)) := hstep.2
        clear hp hokp hstep hso
        go_wp2_with fail
        refine H4.mono ?_
        rintro e w5 ⟨⟨v5, rfl, hO5⟩, hb5⟩
        have HR5 : Hid (OwnE 34 w2.heap.size w5 u5 left ∧ OwnE 34 w3.heap.size w5 v5 (aval own (s, x)) ∧ Below w.heap.size w w5 ∧ w3.heap.size ≤ w5.heap.size) := ⟨HR.out.1.below hb5, hO5.weaken HR.out.2.2.2, below_any HR.out.2.2.1 hb5, by have := hb5.size; have := HR.out.2.2.2; omega⟩
        obtain ⟨e0, e1⟩ := HCELL.out w5 HR5.out.1 j (t, y) HT.out
        obtain ⟨pk, hpk⟩ := get_lt (l := left) (k := 0) (by omega)
        obtain ⟨c0, c1⟩ := HCELL.out w5 HR5.out.1 0 pk hpk
        obtain ⟨f0, f1⟩ := HFR.out w5 HR5.out.1 0
        simp only at e0 e1
        have HGO : Hid (OwnE 34 w2.heap.size ((w5.setCell ⟨g, 0, none⟩ (.string t)).setCell ⟨g, 1, none⟩ (.int .i64 y)) (.slice (some ⟨g, 0, none⟩) j cap) (gone left 0)) := by
          have := HR5.out.1
          rw [HV.out] at this
          exact this.gone HV2.out 0 (t, y) HT.out
        clear H4 hO5 hb5 d0 d1 hpk
        go_wp2_with (go_at_call 16; refine (num_any _ _).mono ?_; rintro e w6 ⟨rfl, rfl⟩)
        go_roundw
        case rel =>
          refine ⟨_, gone left 0, n + 1, by go_num, by rw [gone_length]; omega, HGO.out, HGL.out, ?_, HSO.out, ?_, ?_⟩
          · exact (HR5.out.2.1.same (.set HG.out)).same (.set HG.out)
          · exact (HR5.out.2.2.1.setCell (p := ⟨g, 0, none⟩) HGW.out _).setCell (p := ⟨g, 1, none⟩) HGW.out _
          · simpa [World.setCell] using HR5.out.2.2.2
        case measure => simp [intOf]; omega

set_option maxRecDepth 100000 in
theorem lifted (os : Os) (started : os.Started) (H : Type) (enc : TypeId × Value → H) :
    ReturnsInHanded {} Try.checked os 7 .any (Rows.dirOrderSpec.pre6 enc Try.prog Try.f7 Rows.dirOrderRow.domain false) (Rows.dirOrderSpec.post enc Try.prog Try.f7 false true false false) := by
  refine returnsInHanded_of_change_sized (C := Try.checked) own started (by kernel_rfl) Try.func7
    (ChangeSpec.witness6 (enc := enc) (C := Try.checked) false ⟨#[], #[.slice none 0 0, .slice none 0 0], []⟩ 8 (by kernel_rfl) (by kernel_rfl) (by kernel_rfl) (by kernel_rfl)) ?_
  intro W base args ds gs before hval0 hW hcnd hsz0 _
  have hval : ∀ (j : Nat) t v, Try.f7.params[j]? = some t → args[j]? = some v → Value.okWide Try.prog W .any base t v := hval0
  have hW' := hW
  obtain ⟨p, q, hA0, hV, rfl, hfz, hnd⟩ := hW
  have hA : DataW.TrodAll enc Try.prog W 0 (fun _ => true) true Try.f7.params.toList args.toList ds p := hA0
  have hsz : (DataW.weightsEach Try.prog (Try.f7.params.toList ++ Rows.dirOrderSpec.plain.varTypes Try.prog) (ds ++ gs)).all (· ≤ reachBytes) = true := hsz0
  clear hsz0
  rw [Try.params7] at hA hval hsz
  obtain ⟨v0, vs0, d0, ds0, p0, q0, hargs, rfl, rfl, h0, r0⟩ := trodAll_cons hA
  obtain ⟨v1, vs1, d1, ds1, p1, q1, rfl, rfl, rfl, h1, r1⟩ := trodAll_cons r0
  obtain ⟨rfl, rfl, rfl⟩ := trodAll_nil r1
  obtain rfl : args = #[v0, v1] := by cases args; simp_all
  obtain ⟨rfl, rfl⟩ := trodVars_none hV
  obtain ⟨x0, len0, cap0, rfl⟩ := okWide_slice Try.underlying22 (hval 0 22 v0 rfl rfl)
  have k0 := h0
  have lt0 : ∀ x ∈ p0, x.block < W.heap.size := by obtain ⟨m, hm⟩ := k0; exact DataW.trod_lt m _ _ _ hm
  obtain ⟨m0, hm0⟩ := h0
  obtain ⟨s0, A0, F0'⟩ := ensR.reads hm0
  have F0 := F0' fun n hn => by have := List.all_eq_true.1 hsz _ (DataW.weights_mem_each (j := 0) rfl rfl n hn); simpa using this
  obtain ⟨x1, len1, cap1, rfl⟩ := okWide_slice Try.underlying58 (hval 1 58 v1 rfl rfl)
  have k1 := h1
  have lt1 : ∀ x ∈ p1, x.block < W.heap.size := by obtain ⟨m, hm⟩ := k1; exact DataW.trod_lt m _ _ _ hm
  obtain ⟨m1, hm1⟩ := h1
  obtain ⟨s1, A1, F1'⟩ := intsS.reads hm1
  have F1 := F1' fun n hn => by have := List.all_eq_true.1 hsz _ (DataW.weights_mem_each (j := 1) rfl rfl n hn); simpa using this
  clear hA0 hval0
  refine (walk _ s0 _ s1 W (args_of A0) (fits_of F0) A1).mono fun e W' ⟨he, bel⟩ => ?_
  subst he
  exact ⟨_, rfl, _, _, _, [], _, [], hW', trodAll_mk1 (shut_bool Try.underlying4 _), (trodAll_cons_mk (Below.trod laidOut (by kernel_rfl) (of_decide_eq_true (by kernel_rfl)) k0 bel lt0) (trodAll_cons_mk (Below.trod laidOut (by kernel_rfl) (of_decide_eq_true (by kernel_rfl)) k1 bel lt1) trodAll_mk0)), rfl, bel.frame _, fun h => by cases h⟩

theorem over : Rows.dirOrderRow.holds Try.pinned (OpenSpec.ofChange Rows.dirOrderSpec) :=
  OpenClaim.holds_of_wide 7 Try.f7 rfl rfl rfl rfl rfl rfl rfl ⟨rfl, rfl, rfl, rfl, rfl⟩ rfl rfl rfl rfl rfl (by kernel_rfl) Try.func7 (by kernel_rfl)
    (of_decide_eq_true (by kernel_rfl)) (by unfold Func.isWrapper; first | (rw [if_pos (by decide +kernel)]; kernel_rfl) | (rw [if_neg (by decide +kernel)]; exact ⟨rfl, rfl⟩))
    (fun os started H enc _ => lifted os started H enc)

end Go.Proofs.Ythppbmbhoedphaa.dirOrder

namespace Go.Proofs.Ythppbmbhoedphaa
theorem dirOrder_holds : Rows.DirOrderSaid := dirOrder.over
#print axioms dirOrder_holds
end Go.Proofs.Ythppbmbhoedphaa
