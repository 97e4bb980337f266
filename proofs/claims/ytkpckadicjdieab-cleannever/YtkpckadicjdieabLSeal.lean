/-
  What the program's Seal answers, for every store.
-/
import Derived.Test.YtkpckadicjdieabLPut
namespace Go.Proofs.Ytkpckadicjdieab
open Go.RowKit

/-! The lowest slot that is free and not held. -/
def lowAt : List Sg → List Bool → Nat
  | p :: l, h :: hd => if (freeB p && !h) = true then 0 else lowAt l hd + 1
  | _, _ => 0
def tst (l : List Sg) (hd : List Bool) (j : Nat) : Bool := ((l[j]?).map freeB).getD false && !(hd[j]?).getD true
theorem low_at : ∀ {l : List Sg} {hd : List Bool} {k : Nat}, (∀ j, j < k → tst l hd j = false) → tst l hd k = true → lowAt l hd = k
  | [], _, k, _, h => by simp [tst] at h
  | _ :: _, [], k, _, h => by simp [tst] at h
  | p :: l, x :: hd, 0, _, h => by simp [tst] at h; simp [lowAt, h]
  | p :: l, x :: hd, k + 1, h0, h => by
    have h1 := h0 0 (by omega)
    have h1' : (freeB p && !x) = false := by simpa [tst] using h1
    unfold lowAt
    rw [if_neg (by rw [h1']; simp), low_at (k := k) (fun j hj => by have := h0 (j + 1) (by omega); simpa [tst] using this) (by simpa [tst] using h)]
theorem low_none : ∀ {l : List Sg} {hd : List Bool}, hd.length = l.length → (∀ j, j < l.length → tst l hd j = false) → lowAt l hd = l.length
  | [], hd, _, _ => by simp [lowAt]
  | p :: l, [], h, _ => by simp at h
  | p :: l, x :: hd, h, h0 => by
    have h1 := h0 0 (by simp)
    have h1' : (freeB p && !x) = false := by simpa [tst] using h1
    unfold lowAt
    rw [if_neg (by rw [h1']; simp), low_none (by simpa using h) (fun j hj => by have := h0 (j + 1) (by simp; omega); simpa [tst] using this)]
    rfl
theorem tst_at {l : List Sg} {hd : List Bool} {k : Nat} {p : Sg} {x : Bool} (h1 : l[k]? = some p) (h2 : hd[k]? = some x) : tst l hd k = (freeB p && !x) := by simp [tst, h1, h2]

set_option maxRecDepth 100000 in
set_option maxHeartbeats 4000000 in
theorem lowest_any (n0 : Nat) (us : List Value) (s : St) (w : World) (h : stN.lies n0 w us s) (hh : s.2.1.length = s.1.length) :
    Calls Try.prog 56 #[.agg us.toArray] w fun e w' => e = .returned (.tuple #[.int .i64 ((if lowAt s.1 s.2.1 < s.1.length then lowAt s.1 s.2.1 else 0 : Nat)), .bool (decide (lowAt s.1 s.2.1 < s.1.length))]) ∧ Below w.heap.size w w' := by
  obtain ⟨a, c, b, d, e, f, rfl, hS, hH, hO, hN, m1, m2, m3⟩ := st_viewN h
  obtain ⟨l, hd, op, nx⟩ := s
  simp only at hS hH hO hN m1 m2 m3 hh ⊢
  unfold maxLen at m1 m2 m3
  obtain ⟨post, hpost⟩ : ∃ post : Ending → World → Prop, post = fun e w' => e = .returned (.tuple #[.int .i64 ((if lowAt l hd < l.length then lowAt l hd else 0 : Nat)), .bool (decide (lowAt l hd < l.length))]) ∧ Below w.heap.size w w' := ⟨_, rfl⟩
  have HYES : Hid (∀ (k : Nat) w', lowAt l hd = k → k < l.length → Below w.heap.size w w' → post (.returned (.tuple #[.int .i64 k, .bool true])) w') := fun k w' e1 e2 e3 => by
    rw [hpost]
    exact ⟨by rw [e1, if_pos e2, decide_eq_true e2], e3⟩
  have HNO : Hid (∀ w', lowAt l hd = l.length → Below w.heap.size w w' → post (.returned (.tuple #[.int .i64 0, .bool false])) w') := fun w' e1 e3 => by
    rw [hpost]
    exact ⟨by rw [e1, if_neg (Nat.lt_irrefl _), decide_eq_false (Nat.lt_irrefl _)]; rfl, e3⟩
  rw [← hpost]
  clear hpost
  obtain ⟨n, hn⟩ : ∃ n, n = l.length := ⟨_, rfl⟩
  obtain ⟨no, hno⟩ : ∃ n, n = op.length := ⟨_, rfl⟩
  rw [hh, ← hn, ← hno]
  rw [← hn] at m1
  have HN : Hid (n = l.length ∧ hd.length = l.length) := ⟨hn, hh⟩
  have HA : Hid (sgsN.lies n0 w [.slice a n c] l ∧ boolsS.lies n0 w [.slice b n d] hd) := ⟨by rw [hn]; exact hS, by rw [hn, ← hh]; exact hH⟩
  have hl1 := run_len Try.underlying28 a n c
  obtain ⟨W, hW⟩ : ∃ W, W = w.alloc (.cells #[.slice a n c, .slice b n d, .slice e no f, .int .i64 nx] 31) := ⟨_, rfl⟩
  have hbW : Below w.heap.size w W := by rw [hW]; exact (Below.refl _ w).alloc (Nat.le_refl _) _
  have hB1 : Box W w.heap.size 31 #[.slice a n c, .slice b n d, .slice e no f, .int .i64 nx] := by rw [hW]; exact Box.new _ _ _
  have HW : Hid (Below w.heap.size w W ∧ Box W w.heap.size 31 #[.slice a n c, .slice b n d, .slice e no f, .int .i64 nx]) := ⟨hbW, hB1⟩
  obtain ⟨g0, g1, g2, g3, -⟩ := hB1.four
  rw [hW] at g0 g1 g2 g3
  clear h hS hH hO hN hbW hB1 hn hno hh m2 m3
  go_enter Try.func56, Try.ntmps56
  go_wp2
  rw [← hW]
  clear g0 g1 g2 g3 hW
  go_loopw [9] (fun i wr => ∃ k : Nat, k ≤ n ∧ i = .int .i64 k ∧ Hid ((∀ j, j < k → tst l hd j = false) ∧ Below W.heap.size W wr)) (fun i _ => n - (intOf i).toNat)
  case atStart => exact ⟨0, Nat.zero_le _, rfl, fun j hj => by omega, Below.refl _ _⟩
  case round =>
    obtain ⟨k, hk, rfl, HJ⟩ := hrel
    by_cases hlt : k < n
    · obtain ⟨p, hp⟩ := get_lt (l := l) (k := k) (by rw [← HN.out.1]; exact hlt)
      obtain ⟨x, hx⟩ := get_lt (l := hd) (k := k) (by have := HN.out; omega)
      have hbr := below_any HW.out.1 HJ.out.2
      obtain ⟨pb, po, xx, cap, hix, c0, c1, hL, _⟩ := sgs_atN (sgsN.below HA.out.1 hbr) k p hp
      obtain ⟨hb, ho, hix2, _, hc⟩ := bools_at HA.out.2 k x hx
      have hki : (k : Int) < (n : Int) := by omega
      have HT : Hid (tst l hd k = (freeB p && !x)) := tst_at hp hx
      obtain ⟨q, pl⟩ := p
      simp only at c0 c1
      obtain ⟨m, hm⟩ : ∃ m, m = pl.length := ⟨_, rfl⟩
      rw [← hm] at c1
      obtain ⟨V, hV⟩ : ∃ V, V = wr.alloc (.cells #[.int .i64 q, .slice xx m cap] 45) := ⟨_, rfl⟩
      have hbV : Below W.heap.size W V := by rw [hV]; exact HJ.out.2.alloc HJ.out.2.size _
      have hxV : Box V wr.heap.size 45 #[.int .i64 q, .slice xx m cap] := by rw [hV]; exact Box.new _ _ _
      have HC := isFree_any q xx m cap V
      have HFR : Hid (freeB (q, pl) = (decide (q = 0) && decide (m = 0))) := by show freeB _ = _; rw [hm]; rfl
      obtain ⟨fr, hfr⟩ : ∃ fr, fr = freeB (q, pl) := ⟨_, rfl⟩
      rw [← HFR.out, ← hfr] at HC
      rw [← hfr] at HT
      have HV : Hid (Below W.heap.size W V ∧ ∀ U, Below W.heap.size W U → U.cell? ⟨w.heap.size, 1, none⟩ = some (.slice b n d) ∧ U.cell? ⟨hb, ho, none⟩ = some (.bool x)) := ⟨hbV, fun U hU => ⟨((HW.out.2.below hU HW.out.2.lt).four).2.1, by rw [(below_any HW.out.1 hU).cell (cell_lt hc)]; exact hc⟩⟩
      obtain ⟨v0, v1, -⟩ := hxV.two
      clear hp hx hL hbr hm hbV hxV hfr HFR hc
      go_upto_region 4 with fail
      rw [← hV]
      clear hV hix c0 c1
      cases fr with
      | false =>
        go_wp2_with fail
        refine HC.mono ?_
        rintro e2 w2 ⟨rfl, hb2⟩
        have HJ2 : Hid ((∀ j, j < k + 1 → tst l hd j = false) ∧ Below W.heap.size W w2) := ⟨fun j hj => by
          by_cases ej : j = k
          · rw [ej, HT.out]; rfl
          · exact HJ.out.1 j (by omega), HV.out.1.trans (hb2.mono HV.out.1.size)⟩
        clear hb2 v0 v1 hix2
        go_wp2
        go_roundw
        case rel => exact ⟨k + 1, by omega, by go_num, HJ2.out⟩
        case measure => simp [intOf]; omega
      | true =>
        cases x with
        | true =>
          go_wp2_with fail
          refine HC.mono ?_
          rintro e2 w2 ⟨rfl, hb2⟩
          have hbw := HV.out.1.trans (hb2.mono HV.out.1.size)
          obtain ⟨z1, z2⟩ := HV.out.2 w2 hbw
          have HJ2 : Hid ((∀ j, j < k + 1 → tst l hd j = false) ∧ Below W.heap.size W w2) := ⟨fun j hj => by
            by_cases ej : j = k
            · rw [ej, HT.out]; rfl
            · exact HJ.out.1 j (by omega), hbw⟩
          clear hb2 v0 v1 hbw
          go_wp2
          go_roundw
          case rel => exact ⟨k + 1, by omega, by go_num, HJ2.out⟩
          case measure => simp [intOf]; omega
        | false =>
          go_wp2_with fail
          refine HC.mono ?_
          rintro e2 w2 ⟨rfl, hb2⟩
          have hbw := HV.out.1.trans (hb2.mono HV.out.1.size)
          obtain ⟨z1, z2⟩ := HV.out.2 w2 hbw
          have HE : Hid (post (.returned (.tuple #[.int .i64 k, .bool true])) w2) := HYES.out k w2 (low_at HJ.out.1 (by rw [HT.out]; rfl)) (by have := HN.out.1; omega) (below_any HW.out.1 hbw)
          clear hb2 v0 v1 hbw
          go_wp2
          exact HE.out
    · obtain rfl : k = n := by omega
      have HE : Hid (post (.returned (.tuple #[.int .i64 0, .bool false])) wr) := HNO.out wr (low_none HN.out.2 (by rw [← HN.out.1]; exact HJ.out.1)) (below_any HW.out.1 HJ.out.2)
      go_wp2
      exact HE.out

/-- A segment in a row of its own: where it lies, and what a store makes of the row. -/
theorem sgs_set {n : Nat} {w : World} {v : Value} {l : List Sg} (h : sgsN.owns n w [v] l) (i : Nat) (hi : i < l.length) :
    ∃ g cap, v = .slice (some ⟨g, 0, none⟩) l.length cap ∧ n ≤ g ∧ g < w.heap.size ∧ (∀ W, (Instr.indexAt 28 v (.int .i64 i)).run Try.prog W = .ok (.pointer (some ⟨g, i * 2, none⟩)) W) ∧ (∃ u0 u1, w.cell? ⟨g, i * 2, none⟩ = some u0 ∧ w.cell? ⟨g, i * 2 + 1, none⟩ = some u1) ∧ w.frozen? ⟨g, i * 2, none⟩ = false ∧ w.frozen? ⟨g, i * 2 + 1, none⟩ = false ∧
      ∀ q u bl, I64 q → bksN.owns n w [u] bl → sgsN.owns n ((w.setCell ⟨g, i * 2, none⟩ (.int .i64 q)).setCell ⟨g, i * 2 + 1, none⟩ u) [v] (l.set i (q, bl)) ∧ w.grownBy ((w.setCell ⟨g, i * 2, none⟩ (.int .i64 q)).setCell ⟨g, i * 2 + 1, none⟩ u) (some g) ∧ Clear w (some g) [4, 48, 5] := by
  obtain ⟨i0, hi0, _, hz, _⟩ := info_parts Try.info45
  obtain ⟨v', vss, hv, hC, hE⟩ := h
  obtain rfl : v = v' := by simpa using hv
  obtain ⟨g, cap, rfl⟩ : ∃ g cap, v = .slice (some ⟨g, 0, none⟩) l.length cap := by
    rcases hC.2 with ⟨_, h0⟩ | ⟨g, cap, cur, h', _⟩
    · omega
    · exact ⟨g, cap, h'⟩
  have hob : (Value.slice (some ⟨g, 0, none⟩) l.length cap).ownBlock = some g := rfl
  have hlt := hC.lt g hob
  have hsz : ∀ us ∈ vss, us.length = 2 := fun us h => by
    obtain ⟨q, _, hq⟩ := hE.left h
    exact sgN.length (sgN.olies hq)
  obtain ⟨p, hp⟩ := get_lt (l := l) (k := i) hi
  obtain ⟨us, hu, hO⟩ := hE.get hp
  obtain ⟨a, c, rfl, _⟩ := sg_ownN hO
  refine ⟨g, cap, rfl, hlt.1, hlt.2, fun W => ?_, ⟨.int .i64 p.1, .slice a p.2.length c, ?_, ?_⟩, hC.frozenAt _, hC.frozenAt _, fun q u bl hq hb => ?_⟩
  · have := run_index (size := 2) Try.underlying28 hi0 hz g 0 l.length cap i hi W
    simpa using this
  · have hc := hC.cells hob (i * 2 + 0) (.int .i64 p.1) (flat_get hsz hu rfl)
    rwa [add_plain, Nat.zero_add] at hc
  · have hc := hC.cells hob (i * 2 + 1) (.slice a p.2.length c) (flat_get hsz hu rfl)
    rwa [add_plain, Nat.zero_add] at hc
  · obtain ⟨h1, h2⟩ := hC.stored (i * 2 + 0) (.int .i64 q)
    rw [flat_set hsz hu (by omega)] at h1
    obtain ⟨h3, h4⟩ := h1.stored (i * 2 + 1) u
    rw [flat_set (us := [.int .i64 q, .slice a p.2.length c]) (fun x hx => by
      rcases List.mem_or_eq_of_mem_set hx with hx | hx
      · exact hsz x hx
      · rw [hx]; rfl) (by rw [List.getElem?_set_self (by rw [hE.length]; exact hi)]; rfl) (by omega), List.set_set] at h3
    have hg : w.grownBy ((w.setCell ⟨g, i * 2, none⟩ (.int .i64 q)).setCell ⟨g, i * 2 + 1, none⟩ u) (some g) := grown_trans h2 h4
    have hcl : ∀ ids, 45 ∉ ids → Clear w (some g) ids := fun ids h => by rw [← hob]; exact .own hC h
    have kp : ∀ x y, sgN.owns n w x y → sgN.owns n ((w.setCell ⟨g, i * 2, none⟩ (.int .i64 q)).setCell ⟨g, i * 2 + 1, none⟩ u) x y := fun x y h => sgN.ogrown h hg (hcl _ (by decide))
    refine ⟨⟨_, vss.set i [.int .i64 q, u], rfl, by rw [List.length_set]; exact h3, ?_⟩, hg, hcl _ (by decide)⟩
    refine each_of (by rw [List.length_set, List.length_set, hE.length]) fun j x y hx hy => ?_
    by_cases ej : j = i
    · subst ej
      rw [List.getElem?_set_self (by rw [hE.length]; exact hi)] at hx
      rw [List.getElem?_set_self hi] at hy
      obtain rfl := Option.some.inj hx
      obtain rfl := Option.some.inj hy
      exact kp _ _ (sg_omkN (s := (q, bl)) hb hq)
    · rw [List.getElem?_set_ne (by omega)] at hx hy
      obtain ⟨us', h5, h6⟩ := hE.get hy
      rw [hx] at h5
      obtain rfl := Option.some.inj h5
      exact kp _ _ h6

def sE (s : St) : Int := if okB s = false then 9 else if s.2.2.1.length = 0 then 71 else if s.1.length ≤ lowAt s.1 s.2.1 ∨ 1099511627776 ≤ s.2.2.2 then 51 else 0
def sS (s : St) : St := if sE s = 0 then (s.1.set (lowAt s.1 s.2.1) (s.2.2.2, s.2.2.1), s.2.1, [], s.2.2.2 + 1) else s0
def sP (s : St) : Nat := if sE s = 0 then lowAt s.1 s.2.1 else 0
def TellsP (k : Int) (p : Nat) (s' : St) (w : World) (e : Ending) (w' : World) : Prop := (∃ us', e = .returned (.tuple #[.agg us'.toArray, .int .i64 p, .int .i64 k]) ∧ stN.owns w.heap.size w' us' s') ∧ Below w.heap.size w w'

set_option maxRecDepth 100000 in
set_option maxHeartbeats 8000000 in
theorem seal_any (n0 : Nat) (us : List Value) (s : St) (w : World) (h : stN.lies n0 w us s) :
    Calls Try.prog 23 #[.agg us.toArray] w (TellsP (sE s) (sP s) (sS s) w) := by
  obtain ⟨a, c, b, d, e, f, rfl, hS, hH, hO, hN, m1, m2, m3⟩ := st_viewN h
  obtain ⟨post, hpost⟩ : ∃ post : Ending → World → Prop, post = TellsP (sE s) (sP s) (sS s) w := ⟨_, rfl⟩
  have HNO : Hid (∀ k w', sE s = k → k ≠ 0 → Below w.heap.size w w' → post (.returned (.tuple #[.agg #[.slice none 0 0, .slice none 0 0, .slice none 0 0, .int .i64 0], .int .i64 0, .int .i64 k])) w') := fun k w' e1 e2 e3 => by
    rw [hpost]
    refine ⟨⟨_, by unfold sP; rw [e1, if_neg e2]; rfl, ?_⟩, e3⟩
    unfold sS
    rw [if_neg (by rw [e1]; exact e2)]
    exact s0_owns _ _
  have HYES : Hid (∀ us' w', sE s = 0 → stN.owns w.heap.size w' us' (s.1.set (lowAt s.1 s.2.1) (s.2.2.2, s.2.2.1), s.2.1, [], s.2.2.2 + 1) → Below w.heap.size w w' → post (.returned (.tuple #[.agg us'.toArray, .int .i64 (lowAt s.1 s.2.1), .int .i64 0])) w') := fun us' w' e1 e2 e3 => by
    rw [hpost]
    refine ⟨⟨us', by unfold sP; rw [e1, if_pos rfl], ?_⟩, e3⟩
    unfold sS
    rw [if_pos e1]
    exact e2
  rw [← hpost]
  clear hpost
  obtain ⟨n, hn⟩ : ∃ n, n = s.1.length := ⟨_, rfl⟩
  obtain ⟨nh, hnh⟩ : ∃ n, n = s.2.1.length := ⟨_, rfl⟩
  obtain ⟨no, hno⟩ : ∃ n, n = s.2.2.1.length := ⟨_, rfl⟩
  obtain ⟨nx, hnx⟩ : ∃ n, n = s.2.2.2 := ⟨_, rfl⟩
  rw [← hn, ← hnh, ← hno, ← hnx] at h ⊢
  obtain ⟨W, hW⟩ : ∃ W, W = (w.alloc (.cells #[.slice a n c, .slice b nh d, .slice e no f, .int .i64 nx] 31)).alloc (.cells #[.slice none 0 0, .slice none 0 0, .slice none 0 0, .int .i64 0] 31) := ⟨_, rfl⟩
  have hbW : Below w.heap.size w W := by rw [hW]; exact ((Below.refl _ w).alloc (Nat.le_refl _) _).alloc (by simp) _
  have hB1 : Box W w.heap.size 31 #[.slice a n c, .slice b nh d, .slice e no f, .int .i64 nx] := by rw [hW]; exact (Box.new _ _ _).alloc _
  have hB2 : Box W (w.heap.size + 1) 31 #[.slice none 0 0, .slice none 0 0, .slice none 0 0, .int .i64 0] := by
    rw [hW]
    have := Box.new (w.alloc (.cells #[.slice a n c, .slice b nh d, .slice e no f, .int .i64 nx] 31)) 31 #[.slice none 0 0, .slice none 0 0, .slice none 0 0, .int .i64 0]
    rwa [World.size_alloc] at this
  have HC := checkL_any n0 [.slice a n c, .slice b nh d, .slice e no f, .int .i64 nx] s W (stN.below h hbW)
  have HW : Hid (Below w.heap.size w W ∧ W.heap.size = w.heap.size + 2 ∧ ∀ V, Below W.heap.size W V → Box V w.heap.size 31 #[.slice a n c, .slice b nh d, .slice e no f, .int .i64 nx] ∧ Box V (w.heap.size + 1) 31 #[.slice none 0 0, .slice none 0 0, .slice none 0 0, .int .i64 0]) := ⟨hbW, by rw [hW]; simp, fun V hV => ⟨hB1.below hV hB1.lt, hB2.below hV hB2.lt⟩⟩
  have HA : Hid (stN.lies n0 w [.slice a n c, .slice b nh d, .slice e no f, .int .i64 nx] s ∧ no = s.2.2.1.length ∧ nx = s.2.2.2 ∧ I64 nx) := ⟨h, hno, hnx, by rw [hnx]; exact hN⟩
  have hl3 := run_len Try.underlying29 e no f
  obtain ⟨g0, g1, g2, g3, -⟩ := hB1.four
  rw [hW] at g0 g1 g2 g3
  clear h hS hH hO hN m1 m2 m3 hbW hB1 hB2 hn hnh hno hnx
  go_enter Try.func23, Try.ntmps23
  go_wp2_with fail
  rw [← hW]
  clear hW g0 g1 g2 g3
  refine HC.mono ?_
  rintro e1 w1 ⟨rfl, hb1⟩
  obtain ⟨hx1, hx3⟩ := HW.out.2.2 w1 hb1
  have HB1 : Hid (Below W.heap.size W w1) := hb1
  rcases okE_cases s with ⟨hk, hok⟩ | ⟨hk, hok⟩
  case inr =>
    rw [hk]
    obtain ⟨y0, y1, y2, y3, j0, j1, j2, j3⟩ := hx3.four
    have HE := HNO.out 9 ((((w1.setCell ⟨w.heap.size + 1, 0, none⟩ (.slice none 0 0)).setCell ⟨w.heap.size + 1, 1, none⟩ (.slice none 0 0)).setCell ⟨w.heap.size + 1, 2, none⟩ (.slice none 0 0)).setCell ⟨w.heap.size + 1, 3, none⟩ (.int .i64 0)) (by
      have : okB s = false := by cases hb : okB s with | false => rfl | true => exact absurd (ok_iff.1 hb) hok
      unfold sE; rw [if_pos this]) (by decide) (below_set4 (below_any HW.out.1 hb1) (by omega) _ _ _ _)
    have HE : Hid _ := HE
    clear hb1 hx1 hx3 hok hk
    go_wp2
    refine bodyPost_ret (v := .tuple #[.agg #[.slice none 0 0, .slice none 0 0, .slice none 0 0, .int .i64 0], .int .i64 0, .int .i64 9]) (by simp [results, Try.results23, go_sem, *]) rfl HE.out
  case inl =>
    rw [hk]
    obtain ⟨q0, q1, q2, q3, -⟩ := hx1.four
    have HOK : Hid (Ok s ∧ okB s = true) := ⟨hok, ok_iff.2 hok⟩
    clear hk hok hx1 hb1
    by_cases h0 : no = 0
    · have HE := HNO.out 71 ((((w1.setCell ⟨w.heap.size + 1, 0, none⟩ (.slice none 0 0)).setCell ⟨w.heap.size + 1, 1, none⟩ (.slice none 0 0)).setCell ⟨w.heap.size + 1, 2, none⟩ (.slice none 0 0)).setCell ⟨w.heap.size + 1, 3, none⟩ (.int .i64 0)) (by unfold sE; rw [if_neg (by rw [HOK.out.2]; simp), if_pos (by rw [← HA.out.2.1]; exact h0)]) (by decide) (below_set4 (below_any HW.out.1 HB1.out) (by omega) _ _ _ _)
      have HE : Hid _ := HE
      subst h0
      obtain ⟨y0, y1, y2, y3, j0, j1, j2, j3⟩ := hx3.four
      clear hx3
      go_wp2
      refine bodyPost_ret (v := .tuple #[.agg #[.slice none 0 0, .slice none 0 0, .slice none 0 0, .int .i64 0], .int .i64 0, .int .i64 71]) (by simp [results, Try.results23, go_sem, *]) rfl HE.out
    · have h0i : ((no : Int) == 0) = false := by simp; omega
      have h0j : ¬ (no : Int) = 0 := by omega
      have HCL := lowest_any n0 [.slice a n c, .slice b nh d, .slice e no f, .int .i64 nx] s w1 (stN.below HA.out.1 (below_any HW.out.1 HB1.out)) HOK.out.1.held
      obtain ⟨lo, hlo⟩ : ∃ lo, lo = lowAt s.1 s.2.1 := ⟨_, rfl⟩
      have HLO : Hid (lo = lowAt s.1 s.2.1) := hlo
      rw [← hlo] at HCL HYES
      have H0 : Hid (¬ s.2.2.1.length = 0) := show ¬ _ by rw [← HA.out.2.1]; exact h0
      clear hx3 h0 hlo
      by_cases hlt : lo < s.1.length
      · rw [if_pos hlt, decide_eq_true hlt] at HCL
        go_wp2_with fail
        refine HCL.mono ?_
        rintro e2 w2 ⟨rfl, hb2⟩
        have HB2 : Hid (Below W.heap.size W w2) := HB1.out.trans (hb2.mono HB1.out.size)
        obtain ⟨hx1, hx3⟩ := HW.out.2.2 w2 HB2.out
        obtain ⟨z0, z1, z2, z3, i0, i1, i2, i3⟩ := hx1.four
        have HLT : Hid (lo < s.1.length) := hlt
        clear hb2 q0 q1 q2 q3 HCL hlt
        by_cases hmx : nx = 1099511627776
        · have HE := HNO.out 51 ((((w2.setCell ⟨w.heap.size + 1, 0, none⟩ (.slice none 0 0)).setCell ⟨w.heap.size + 1, 1, none⟩ (.slice none 0 0)).setCell ⟨w.heap.size + 1, 2, none⟩ (.slice none 0 0)).setCell ⟨w.heap.size + 1, 3, none⟩ (.int .i64 0)) (by unfold sE; rw [if_neg (by rw [HOK.out.2]; simp), if_neg H0.out, if_pos (.inr (by rw [← HA.out.2.2.1]; omega))]) (by decide) (below_set4 (below_any HW.out.1 HB2.out) (by omega) _ _ _ _)
          have HE : Hid _ := HE
          subst hmx
          obtain ⟨y0, y1, y2, y3, j0, j1, j2, j3⟩ := hx3.four
          clear hx1 hx3
          go_wp2
          refine bodyPost_ret (v := .tuple #[.agg #[.slice none 0 0, .slice none 0 0, .slice none 0 0, .int .i64 0], .int .i64 0, .int .i64 51]) (by simp [results, Try.results23, go_sem, *]) rfl HE.out
        · have hmi : (nx == 1099511627776) = false := by simp [hmx]
          have HNX : Hid (nx < 1099511627776 ∧ 1 ≤ nx) := ⟨by have := HOK.out.1.next.2; have := HA.out.2.2.1; omega, by have := HOK.out.1.next.1; have := HA.out.2.2.1; omega⟩
          have HSE : Hid (sE s = 0) := by
            show sE s = 0
            unfold sE
            rw [if_neg (by rw [HOK.out.2]; simp), if_neg H0.out, if_neg (by have := HNX.out; have := HLO.out; have := HLT.out; have := HA.out.2.2.1; omega)]
          have HCC := copied_any n0 [.slice a n c, .slice b nh d, .slice e no f, .int .i64 nx] s w2 (stN.below HA.out.1 (below_any HW.out.1 HB2.out)) HOK.out.1.fits
          clear hx1 hx3 
          go_wp2_with fail
          refine HCC.mono ?_
          rintro e3 w3 ⟨⟨us3, rfl, ho3⟩, hb3⟩
          replace ho3 := ho3.owns
          obtain ⟨l, hd, op, nx'⟩ := s
          obtain ⟨a1, c1, a2, c2, a3, c3, rfl, hs1, hs2, hs3, hI⟩ := st_ownN ho3
          simp only at hs1 hs2 hs3 hI ⊢
          have hbw3 : Below W.heap.size W w3 := HB2.out.trans (hb3.mono HB2.out.size)
          obtain ⟨hx1, hx3⟩ := HW.out.2.2 w3 hbw3
          obtain ⟨r0, r1, r2, r3, k0, k1, k2, k3⟩ := hx1.four
          obtain ⟨X, hX⟩ : ∃ X, X = (((w3.setCell ⟨w.heap.size, 0, none⟩ (.slice a1 l.length c1)).setCell ⟨w.heap.size, 1, none⟩ (.slice a2 hd.length c2)).setCell ⟨w.heap.size, 2, none⟩ (.slice a3 op.length c3)).setCell ⟨w.heap.size, 3, none⟩ (.int .i64 nx') := ⟨_, rfl⟩
          have hxX : Box X w.heap.size 31 #[.slice a1 l.length c1, .slice a2 hd.length c2, .slice a3 op.length c3, .int .i64 nx'] := by rw [hX]; exact (((hx1.set 0 _).set 1 _).set 2 _).set 3 _
          have hzX : Box X (w.heap.size + 1) 31 #[.slice none 0 0, .slice none 0 0, .slice none 0 0, .int .i64 0] := by rw [hX]; exact (((hx3.other (by omega)).other (by omega)).other (by omega)).other (by omega)
          have hbX : Below w.heap.size w X := by rw [hX]; exact below_set4 (below_any HW.out.1 hbw3) (Nat.le_refl _) _ _ _ _
          have hW2 := HW.out.2.1
          have hw2 : w.heap.size + 2 ≤ w2.heap.size := by have := HB2.out.size; omega
          have hsX : Same (w2.heap.size + 2) w3 X := by rw [hX]; exact .set4 (by omega)
          have hg1 := sgsN.osame hs1 hsX
          have hg2 := boolsS.osame hs2 hsX
          have hg3 := bksN.osame hs3 hsX
          obtain ⟨g, cap, hv, hgB, hgl, hix, ⟨u0, u1, cc0, cc1⟩, ff0, ff1, hst⟩ := sgs_set hg1 lo HLT.out
          obtain ⟨rfl, rfl⟩ : a1 = some ⟨g, 0, none⟩ ∧ c1 = cap := by simpa using hv
          obtain ⟨hY1, hYg, hcl⟩ := hst nx' (.slice a3 op.length c3) op hI hg3
          obtain ⟨Y, hY⟩ : ∃ Y, Y = (X.setCell ⟨g, lo * 2, none⟩ (.int .i64 nx')).setCell ⟨g, lo * 2 + 1, none⟩ (.slice a3 op.length c3) := ⟨_, rfl⟩
          rw [← hY] at hY1 hYg
          have hxY := hxX.grown hYg (by simp; omega)
          have hzY := hzX.grown hYg (by simp; omega)
          have hbY : Below w.heap.size w Y := by rw [hY]; exact (hbX.setCell (p := ⟨g, lo * 2, none⟩) (by show w.heap.size ≤ g; omega) _).setCell (p := ⟨g, lo * 2 + 1, none⟩) (by show w.heap.size ≤ g; omega) _
          have hY2 := boolsS.ogrown hg2 hYg (hcl.sub (fun x hx => by
            have : x = 4 := List.mem_singleton.1 hx
            rw [this]; simp))
          have HY : Hid (sgsN.owns (w2.heap.size + 2) Y [.slice (some ⟨g, 0, none⟩) l.length c1] (l.set lo (nx', op)) ∧ boolsS.owns (w2.heap.size + 2) Y [.slice a2 hd.length c2] hd ∧ Below w.heap.size w Y ∧ Box Y w.heap.size 31 #[.slice (some ⟨g, 0, none⟩) l.length c1, .slice a2 hd.length c2, .slice a3 op.length c3, .int .i64 nx'] ∧ Box Y (w.heap.size + 1) 31 #[.slice none 0 0, .slice none 0 0, .slice none 0 0, .int .i64 0] ∧ w.heap.size + 2 ≤ w2.heap.size) := ⟨hY1, hY2, hbY, hxY, hzY, hw2⟩
          obtain ⟨s0', s1', s2', s3', -⟩ := hxX.four
          have hnx1 : nx = nx' := HA.out.2.2.1
          subst hnx1
          go_upto_region 10 with fail
          rw [← hX]
          clear hX hxX hzX hbX hW2 hw2 hsX hg1 hg2 hg3 hst hcl hY1 hYg hxY hzY hbY hY2 hs1 hs2 hs3 ho3 hb3 hbw3 hx1 hx3 HCC r0 r1 r2 r3 k0 k1 k2 k3 z0 z1 z2 z3 i0 i1 i2 i3
          go_upto_region 11 with fail
          rw [← hY]
          clear hY cc0 cc1 ff0 ff1 hix s0' s1' s2' s3'
          obtain ⟨x0, x1, x2, x3, p0, p1, p2, p3⟩ := HY.out.2.2.2.1.four
          obtain ⟨Z, hZ⟩ : ∃ Z, Z = (Y.setCell ⟨w.heap.size, 2, none⟩ (.slice none 0 0)).setCell ⟨w.heap.size, 3, none⟩ (.int .i64 (nx + 1)) := ⟨_, rfl⟩
          have hxZ : Box Z w.heap.size 31 #[.slice (some ⟨g, 0, none⟩) l.length c1, .slice a2 hd.length c2, .slice none 0 0, .int .i64 (nx + 1)] := by rw [hZ]; exact (HY.out.2.2.2.1.set 2 _).set 3 _
          have hzZ : Box Z (w.heap.size + 1) 31 #[.slice none 0 0, .slice none 0 0, .slice none 0 0, .int .i64 0] := by rw [hZ]; exact (HY.out.2.2.2.2.1.other (by omega)).other (by omega)
          have hsZ : Same (w.heap.size + 2) Y Z := by rw [hZ]; exact Same.trans (.set (by omega)) (by simp [World.setCell]) (.set (by omega))
          have hbZ : Below w.heap.size w Z := by rw [hZ]; exact (HY.out.2.2.1.setCell (p := ⟨w.heap.size, 2, none⟩) (Nat.le_refl _) _).setCell (p := ⟨w.heap.size, 3, none⟩) (Nat.le_refl _) _
          have hw2' := HY.out.2.2.2.2.2
          have hzown : stN.owns (w.heap.size + 2) Z [.slice (some ⟨g, 0, none⟩) l.length c1, .slice a2 hd.length c2, .slice none 0 0, .int .i64 (nx + 1)] (l.set lo (nx, op), hd, [], nx + 1) := st_omkN (s := (l.set lo (nx, op), hd, [], nx + 1)) (sgsN.osame (sgsN.oweaken HY.out.1 (by omega)) hsZ) (boolsS.osame (boolsS.oweaken HY.out.2.1 (by omega)) hsZ) (Shape.list_nil bkN 29 Try.underlying29 cells29 _ _) ⟨by have := HNX.out; show _ ≤ nx + 1; omega, by have := HNX.out; show nx + 1 ≤ _; omega⟩
          have HEND : Hid (∀ U, Same (w.heap.size + 2) Z U → Below w.heap.size w U → post (.returned (.tuple #[.agg #[.slice (some ⟨g, 0, none⟩) l.length c1, .slice a2 hd.length c2, .slice none 0 0, .int .i64 (nx + 1)], .int .i64 lo, .int .i64 0])) U) := fun U h1 h2 => HYES.out [_, _, _, _] U HSE.out (stN.oweaken (stN.osame hzown h1) (by omega)) h2
          have HBZ : Hid (Below w.heap.size w Z) := hbZ
          obtain ⟨q0, q1, q2, q3, -⟩ := hxZ.four
          obtain ⟨y0, y1, y2, y3, f0, f1, f2, f3⟩ := hzZ.four
          have hn1 := HNX.out
          go_upto_region 12 with fail
          obtain ⟨Y2, hY2⟩ : ∃ Y2, Y2 = Y.setCell ⟨w.heap.size, 2, none⟩ (.slice none 0 0) := ⟨_, rfl⟩
          have hxY2 : Box Y2 w.heap.size 31 #[.slice (some ⟨g, 0, none⟩) l.length c1, .slice a2 hd.length c2, .slice none 0 0, .int .i64 nx] := by rw [hY2]; exact HY.out.2.2.2.1.set 2 _
          rw [← hY2] at hZ ⊢
          clear hY2 x0 x1 x2 x3 p0 p1 p2 p3
          obtain ⟨x0, x1, x2, x3, p0, p1, p2, p3⟩ := hxY2.four
          go_upto_region 13 with fail
          rw [← hZ]
          clear hZ hxZ hzZ hsZ hbZ hzown hxY2 x0 x1 x2 x3 p0 p1 p2 p3 HY
          go_wp2
          refine bodyPost_ret (v := .tuple #[.agg #[.slice (some ⟨g, 0, none⟩) l.length c1, .slice a2 hd.length c2, .slice none 0 0, .int .i64 (nx + 1)], .int .i64 lo, .int .i64 0]) (by simp [results, Try.results23, go_sem, *]) rfl ?_
          exact HEND.out _ (.set4 (by omega)) (below_set4 HBZ.out (by omega) _ _ _ _)
      · rw [if_neg hlt, decide_eq_false hlt] at HCL
        have HLT : Hid (¬ lo < s.1.length) := hlt
        clear hlt
        go_wp2_with fail
        refine HCL.mono ?_
        rintro e2 w2 ⟨rfl, hb2⟩
        have HB2 : Hid (Below W.heap.size W w2) := HB1.out.trans (hb2.mono HB1.out.size)
        obtain ⟨y0, y1, y2, y3, j0, j1, j2, j3⟩ := (HW.out.2.2 w2 HB2.out).2.four
        have HE := HNO.out 51 ((((w2.setCell ⟨w.heap.size + 1, 0, none⟩ (.slice none 0 0)).setCell ⟨w.heap.size + 1, 1, none⟩ (.slice none 0 0)).setCell ⟨w.heap.size + 1, 2, none⟩ (.slice none 0 0)).setCell ⟨w.heap.size + 1, 3, none⟩ (.int .i64 0)) (by unfold sE; rw [if_neg (by rw [HOK.out.2]; simp), if_neg H0.out, if_pos (.inl (by have := HLT.out; have := HLO.out; omega))]) (by decide) (below_set4 (below_any HW.out.1 HB2.out) (by omega) _ _ _ _)
        have HE : Hid _ := HE
        clear hb2 q0 q1 q2 q3 HCL
        go_wp2
        refine bodyPost_ret (v := .tuple #[.agg #[.slice none 0 0, .slice none 0 0, .slice none 0 0, .int .i64 0], .int .i64 0, .int .i64 51]) (by simp [results, Try.results23, go_sem, *]) rfl HE.out

end Go.Proofs.Ytkpckadicjdieab
