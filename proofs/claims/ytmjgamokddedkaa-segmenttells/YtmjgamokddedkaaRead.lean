/-
  What segment.read answers, for all octets of that length.
-/
import Derived.Test.YtmjgamokddedkaaRdStep
import Derived.Deep.AppendLies
import Derived.Deep.DrawnRows
namespace Go.Proofs.Ytmjgamokddedkaa
open Go.RowKit Go.Shelf
open O (nv)
attribute [local go_sem] Oper.semAt_some

/-- The two variables of read: where they lie, what they hold. -/
def Five (w3 w2 : World) (B7 B8 : Nat) (q : Int) (vb : Value) : Prop := Box w2 B7 28 #[.int .i64 q, .slice none 0 0] ∧ Box w2 B8 25 #[vb] ∧ B7 ≠ B8 ∧ w3.heap.size ≤ B7 ∧ w3.heap.size ≤ B8 ∧ Below w3.heap.size w3 w2

theorem five_a {W X : World} (hX : Below W.heap.size W X) (q : Int) (vb : Value) : Five W ((X.alloc (.cells #[.int .i64 q, .slice none 0 0] 28)).alloc (.cells #[vb] 25)) X.heap.size (X.heap.size + 1) q vb := by
  have h2 := Box.new (X.alloc (.cells #[.int .i64 q, .slice none 0 0] 28)) 25 #[vb]
  rw [World.size_alloc] at h2
  exact ⟨(Box.new _ _ _).alloc _, h2, by omega, hX.size, by have := hX.size; omega, (hX.alloc hX.size _).alloc (by have := hX.size; simp; omega) _⟩
theorem five_b {W X : World} (hX : Below W.heap.size W X) (q : Int) (vb : Value) : Five W ((X.alloc (.cells #[vb] 25)).alloc (.cells #[.int .i64 q, .slice none 0 0] 28)) (X.heap.size + 1) X.heap.size q vb := by
  have h2 := Box.new (X.alloc (.cells #[vb] 25)) 28 #[.int .i64 q, .slice none 0 0]
  rw [World.size_alloc] at h2
  exact ⟨h2, (Box.new _ _ _).alloc _, by omega, by have := hX.size; omega, hX.size, (hX.alloc hX.size _).alloc (by have := hX.size; simp; omega) _⟩

set_option maxRecDepth 100000 in
set_option maxHeartbeats 8000000 in
theorem read_good (n0 : Nat) (v : Value) (L : List Int) (w : World) (h : Arg n0 w v L) (hl : L.length = 380) (hc : cn L ≤ 8) :
    Calls Try.prog 34 #[v] w fun e w' => (∃ us v', e = .returned (.tuple #[.agg us.toArray, v', .int .i64 (rdE L)]) ∧ sgN.lies w.heap.size w' us (rdS L) ∧ Arg 0 w' v' (rdB L)) ∧ Below w.heap.size w w' := by
  refine (callsIn_wide (n := 12)).1 ?_
  obtain ⟨post, hpost⟩ : ∃ post : Ending → World → Prop, post = fun e w' => (∃ us v', e = .returned (.tuple #[.agg us.toArray, v', .int .i64 (rdE L)]) ∧ sgN.lies w.heap.size w' us (rdS L) ∧ Arg 0 w' v' (rdB L)) ∧ Below w.heap.size w w' := ⟨_, rfl⟩
  have HPo : Hid (∀ us v' w', sgN.lies w.heap.size w' us (rdS L) → Arg 0 w' v' (rdB L) → Below w.heap.size w w' → post (.returned (.tuple #[.agg us.toArray, v', .int .i64 (rdE L)])) w') := fun us v' w' h1 h2 h3 => by rw [hpost]; exact ⟨⟨us, v', rfl, h1, h2⟩, h3⟩
  rw [← hpost]
  clear hpost
  have h0 := h.weaken (Nat.zero_le n0)
  obtain ⟨c, hcn⟩ : ∃ c, c = cn L := ⟨_, rfl⟩
  obtain ⟨v1, hA1, s1⟩ := h0.cut 12 13 (by omega) (by omega)
  replace s1 : ∀ X, (Instr.slice 25 v (some (.int .i64 12)) (some (.int .i64 13)) none).run Try.prog X = .ok v1 X := s1
  obtain ⟨v2, hA2, s2⟩ := h0.cut 4 12 (by omega) (by omega)
  replace s2 : ∀ X, (Instr.slice 25 v (some (.int .i64 4)) (some (.int .i64 12)) none).run Try.prog X = .ok v2 X := s2
  obtain ⟨vb, hAb, sb⟩ := h0.behind (13 + c * 6) (by omega)
  obtain ⟨vh, hAh, sh⟩ := h0.cut 13 (13 + c * 6) (by omega) (by omega)
  replace sh : ∀ X, (Instr.slice 25 v (some (.int .i64 13)) (some (.int .i64 ((13 + c * 6 : Nat) : Int))) none).run Try.prog X = .ok vh X := sh
  obtain ⟨sqv, hsq⟩ : ∃ x, x = sq L := ⟨_, rfl⟩
  have HN1 : Hid (∀ Y, Below w.heap.size w Y → Calls Try.prog 32 #[v1] Y fun e w' => e = .returned (.int .i64 c) ∧ Y = w') := fun Y hY => by
    have HC := number_any v1 _ Y (hA1.below hY) (by simp; omega)
    rw [show (nv ((L.take 13).drop 12) : Nat) = cn L from rfl, w64 (cn_lt h.oct hl), ← hcn] at HC
    exact HC
  have HN2 : Hid (∀ Y, Below w.heap.size w Y → Calls Try.prog 32 #[v2] Y fun e w' => e = .returned (.int .i64 sqv) ∧ Y = w') := fun Y hY => by
    rw [hsq]
    exact number_any v2 _ Y (hA2.below hY) (by simp; omega)
  obtain ⟨hh, hhh⟩ : ∃ x, x = hbs L := ⟨_, rfl⟩
  obtain ⟨bl, hbl⟩ : ∃ x, x = beh L := ⟨_, rfl⟩
  have HD : Hid (Arg 0 w vh hh ∧ Arg 0 w vb bl ∧ hh.length = 6 * c ∧ c ≤ 8 ∧ bl.length + 13 + c * 6 = 380 ∧ c = cn L ∧ hh = hbs L ∧ bl = beh L ∧ sqv = sq L) := by
    refine ⟨by rw [hhh, hbs, ← hcn]; exact hAh, by rw [hbl, beh, ← hcn]; exact hAb, by rw [hhh, hcn]; exact hbs_length hl hc, by omega, ?_, hcn, hhh, hbl, hsq⟩
    rw [hbl, beh, ← hcn]
    simp
    omega
  obtain ⟨ab, cb, rfl, -⟩ := hAb.shape
  obtain ⟨ah, ch, rfl, -⟩ := hAh.shape
  obtain ⟨lb, hlb⟩ : ∃ x, x = (L.drop (13 + c * 6)).length := ⟨_, rfl⟩
  obtain ⟨lh, hlh⟩ : ∃ x, x = ((L.take (13 + c * 6)).drop 13).length := ⟨_, rfl⟩
  rw [← hlb] at sb HD
  rw [← hlh] at sh HD
  have HLH : Hid (lh = 6 * c ∧ lh = hh.length ∧ lb = bl.length) := by
    obtain ⟨h1, h2, h3, -⟩ := HD.out
    obtain ⟨_, _, e1, -⟩ := h1.shape
    obtain ⟨_, _, e2, -⟩ := h2.shape
    obtain ⟨-, rfl, -⟩ := Value.slice.inj e1
    obtain ⟨-, rfl, -⟩ := Value.slice.inj e2
    exact ⟨h3, rfl, rfl⟩
  have hc8 : c ≤ 8 := by omega
  obtain ⟨d, hd⟩ : ∃ d, d = 13 + c * 6 := ⟨_, rfl⟩
  rw [← hd] at sb sh
  obtain ⟨c6, hc6⟩ : ∃ c6 : Int, c6 = (c : Int) * 6 := ⟨_, rfl⟩
  have e6 : (c : Int) * 6 = c6 := hc6.symm
  have ed : 13 + c6 = (d : Int) := by omega
  have hb6 : 0 ≤ c6 ∧ c6 ≤ 48 := by omega
  have hci : ¬ (8 : Int) < (c : Int) := by omega
  obtain ⟨W, hW⟩ : ∃ W, W = ((w.alloc (.cells #[.int .i64 0, .slice none 0 0] 28)).alloc (.cells #[.slice none 0 0] 25)).alloc (.cells #[.int .i64 0] 31) := ⟨_, rfl⟩
  have hb : Below w.heap.size w W := by rw [hW]; exact (((Below.refl _ w).alloc (Nat.le_refl _) _).alloc (by simp) _).alloc (by simp; omega) _
  have hB0 : Box W w.heap.size 28 #[.int .i64 0, .slice none 0 0] := by rw [hW]; exact ((Box.new _ _ _).alloc _).alloc _
  have hB1 : Box W (w.heap.size + 1) 25 #[.slice none 0 0] := by
    rw [hW]
    have := Box.new (w.alloc (.cells #[.int .i64 0, .slice none 0 0] 28)) 25 #[.slice none 0 0]
    rw [World.size_alloc] at this
    exact this.alloc _
  have hB2 : Box W (w.heap.size + 1 + 1) 31 #[.int .i64 0] := by
    rw [hW]
    have := Box.new ((w.alloc (.cells #[.int .i64 0, .slice none 0 0] 28)).alloc (.cells #[.slice none 0 0] 25)) 31 #[.int .i64 0]
    rwa [World.size_alloc, World.size_alloc] at this
  have HW : Hid (Below w.heap.size w W ∧ Box W w.heap.size 28 #[.int .i64 0, .slice none 0 0] ∧ Box W (w.heap.size + 1) 25 #[.slice none 0 0] ∧ Box W (w.heap.size + 1 + 1) 31 #[.int .i64 0] ∧ W.heap.size = w.heap.size + 3) := ⟨hb, hB0, hB1, hB2, by rw [hW]; simp⟩
  have hmix : Try.prog.follows .mixedOrders = true := by kernel_rfl
  clear h h0 hA1 hA2 hAb hAh hb hB0 hB1 hB2 hl hc hcn hsq hhh hbl hd hc6 hlb hlh
  refine callsIn_of_wp_marks Try.func34 rfl trivial ?_ rfl
  simp only [Try.ntmps34, List.size_toArray, List.length_cons, List.length_nil, Nat.reduceAdd, Nat.reduceSub, Array.replicate_succ, Array.replicate_zero, List.push_toArray, List.append_toArray, List.nil_append, List.cons_append]
  gi_wp2_with fail
  rw [← hW]
  clear hW
  refine ⟨trivial, (callsIn_wide.2 (HN1.out W HW.out.1)).mono ?_⟩
  rintro e wn ⟨rfl, rfl⟩
  gi_wp2
  refine wpIn_mono (Q := Exit.then (fun a2 w2 => ∃ B7 B8, a2 = { tmps := #[v, undef, .pointer (some ⟨w.heap.size, 0, none⟩), .pointer (some ⟨w.heap.size + 1, 0, none⟩), .pointer (some ⟨w.heap.size + 1 + 1, 0, none⟩), .int .i64 c, .int .i64 d, .pointer (some ⟨B7, 0, none⟩), .pointer (some ⟨B8, 0, none⟩), undef, undef, v, v1, .int .i64 c, .int .i64 c, .bool (decide ((8 : Int) < (c : Int))), undef, .int .i64 c, .int .i64 c6, .int .i64 d, v, v2, .int .i64 sqv, .agg #[.int .i64 sqv, .slice none 0 0], v, .int .i64 d, .slice ab lb cb, undef, undef, undef, undef, undef, undef, undef, undef, undef, undef, undef, undef, undef, undef, undef, undef, undef, undef, undef, undef, undef, undef, undef, undef, undef, undef, undef], defers := [] } ∧ Five W w2 B7 B8 sqv (.slice ab lb cb)) (fun _ _ _ => False)) ?_ ?_
  · refine wpIn_region_any hmix ?_
    obtain ⟨X, hX⟩ : ∃ X, X = W.drew := ⟨_, rfl⟩
    rw [show { W with drawn := W.drawn + 1 } = X from hX.symm]
    have HX : Hid (Below w.heap.size w X ∧ Below W.heap.size W X) := by rw [hX]; exact ⟨HW.out.1.drew, (Below.refl _ _).drew⟩
    clear hX
    refine tin 0 20 ?_
    simp only [ua, ub, uc, ud]
    refine tin 1 21 ?_
    simp only [ua, ub, uc, ud]
    refine tin 4 24 ?_
    simp only [ua, ub, uc, ud]
    refine tin 5 25 ?_
    simp only [ua, ub, uc, ud]
    refine tin 6 26 ?_
    simp only [ua, ub, uc, ud]
    refine wpAnyIn_ready (rs := [2, 7, 8]) (by kernel_rfl) (by decide) (AllReadyIn.cons (by rfl) (fun K hK => ?_) (AllReadyIn.cons (by rfl) (fun K hK => ?_) (AllReadyIn.cons (by rfl) (fun K hK => ?_) AllReadyIn.nil)))
    · go_simp
      refine ⟨trivial, (callsIn_wide.2 (HN2.out _ HX.out.1)).mono ?_⟩
      rintro e wn ⟨rfl, rfl⟩
      dsimp only
      refine hK _ _ ?_
      clear hK
      refine tin 3 23 ?_
      simp only [ua, ub, uc, ud]
      refine wpAnyIn_ready (rs := [7, 8]) (by kernel_rfl) (by decide) (AllReadyIn.cons (by rfl) (fun K hK => ?_) (AllReadyIn.cons (by rfl) (fun K hK => ?_) AllReadyIn.nil))
      · go_simp
        refine hK _ _ ?_
        clear hK
        refine wpAnyIn_ready (rs := [8]) (by kernel_rfl) (by decide) (AllReadyIn.cons (by rfl) (fun K hK => ?_) AllReadyIn.nil)
        go_simp
        refine hK _ _ ?_
        clear hK
        refine wpAnyIn_ready (rs := [9]) (by kernel_rfl) (by decide) (AllReadyIn.cons (by rfl) (fun K hK => ?_) AllReadyIn.nil)
        go_simp
        refine hK _ _ ?_
        clear hK
        refine wpAnyIn_ready (rs := [10]) (by kernel_rfl) (by decide) (AllReadyIn.cons (by rfl) (fun K hK => ?_) AllReadyIn.nil)
        go_simp
        refine hK _ _ ?_
        clear hK
        refine wpAnyIn_done (by kernel_rfl) ?_ _
        exact ⟨_, _, rfl, five_a HX.out.2 _ _⟩
      · go_simp
        refine hK _ _ ?_
        clear hK
        refine wpAnyIn_ready (rs := [7]) (by kernel_rfl) (by decide) (AllReadyIn.cons (by rfl) (fun K hK => ?_) AllReadyIn.nil)
        go_simp
        refine hK _ _ ?_
        clear hK
        refine wpAnyIn_ready (rs := [9]) (by kernel_rfl) (by decide) (AllReadyIn.cons (by rfl) (fun K hK => ?_) AllReadyIn.nil)
        go_simp
        refine hK _ _ ?_
        clear hK
        refine wpAnyIn_ready (rs := [10]) (by kernel_rfl) (by decide) (AllReadyIn.cons (by rfl) (fun K hK => ?_) AllReadyIn.nil)
        go_simp
        refine hK _ _ ?_
        clear hK
        refine wpAnyIn_done (by kernel_rfl) ?_ _
        exact ⟨_, _, rfl, five_b HX.out.2 _ _⟩
    · go_simp
      refine hK _ _ ?_
      clear hK
      refine wpAnyIn_ready (rs := [2, 8]) (by kernel_rfl) (by decide) (AllReadyIn.cons (by rfl) (fun K hK => ?_) (AllReadyIn.cons (by rfl) (fun K hK => ?_) AllReadyIn.nil))
      · go_simp
        refine ⟨trivial, (callsIn_wide.2 (HN2.out _ ((HX.out.1).alloc (HX.out.1).size _))).mono ?_⟩
        rintro e wn ⟨rfl, rfl⟩
        dsimp only
        refine hK _ _ ?_
        clear hK
        refine tin 3 23 ?_
        simp only [ua, ub, uc, ud]
        refine wpAnyIn_ready (rs := [8]) (by kernel_rfl) (by decide) (AllReadyIn.cons (by rfl) (fun K hK => ?_) AllReadyIn.nil)
        go_simp
        refine hK _ _ ?_
        clear hK
        refine wpAnyIn_ready (rs := [9]) (by kernel_rfl) (by decide) (AllReadyIn.cons (by rfl) (fun K hK => ?_) AllReadyIn.nil)
        go_simp
        refine hK _ _ ?_
        clear hK
        refine wpAnyIn_ready (rs := [10]) (by kernel_rfl) (by decide) (AllReadyIn.cons (by rfl) (fun K hK => ?_) AllReadyIn.nil)
        go_simp
        refine hK _ _ ?_
        clear hK
        refine wpAnyIn_done (by kernel_rfl) ?_ _
        exact ⟨_, _, rfl, five_a HX.out.2 _ _⟩
      · go_simp
        refine hK _ _ ?_
        clear hK
        refine wpAnyIn_ready (rs := [2]) (by kernel_rfl) (by decide) (AllReadyIn.cons (by rfl) (fun K hK => ?_) AllReadyIn.nil)
        go_simp
        refine ⟨trivial, (callsIn_wide.2 (HN2.out _ ((((HX.out.1).alloc (HX.out.1).size _)).alloc (((HX.out.1).alloc (HX.out.1).size _)).size _))).mono ?_⟩
        rintro e wn ⟨rfl, rfl⟩
        dsimp only
        refine hK _ _ ?_
        clear hK
        refine tin 3 23 ?_
        simp only [ua, ub, uc, ud]
        refine wpAnyIn_ready (rs := [9]) (by kernel_rfl) (by decide) (AllReadyIn.cons (by rfl) (fun K hK => ?_) AllReadyIn.nil)
        go_simp
        refine hK _ _ ?_
        clear hK
        refine wpAnyIn_ready (rs := [10]) (by kernel_rfl) (by decide) (AllReadyIn.cons (by rfl) (fun K hK => ?_) AllReadyIn.nil)
        go_simp
        refine hK _ _ ?_
        clear hK
        refine wpAnyIn_done (by kernel_rfl) ?_ _
        exact ⟨_, _, rfl, five_a HX.out.2 _ _⟩
    · go_simp
      refine hK _ _ ?_
      clear hK
      refine wpAnyIn_ready (rs := [2, 7]) (by kernel_rfl) (by decide) (AllReadyIn.cons (by rfl) (fun K hK => ?_) (AllReadyIn.cons (by rfl) (fun K hK => ?_) AllReadyIn.nil))
      · go_simp
        refine ⟨trivial, (callsIn_wide.2 (HN2.out _ ((HX.out.1).alloc (HX.out.1).size _))).mono ?_⟩
        rintro e wn ⟨rfl, rfl⟩
        dsimp only
        refine hK _ _ ?_
        clear hK
        refine tin 3 23 ?_
        simp only [ua, ub, uc, ud]
        refine wpAnyIn_ready (rs := [7]) (by kernel_rfl) (by decide) (AllReadyIn.cons (by rfl) (fun K hK => ?_) AllReadyIn.nil)
        go_simp
        refine hK _ _ ?_
        clear hK
        refine wpAnyIn_ready (rs := [9]) (by kernel_rfl) (by decide) (AllReadyIn.cons (by rfl) (fun K hK => ?_) AllReadyIn.nil)
        go_simp
        refine hK _ _ ?_
        clear hK
        refine wpAnyIn_ready (rs := [10]) (by kernel_rfl) (by decide) (AllReadyIn.cons (by rfl) (fun K hK => ?_) AllReadyIn.nil)
        go_simp
        refine hK _ _ ?_
        clear hK
        refine wpAnyIn_done (by kernel_rfl) ?_ _
        exact ⟨_, _, rfl, five_b HX.out.2 _ _⟩
      · go_simp
        refine hK _ _ ?_
        clear hK
        refine wpAnyIn_ready (rs := [2]) (by kernel_rfl) (by decide) (AllReadyIn.cons (by rfl) (fun K hK => ?_) AllReadyIn.nil)
        go_simp
        refine ⟨trivial, (callsIn_wide.2 (HN2.out _ ((((HX.out.1).alloc (HX.out.1).size _)).alloc (((HX.out.1).alloc (HX.out.1).size _)).size _))).mono ?_⟩
        rintro e wn ⟨rfl, rfl⟩
        dsimp only
        refine hK _ _ ?_
        clear hK
        refine tin 3 23 ?_
        simp only [ua, ub, uc, ud]
        refine wpAnyIn_ready (rs := [9]) (by kernel_rfl) (by decide) (AllReadyIn.cons (by rfl) (fun K hK => ?_) AllReadyIn.nil)
        go_simp
        refine hK _ _ ?_
        clear hK
        refine wpAnyIn_ready (rs := [10]) (by kernel_rfl) (by decide) (AllReadyIn.cons (by rfl) (fun K hK => ?_) AllReadyIn.nil)
        go_simp
        refine hK _ _ ?_
        clear hK
        refine wpAnyIn_done (by kernel_rfl) ?_ _
        exact ⟨_, _, rfl, five_b HX.out.2 _ _⟩
  intro e a2 w2 h5
  cases e <;> try exact h5.elim
  obtain ⟨B7, B8, rfl, h5⟩ := h5
  have H5 : Hid (Five W w2 B7 B8 sqv (.slice ab lb cb)) := h5
  have HB2 : Hid (Below w.heap.size w w2) := below_any HW.out.1 h5.2.2.2.2.2
  clear h5
  gi_wp2_with fail
  refine ⟨trivial, (callsIn_wide.2 (heads_any ah lh ch w2)).mono ?_⟩
  rintro e wL ⟨rfl, hwL⟩
  have hbL : Below w2.heap.size w2 wL := by rw [hwL]; exact (Below.refl _ _).alloc (Nat.le_refl _) _
  have hszL : wL.heap.size = w2.heap.size + 1 := by rw [hwL]; simp
  have hxh : Box wL w2.heap.size 25 #[.slice ah lh ch] := by rw [hwL]; exact Box.new _ _ _
  have hbwL : Below w.heap.size w wL := below_any HB2.out hbL
  have HBX : Hid (Box wL w.heap.size 28 #[.int .i64 0, .slice none 0 0] ∧ Box wL (w.heap.size + 1) 25 #[.slice none 0 0] ∧ Box wL (w.heap.size + 1 + 1) 31 #[.int .i64 0] ∧ Box wL B7 28 #[.int .i64 sqv, .slice none 0 0] ∧ Box wL B8 25 #[.slice ab lb cb] ∧ Below w.heap.size w wL) := by
    obtain ⟨k0, k1, k2, k3, k4⟩ := HW.out
    have hb := below_any H5.out.2.2.2.2.2 hbL
    exact ⟨k1.below hb k1.lt, k2.below hb k2.lt, k3.below hb k3.lt, H5.out.1.below hbL H5.out.1.lt, H5.out.2.1.below hbL H5.out.2.1.lt, hbwL⟩
  have HSZ : Hid (wL.heap.size = w2.heap.size + 1 ∧ w.heap.size + 3 ≤ B7 ∧ w.heap.size + 3 ≤ B8 ∧ B7 ≠ B8 ∧ B7 < w2.heap.size ∧ B8 < w2.heap.size) := ⟨hszL, by have := H5.out.2.2.2.1; have := HW.out.2.2.2.2; omega, by have := H5.out.2.2.2.2.1; have := HW.out.2.2.2.2; omega, H5.out.2.2.1, H5.out.1.lt, H5.out.2.1.lt⟩
  have hit := heads_stops 11 (by omega) w.heap.size [w.heap.size, w.heap.size + 1, w.heap.size + 1 + 1, B7, B8] w2.heap.size ah ch hh c wL HD.out.2.2.1 hc8 hbwL.size (fun W' hW' => by have := HD.out.1.below (hbwL.trans hW'); rwa [HLH.out.2.1] at this) (by rw [← HLH.out.2.1]; exact hxh) (fun g hg => by
    have := HSZ.out
    simp only [List.mem_cons, List.not_mem_nil, or_false] at hg
    omega) (fun hg => by
    have := HSZ.out
    simp only [List.mem_cons, List.not_mem_nil, or_false] at hg
    omega)
  clear hwL hbL hszL hxh hbwL s1 s2 sb sh hci
  gi_wp2_with fail
  have HIN : Hid (RdI w B7 B8 sqv hh bl [] wL) := by
    refine ⟨rfl, none, 0, ab, cb, HBX.out.2.2.2.1, Shape.list_nil bkN 26 Try.underlying26 cells26 _ _, ?_, ?_, ⟨HBX.out.1, HBX.out.2.1, HBX.out.2.2.1⟩, HBX.out.2.2.2.2.2⟩
    · have h1 := HBX.out.2.2.2.2.1
      rwa [HLH.out.2.2] at h1
    · have h1 := HD.out.2.1
      rwa [HLH.out.2.2] at h1
  refine range_own (by omega) (gf := 60) (lb := #[.pointer (some ⟨w2.heap.size, 0, none⟩)]) rfl (enters_of Try.func60 (by kernel_rfl) rfl) hit (fun h k => ⟨h.1.trans k.1, ⟨Nat.le_trans h.2.size k.2.size, fun i o hi h0 ho => k.2.same i o hi (h.2.same i o hi h0 ho) ho⟩⟩)
    (fun X lx o o' h1 h2 hX ho => ⟨KpA.put o' hX ho (by have := HSZ.out; omega), ⟨by simp [World.putObj], fun i u hi h0 _ => (World.putObj_heap_other (by omega)).trans h0⟩⟩) (fun _ => rfl)
    (fun pre W' => RdI w B7 B8 sqv hh bl (pre.map (·.1)) W') (fun pre W' => RdX w hh (pre.map (·.1)) W') (rdI_own (by have := HBX.out.2.2.2.2.2.size; omega)) (rdX_own (by have := HBX.out.2.2.2.2.2.size; omega)) HIN.out
    (fun pre x a' W' => ∃ Bx, w.heap.size + 3 ≤ Bx ∧ a' = { tmps := #[v, undef, .pointer (some ⟨w.heap.size, 0, none⟩), .pointer (some ⟨w.heap.size + 1, 0, none⟩), .pointer (some ⟨w.heap.size + 1 + 1, 0, none⟩), .int .i64 c, .int .i64 d, .pointer (some ⟨B7, 0, none⟩), .pointer (some ⟨B8, 0, none⟩), .pointer (some ⟨Bx, 0, none⟩), .int .i64 (lnn hh x.1), v, v1, .int .i64 c, .int .i64 c, .bool (decide ((8 : Int) < (c : Int))), undef, .int .i64 c, .int .i64 c6, .int .i64 d, v, v2, .int .i64 sqv, .agg #[.int .i64 sqv, .slice none 0 0], v, .int .i64 d, .slice ab lb cb, v, .int .i64 d, .slice ah lh ch, .func (.func 60) #[] #[.pointer (some ⟨w2.heap.size, 0, none⟩)], .agg #[.int .i64 (ow hh x.1), .int .i64 (ixn hh x.1), .slice none 0 0], .int .i64 (lnn hh x.1), undef, undef, undef, undef, undef, undef, undef, undef, undef, undef, undef, undef, undef, undef, undef, undef, undef, undef, undef, undef, undef], defers := [] } ∧ RdA w B7 B8 Bx sqv hh bl (pre.map (·.1)) x.1 W')
    (fun pre x a' _ A B row hs hg hr => by
      obtain ⟨Bx, h1, h2, h3⟩ := hs
      exact ⟨Bx, h1, h2, rdA_grown (by have := HBX.out.2.2.2.2.2.size; omega) h3 hg hr⟩) ?assign ?body ?done ?stop
  case assign =>
    rintro l' pre x W' K hi hK
    clear hit
    simp only [hdV]
    gi_wp2
    obtain ⟨hok, ba, bc, la, lc, hG⟩ := hi
    have hb1 : Below W'.heap.size W' (W'.alloc (.cells #[.int .i64 (ow hh x.1), .int .i64 (ixn hh x.1), .slice none 0 0] 58)) := (Below.refl _ _).alloc (Nat.le_refl _) _
    have hnW : w.heap.size ≤ W'.heap.size := hG.2.2.2.2.2.size
    refine hK _ _ ((keeps_below hb1).from _) ⟨KpA.of_below hb1 hnW, (keeps_below hb1).from _⟩ ⟨hok, ba, bc, la, lc, hG.below hb1⟩ ⟨W'.heap.size, ?_, rfl, hok, ba, bc, la, lc, hG.below hb1, Box.new _ _ _, ?_⟩
    · have := hG.2.2.2.2.1.2.2.lt
      omega
    · intro e
      obtain ⟨v', vss, hv, hr, -⟩ := hG.2.1
      obtain rfl : Value.slice ba _ bc = v' := by simpa using hv
      have := (hr.lt _ e).2
      omega
  case body =>
    rintro l' pre x a' W' hi ⟨Bx, hBx, rfl, hok, ba, bc, la, lc, hG, hbx, hne⟩ hlt
    clear hit hi
    obtain ⟨k, hk⟩ := x
    simp only at hbx ⊢
    obtain ⟨ks, hks⟩ : ∃ ks, ks = pre.map (·.1) := ⟨_, rfl⟩
    have HKS : Hid ((pre ++ [(⟨k, hk⟩ : Ix c)]).map (·.1) = ks ++ [k] ∧ ks.length < 8) := ⟨by rw [List.map_append, ← hks]; rfl, by rw [hks, List.length_map]; exact hlt⟩
    rw [← hks] at hok hG hne
    obtain ⟨hln0, hln1⟩ := lnn_bound HD.out.1.oct HD.out.2.2.1 hk
    obtain ⟨j, hj⟩ : ∃ j : Nat, lnn hh k = j := ⟨(lnn hh k).toNat, by omega⟩
    have HGG : Hid (okK hh ks = true ∧ Got w B7 B8 sqv (rdF hh ks bl).1 (rdF hh ks bl).2 ba bc la lc W' ∧ Box W' Bx 58 #[.int .i64 (ow hh k), .int .i64 (ixn hh k), .slice none 0 0] ∧ (Value.slice ba (rdF hh ks bl).1.length bc).ownBlock ≠ some Bx ∧ w.heap.size + 3 ≤ Bx ∧ lnn hh k = j) := ⟨hok, hG, hbx, hne, hBx, hj⟩
    rw [hj]
    have HOW := lnn_i64 hh k
    obtain ⟨oww, how⟩ : ∃ y, y = ow hh k := ⟨_, rfl⟩
    obtain ⟨ixx, hixx⟩ : ∃ y, y = ixn hh k := ⟨_, rfl⟩
    rw [← how, ← hixx] at HOW HGG ⊢
    have HOX : Hid ((I64 oww ∧ I64 ixx) ∧ oww = ow hh k ∧ ixx = ixn hh k) := ⟨HOW, how, hixx⟩
    clear hok hG hbx hne hBx hln0 hln1 hj HOW how hixx hks hlt
    by_cases h32 : 32 < j
    · have h32i : (32 : Int) < (j : Int) := by omega
      have hV := HGG.out.2.1.2.2.2.2.1
      obtain ⟨g0, g1, f0, f1⟩ := hV.1.two
      have g2 := hV.2.1.cell 0 rfl
      have f2 := hV.2.1.frozen 0
      have g3 := hV.2.2.cell 0 rfl
      have f3 := hV.2.2.frozen 0
      have HE : Hid (KeepsFrom wL.heap.size W' (W3s W' w.heap.size (w.heap.size + 1) (w.heap.size + 1 + 1) (.int .i64 0) (.slice none 0 0) (.slice none 0 0) (.int .i64 9)) ∧ KpO w.heap.size [w.heap.size, w.heap.size + 1, w.heap.size + 1 + 1, B7, B8] (wL.heap.size + 2) W' (W3s W' w.heap.size (w.heap.size + 1) (w.heap.size + 1 + 1) (.int .i64 0) (.slice none 0 0) (.slice none 0 0) (.int .i64 9)) ∧ RdX w hh ((pre ++ [(⟨k, hk⟩ : Ix c)]).map (·.1)) (W3s W' w.heap.size (w.heap.size + 1) (w.heap.size + 1 + 1) (.int .i64 0) (.slice none 0 0) (.slice none 0 0) (.int .i64 9))) := by
        rw [HKS.out.1]
        have hko := (((KeepsOthers.setCell W' ⟨w.heap.size, 0, none⟩ (.int .i64 0)).trans (KeepsOthers.setCell _ ⟨w.heap.size, 1, none⟩ (.slice none 0 0))).trans (KeepsOthers.setCell _ ⟨w.heap.size + 1, 0, none⟩ (.slice none 0 0))).trans (KeepsOthers.setCell _ ⟨w.heap.size + 1 + 1, 0, none⟩ (.int .i64 9))
        refine ⟨hko.from _, ⟨(((KpA.setG _ (by simp) (Nat.le_refl _)).trans (KpA.setG _ (by simp) (Nat.le_refl _))).trans (KpA.setG _ (by simp) (by omega))).trans (KpA.setG _ (by simp) (by omega)), hko.from _⟩, ?_, store3 hV.1 hV.2.1 hV.2.2 (by omega) (by omega) (by omega) _ _ _ _, below3 HGG.out.2.1.2.2.2.2.2 (Nat.le_refl _) (by omega) (by omega) _ _ _ _⟩
        have h6 := HGG.out.2.2.2.2.2
        rw [okK, List.all_append]
        simp [h6]
        intro _
        omega
      unfold W3s at HE
      clear hV
      gi_wp2
      exact HE.out
    have h32i : ¬ (32 : Int) < (j : Int) := by omega
    have hlen : 32 ≤ (rdF hh ks bl).2.length := by
      have h1 := rdF_left hh ks bl HGG.out.1
      have h2 := HKS.out.2
      have h3 := HD.out.2.2.2.2.1
      omega
    obtain ⟨bs, hbs⟩ : ∃ y, y = (rdF hh ks bl).1 := ⟨_, rfl⟩
    obtain ⟨lf, hlf⟩ : ∃ y, y = (rdF hh ks bl).2 := ⟨_, rfl⟩
    rw [← hbs, ← hlf] at HGG
    rw [← hlf] at hlen
    have HNX : Hid (rdF hh (ks ++ [k]) bl = (bs ++ [(oww, ixx, lf.take j)], lf.drop j)) := by
      show _ = _
      rw [rdF_snoc, ← hbs, ← hlf, HGG.out.2.2.2.2.2, blk, ← HOX.out.2.1, ← HOX.out.2.2, HGG.out.2.2.2.2.2]
      rfl
    have HBL : Hid (bs.length < 8) := by
      show _ < _
      rw [hbs, rdF_length _ _ _ HGG.out.1]
      exact HKS.out.2
    have hAl := HGG.out.2.1.2.2.2.1
    obtain ⟨vd, hAd, sd⟩ := hAl.ahead j (by omega)
    obtain ⟨vl, hAv, sv⟩ := hAl.behind j (by omega)
    obtain ⟨la', lc', rfl, -⟩ := hAv.shape
    have HCL : Hid (∀ X, Below w.heap.size w X → Calls Try.prog 52 #[vd] X fun e w' => (∃ v', e = .returned v' ∧ Own1 X.heap.size w' v' (lf.take j)) ∧ Below X.heap.size X w') := fun X hX => bclone_any 0 vd _ X (hAd.below hX) (by simp; omega)
    have HAV : Hid (Arg 0 w (.slice la' (lf.drop j).length lc') (lf.drop j)) := hAv
    obtain ⟨nl, hnl⟩ : ∃ y, y = (lf.drop j).length := ⟨_, rfl⟩
    rw [← hnl] at sv HAV
    obtain ⟨nf, hnf⟩ : ∃ y, y = lf.length := ⟨_, rfl⟩
    obtain ⟨nb, hnb⟩ : ∃ y, y = bs.length := ⟨_, rfl⟩
    have HNN : Hid (nl = (lf.drop j).length ∧ nf = lf.length ∧ nb = bs.length) := ⟨hnl, hnf, hnb⟩
    rw [← hnf] at sd sv
    have hG := HGG.out.2.1
    have c8 := hG.2.2.1.cell 0 rfl
    rw [← hnf] at c8
    obtain ⟨x0, x1, x2, y0, y1, y2⟩ := HGG.out.2.2.1.three
    clear hAl hAd hAv hbs hlf hlen hnl hnf hnb hG
    gi_wp2_with fail
    refine ⟨trivial, (CallsIn.inRound l' (callsIn_wide.2 (HCL.out W' HGG.out.2.1.2.2.2.2.2))).mono ?_⟩
    rintro e V ⟨⟨vc, rfl, hO⟩, hbV⟩
    obtain ⟨ca, cc, rfl⟩ := hO.shape
    have HV : Hid (Got w B7 B8 sqv bs lf ba bc la lc V ∧ Box V Bx 58 #[.int .i64 oww, .int .i64 ixx, .slice none 0 0] ∧ Own1 w.heap.size V (.slice ca (lf.take j).length cc) (lf.take j) ∧ Below W'.heap.size W' V) := ⟨HGG.out.2.1.below hbV, HGG.out.2.2.1.below hbV HGG.out.2.2.1.lt, bytesS.oweaken hO HGG.out.2.1.2.2.2.2.2.size, hbV⟩
    obtain ⟨nj, hnj⟩ : ∃ y, y = (lf.take j).length := ⟨_, rfl⟩
    have HNJ : Hid (nj = (lf.take j).length) := hnj
    rw [← hnj]
    clear x0 x1 x2 y0 y1 y2 hO hbV c8 hnj
    obtain ⟨x0, x1, x2, y0, y1, y2⟩ := HV.out.2.1.three
    obtain ⟨vs, hrow, hE⟩ := step_row HV.out.1 HV.out.2.1 HGG.out.2.2.2.1 (.slice ca nj cc) (.cells #[.int .i64 oww, .int .i64 ixx, .slice ca nj cc] 58)
    obtain ⟨p0, p1, p2, q0, q1, q2⟩ := (HV.out.2.1.set 2 (.slice ca nj cc)).three
    obtain ⟨r0, r1, t0, t1⟩ := (HV.out.1.1.other (i := 2) (x := .slice ca nj cc) (B' := Bx) (box_ne HV.out.1.1 HV.out.2.1 (by decide))).two
    rw [← HNN.out.2.2] at r1 hrow
    obtain ⟨i3, hi3, hz30, hz31, hz32⟩ := info_parts Try.info58
    have HR : Hid (((V.setCell ⟨Bx, 2, none⟩ (.slice ca nj cc)).alloc (.cells #[.int .i64 oww, .int .i64 ixx, .slice ca nj cc] 58)).ownsRow w.heap.size 58 3 (.slice ba nb bc) nb vs.flatten ∧ Each (bkN.owns w.heap.size ((V.setCell ⟨Bx, 2, none⟩ (.slice ca nj cc)).alloc (.cells #[.int .i64 oww, .int .i64 ixx, .slice ca nj cc] 58))) vs bs) := ⟨hrow, hE⟩
    have hnb8 : nb < 8 := by have := HBL.out; have := HNN.out.2.2; omega
    have hszV : w.heap.size ≤ V.heap.size := HV.out.1.2.2.2.2.2.size
    obtain ⟨Y, hY⟩ : ∃ Y, Y = (V.setCell ⟨Bx, 2, none⟩ (.slice ca nj cc)).alloc (.cells #[.int .i64 oww, .int .i64 ixx, .slice ca nj cc] 58) := ⟨_, rfl⟩
    have hYn : ∀ (jj : Nat) u, [Value.int .i64 oww, .int .i64 ixx, .slice ca nj cc][jj]? = some u → Y.cell? ((⟨V.heap.size, 0, none⟩ : Addr).add jj) = some u := by
      rw [hY]
      have := World.news_of_block (cs := #[.int .i64 oww, .int .i64 ixx, .slice ca nj cc]) (t := 58) (fr := (0, 0)) (heap_alloc_new (V.setCell ⟨Bx, 2, none⟩ (.slice ca nj cc)) (.cells #[.int .i64 oww, .int .i64 ixx, .slice ca nj cc] 58))
      rw [World.size_setCell] at this
      exact this
    have hYs : w.heap.size ≤ Y.heap.size := by rw [hY]; simp; omega
    rw [← hY] at HR
    have HYN : Hid (∀ (jj : Nat) u, [Value.int .i64 oww, .int .i64 ixx, .slice ca nj cc][jj]? = some u → Y.cell? ((⟨V.heap.size, 0, none⟩ : Addr).add jj) = some u) := hYn
    clear hrow hE hYn
    gi_wp2_with (gi_at_builtin; rw [← hY]; refine wpListIn_append_own _ rfl _ _ 26 rfl w.heap.size 58 i3 _ 3 40 Try.underlying26 hi3 hz30 hz31 hz32 rfl (by decide) (.slice ba nb bc) nb vs.flatten rfl HR.out.1 ⟨V.heap.size, 0, none⟩ 1 1 [.int .i64 oww, .int .i64 ixx, .slice ca nj cc] rfl rfl HYN.out (by simp [Value.oneCell']) (by unfold maxLen; omega) (by omega) hYs ?_; intro v7 U hown hgrow _; obtain ⟨gg, gc, rfl⟩ := ownsRow_succ hown; have hSB := step_boxes HV.out.1 HV.out.2.1 hY HR.out.1 hgrow; obtain ⟨m0, m1, mf0, mf1⟩ := hSB.1.two; have m8 := (hSB.2.other (B' := B7) (i := 1) (x := .slice (some ⟨gg, 0, none⟩) (nb + 1) gc) (box_ne hSB.2 hSB.1 (by decide))).cell 0 rfl; have mf8 := (hSB.2.other (B' := B7) (i := 1) (x := .slice (some ⟨gg, 0, none⟩) (nb + 1) gc) (box_ne hSB.2 hSB.1 (by decide))).frozen 0; rw [← HNN.out.2.1] at m8)
    clear m0 m1 mf0 mf1 m8 mf8 x0 x1 x2 y0 y1 y2 p0 p1 p2 q0 q1 q2 r0 r1 t0 t1 sd sv hi3 hz30 hz31 hz32
    obtain ⟨e1, e2, e3⟩ := HNN.out
    have e4 := HNJ.out
    subst e1 e2 e3 e4
    have hmem7 : B7 ∈ [w.heap.size, w.heap.size + 1, w.heap.size + 1 + 1, B7, B8] := by simp
    have hmem8 : B8 ∈ [w.heap.size, w.heap.size + 1, w.heap.size + 1 + 1, B7, B8] := by simp
    have hY1 : Below (V.setCell ⟨Bx, 2, none⟩ (.slice ca (lf.take j).length cc)).heap.size (V.setCell ⟨Bx, 2, none⟩ (.slice ca (lf.take j).length cc)) Y := by rw [hY]; exact (Below.refl _ _).alloc (Nat.le_refl _) _
    have hz := HSZ.out
    have hko : KeepsOthers W' ((U.setCell ⟨B7, 1, none⟩ (.slice (some ⟨gg, 0, none⟩) (bs.length + 1) gc)).setCell ⟨B8, 0, none⟩ (.slice la' (lf.drop j).length lc')) :=
      (((((keeps_below HV.out.2.2.2).trans (KeepsOthers.setCell V ⟨Bx, 2, none⟩ _)).trans (keeps_below hY1)).trans (keeps_grown HR.out.1 hgrow)).trans (KeepsOthers.setCell U ⟨B7, 1, none⟩ _)).trans (KeepsOthers.setCell _ ⟨B8, 0, none⟩ _)
    have hkp : KpA w.heap.size [w.heap.size, w.heap.size + 1, w.heap.size + 1 + 1, B7, B8] W' ((U.setCell ⟨B7, 1, none⟩ (.slice (some ⟨gg, 0, none⟩) (bs.length + 1) gc)).setCell ⟨B8, 0, none⟩ (.slice la' (lf.drop j).length lc')) :=
      (((((KpA.of_below HV.out.2.2.2 HGG.out.2.1.2.2.2.2.2.size).trans (KpA.set58 _ HV.out.2.1 (by have := HGG.out.2.2.2.2.1; omega))).trans (KpA.of_below hY1 (by rw [World.size_setCell]; exact hszV))).trans (KpA.grown58 HR.out.1 hgrow (Nat.le_refl _) hYs)).trans (KpA.setG _ hmem7 (by omega))).trans (KpA.setG _ hmem8 (by omega))
    refine ⟨hko.from _, ⟨hkp, hko.from _⟩, ?_⟩
    show RdI w B7 B8 sqv hh bl ((pre ++ [(⟨k, hk⟩ : Ix c)]).map (·.1)) _
    rw [HKS.out.1]
    refine ⟨?_, some ⟨gg, 0, none⟩, gc, la', lc', ?_⟩
    · have h6 := HGG.out.2.2.2.2.2
      rw [okK, List.all_append, ← okK, HGG.out.1]
      simp [h6]
      omega
    · rw [HNX.out]
      have := step_got (ga := some ⟨gg, 0, none⟩) (left' := lf.drop j) HV.out.1 HV.out.2.1 HGG.out.2.2.2.2.1 hz.2.1 hz.2.2.1 hz.2.2.2.1 (box_ne HV.out.1.1 HV.out.2.1 (by decide)) (box_ne HV.out.1.2.2.1 HV.out.2.1 (by decide)) HV.out.2.2.1 HOX.out.1 HAV.out Y hY HR.out.1 HR.out.2 hown hgrow
      exact this
  case done =>
    rintro D xs W' hD hS hi hK
    clear hit
    obtain ⟨hok, ba, bc, la, lc, hG⟩ := hi
    rw [hS] at hok hG
    have HE : Hid (rdOk L = true ∧ rdS L = (sqv, (rdF hh (List.range c) bl).1) ∧ rdE L = cerr (sqv, (rdF hh (List.range c) bl).1) ∧ rdB L = (rdF hh (List.range c) bl).2) := by
      have h1 : rdOk L = true := by
        rw [rdOk, ← HD.out.2.2.2.2.2.1, ← HD.out.2.2.2.2.2.2.1, hok]
        simp [hc8]
      have h2 : rdR L = rdF hh (List.range c) bl := by rw [rdR, ← HD.out.2.2.2.2.2.1, ← HD.out.2.2.2.2.2.2.1, ← HD.out.2.2.2.2.2.2.2.1]
      refine ⟨h1, ?_, ?_, ?_⟩
      · rw [rdS, if_pos h1, h2, ← HD.out.2.2.2.2.2.2.2.2]
      · rw [rdE, if_pos h1, h2, ← HD.out.2.2.2.2.2.2.2.2]
      · rw [rdB, if_pos h1, h2]
    obtain ⟨bs, hbs⟩ : ∃ y, y = (rdF hh (List.range c) bl).1 := ⟨_, rfl⟩
    obtain ⟨lf, hlf⟩ : ∃ y, y = (rdF hh (List.range c) bl).2 := ⟨_, rfl⟩
    rw [← hbs, ← hlf] at hG HE
    have HG : Hid (Got w B7 B8 sqv bs lf ba bc la lc W' ∧ W'.heap[D]? = some (.deferred (some [])) ∧ wL.heap.size ≤ D) := ⟨hG, hK, hD⟩
    obtain ⟨ce, hce⟩ : ∃ y, y = cerr (sqv, bs) := ⟨_, rfl⟩
    have HCE : Hid (ce = cerr (sqv, bs)) := hce
    have HCH : Hid (∀ X, Below W'.heap.size W' X → Calls Try.prog 21 #[.agg #[.int .i64 sqv, .slice ba bs.length bc]] X fun e w' => e = .returned (.int .i64 ce) ∧ Below X.heap.size X w') := fun X hX => by
      rw [hce]
      exact check_any w.heap.size [.int .i64 sqv, .slice ba bs.length bc] (sqv, bs) X (sg_mkN (s := (sqv, bs)) (bksN.below (bksN.olies hG.2.1) hX) (by have := sq_i64 L; rwa [← HD.out.2.2.2.2.2.2.2.2] at this))
    clear hok hS hbs hlf hce
    obtain ⟨nb, hnb⟩ : ∃ y, y = bs.length := ⟨_, rfl⟩
    obtain ⟨nl, hnl⟩ : ∃ y, y = lf.length := ⟨_, rfl⟩
    have HNN : Hid (nb = bs.length ∧ nl = lf.length) := ⟨hnb, hnl⟩
    rw [← hnb] at HCH
    clear hnb hnl hG
    gi_wp2
    refine wpIn_mono (Q := Exit.then (fun a2 w5 => ∃ V, Below W'.heap.size W' V ∧ w5 = W3s V w.heap.size (w.heap.size + 1) (w.heap.size + 1 + 1) (.int .i64 sqv) (.slice ba nb bc) (.slice la nl lc) (.int .i64 ce) ∧ a2 = { tmps := #[v, undef, .pointer (some ⟨w.heap.size, 0, none⟩), .pointer (some ⟨w.heap.size + 1, 0, none⟩), .pointer (some ⟨w.heap.size + 1 + 1, 0, none⟩), .int .i64 c, .int .i64 d, .pointer (some ⟨B7, 0, none⟩), .pointer (some ⟨B8, 0, none⟩), undef, undef, v, v1, .int .i64 c, .int .i64 c, .bool (decide ((8 : Int) < (c : Int))), undef, .int .i64 c, .int .i64 c6, .int .i64 d, v, v2, .int .i64 sqv, .agg #[.int .i64 sqv, .slice none 0 0], v, .int .i64 d, .slice ab lb cb, v, .int .i64 d, .slice ah lh ch, .func (.func 60) #[] #[.pointer (some ⟨w2.heap.size, 0, none⟩)], undef, undef, undef, undef, undef, undef, undef, undef, undef, undef, undef, undef, undef, undef, undef, undef, undef, undef, undef, .agg #[.int .i64 sqv, .slice ba nb bc], .slice la nl lc, .agg #[.int .i64 sqv, .slice ba nb bc], .int .i64 ce], defers := [{ target := .collected D, args := #[] }] }) (fun _ _ _ => False)) ?_ ?_
    · refine wpIn_region_any hmix ?_
      obtain ⟨X, hX⟩ : ∃ X, X = W'.drew := ⟨_, rfl⟩
      rw [show { W' with drawn := W'.drawn + 1 } = X from hX.symm]
      have HX : Hid (Below W'.heap.size W' X) := by rw [hX]; exact (Below.refl _ _).drew
      have hGX := HG.out.1.below HX.out
      obtain ⟨c70, c71, -, -⟩ := hGX.1.two
      have c8 := hGX.2.2.1.cell 0 rfl
      rw [← HNN.out.1] at c71
      rw [← HNN.out.2] at c8
      clear hX hGX
      refine wpAnyIn_ready (rs := [0, 1, 2]) (by kernel_rfl) (by decide) (AllReadyIn.cons (by rfl) (fun K hK => ?_) (AllReadyIn.cons (by rfl) (fun K hK => ?_) (AllReadyIn.cons (by rfl) (fun K hK => ?_) AllReadyIn.nil)))
      · go_simp
        refine hK _ _ ?_
        clear hK
        refine wpAnyIn_ready (rs := [1, 2]) (by kernel_rfl) (by decide) (AllReadyIn.cons (by rfl) (fun K hK => ?_) (AllReadyIn.cons (by rfl) (fun K hK => ?_) AllReadyIn.nil))
        · go_simp
          refine hK _ _ ?_
          clear hK
          refine wpAnyIn_ready (rs := [2]) (by kernel_rfl) (by decide) (AllReadyIn.cons (by rfl) (fun K hK => ?_) AllReadyIn.nil)
          go_simp
          refine hK _ _ ?_
          clear hK
          refine wpAnyIn_ready (rs := [3]) (by kernel_rfl) (by decide) (AllReadyIn.cons (by rfl) (fun K hK => ?_) AllReadyIn.nil)
          go_simp
          refine ⟨trivial, (callsIn_wide.2 (HCH.out X HX.out)).mono ?_⟩
          rintro e V ⟨rfl, hbV⟩
          have HV : Hid (Below W'.heap.size W' V) := below_any HX.out hbV
          have hGV := HG.out.1.below HV.out
          clear c70 c71 c8
          obtain ⟨c70, c71, -, -⟩ := hGV.1.two
          have c8 := hGV.2.2.1.cell 0 rfl
          rw [← HNN.out.1] at c71
          rw [← HNN.out.2] at c8
          obtain ⟨z0, z1, zf0, zf1⟩ := hGV.2.2.2.2.1.1.two
          have d8 := ((hGV.2.2.1.other (B' := w.heap.size) (i := 0) (x := .int .i64 sqv) (by have := HSZ.out; omega)).other (B' := w.heap.size) (i := 1) (x := .slice ba nb bc) (by have := HSZ.out; omega)).cell 0 rfl
          rw [← HNN.out.2] at d8
          have v1x := (hGV.2.2.2.2.1.2.1.other (B' := w.heap.size) (i := 0) (x := .int .i64 sqv) (by omega)).other (B' := w.heap.size) (i := 1) (x := .slice ba nb bc) (by omega)
          have z2 := v1x.cell 0 rfl
          have zf2 := v1x.frozen 0
          have v2x := ((hGV.2.2.2.2.1.2.2.other (B' := w.heap.size) (i := 0) (x := .int .i64 sqv) (by omega)).other (B' := w.heap.size) (i := 1) (x := .slice ba nb bc) (by omega)).other (B' := w.heap.size + 1) (i := 0) (x := .slice la nl lc) (by omega)
          have z3 := v2x.cell 0 rfl
          have zf3 := v2x.frozen 0
          clear hGV v1x v2x hbV
          dsimp only
          refine hK _ _ ?_
          clear hK
          refine wpAnyIn_ready (rs := [4]) (by kernel_rfl) (by decide) (AllReadyIn.cons (by rfl) (fun K hK => ?_) AllReadyIn.nil)
          go_simp
          refine hK _ _ ?_
          clear hK
          refine wpAnyIn_ready (rs := [5]) (by kernel_rfl) (by decide) (AllReadyIn.cons (by rfl) (fun K hK => ?_) AllReadyIn.nil)
          go_simp
          refine hK _ _ ?_
          clear hK
          refine wpAnyIn_ready (rs := [6]) (by kernel_rfl) (by decide) (AllReadyIn.cons (by rfl) (fun K hK => ?_) AllReadyIn.nil)
          go_simp
          refine hK _ _ ?_
          clear hK
          refine wpAnyIn_done (by kernel_rfl) ?_ _
          exact ⟨V, HV.out, rfl, rfl⟩
        · go_simp
          refine hK _ _ ?_
          clear hK
          refine wpAnyIn_ready (rs := [1, 3]) (by kernel_rfl) (by decide) (AllReadyIn.cons (by rfl) (fun K hK => ?_) (AllReadyIn.cons (by rfl) (fun K hK => ?_) AllReadyIn.nil))
          · go_simp
            refine hK _ _ ?_
            clear hK
            refine wpAnyIn_ready (rs := [3]) (by kernel_rfl) (by decide) (AllReadyIn.cons (by rfl) (fun K hK => ?_) AllReadyIn.nil)
            go_simp
            refine ⟨trivial, (callsIn_wide.2 (HCH.out X HX.out)).mono ?_⟩
            rintro e V ⟨rfl, hbV⟩
            have HV : Hid (Below W'.heap.size W' V) := below_any HX.out hbV
            have hGV := HG.out.1.below HV.out
            clear c70 c71 c8
            obtain ⟨c70, c71, -, -⟩ := hGV.1.two
            have c8 := hGV.2.2.1.cell 0 rfl
            rw [← HNN.out.1] at c71
            rw [← HNN.out.2] at c8
            obtain ⟨z0, z1, zf0, zf1⟩ := hGV.2.2.2.2.1.1.two
            have d8 := ((hGV.2.2.1.other (B' := w.heap.size) (i := 0) (x := .int .i64 sqv) (by have := HSZ.out; omega)).other (B' := w.heap.size) (i := 1) (x := .slice ba nb bc) (by have := HSZ.out; omega)).cell 0 rfl
            rw [← HNN.out.2] at d8
            have v1x := (hGV.2.2.2.2.1.2.1.other (B' := w.heap.size) (i := 0) (x := .int .i64 sqv) (by omega)).other (B' := w.heap.size) (i := 1) (x := .slice ba nb bc) (by omega)
            have z2 := v1x.cell 0 rfl
            have zf2 := v1x.frozen 0
            have v2x := ((hGV.2.2.2.2.1.2.2.other (B' := w.heap.size) (i := 0) (x := .int .i64 sqv) (by omega)).other (B' := w.heap.size) (i := 1) (x := .slice ba nb bc) (by omega)).other (B' := w.heap.size + 1) (i := 0) (x := .slice la nl lc) (by omega)
            have z3 := v2x.cell 0 rfl
            have zf3 := v2x.frozen 0
            clear hGV v1x v2x hbV
            dsimp only
            refine hK _ _ ?_
            clear hK
            refine wpAnyIn_ready (rs := [4]) (by kernel_rfl) (by decide) (AllReadyIn.cons (by rfl) (fun K hK => ?_) AllReadyIn.nil)
            go_simp
            refine hK _ _ ?_
            clear hK
            refine wpAnyIn_ready (rs := [5]) (by kernel_rfl) (by decide) (AllReadyIn.cons (by rfl) (fun K hK => ?_) AllReadyIn.nil)
            go_simp
            refine hK _ _ ?_
            clear hK
            refine wpAnyIn_ready (rs := [6]) (by kernel_rfl) (by decide) (AllReadyIn.cons (by rfl) (fun K hK => ?_) AllReadyIn.nil)
            go_simp
            refine hK _ _ ?_
            clear hK
            refine wpAnyIn_done (by kernel_rfl) ?_ _
            exact ⟨V, HV.out, rfl, rfl⟩
          · go_simp
            refine ⟨trivial, (callsIn_wide.2 (HCH.out X HX.out)).mono ?_⟩
            rintro e V ⟨rfl, hbV⟩
            have HV : Hid (Below W'.heap.size W' V) := below_any HX.out hbV
            have hGV := HG.out.1.below HV.out
            clear c70 c71 c8
            obtain ⟨c70, c71, -, -⟩ := hGV.1.two
            have c8 := hGV.2.2.1.cell 0 rfl
            rw [← HNN.out.1] at c71
            rw [← HNN.out.2] at c8
            obtain ⟨z0, z1, zf0, zf1⟩ := hGV.2.2.2.2.1.1.two
            have d8 := ((hGV.2.2.1.other (B' := w.heap.size) (i := 0) (x := .int .i64 sqv) (by have := HSZ.out; omega)).other (B' := w.heap.size) (i := 1) (x := .slice ba nb bc) (by have := HSZ.out; omega)).cell 0 rfl
            rw [← HNN.out.2] at d8
            have v1x := (hGV.2.2.2.2.1.2.1.other (B' := w.heap.size) (i := 0) (x := .int .i64 sqv) (by omega)).other (B' := w.heap.size) (i := 1) (x := .slice ba nb bc) (by omega)
            have z2 := v1x.cell 0 rfl
            have zf2 := v1x.frozen 0
            have v2x := ((hGV.2.2.2.2.1.2.2.other (B' := w.heap.size) (i := 0) (x := .int .i64 sqv) (by omega)).other (B' := w.heap.size) (i := 1) (x := .slice ba nb bc) (by omega)).other (B' := w.heap.size + 1) (i := 0) (x := .slice la nl lc) (by omega)
            have z3 := v2x.cell 0 rfl
            have zf3 := v2x.frozen 0
            clear hGV v1x v2x hbV
            dsimp only
            refine hK _ _ ?_
            clear hK
            refine wpAnyIn_ready (rs := [1, 4]) (by kernel_rfl) (by decide) (AllReadyIn.cons (by rfl) (fun K hK => ?_) (AllReadyIn.cons (by rfl) (fun K hK => ?_) AllReadyIn.nil))
            · go_simp
              refine hK _ _ ?_
              clear hK
              refine wpAnyIn_ready (rs := [4]) (by kernel_rfl) (by decide) (AllReadyIn.cons (by rfl) (fun K hK => ?_) AllReadyIn.nil)
              go_simp
              refine hK _ _ ?_
              clear hK
              refine wpAnyIn_ready (rs := [5]) (by kernel_rfl) (by decide) (AllReadyIn.cons (by rfl) (fun K hK => ?_) AllReadyIn.nil)
              go_simp
              refine hK _ _ ?_
              clear hK
              refine wpAnyIn_ready (rs := [6]) (by kernel_rfl) (by decide) (AllReadyIn.cons (by rfl) (fun K hK => ?_) AllReadyIn.nil)
              go_simp
              refine hK _ _ ?_
              clear hK
              refine wpAnyIn_done (by kernel_rfl) ?_ _
              exact ⟨V, HV.out, rfl, rfl⟩
            · go_simp
              refine hK _ _ ?_
              clear hK
              refine wpAnyIn_ready (rs := [1]) (by kernel_rfl) (by decide) (AllReadyIn.cons (by rfl) (fun K hK => ?_) AllReadyIn.nil)
              go_simp
              refine hK _ _ ?_
              clear hK
              refine wpAnyIn_ready (rs := [5]) (by kernel_rfl) (by decide) (AllReadyIn.cons (by rfl) (fun K hK => ?_) AllReadyIn.nil)
              go_simp
              refine hK _ _ ?_
              clear hK
              refine wpAnyIn_ready (rs := [6]) (by kernel_rfl) (by decide) (AllReadyIn.cons (by rfl) (fun K hK => ?_) AllReadyIn.nil)
              go_simp
              refine hK _ _ ?_
              clear hK
              refine wpAnyIn_done (by kernel_rfl) ?_ _
              exact ⟨V, HV.out, rfl, rfl⟩
      · go_simp
        refine hK _ _ ?_
        clear hK
        refine wpAnyIn_ready (rs := [0, 2]) (by kernel_rfl) (by decide) (AllReadyIn.cons (by rfl) (fun K hK => ?_) (AllReadyIn.cons (by rfl) (fun K hK => ?_) AllReadyIn.nil))
        · go_simp
          refine hK _ _ ?_
          clear hK
          refine wpAnyIn_ready (rs := [2]) (by kernel_rfl) (by decide) (AllReadyIn.cons (by rfl) (fun K hK => ?_) AllReadyIn.nil)
          go_simp
          refine hK _ _ ?_
          clear hK
          refine wpAnyIn_ready (rs := [3]) (by kernel_rfl) (by decide) (AllReadyIn.cons (by rfl) (fun K hK => ?_) AllReadyIn.nil)
          go_simp
          refine ⟨trivial, (callsIn_wide.2 (HCH.out X HX.out)).mono ?_⟩
          rintro e V ⟨rfl, hbV⟩
          have HV : Hid (Below W'.heap.size W' V) := below_any HX.out hbV
          have hGV := HG.out.1.below HV.out
          clear c70 c71 c8
          obtain ⟨c70, c71, -, -⟩ := hGV.1.two
          have c8 := hGV.2.2.1.cell 0 rfl
          rw [← HNN.out.1] at c71
          rw [← HNN.out.2] at c8
          obtain ⟨z0, z1, zf0, zf1⟩ := hGV.2.2.2.2.1.1.two
          have d8 := ((hGV.2.2.1.other (B' := w.heap.size) (i := 0) (x := .int .i64 sqv) (by have := HSZ.out; omega)).other (B' := w.heap.size) (i := 1) (x := .slice ba nb bc) (by have := HSZ.out; omega)).cell 0 rfl
          rw [← HNN.out.2] at d8
          have v1x := (hGV.2.2.2.2.1.2.1.other (B' := w.heap.size) (i := 0) (x := .int .i64 sqv) (by omega)).other (B' := w.heap.size) (i := 1) (x := .slice ba nb bc) (by omega)
          have z2 := v1x.cell 0 rfl
          have zf2 := v1x.frozen 0
          have v2x := ((hGV.2.2.2.2.1.2.2.other (B' := w.heap.size) (i := 0) (x := .int .i64 sqv) (by omega)).other (B' := w.heap.size) (i := 1) (x := .slice ba nb bc) (by omega)).other (B' := w.heap.size + 1) (i := 0) (x := .slice la nl lc) (by omega)
          have z3 := v2x.cell 0 rfl
          have zf3 := v2x.frozen 0
          clear hGV v1x v2x hbV
          dsimp only
          refine hK _ _ ?_
          clear hK
          refine wpAnyIn_ready (rs := [4]) (by kernel_rfl) (by decide) (AllReadyIn.cons (by rfl) (fun K hK => ?_) AllReadyIn.nil)
          go_simp
          refine hK _ _ ?_
          clear hK
          refine wpAnyIn_ready (rs := [5]) (by kernel_rfl) (by decide) (AllReadyIn.cons (by rfl) (fun K hK => ?_) AllReadyIn.nil)
          go_simp
          refine hK _ _ ?_
          clear hK
          refine wpAnyIn_ready (rs := [6]) (by kernel_rfl) (by decide) (AllReadyIn.cons (by rfl) (fun K hK => ?_) AllReadyIn.nil)
          go_simp
          refine hK _ _ ?_
          clear hK
          refine wpAnyIn_done (by kernel_rfl) ?_ _
          exact ⟨V, HV.out, rfl, rfl⟩
        · go_simp
          refine hK _ _ ?_
          clear hK
          refine wpAnyIn_ready (rs := [0, 3]) (by kernel_rfl) (by decide) (AllReadyIn.cons (by rfl) (fun K hK => ?_) (AllReadyIn.cons (by rfl) (fun K hK => ?_) AllReadyIn.nil))
          · go_simp
            refine hK _ _ ?_
            clear hK
            refine wpAnyIn_ready (rs := [3]) (by kernel_rfl) (by decide) (AllReadyIn.cons (by rfl) (fun K hK => ?_) AllReadyIn.nil)
            go_simp
            refine ⟨trivial, (callsIn_wide.2 (HCH.out X HX.out)).mono ?_⟩
            rintro e V ⟨rfl, hbV⟩
            have HV : Hid (Below W'.heap.size W' V) := below_any HX.out hbV
            have hGV := HG.out.1.below HV.out
            clear c70 c71 c8
            obtain ⟨c70, c71, -, -⟩ := hGV.1.two
            have c8 := hGV.2.2.1.cell 0 rfl
            rw [← HNN.out.1] at c71
            rw [← HNN.out.2] at c8
            obtain ⟨z0, z1, zf0, zf1⟩ := hGV.2.2.2.2.1.1.two
            have d8 := ((hGV.2.2.1.other (B' := w.heap.size) (i := 0) (x := .int .i64 sqv) (by have := HSZ.out; omega)).other (B' := w.heap.size) (i := 1) (x := .slice ba nb bc) (by have := HSZ.out; omega)).cell 0 rfl
            rw [← HNN.out.2] at d8
            have v1x := (hGV.2.2.2.2.1.2.1.other (B' := w.heap.size) (i := 0) (x := .int .i64 sqv) (by omega)).other (B' := w.heap.size) (i := 1) (x := .slice ba nb bc) (by omega)
            have z2 := v1x.cell 0 rfl
            have zf2 := v1x.frozen 0
            have v2x := ((hGV.2.2.2.2.1.2.2.other (B' := w.heap.size) (i := 0) (x := .int .i64 sqv) (by omega)).other (B' := w.heap.size) (i := 1) (x := .slice ba nb bc) (by omega)).other (B' := w.heap.size + 1) (i := 0) (x := .slice la nl lc) (by omega)
            have z3 := v2x.cell 0 rfl
            have zf3 := v2x.frozen 0
            clear hGV v1x v2x hbV
            dsimp only
            refine hK _ _ ?_
            clear hK
            refine wpAnyIn_ready (rs := [4]) (by kernel_rfl) (by decide) (AllReadyIn.cons (by rfl) (fun K hK => ?_) AllReadyIn.nil)
            go_simp
            refine hK _ _ ?_
            clear hK
            refine wpAnyIn_ready (rs := [5]) (by kernel_rfl) (by decide) (AllReadyIn.cons (by rfl) (fun K hK => ?_) AllReadyIn.nil)
            go_simp
            refine hK _ _ ?_
            clear hK
            refine wpAnyIn_ready (rs := [6]) (by kernel_rfl) (by decide) (AllReadyIn.cons (by rfl) (fun K hK => ?_) AllReadyIn.nil)
            go_simp
            refine hK _ _ ?_
            clear hK
            refine wpAnyIn_done (by kernel_rfl) ?_ _
            exact ⟨V, HV.out, rfl, rfl⟩
          · go_simp
            refine ⟨trivial, (callsIn_wide.2 (HCH.out X HX.out)).mono ?_⟩
            rintro e V ⟨rfl, hbV⟩
            have HV : Hid (Below W'.heap.size W' V) := below_any HX.out hbV
            have hGV := HG.out.1.below HV.out
            clear c70 c71 c8
            obtain ⟨c70, c71, -, -⟩ := hGV.1.two
            have c8 := hGV.2.2.1.cell 0 rfl
            rw [← HNN.out.1] at c71
            rw [← HNN.out.2] at c8
            obtain ⟨z0, z1, zf0, zf1⟩ := hGV.2.2.2.2.1.1.two
            have d8 := ((hGV.2.2.1.other (B' := w.heap.size) (i := 0) (x := .int .i64 sqv) (by have := HSZ.out; omega)).other (B' := w.heap.size) (i := 1) (x := .slice ba nb bc) (by have := HSZ.out; omega)).cell 0 rfl
            rw [← HNN.out.2] at d8
            have v1x := (hGV.2.2.2.2.1.2.1.other (B' := w.heap.size) (i := 0) (x := .int .i64 sqv) (by omega)).other (B' := w.heap.size) (i := 1) (x := .slice ba nb bc) (by omega)
            have z2 := v1x.cell 0 rfl
            have zf2 := v1x.frozen 0
            have v2x := ((hGV.2.2.2.2.1.2.2.other (B' := w.heap.size) (i := 0) (x := .int .i64 sqv) (by omega)).other (B' := w.heap.size) (i := 1) (x := .slice ba nb bc) (by omega)).other (B' := w.heap.size + 1) (i := 0) (x := .slice la nl lc) (by omega)
            have z3 := v2x.cell 0 rfl
            have zf3 := v2x.frozen 0
            clear hGV v1x v2x hbV
            dsimp only
            refine hK _ _ ?_
            clear hK
            refine wpAnyIn_ready (rs := [0]) (by kernel_rfl) (by decide) (AllReadyIn.cons (by rfl) (fun K hK => ?_) AllReadyIn.nil)
            go_simp
            refine hK _ _ ?_
            clear hK
            refine wpAnyIn_ready (rs := [4]) (by kernel_rfl) (by decide) (AllReadyIn.cons (by rfl) (fun K hK => ?_) AllReadyIn.nil)
            go_simp
            refine hK _ _ ?_
            clear hK
            refine wpAnyIn_ready (rs := [5]) (by kernel_rfl) (by decide) (AllReadyIn.cons (by rfl) (fun K hK => ?_) AllReadyIn.nil)
            go_simp
            refine hK _ _ ?_
            clear hK
            refine wpAnyIn_ready (rs := [6]) (by kernel_rfl) (by decide) (AllReadyIn.cons (by rfl) (fun K hK => ?_) AllReadyIn.nil)
            go_simp
            refine hK _ _ ?_
            clear hK
            refine wpAnyIn_done (by kernel_rfl) ?_ _
            exact ⟨V, HV.out, rfl, rfl⟩
      · go_simp
        refine hK _ _ ?_
        clear hK
        refine wpAnyIn_ready (rs := [0, 1, 3]) (by kernel_rfl) (by decide) (AllReadyIn.cons (by rfl) (fun K hK => ?_) (AllReadyIn.cons (by rfl) (fun K hK => ?_) (AllReadyIn.cons (by rfl) (fun K hK => ?_) AllReadyIn.nil)))
        · go_simp
          refine hK _ _ ?_
          clear hK
          refine wpAnyIn_ready (rs := [1, 3]) (by kernel_rfl) (by decide) (AllReadyIn.cons (by rfl) (fun K hK => ?_) (AllReadyIn.cons (by rfl) (fun K hK => ?_) AllReadyIn.nil))
          · go_simp
            refine hK _ _ ?_
            clear hK
            refine wpAnyIn_ready (rs := [3]) (by kernel_rfl) (by decide) (AllReadyIn.cons (by rfl) (fun K hK => ?_) AllReadyIn.nil)
            go_simp
            refine ⟨trivial, (callsIn_wide.2 (HCH.out X HX.out)).mono ?_⟩
            rintro e V ⟨rfl, hbV⟩
            have HV : Hid (Below W'.heap.size W' V) := below_any HX.out hbV
            have hGV := HG.out.1.below HV.out
            clear c70 c71 c8
            obtain ⟨c70, c71, -, -⟩ := hGV.1.two
            have c8 := hGV.2.2.1.cell 0 rfl
            rw [← HNN.out.1] at c71
            rw [← HNN.out.2] at c8
            obtain ⟨z0, z1, zf0, zf1⟩ := hGV.2.2.2.2.1.1.two
            have d8 := ((hGV.2.2.1.other (B' := w.heap.size) (i := 0) (x := .int .i64 sqv) (by have := HSZ.out; omega)).other (B' := w.heap.size) (i := 1) (x := .slice ba nb bc) (by have := HSZ.out; omega)).cell 0 rfl
            rw [← HNN.out.2] at d8
            have v1x := (hGV.2.2.2.2.1.2.1.other (B' := w.heap.size) (i := 0) (x := .int .i64 sqv) (by omega)).other (B' := w.heap.size) (i := 1) (x := .slice ba nb bc) (by omega)
            have z2 := v1x.cell 0 rfl
            have zf2 := v1x.frozen 0
            have v2x := ((hGV.2.2.2.2.1.2.2.other (B' := w.heap.size) (i := 0) (x := .int .i64 sqv) (by omega)).other (B' := w.heap.size) (i := 1) (x := .slice ba nb bc) (by omega)).other (B' := w.heap.size + 1) (i := 0) (x := .slice la nl lc) (by omega)
            have z3 := v2x.cell 0 rfl
            have zf3 := v2x.frozen 0
            clear hGV v1x v2x hbV
            dsimp only
            refine hK _ _ ?_
            clear hK
            refine wpAnyIn_ready (rs := [4]) (by kernel_rfl) (by decide) (AllReadyIn.cons (by rfl) (fun K hK => ?_) AllReadyIn.nil)
            go_simp
            refine hK _ _ ?_
            clear hK
            refine wpAnyIn_ready (rs := [5]) (by kernel_rfl) (by decide) (AllReadyIn.cons (by rfl) (fun K hK => ?_) AllReadyIn.nil)
            go_simp
            refine hK _ _ ?_
            clear hK
            refine wpAnyIn_ready (rs := [6]) (by kernel_rfl) (by decide) (AllReadyIn.cons (by rfl) (fun K hK => ?_) AllReadyIn.nil)
            go_simp
            refine hK _ _ ?_
            clear hK
            refine wpAnyIn_done (by kernel_rfl) ?_ _
            exact ⟨V, HV.out, rfl, rfl⟩
          · go_simp
            refine ⟨trivial, (callsIn_wide.2 (HCH.out X HX.out)).mono ?_⟩
            rintro e V ⟨rfl, hbV⟩
            have HV : Hid (Below W'.heap.size W' V) := below_any HX.out hbV
            have hGV := HG.out.1.below HV.out
            clear c70 c71 c8
            obtain ⟨c70, c71, -, -⟩ := hGV.1.two
            have c8 := hGV.2.2.1.cell 0 rfl
            rw [← HNN.out.1] at c71
            rw [← HNN.out.2] at c8
            obtain ⟨z0, z1, zf0, zf1⟩ := hGV.2.2.2.2.1.1.two
            have d8 := ((hGV.2.2.1.other (B' := w.heap.size) (i := 0) (x := .int .i64 sqv) (by have := HSZ.out; omega)).other (B' := w.heap.size) (i := 1) (x := .slice ba nb bc) (by have := HSZ.out; omega)).cell 0 rfl
            rw [← HNN.out.2] at d8
            have v1x := (hGV.2.2.2.2.1.2.1.other (B' := w.heap.size) (i := 0) (x := .int .i64 sqv) (by omega)).other (B' := w.heap.size) (i := 1) (x := .slice ba nb bc) (by omega)
            have z2 := v1x.cell 0 rfl
            have zf2 := v1x.frozen 0
            have v2x := ((hGV.2.2.2.2.1.2.2.other (B' := w.heap.size) (i := 0) (x := .int .i64 sqv) (by omega)).other (B' := w.heap.size) (i := 1) (x := .slice ba nb bc) (by omega)).other (B' := w.heap.size + 1) (i := 0) (x := .slice la nl lc) (by omega)
            have z3 := v2x.cell 0 rfl
            have zf3 := v2x.frozen 0
            clear hGV v1x v2x hbV
            dsimp only
            refine hK _ _ ?_
            clear hK
            refine wpAnyIn_ready (rs := [1, 4]) (by kernel_rfl) (by decide) (AllReadyIn.cons (by rfl) (fun K hK => ?_) (AllReadyIn.cons (by rfl) (fun K hK => ?_) AllReadyIn.nil))
            · go_simp
              refine hK _ _ ?_
              clear hK
              refine wpAnyIn_ready (rs := [4]) (by kernel_rfl) (by decide) (AllReadyIn.cons (by rfl) (fun K hK => ?_) AllReadyIn.nil)
              go_simp
              refine hK _ _ ?_
              clear hK
              refine wpAnyIn_ready (rs := [5]) (by kernel_rfl) (by decide) (AllReadyIn.cons (by rfl) (fun K hK => ?_) AllReadyIn.nil)
              go_simp
              refine hK _ _ ?_
              clear hK
              refine wpAnyIn_ready (rs := [6]) (by kernel_rfl) (by decide) (AllReadyIn.cons (by rfl) (fun K hK => ?_) AllReadyIn.nil)
              go_simp
              refine hK _ _ ?_
              clear hK
              refine wpAnyIn_done (by kernel_rfl) ?_ _
              exact ⟨V, HV.out, rfl, rfl⟩
            · go_simp
              refine hK _ _ ?_
              clear hK
              refine wpAnyIn_ready (rs := [1]) (by kernel_rfl) (by decide) (AllReadyIn.cons (by rfl) (fun K hK => ?_) AllReadyIn.nil)
              go_simp
              refine hK _ _ ?_
              clear hK
              refine wpAnyIn_ready (rs := [5]) (by kernel_rfl) (by decide) (AllReadyIn.cons (by rfl) (fun K hK => ?_) AllReadyIn.nil)
              go_simp
              refine hK _ _ ?_
              clear hK
              refine wpAnyIn_ready (rs := [6]) (by kernel_rfl) (by decide) (AllReadyIn.cons (by rfl) (fun K hK => ?_) AllReadyIn.nil)
              go_simp
              refine hK _ _ ?_
              clear hK
              refine wpAnyIn_done (by kernel_rfl) ?_ _
              exact ⟨V, HV.out, rfl, rfl⟩
        · go_simp
          refine hK _ _ ?_
          clear hK
          refine wpAnyIn_ready (rs := [0, 3]) (by kernel_rfl) (by decide) (AllReadyIn.cons (by rfl) (fun K hK => ?_) (AllReadyIn.cons (by rfl) (fun K hK => ?_) AllReadyIn.nil))
          · go_simp
            refine hK _ _ ?_
            clear hK
            refine wpAnyIn_ready (rs := [3]) (by kernel_rfl) (by decide) (AllReadyIn.cons (by rfl) (fun K hK => ?_) AllReadyIn.nil)
            go_simp
            refine ⟨trivial, (callsIn_wide.2 (HCH.out X HX.out)).mono ?_⟩
            rintro e V ⟨rfl, hbV⟩
            have HV : Hid (Below W'.heap.size W' V) := below_any HX.out hbV
            have hGV := HG.out.1.below HV.out
            clear c70 c71 c8
            obtain ⟨c70, c71, -, -⟩ := hGV.1.two
            have c8 := hGV.2.2.1.cell 0 rfl
            rw [← HNN.out.1] at c71
            rw [← HNN.out.2] at c8
            obtain ⟨z0, z1, zf0, zf1⟩ := hGV.2.2.2.2.1.1.two
            have d8 := ((hGV.2.2.1.other (B' := w.heap.size) (i := 0) (x := .int .i64 sqv) (by have := HSZ.out; omega)).other (B' := w.heap.size) (i := 1) (x := .slice ba nb bc) (by have := HSZ.out; omega)).cell 0 rfl
            rw [← HNN.out.2] at d8
            have v1x := (hGV.2.2.2.2.1.2.1.other (B' := w.heap.size) (i := 0) (x := .int .i64 sqv) (by omega)).other (B' := w.heap.size) (i := 1) (x := .slice ba nb bc) (by omega)
            have z2 := v1x.cell 0 rfl
            have zf2 := v1x.frozen 0
            have v2x := ((hGV.2.2.2.2.1.2.2.other (B' := w.heap.size) (i := 0) (x := .int .i64 sqv) (by omega)).other (B' := w.heap.size) (i := 1) (x := .slice ba nb bc) (by omega)).other (B' := w.heap.size + 1) (i := 0) (x := .slice la nl lc) (by omega)
            have z3 := v2x.cell 0 rfl
            have zf3 := v2x.frozen 0
            clear hGV v1x v2x hbV
            dsimp only
            refine hK _ _ ?_
            clear hK
            refine wpAnyIn_ready (rs := [4]) (by kernel_rfl) (by decide) (AllReadyIn.cons (by rfl) (fun K hK => ?_) AllReadyIn.nil)
            go_simp
            refine hK _ _ ?_
            clear hK
            refine wpAnyIn_ready (rs := [5]) (by kernel_rfl) (by decide) (AllReadyIn.cons (by rfl) (fun K hK => ?_) AllReadyIn.nil)
            go_simp
            refine hK _ _ ?_
            clear hK
            refine wpAnyIn_ready (rs := [6]) (by kernel_rfl) (by decide) (AllReadyIn.cons (by rfl) (fun K hK => ?_) AllReadyIn.nil)
            go_simp
            refine hK _ _ ?_
            clear hK
            refine wpAnyIn_done (by kernel_rfl) ?_ _
            exact ⟨V, HV.out, rfl, rfl⟩
          · go_simp
            refine ⟨trivial, (callsIn_wide.2 (HCH.out X HX.out)).mono ?_⟩
            rintro e V ⟨rfl, hbV⟩
            have HV : Hid (Below W'.heap.size W' V) := below_any HX.out hbV
            have hGV := HG.out.1.below HV.out
            clear c70 c71 c8
            obtain ⟨c70, c71, -, -⟩ := hGV.1.two
            have c8 := hGV.2.2.1.cell 0 rfl
            rw [← HNN.out.1] at c71
            rw [← HNN.out.2] at c8
            obtain ⟨z0, z1, zf0, zf1⟩ := hGV.2.2.2.2.1.1.two
            have d8 := ((hGV.2.2.1.other (B' := w.heap.size) (i := 0) (x := .int .i64 sqv) (by have := HSZ.out; omega)).other (B' := w.heap.size) (i := 1) (x := .slice ba nb bc) (by have := HSZ.out; omega)).cell 0 rfl
            rw [← HNN.out.2] at d8
            have v1x := (hGV.2.2.2.2.1.2.1.other (B' := w.heap.size) (i := 0) (x := .int .i64 sqv) (by omega)).other (B' := w.heap.size) (i := 1) (x := .slice ba nb bc) (by omega)
            have z2 := v1x.cell 0 rfl
            have zf2 := v1x.frozen 0
            have v2x := ((hGV.2.2.2.2.1.2.2.other (B' := w.heap.size) (i := 0) (x := .int .i64 sqv) (by omega)).other (B' := w.heap.size) (i := 1) (x := .slice ba nb bc) (by omega)).other (B' := w.heap.size + 1) (i := 0) (x := .slice la nl lc) (by omega)
            have z3 := v2x.cell 0 rfl
            have zf3 := v2x.frozen 0
            clear hGV v1x v2x hbV
            dsimp only
            refine hK _ _ ?_
            clear hK
            refine wpAnyIn_ready (rs := [0]) (by kernel_rfl) (by decide) (AllReadyIn.cons (by rfl) (fun K hK => ?_) AllReadyIn.nil)
            go_simp
            refine hK _ _ ?_
            clear hK
            refine wpAnyIn_ready (rs := [4]) (by kernel_rfl) (by decide) (AllReadyIn.cons (by rfl) (fun K hK => ?_) AllReadyIn.nil)
            go_simp
            refine hK _ _ ?_
            clear hK
            refine wpAnyIn_ready (rs := [5]) (by kernel_rfl) (by decide) (AllReadyIn.cons (by rfl) (fun K hK => ?_) AllReadyIn.nil)
            go_simp
            refine hK _ _ ?_
            clear hK
            refine wpAnyIn_ready (rs := [6]) (by kernel_rfl) (by decide) (AllReadyIn.cons (by rfl) (fun K hK => ?_) AllReadyIn.nil)
            go_simp
            refine hK _ _ ?_
            clear hK
            refine wpAnyIn_done (by kernel_rfl) ?_ _
            exact ⟨V, HV.out, rfl, rfl⟩
        · go_simp
          refine ⟨trivial, (callsIn_wide.2 (HCH.out X HX.out)).mono ?_⟩
          rintro e V ⟨rfl, hbV⟩
          have HV : Hid (Below W'.heap.size W' V) := below_any HX.out hbV
          have hGV := HG.out.1.below HV.out
          clear c70 c71 c8
          obtain ⟨c70, c71, -, -⟩ := hGV.1.two
          have c8 := hGV.2.2.1.cell 0 rfl
          rw [← HNN.out.1] at c71
          rw [← HNN.out.2] at c8
          obtain ⟨z0, z1, zf0, zf1⟩ := hGV.2.2.2.2.1.1.two
          have d8 := ((hGV.2.2.1.other (B' := w.heap.size) (i := 0) (x := .int .i64 sqv) (by have := HSZ.out; omega)).other (B' := w.heap.size) (i := 1) (x := .slice ba nb bc) (by have := HSZ.out; omega)).cell 0 rfl
          rw [← HNN.out.2] at d8
          have v1x := (hGV.2.2.2.2.1.2.1.other (B' := w.heap.size) (i := 0) (x := .int .i64 sqv) (by omega)).other (B' := w.heap.size) (i := 1) (x := .slice ba nb bc) (by omega)
          have z2 := v1x.cell 0 rfl
          have zf2 := v1x.frozen 0
          have v2x := ((hGV.2.2.2.2.1.2.2.other (B' := w.heap.size) (i := 0) (x := .int .i64 sqv) (by omega)).other (B' := w.heap.size) (i := 1) (x := .slice ba nb bc) (by omega)).other (B' := w.heap.size + 1) (i := 0) (x := .slice la nl lc) (by omega)
          have z3 := v2x.cell 0 rfl
          have zf3 := v2x.frozen 0
          clear hGV v1x v2x hbV
          dsimp only
          refine hK _ _ ?_
          clear hK
          refine wpAnyIn_ready (rs := [0, 1]) (by kernel_rfl) (by decide) (AllReadyIn.cons (by rfl) (fun K hK => ?_) (AllReadyIn.cons (by rfl) (fun K hK => ?_) AllReadyIn.nil))
          · go_simp
            refine hK _ _ ?_
            clear hK
            refine wpAnyIn_ready (rs := [1, 4]) (by kernel_rfl) (by decide) (AllReadyIn.cons (by rfl) (fun K hK => ?_) (AllReadyIn.cons (by rfl) (fun K hK => ?_) AllReadyIn.nil))
            · go_simp
              refine hK _ _ ?_
              clear hK
              refine wpAnyIn_ready (rs := [4]) (by kernel_rfl) (by decide) (AllReadyIn.cons (by rfl) (fun K hK => ?_) AllReadyIn.nil)
              go_simp
              refine hK _ _ ?_
              clear hK
              refine wpAnyIn_ready (rs := [5]) (by kernel_rfl) (by decide) (AllReadyIn.cons (by rfl) (fun K hK => ?_) AllReadyIn.nil)
              go_simp
              refine hK _ _ ?_
              clear hK
              refine wpAnyIn_ready (rs := [6]) (by kernel_rfl) (by decide) (AllReadyIn.cons (by rfl) (fun K hK => ?_) AllReadyIn.nil)
              go_simp
              refine hK _ _ ?_
              clear hK
              refine wpAnyIn_done (by kernel_rfl) ?_ _
              exact ⟨V, HV.out, rfl, rfl⟩
            · go_simp
              refine hK _ _ ?_
              clear hK
              refine wpAnyIn_ready (rs := [1]) (by kernel_rfl) (by decide) (AllReadyIn.cons (by rfl) (fun K hK => ?_) AllReadyIn.nil)
              go_simp
              refine hK _ _ ?_
              clear hK
              refine wpAnyIn_ready (rs := [5]) (by kernel_rfl) (by decide) (AllReadyIn.cons (by rfl) (fun K hK => ?_) AllReadyIn.nil)
              go_simp
              refine hK _ _ ?_
              clear hK
              refine wpAnyIn_ready (rs := [6]) (by kernel_rfl) (by decide) (AllReadyIn.cons (by rfl) (fun K hK => ?_) AllReadyIn.nil)
              go_simp
              refine hK _ _ ?_
              clear hK
              refine wpAnyIn_done (by kernel_rfl) ?_ _
              exact ⟨V, HV.out, rfl, rfl⟩
          · go_simp
            refine hK _ _ ?_
            clear hK
            refine wpAnyIn_ready (rs := [0]) (by kernel_rfl) (by decide) (AllReadyIn.cons (by rfl) (fun K hK => ?_) AllReadyIn.nil)
            go_simp
            refine hK _ _ ?_
            clear hK
            refine wpAnyIn_ready (rs := [4]) (by kernel_rfl) (by decide) (AllReadyIn.cons (by rfl) (fun K hK => ?_) AllReadyIn.nil)
            go_simp
            refine hK _ _ ?_
            clear hK
            refine wpAnyIn_ready (rs := [5]) (by kernel_rfl) (by decide) (AllReadyIn.cons (by rfl) (fun K hK => ?_) AllReadyIn.nil)
            go_simp
            refine hK _ _ ?_
            clear hK
            refine wpAnyIn_ready (rs := [6]) (by kernel_rfl) (by decide) (AllReadyIn.cons (by rfl) (fun K hK => ?_) AllReadyIn.nil)
            go_simp
            refine hK _ _ ?_
            clear hK
            refine wpAnyIn_done (by kernel_rfl) ?_ _
            exact ⟨V, HV.out, rfl, rfl⟩
    intro e a2 w5 h14
    cases e <;> try exact h14.elim
    obtain ⟨V, hbV, rfl, rfl⟩ := h14
    have hGV := HG.out.1.below hbV
    rw [HNN.out.1, HNN.out.2]
    have HS := store3 hGV.2.2.2.2.1.1 hGV.2.2.2.2.1.2.1 hGV.2.2.2.2.1.2.2 (by omega) (by omega) (by omega) (.int .i64 sqv) (.slice ba bs.length bc) (.slice la lf.length lc) (.int .i64 ce)
    have HBW := below3 hGV.2.2.2.2.2 (Nat.le_refl _) (show w.heap.size ≤ w.heap.size + 1 by omega) (show w.heap.size ≤ w.heap.size + 1 + 1 by omega) (.int .i64 sqv) (.slice ba bs.length bc) (.slice la lf.length lc) (.int .i64 ce)
    have hbs5 : bksN.owns w.heap.size (W3s V w.heap.size (w.heap.size + 1) (w.heap.size + 1 + 1) (.int .i64 sqv) (.slice ba bs.length bc) (.slice la lf.length lc) (.int .i64 ce)) [.slice ba bs.length bc] bs := by
      have v := hGV.2.2.2.2.1
      have o0 := hGV.2.1
      have n0 := bks_ne o0 v.1 (by decide)
      have n1 := bks_ne o0 v.2.1 (by decide)
      have n2 := bks_ne o0 v.2.2 (by decide)
      have o1 := bks_set (i := 0) (u := .int .i64 sqv) o0 n0 v.1 (by decide)
      have o2 := bks_set (i := 1) (u := .slice ba bs.length bc) o1 n0 (v.1.set 0 (.int .i64 sqv)) (by decide)
      have o3 := bks_set (i := 0) (u := .slice la lf.length lc) o2 n1 ((v.2.1.other (by omega)).other (by omega)) (by decide)
      exact bks_set (i := 0) (u := .int .i64 ce) o3 n2 (((v.2.2.other (by omega)).other (by omega)).other (by omega)) (by decide)
    obtain ⟨W5, hW5⟩ : ∃ W5, W5 = W3s V w.heap.size (w.heap.size + 1) (w.heap.size + 1 + 1) (.int .i64 sqv) (.slice ba bs.length bc) (.slice la lf.length lc) (.int .i64 ce) := ⟨_, rfl⟩
    rw [← hW5] at HS HBW hbs5 ⊢
    have hK5 : W5.heap[D]? = some (.deferred (some [])) := by
      have hVD : V.heap[D]? = some (.deferred (some [])) := (hbV.block D (Array.getElem?_eq_some_iff.1 HG.out.2.1).1).trans HG.out.2.1
      have hko := (((KeepsOthers.setCell V ⟨w.heap.size, 0, none⟩ (.int .i64 sqv)).trans (KeepsOthers.setCell _ ⟨w.heap.size, 1, none⟩ (.slice ba bs.length bc))).trans (KeepsOthers.setCell _ ⟨w.heap.size + 1, 0, none⟩ (.slice la lf.length lc))).trans (KeepsOthers.setCell _ ⟨w.heap.size + 1 + 1, 0, none⟩ (.int .i64 ce))
      rw [hW5]
      exact hko.same D _ hVD rfl
    have hgP := grownBy_putObj' W5 D (.deferred none)
    have hrP : ∀ r, some D = some r → wL.heap.size ≤ r ∧ ∃ o : Obj, W5.heap[r]? = some o ∧ o.isCells = false := fun r e => by cases e; exact ⟨HG.out.2.2, _, hK5, rfl⟩
    obtain ⟨g0, g1, -, -⟩ := (box_kept HS.1 hgP hrP).two
    have g2 := (box_kept HS.2.1 hgP hrP).cell 0 rfl
    have g3 := (box_kept HS.2.2 hgP hrP).cell 0 rfl
    have hbs6 := bksN.ogrown hbs5 hgP (clear_other hrP _)
    have hbw6 : Below w.heap.size w (W5.putObj D (.deferred none)) := HBW.grown hgP HBW.size (fun k e => by cases e; have := HG.out.2.2; have := HBX.out.2.2.2.2.2.size; omega)
    have HFIN : Hid (post (.returned (.tuple #[.agg #[.int .i64 sqv, .slice ba bs.length bc], .slice la lf.length lc, .int .i64 ce])) (W5.putObj D (.deferred none))) := by
      have h1 := HPo.out [.int .i64 sqv, .slice ba bs.length bc] (.slice la lf.length lc) (W5.putObj D (.deferred none))
      rw [HE.out.2.1, HE.out.2.2.1, HE.out.2.2.2, ← HCE.out] at h1
      exact h1 (sg_mkN (s := (sqv, bs)) (bksN.olies hbs6) (by have := sq_i64 L; rwa [← HD.out.2.2.2.2.2.2.2.2] at this)) (hGV.2.2.2.1.below hbw6) hbw6
    clear hW5 hGV HS HBW hbs5 hbs6 hbw6 hgP hrP
    gi_wp2
    refine ⟨by simp, .inl ⟨_, _, rfl, run_takeDeferred hK5, ?_⟩⟩
    exact ⟨.tuple #[.agg #[.int .i64 sqv, .slice ba bs.length bc], .slice la lf.length lc, .int .i64 ce], by simp [results, Try.results34, go_sem, g0, g1, g2, g3], HFIN.out⟩
  case stop =>
    rintro D pre W' hD hSp hi hK
    clear hit
    obtain ⟨hok, hV, hb⟩ := hi
    have hno : rdOk L = false := by
      rw [rdOk, ← HD.out.2.2.2.2.2.1, ← HD.out.2.2.2.2.2.2.1]
      obtain ⟨r, hr⟩ := hSp
      rw [← hr, okK, List.all_append, ← okK, hok]
      simp
    have hgP := grownBy_putObj' W' D (.deferred none)
    have hrP : ∀ r, some D = some r → wL.heap.size ≤ r ∧ ∃ o : Obj, W'.heap[r]? = some o ∧ o.isCells = false := fun r e => by cases e; exact ⟨hD, _, hK, rfl⟩
    obtain ⟨g0, g1, -, -⟩ := (box_kept hV.1 hgP hrP).two
    have g2 := (box_kept hV.2.1 hgP hrP).cell 0 rfl
    have g3 := (box_kept hV.2.2 hgP hrP).cell 0 rfl
    have hbw6 : Below w.heap.size w (W'.putObj D (.deferred none)) := hb.grown hgP hb.size (fun k e => by cases e; have := HBX.out.2.2.2.2.2.size; omega)
    have HFIN : Hid (post (.returned (.tuple #[.agg #[.int .i64 0, .slice none 0 0], .slice none 0 0, .int .i64 9])) (W'.putObj D (.deferred none))) := by
      have h1 := HPo.out [.int .i64 0, .slice none 0 0] (.slice none 0 0) (W'.putObj D (.deferred none))
      rw [rdS, rdE, rdB, if_neg (by simp [hno]), if_neg (by simp [hno]), if_neg (by simp [hno])] at h1
      exact h1 (sg_nilN _ _) (.mk ⟨rfl, .inl ⟨rfl, rfl⟩⟩ (fun _ h => by cases h)) hbw6
    gi_wp2
    refine ⟨by simp, .inl ⟨_, _, rfl, run_takeDeferred hK, ?_⟩⟩
    exact ⟨.tuple #[.agg #[.int .i64 0, .slice none 0 0], .slice none 0 0, .int .i64 9], by simp [results, Try.results34, go_sem, g0, g1, g2, g3], HFIN.out⟩

end Go.Proofs.Ytmjgamokddedkaa
