/-
  Several blocks put and sealed (clean).
-/
import Derived.Test.YtkpckadicjdieabXPut
namespace Go.Proofs.Ytkpckadicjdieab
open Go.ChangeShapes Go.WideShapes Go.ChangeAt Go.RowKit
set_option linter.unusedVariables false

set_option maxRecDepth 100000 in
set_option maxHeartbeats 8000000 in
theorem moved_any (n0 n1 : Nat) (us : List Value) (s : St) (v : Value) (l : List Bk) (w : World) (h : stN.lies n0 w us s) (hl : bksN.lies n1 w [v] l) :
    Calls Try.prog 30 #[.agg us.toArray, v] w fun e w' => (∃ us', e = .returned (.tuple #[.agg us'.toArray, .int .i64 (movE l s)]) ∧ ((us' = us ∧ movS l s = s) ∨ stN.owns w.heap.size w' us' (movS l s))) ∧ Below w.heap.size w w' := by
  obtain ⟨a0, n0, c0, b0, m0, d0, e0, k0, f0, q0, rfl, -, hk0, hk1, -⟩ := st_flatNl h
  obtain ⟨va, vc, e0', _, hm, _⟩ := Shape.list_len (S := bkN) (ht := Try.underlying29) (hc := cells29) hl
  obtain rfl : v = _ := (List.cons.inj e0').1
  obtain ⟨n, hn⟩ : ∃ n, n = l.length := ⟨_, rfl⟩
  rw [← hn] at hl hm ⊢
  unfold maxLen at hm
  obtain ⟨post, hpost⟩ : ∃ post : Ending → World → Prop, post = fun e w' => (∃ us', e = .returned (.tuple #[.agg us'.toArray, .int .i64 (movE l s)]) ∧ ((us' = [.slice a0 n0 c0, .slice b0 m0 d0, .slice e0 k0 f0, .int .i64 q0] ∧ movS l s = s) ∨ stN.owns w.heap.size w' us' (movS l s))) ∧ Below w.heap.size w w' := ⟨_, rfl⟩
  have HPo : Hid (∀ us' k w', k = movE l s → ((us' = [.slice a0 n0 c0, .slice b0 m0 d0, .slice e0 k0 f0, .int .i64 q0] ∧ movS l s = s) ∨ stN.owns w.heap.size w' us' (movS l s)) → Below w.heap.size w w' → post (.returned (.tuple #[.agg us'.toArray, .int .i64 k])) w') := fun us' k w' e1 e2 e3 => by
    rw [hpost, e1]
    exact ⟨⟨us', rfl, e2⟩, e3⟩
  rw [← hpost]
  clear hpost
  obtain ⟨W, hW⟩ : ∃ W, W = (w.alloc (.cells #[.slice a0 n0 c0, .slice b0 m0 d0, .slice e0 k0 f0, .int .i64 q0] 31)).alloc (.cells #[.slice none 0 0, .slice none 0 0, .slice none 0 0, .int .i64 0] 31) := ⟨_, rfl⟩
  have HB : Hid (Below w.heap.size w W) := by rw [hW]; exact ((Below.refl _ w).alloc (Nat.le_refl _) _).alloc (by simp) _
  have HX : Hid (Box W w.heap.size 31 #[.slice a0 n0 c0, .slice b0 m0 d0, .slice e0 k0 f0, .int .i64 q0] ∧ Box W (w.heap.size + 1) 31 #[.slice none 0 0, .slice none 0 0, .slice none 0 0, .int .i64 0]) := by
    rw [hW]
    refine ⟨(Box.new _ _ _).alloc _, ?_⟩
    have := Box.new (w.alloc (.cells #[.slice a0 n0 c0, .slice b0 m0 d0, .slice e0 k0 f0, .int .i64 q0] 31)) 31 #[.slice none 0 0, .slice none 0 0, .slice none 0 0, .int .i64 0]
    rwa [World.size_alloc] at this
  have HL : Hid (∀ V, Below w.heap.size w V → stN.lies 0 V [.slice a0 n0 c0, .slice b0 m0 d0, .slice e0 k0 f0, .int .i64 q0] s ∧ bksN.lies 0 V [.slice va n vc] l) := fun V hV => ⟨stN.below (stN.weaken h (Nat.zero_le _)) hV, bksN.below (bksN.weaken hl (Nat.zero_le _)) hV⟩
  have HN : Hid (n = l.length) := hn
  have hl0 := run_len Try.underlying29 va n vc
  clear h hl e0' hn hk0 hk1
  go_enter Try.func30, Try.ntmps30
  go_upto_region 1 with fail
  rw [← hW]
  clear hW
  by_cases hz : n = 0
  · subst hz
    obtain ⟨x0, x1, x2, x3, -⟩ := HX.out.1.four
    have hR := HX.out.2
    obtain ⟨y0, y1, y2, y3, j0, j1, j2, j3⟩ := hR.four
    have hnil : l = [] := List.eq_nil_of_length_eq_zero HN.out.symm
    have HE : Hid (post (.returned (.tuple #[.agg #[.slice a0 n0 c0, .slice b0 m0 d0, .slice e0 k0 f0, .int .i64 q0], .int .i64 0])) ((((W.setCell ⟨(w.heap.size + 1), 0, none⟩ (.slice a0 n0 c0)).setCell ⟨(w.heap.size + 1), 1, none⟩ (.slice b0 m0 d0)).setCell ⟨(w.heap.size + 1), 2, none⟩ (.slice e0 k0 f0)).setCell ⟨(w.heap.size + 1), 3, none⟩ (.int .i64 q0))) := HPo.out [.slice a0 n0 c0, .slice b0 m0 d0, .slice e0 k0 f0, .int .i64 q0] 0 _ (by unfold movE; rw [if_pos hnil]) (.inl ⟨rfl, by unfold movS; rw [if_pos hnil]⟩) (below_set4 HB.out (by omega) _ _ _ _)
    clear hR hnil
    go_wp2
    refine bodyPost_ret (v := .tuple #[.agg #[.slice a0 n0 c0, .slice b0 m0 d0, .slice e0 k0 f0, .int .i64 q0], .int .i64 0]) (by simp [results, Try.results30, go_sem, *]) rfl HE.out
  have hzb : ((n : Int) == 0) = false := by simp; omega
  have hzi : ¬ (n : Int) = 0 := by omega
  have HNE : Hid (l ≠ []) := fun c => hz (by rw [HN.out, c]; rfl)
  clear hz
  go_wp2
  go_loopw [17] (fun i wr => ∃ k : Nat, k ≤ n ∧ i = .int .i64 k ∧ Hid (Below w.heap.size w wr ∧ Box wr (w.heap.size + 1) 31 #[.slice none 0 0, .slice none 0 0, .slice none 0 0, .int .i64 0] ∧ mvE (l.take k) s = 0 ∧ ∃ us9 : List Value, Box wr w.heap.size 31 us9.toArray ∧ (((us9 : List Value) = [.slice a0 n0 c0, .slice b0 m0 d0, .slice e0 k0 f0, .int .i64 q0] ∧ (mvS (l.take k) s) = s) ∨ stN.owns w.heap.size wr us9 (mvS (l.take k) s)))) (fun i _ => n - (intOf i).toNat)
  case atStart => exact ⟨0, Nat.zero_le _, rfl, HB.out, HX.out.2, rfl, [.slice a0 n0 c0, .slice b0 m0 d0, .slice e0 k0 f0, .int .i64 q0], HX.out.1, .inl ⟨rfl, rfl⟩⟩
  case round =>
    obtain ⟨k, hk, rfl, HR⟩ := hrel
    obtain ⟨hbr, hRr, hmv, us9, hX9, hsl⟩ := HR.out
    obtain ⟨t, ht⟩ : ∃ t, t = mvS (l.take k) s := ⟨_, rfl⟩
    rw [← ht] at hsl
    have hl9 : stN.lies 0 wr us9 t := by
      rcases hsl with ⟨rfl, e⟩ | ho
      · rw [e]; exact (HL.out wr hbr).1
      · exact stN.weaken (stN.olies ho) (Nat.zero_le _)
    obtain ⟨a9, n9, c9, b9, m9, d9, e9, k9, f9, q9, rfl, -⟩ := st_flatNl hl9
    have HT : Hid (t = mvS (l.take k) s ∧ mvE (l.take k) s = 0 ∧ Below w.heap.size w wr ∧ Box wr w.heap.size 31 #[.slice a9 n9 c9, .slice b9 m9 d9, .slice e9 k9 f9, .int .i64 q9] ∧ Box wr (w.heap.size + 1) 31 #[.slice none 0 0, .slice none 0 0, .slice none 0 0, .int .i64 0] ∧ stN.lies 0 wr [.slice a9 n9 c9, .slice b9 m9 d9, .slice e9 k9 f9, .int .i64 q9] t) := ⟨ht, hmv, hbr, hX9, hRr, hl9⟩
    clear HR hbr hRr hmv hX9 hsl ht hl9
    by_cases hlt : k < n
    · obtain ⟨x, hx⟩ := get_lt (l := l) (k := k) (by rw [← HN.out]; exact hlt)
      obtain ⟨gb1, go1, gx1, gz1, hix1, p0, p1, p2, hA1, i1, i2, _⟩ := bks_atN (HL.out wr HT.out.2.2.1).2 k x hx
      have hki : (k : Int) < (n : Int) := by omega
      have HTK : Hid (l.take (k + 1) = l.take k ++ [x] ∧ l = l.take (k + 1) ++ l.drop (k + 1)) := ⟨take_snoc hx, (List.take_append_drop _ _).symm⟩
      obtain ⟨xo, xi, xd⟩ := x
      simp only at p0 p1 p2 hA1 i1 i2
      obtain ⟨xl, hxl⟩ : ∃ m, m = xd.length := ⟨_, rfl⟩
      rw [← hxl] at p2 hA1
      obtain ⟨V, hV⟩ : ∃ V, V = wr.alloc (.cells #[.int .i64 xo, .int .i64 xi, .slice gx1 xl gz1] 48) := ⟨_, rfl⟩
      have hbV : Below wr.heap.size wr V := by rw [hV]; exact (Below.refl _ _).alloc (Nat.le_refl _) _
      have hBV : Box V wr.heap.size 48 #[.int .i64 xo, .int .i64 xi, .slice gx1 xl gz1] := by rw [hV]; exact Box.new _ _ _
      have hX1 := HT.out.2.2.2.1.below hbV HT.out.2.2.2.1.lt
      have hX2 := HT.out.2.2.2.2.1.below hbV HT.out.2.2.2.2.1.lt
      have hw1 := HT.out.2.2.2.1.lt
      have hw2 := HT.out.2.2.2.2.1.lt
      obtain ⟨pe, hpe⟩ : ∃ z, z = ptE t (xo, xi, xd) := ⟨_, rfl⟩
      have HC := putx_any 0 0 [.slice a9 n9 c9, .slice b9 m9 d9, .slice e9 k9 f9, .int .i64 q9] t [.int .i64 xo, .int .i64 xi, .slice gx1 xl gz1] (xo, xi, xd) V (stN.below HT.out.2.2.2.2.2 hbV) (bkN.below (bk_mk (p := (xo, xi, xd)) hA1 i1 i2) hbV)
      rw [← hpe] at HC
      have HPE : Hid (pe = ptE t (xo, xi, xd)) := hpe
      have HVX : Hid (Box V w.heap.size 31 #[.slice a9 n9 c9, .slice b9 m9 d9, .slice e9 k9 f9, .int .i64 q9] ∧ Box V (w.heap.size + 1) 31 #[.slice none 0 0, .slice none 0 0, .slice none 0 0, .int .i64 0] ∧ Below wr.heap.size wr V ∧ w.heap.size + 2 ≤ V.heap.size) := ⟨hX1, hX2, hbV, by have := hbV.size; omega⟩
      clear hx hA1 i1 i2 hxl hX2 hw1 hw2 hpe hbV
      go_upto_region 7 with fail
      rw [← hV]
      clear hV p0 p1 p2
      obtain ⟨x0, x1, x2, x3, -⟩ := hX1.four
      obtain ⟨v0, v1, v2, -⟩ := hBV.three
      clear hX1 hBV
      go_wp2_with fail
      clear x0 x1 x2 x3 v0 v1 v2
      refine HC.mono ?_
      rintro e8 w8 ⟨⟨us8, rfl, ho8⟩, hb8⟩
      obtain ⟨a8, n8, c8, b8, m8, d8, e8, k8, f8, q8, rfl⟩ := st_fl ho8
      have hY1 := HVX.out.1.below hb8 HVX.out.1.lt
      have hY2 := HVX.out.2.1.below hb8 HVX.out.2.1.lt
      obtain ⟨z0, z1, z2, z3, j0, j1, j2, j3⟩ := hY1.four
      obtain ⟨X, hX⟩ : ∃ X, X = (((w8.setCell ⟨w.heap.size, 0, none⟩ (.slice a8 n8 c8)).setCell ⟨w.heap.size, 1, none⟩ (.slice b8 m8 d8)).setCell ⟨w.heap.size, 2, none⟩ (.slice e8 k8 f8)).setCell ⟨w.heap.size, 3, none⟩ (.int .i64 q8) := ⟨_, rfl⟩
      have hbX : Below w.heap.size w X := by rw [hX]; exact below_set4 (below_any (below_any HT.out.2.2.1 HVX.out.2.2.1) hb8) (Nat.le_refl _) _ _ _ _
      have hZ1 : Box X w.heap.size 31 #[.slice a8 n8 c8, .slice b8 m8 d8, .slice e8 k8 f8, .int .i64 q8] := by rw [hX]; exact (((hY1.set 0 _).set 1 _).set 2 _).set 3 _
      have hZ2 : Box X (w.heap.size + 1) 31 #[.slice none 0 0, .slice none 0 0, .slice none 0 0, .int .i64 0] := by rw [hX]; exact (((hY2.other (by omega)).other (by omega)).other (by omega)).other (by omega)
      have hoX : stN.owns w.heap.size X [.slice a8 n8 c8, .slice b8 m8 d8, .slice e8 k8 f8, .int .i64 q8] (ptS t (xo, xi, xd)) := by rw [hX]; exact own_set4 stN (by decide) (stN.oweaken ho8 (by have := HVX.out.2.2.2; omega)) hY1 _ _ _ _
      have HXX : Hid (Below w.heap.size w X ∧ Box X w.heap.size 31 #[.slice a8 n8 c8, .slice b8 m8 d8, .slice e8 k8 f8, .int .i64 q8] ∧ Box X (w.heap.size + 1) 31 #[.slice none 0 0, .slice none 0 0, .slice none 0 0, .int .i64 0] ∧ stN.owns w.heap.size X [.slice a8 n8 c8, .slice b8 m8 d8, .slice e8 k8 f8, .int .i64 q8] (ptS t (xo, xi, xd))) := ⟨hbX, hZ1, hZ2, hoX⟩
      go_upto_region 8 with fail
      rw [← hX]
      clear hX HC ho8 hb8 hY1 hY2 z0 z1 z2 z3 j0 j1 j2 j3 hbX hZ1 hZ2 hoX
      by_cases hp0 : pe = 0
      · subst hp0
        have hmvs := mv_snoc (b := (xo, xi, xd)) HT.out.2.1
        rw [← HTK.out.1, ← HT.out.1] at hmvs
        have HI : Hid (Below w.heap.size w X ∧ Box X (w.heap.size + 1) 31 #[.slice none 0 0, .slice none 0 0, .slice none 0 0, .int .i64 0] ∧ mvE (l.take (k + 1)) s = 0 ∧ ∃ us9 : List Value, Box X w.heap.size 31 us9.toArray ∧ (((us9 : List Value) = [.slice a0 n0 c0, .slice b0 m0 d0, .slice e0 k0 f0, .int .i64 q0] ∧ (mvS (l.take (k + 1)) s) = s) ∨ stN.owns w.heap.size X us9 (mvS (l.take (k + 1)) s))) := ⟨HXX.out.1, HXX.out.2.2.1, hmvs.1.trans HPE.out.symm, [.slice a8 n8 c8, .slice b8 m8 d8, .slice e8 k8 f8, .int .i64 q8], HXX.out.2.1, .inr (by rw [hmvs.2 HPE.out.symm]; exact HXX.out.2.2.2)⟩
        clear hmvs
        go_wp2
        go_roundw
        case rel => exact ⟨k + 1, by omega, by go_num, HI.out⟩
        case measure => simp [intOf]; omega
      · have hpb : (pe == 0) = false := by simpa using hp0
        have hR := HXX.out.2.2.1
        obtain ⟨y0, y1, y2, y3, j0, j1, j2, j3⟩ := hR.four
        have hst : mvE l s = pe := by
          rw [HTK.out.2]
          refine mv_stop ?_ hp0
          rw [HTK.out.1, (mv_snoc HT.out.2.1).1, ← HT.out.1]
          exact HPE.out.symm
        have HE : Hid (post (.returned (.tuple #[.agg #[.slice none 0 0, .slice none 0 0, .slice none 0 0, .int .i64 0], .int .i64 pe])) ((((X.setCell ⟨(w.heap.size + 1), 0, none⟩ (.slice none 0 0)).setCell ⟨(w.heap.size + 1), 1, none⟩ (.slice none 0 0)).setCell ⟨(w.heap.size + 1), 2, none⟩ (.slice none 0 0)).setCell ⟨(w.heap.size + 1), 3, none⟩ (.int .i64 0))) := HPo.out [.slice none 0 0, .slice none 0 0, .slice none 0 0, .int .i64 0] pe _ (by unfold movE; rw [if_neg HNE.out, hst, if_neg hp0]) (.inr (by unfold movS; rw [if_neg HNE.out, hst, if_neg hp0]; exact s0_owns _ _)) (below_set4 HXX.out.1 (by omega) _ _ _ _)
        clear hR hst
        go_wp2
        refine bodyPost_ret (v := .tuple #[.agg #[.slice none 0 0, .slice none 0 0, .slice none 0 0, .int .i64 0], .int .i64 pe]) (by simp [results, Try.results30, go_sem, *]) rfl HE.out
    · obtain rfl : k = n := by omega
      have htl : t = mvS l s ∧ mvE l s = 0 := by
        have := HT.out.1
        have h2 := HT.out.2.1
        rw [HN.out, List.take_length] at this h2
        exact ⟨this, h2⟩
      have HTL : Hid (t = mvS l s ∧ mvE l s = 0) := htl
      obtain ⟨se, hse⟩ : ∃ z, z = sE t := ⟨_, rfl⟩
      obtain ⟨sp, hsp⟩ : ∃ z, z = sP t := ⟨_, rfl⟩
      have HC := seal_any 0 [.slice a9 n9 c9, .slice b9 m9 d9, .slice e9 k9 f9, .int .i64 q9] t wr HT.out.2.2.2.2.2
      rw [← hse, ← hsp] at HC
      have HSE : Hid (se = sE t) := hse
      obtain ⟨x0, x1, x2, x3, -⟩ := HT.out.2.2.2.1.four
      clear hse hsp htl
      go_wp2_with fail
      clear x0 x1 x2 x3
      refine HC.mono ?_
      rintro e8 w8 ⟨⟨us8, rfl, ho8⟩, hb8⟩
      obtain ⟨a8, n8, c8, b8, m8, d8, e8, k8, f8, q8, rfl⟩ := st_fl ho8
      have hY1 := HT.out.2.2.2.1.below hb8 HT.out.2.2.2.1.lt
      have hY2 := HT.out.2.2.2.2.1.below hb8 HT.out.2.2.2.2.1.lt
      have hws := HT.out.2.2.1.size
      obtain ⟨z0, z1, z2, z3, j0, j1, j2, j3⟩ := hY1.four
      obtain ⟨X, hX⟩ : ∃ X, X = (((w8.setCell ⟨w.heap.size, 0, none⟩ (.slice a8 n8 c8)).setCell ⟨w.heap.size, 1, none⟩ (.slice b8 m8 d8)).setCell ⟨w.heap.size, 2, none⟩ (.slice e8 k8 f8)).setCell ⟨w.heap.size, 3, none⟩ (.int .i64 q8) := ⟨_, rfl⟩
      have hbX : Below w.heap.size w X := by rw [hX]; exact below_set4 (below_any HT.out.2.2.1 hb8) (Nat.le_refl _) _ _ _ _
      have hZ1 : Box X w.heap.size 31 #[.slice a8 n8 c8, .slice b8 m8 d8, .slice e8 k8 f8, .int .i64 q8] := by rw [hX]; exact (((hY1.set 0 _).set 1 _).set 2 _).set 3 _
      have hZ2 : Box X (w.heap.size + 1) 31 #[.slice none 0 0, .slice none 0 0, .slice none 0 0, .int .i64 0] := by rw [hX]; exact (((hY2.other (by omega)).other (by omega)).other (by omega)).other (by omega)
      have hoX : stN.owns w.heap.size X [.slice a8 n8 c8, .slice b8 m8 d8, .slice e8 k8 f8, .int .i64 q8] (sS t) := by rw [hX]; exact own_set4 stN (by decide) (stN.oweaken ho8 hws) hY1 _ _ _ _
      have HE : Hid (post (.returned (.tuple #[.agg #[.slice a8 n8 c8, .slice b8 m8 d8, .slice e8 k8 f8, .int .i64 q8], .int .i64 se])) ((((X.setCell ⟨(w.heap.size + 1), 0, none⟩ (.slice a8 n8 c8)).setCell ⟨(w.heap.size + 1), 1, none⟩ (.slice b8 m8 d8)).setCell ⟨(w.heap.size + 1), 2, none⟩ (.slice e8 k8 f8)).setCell ⟨(w.heap.size + 1), 3, none⟩ (.int .i64 q8))) := HPo.out [.slice a8 n8 c8, .slice b8 m8 d8, .slice e8 k8 f8, .int .i64 q8] se _ (by unfold movE; rw [if_neg HNE.out, if_pos HTL.out.2, ← HTL.out.1]; exact HSE.out) (.inr (by unfold movS; rw [if_neg HNE.out, if_pos HTL.out.2, ← HTL.out.1]; exact own_set4 stN (by decide) hoX hZ2 _ _ _ _)) (below_set4 hbX (by omega) _ _ _ _)
      have HZZ : Hid (Box X w.heap.size 31 #[.slice a8 n8 c8, .slice b8 m8 d8, .slice e8 k8 f8, .int .i64 q8] ∧ Box X (w.heap.size + 1) 31 #[.slice none 0 0, .slice none 0 0, .slice none 0 0, .int .i64 0]) := ⟨hZ1, hZ2⟩
      go_upto_region 12 with fail
      rw [← hX]
      clear hX HC ho8 hb8 hY1 hY2 z0 z1 z2 z3 j0 j1 j2 j3 hbX hZ1 hZ2 hoX hws
      obtain ⟨x0, x1, x2, x3, -⟩ := HZZ.out.1.four
      obtain ⟨y0, y1, y2, y3, j0, j1, j2, j3⟩ := HZZ.out.2.four
      go_wp2
      refine bodyPost_ret (v := .tuple #[.agg #[.slice a8 n8 c8, .slice b8 m8 d8, .slice e8 k8 f8, .int .i64 q8], .int .i64 se]) (by simp [results, Try.results30, go_sem, *]) rfl HE.out

end Go.Proofs.Ytkpckadicjdieab
