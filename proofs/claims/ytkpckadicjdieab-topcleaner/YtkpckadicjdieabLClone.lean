/-
  Copies of rows: of segments, of truths; a store in memory of its own.
-/
import Derived.Test.YtkpckadicjdieabLCopy
import Derived.Test.YtkpckadicjdieabZ15
import Derived.Laws.OwnMore
import Derived.Lib.SliceRun
namespace Go.Proofs.Ytkpckadicjdieab
open Go.RowKit

attribute [local go_sem ↓] Go.wp_at_zero Go.wp_at_succ

set_option maxRecDepth 100000 in
set_option maxHeartbeats 1000000 in
theorem cloneS_any (n0 : Nat) (v : Value) (n : Nat) (us : List Value) (w : World) (h : Cells n0 w 2 v n us) (hone : ∀ u ∈ us, u.oneCell' = true) (hs : n * 32 ≤ 140737488351232) :
    Calls Try.prog 79 #[v] w fun e w' => (∃ v', e = .returned v' ∧ w'.ownsRow w.heap.size 45 2 v' n us) ∧ Below w.heap.size w w' := by
  obtain ⟨i0, hi, hz0, hz1, hz2⟩ := info_parts Try.info45
  obtain ⟨post, hpost⟩ : ∃ post : Ending → World → Prop, post = fun e w' => (∃ v', e = .returned v' ∧ w'.ownsRow w.heap.size 45 2 v' n us) ∧ Below w.heap.size w w' := ⟨_, rfl⟩
  have HPo : Hid (∀ v' w', w'.ownsRow w.heap.size 45 2 v' n us → Below w.heap.size w w' → post (.returned v') w') := fun v' w' h1 h2 => by rw [hpost]; exact ⟨⟨v', rfl, h1⟩, h2⟩
  rw [← hpost]
  clear hpost
  obtain ⟨hl, h | ⟨x, cap, rfl, hcap, hm, _, hc⟩⟩ := h
  · obtain ⟨rfl, rfl⟩ := h
    obtain rfl := List.eq_nil_of_length_eq_zero (by omega : us.length = 0)
    have hN : ∀ w : World, (binOp .eql 28 (.slice none 0 0) (.slice none 0 0)).run Try.prog w = .ok (.bool true) w := fun w => Lib.run_eql_slice_nil w _ _ none 0 0 0 0 Try.underlying28
    go_enter Try.func79, Try.ntmps79
    go_wp2
    exact HPo.out _ _ (World.ownsRow_nil _ _ _ _) (Below.refl _ _)
  · obtain ⟨W, hW⟩ : ∃ W, W = w.alloc (.cells #[] 45) := ⟨_, rfl⟩
    have hbW : Below w.heap.size w W := by rw [hW]; exact (Below.refl _ w).alloc (Nat.le_refl _) _
    have hO : W.ownsRow w.heap.size 45 2 (.slice (some ⟨w.heap.size, 0, none⟩) 0 0) 0 [] := by rw [hW]; exact World.ownsRow_made w #[] 0 (Nat.le_refl _) (Nat.zero_le _) rfl
    have hc' : ∀ j u, us[j]? = some u → W.cell? (x.add j) = some u := fun j u hj => by
      have := hc j u hj
      rw [← this]
      exact hbW.cell (cell_lt this)
    have hN : ∀ w : World, (binOp .eql 28 (.slice (some x) n cap) (.slice none 0 0)).run Try.prog w = .ok (.bool false) w := fun w => Lib.run_eql_slice_nil w _ _ (some x) _ _ 0 0 Try.underlying28
    go_enter Try.func79, Try.ntmps79
    go_wp2_with (at_builtin; rw [← hW]; refine wpList_append_own _ rfl _ _ 28 rfl w.heap.size 45 i0 (.agg #[.int .i64 0, .slice none 0 0]) 2 32 Try.underlying28 hi hz0 hz1 hz2 rfl (by decide) (.slice (some ⟨w.heap.size, 0, none⟩) 0 0) 0 [] rfl hO x n cap us rfl (by omega) hc' hone (by omega) (by omega) hbW.size ?_)
    intro v' w1 hown hgrow _
    rw [← hW] at hgrow
    have hb : Below w.heap.size w w1 := hbW.grown hgrow hbW.size (fun k h => by cases h; exact Nat.le_refl _)
    clear hgrow hc hone hW hO hc'
    go_wp2
    exact HPo.out _ _ (by simpa using hown) hb

set_option maxRecDepth 100000 in
set_option maxHeartbeats 1000000 in
theorem cloneB_any (n0 : Nat) (v : Value) (n : Nat) (us : List Value) (w : World) (h : Cells n0 w 1 v n us) (hone : ∀ u ∈ us, u.oneCell' = true) (hs : n * 1 ≤ 140737488351232) :
    Calls Try.prog 80 #[v] w fun e w' => (∃ v', e = .returned v' ∧ w'.ownsRow w.heap.size 4 1 v' n us) ∧ Below w.heap.size w w' := by
  obtain ⟨i0, hi, hz0, hz1, hz2⟩ := info_parts Try.info4
  obtain ⟨post, hpost⟩ : ∃ post : Ending → World → Prop, post = fun e w' => (∃ v', e = .returned v' ∧ w'.ownsRow w.heap.size 4 1 v' n us) ∧ Below w.heap.size w w' := ⟨_, rfl⟩
  have HPo : Hid (∀ v' w', w'.ownsRow w.heap.size 4 1 v' n us → Below w.heap.size w w' → post (.returned v') w') := fun v' w' h1 h2 => by rw [hpost]; exact ⟨⟨v', rfl, h1⟩, h2⟩
  rw [← hpost]
  clear hpost
  obtain ⟨hl, h | ⟨x, cap, rfl, hcap, hm, _, hc⟩⟩ := h
  · obtain ⟨rfl, rfl⟩ := h
    obtain rfl := List.eq_nil_of_length_eq_zero (by omega : us.length = 0)
    have hN : ∀ w : World, (binOp .eql 23 (.slice none 0 0) (.slice none 0 0)).run Try.prog w = .ok (.bool true) w := fun w => Lib.run_eql_slice_nil w _ _ none 0 0 0 0 Try.underlying23
    go_enter Try.func80, Try.ntmps80
    go_wp2
    exact HPo.out _ _ (World.ownsRow_nil _ _ _ _) (Below.refl _ _)
  · obtain ⟨W, hW⟩ : ∃ W, W = w.alloc (.cells #[] 4) := ⟨_, rfl⟩
    have hbW : Below w.heap.size w W := by rw [hW]; exact (Below.refl _ w).alloc (Nat.le_refl _) _
    have hO : W.ownsRow w.heap.size 4 1 (.slice (some ⟨w.heap.size, 0, none⟩) 0 0) 0 [] := by rw [hW]; exact World.ownsRow_made w #[] 0 (Nat.le_refl _) (Nat.zero_le _) rfl
    have hc' : ∀ j u, us[j]? = some u → W.cell? (x.add j) = some u := fun j u hj => by
      have := hc j u hj
      rw [← this]
      exact hbW.cell (cell_lt this)
    have hN : ∀ w : World, (binOp .eql 23 (.slice (some x) n cap) (.slice none 0 0)).run Try.prog w = .ok (.bool false) w := fun w => Lib.run_eql_slice_nil w _ _ (some x) _ _ 0 0 Try.underlying23
    go_enter Try.func80, Try.ntmps80
    go_wp2_with (at_builtin; rw [← hW]; refine wpList_append_own _ rfl _ _ 23 rfl w.heap.size 4 i0 (.bool false) 1 1 Try.underlying23 hi hz0 hz1 hz2 rfl (by decide) (.slice (some ⟨w.heap.size, 0, none⟩) 0 0) 0 [] rfl hO x n cap us rfl (by omega) hc' hone (by omega) (by omega) hbW.size ?_)
    intro v' w1 hown hgrow _
    rw [← hW] at hgrow
    have hb : Below w.heap.size w w1 := hbW.grown hgrow hbW.size (fun k h => by cases h; exact Nat.le_refl _)
    clear hgrow hc hone hW hO hc'
    go_wp2
    exact HPo.out _ _ (by simpa using hown) hb

/-- A row of segments of which the first k have their blocks in memory of their own, and the others where they lay. -/
def MX (w0 w : World) (base : Nat) (v : Value) (l : List Sg) (k : Nat) : Prop := ∃ vss : List (List Value), w.ownsRow base 45 2 v l.length vss.flatten ∧ vss.length = l.length ∧ ∀ i p, l[i]? = some p → ∃ us, vss[i]? = some us ∧ (i < k → sgN.owns base w us p) ∧ (k ≤ i → sgN.lies 0 w0 us p)
theorem flat_set {α : Type} {size : Nat} : ∀ {vss : List (List α)} {i j : Nat} {us : List α} {u : α}, (∀ us ∈ vss, us.length = size) → vss[i]? = some us → j < size → vss.flatten.set (i * size + j) u = (vss.set i (us.set j u)).flatten
  | x :: r, 0, j, us, u, hs, hi, hj => by
    obtain rfl : x = us := by simpa using hi
    have := hs x (List.mem_cons_self ..)
    simp only [List.flatten_cons, Nat.zero_mul, Nat.zero_add, List.set_cons_zero]
    rw [List.set_append_left _ _ (by omega)]
  | x :: r, i + 1, j, us, u, hs, hi, hj => by
    have h1 := hs x (List.mem_cons_self ..)
    simp only [List.flatten_cons, List.set_cons_succ]
    rw [List.set_append_right _ _ (by rw [h1, Nat.add_mul, Nat.one_mul]; omega), h1, show (i + 1) * size + j - size = i * size + j from by rw [Nat.add_mul, Nat.one_mul]; omega, flat_set (fun us h => hs us (List.mem_cons_of_mem _ h)) (by simpa using hi) hj]
theorem MX.sizes {w0 w : World} {base : Nat} {l : List Sg} {k : Nat} {vss : List (List Value)} (hl : vss.length = l.length) (h : ∀ i p, l[i]? = some p → ∃ us, vss[i]? = some us ∧ (i < k → sgN.owns base w us p) ∧ (k ≤ i → sgN.lies 0 w0 us p)) : ∀ us ∈ vss, us.length = 2 := fun us hu => by
  obtain ⟨i, hi⟩ := List.mem_iff_getElem?.1 hu
  obtain ⟨p, hp⟩ := get_lt (l := l) (k := i) (by rw [← hl]; exact (List.getElem?_eq_some_iff.1 hi).1)
  obtain ⟨us', h1, h2, h3⟩ := h i p hp
  rw [hi] at h1
  obtain rfl := Option.some.inj h1
  by_cases c : i < k
  · exact sgN.length (sgN.olies (h2 c))
  · exact sgN.length (h3 (by omega))
theorem MX.below {w0 w w' : World} {base : Nat} {v : Value} {l : List Sg} {k : Nat} (h : MX w0 w base v l k) (hb : Below w.heap.size w w') : MX w0 w' base v l k := by
  obtain ⟨vss, h1, h2, h3⟩ := h
  refine ⟨vss, own_below h1 hb, h2, fun i p hp => ?_⟩
  obtain ⟨us, a, b, c⟩ := h3 i p hp
  exact ⟨us, a, fun hi => sgN.obelow (b hi) hb, c⟩
theorem MX.whole {w0 w : World} {base : Nat} {v : Value} {l : List Sg} (h : MX w0 w base v l l.length) : sgsN.owns base w [v] l := by
  obtain ⟨vss, h1, h2, h3⟩ := h
  refine ⟨v, vss, rfl, h1, each_of h2 fun i a b ha hb => ?_⟩
  obtain ⟨us, c, d, _⟩ := h3 i b hb
  rw [ha] at c
  obtain rfl := Option.some.inj c
  exact d (List.getElem?_eq_some_iff.1 hb).1
/-- The next segment of the row: where it lies, what it holds, and what a store of copied blocks makes of it. -/
theorem MX.at {w0 w : World} {base : Nat} {v : Value} {l : List Sg} {k : Nat} (h : MX w0 w base v l k) {p : Sg} (hp : l[k]? = some p) :
    ∃ g cap a c, v = .slice (some ⟨g, 0, none⟩) l.length cap ∧ base ≤ g ∧ g < w.heap.size ∧ (∀ W, (Instr.indexAt 28 v (.int .i64 k)).run Try.prog W = .ok (.pointer (some ⟨g, k * 2, none⟩)) W) ∧ sgN.lies 0 w0 [.int .i64 p.1, .slice a p.2.length c] p ∧
      ∀ W, Below w.heap.size w W → (W.cell? ⟨g, k * 2, none⟩ = some (.int .i64 p.1) ∧ W.cell? ⟨g, k * 2 + 1, none⟩ = some (.slice a p.2.length c) ∧ W.frozen? ⟨g, k * 2 + 1, none⟩ = false) ∧
        ∀ u, bksN.owns base W [u] p.2 → MX w0 (W.setCell ⟨g, k * 2 + 1, none⟩ u) base v l (k + 1) ∧ W.grownBy (W.setCell ⟨g, k * 2 + 1, none⟩ u) v.ownBlock := by
  obtain ⟨i0, hi0, _, hz, _⟩ := info_parts Try.info45
  obtain ⟨vss, hC0, h2, h3⟩ := h
  have hi : k < l.length := (List.getElem?_eq_some_iff.1 hp).1
  obtain ⟨g, cap, rfl⟩ : ∃ g cap, v = .slice (some ⟨g, 0, none⟩) l.length cap := by
    rcases hC0.2 with ⟨_, h0⟩ | ⟨g, cap, cur, h', _⟩
    · omega
    · exact ⟨g, cap, h'⟩
  have hob : (Value.slice (some ⟨g, 0, none⟩) l.length cap).ownBlock = some g := rfl
  have hlt := hC0.lt g hob
  have hsz := MX.sizes h2 h3
  obtain ⟨us, hu, _, hL⟩ := h3 k p hp
  obtain ⟨a, c, rfl, _⟩ := sg_viewN (hL (Nat.le_refl _))
  refine ⟨g, cap, a, c, rfl, hlt.1, hlt.2, fun W => ?_, hL (Nat.le_refl _), fun W hW => ?_⟩
  · have := run_index (size := 2) Try.underlying28 hi0 hz g 0 l.length cap k hi W
    simpa using this
  have hC := own_below hC0 hW
  refine ⟨⟨?_, ?_, hC.frozenAt _⟩, fun u hO => ?_⟩
  · have hc := hC.cells hob (k * 2 + 0) (.int .i64 p.1) (flat_get hsz hu rfl)
    rwa [add_plain, Nat.zero_add] at hc
  · have hc := hC.cells hob (k * 2 + 1) (.slice a p.2.length c) (flat_get hsz hu rfl)
    rwa [add_plain, Nat.zero_add] at hc
  · obtain ⟨h1, h2'⟩ := hC.stored (k * 2 + 1) u
    rw [flat_set hsz hu (by omega)] at h1
    have hcl : Clear W (some g) sgN.ids := by rw [← hob]; exact .own hC (by decide)
    have kp : ∀ a b, sgN.owns base W a b → sgN.owns base (W.setCell ⟨g, k * 2 + 1, none⟩ u) a b := fun a b h => sgN.ogrown h h2' hcl
    refine ⟨⟨_, h1, by rw [List.length_set]; exact h2, fun i q hq => ?_⟩, h2'⟩
    obtain ⟨ui, d1, d2, d3⟩ := h3 i q hq
    by_cases e : i = k
    · subst e
      rw [hp] at hq
      obtain rfl := Option.some.inj hq
      refine ⟨[.int .i64 p.1, u], by rw [List.getElem?_set_self (by rw [h2]; exact hi)]; rfl, fun _ => kp _ _ ?_, fun c => by omega⟩
      obtain ⟨_, _, _, _, hI, _⟩ := sg_viewN (hL (Nat.le_refl _))
      exact sg_omkN (s := p) hO hI
    · refine ⟨ui, by rw [List.getElem?_set_ne (by omega)]; exact d1, fun c => kp _ _ (sgN.obelow (d2 (by omega)) hW), fun c => d3 (by omega)⟩

/-- A store in memory of its own, its open blocks behind all else. -/
def SepN (n : Nat) (w : World) (us : List Value) (s : St) : Prop := ∃ v1 v2 v3 B, us = [v1, v2, v3, .int .i64 s.2.2.2] ∧ n ≤ B ∧ B ≤ w.heap.size ∧ (∀ W : World, (∀ k, n ≤ k → k < B → W.heap[k]? = w.heap[k]?) → sgsN.owns n W [v1] s.1 ∧ boolsS.owns n W [v2] s.2.1) ∧ bksN.owns B w [v3] s.2.2.1 ∧ I64 s.2.2.2
theorem SepN.owns {n : Nat} {w : World} {us : List Value} {s : St} (h : SepN n w us s) : stN.owns n w us s := by
  obtain ⟨v1, v2, v3, B, rfl, h1, _, h2, h3, h4⟩ := h
  obtain ⟨h5, h6⟩ := h2 w (fun _ _ _ => rfl)
  exact st_omkN h5 h6 (bksN.oweaken h3 h1) h4

set_option maxRecDepth 100000 in
set_option maxHeartbeats 4000000 in
theorem copied_any (n0 : Nat) (us : List Value) (s : St) (w : World) (h : stN.lies n0 w us s) (hf : FitsL s) :
    Calls Try.prog 55 #[.agg us.toArray] w fun e w' => (∃ us', e = .returned (.agg us'.toArray) ∧ SepN (w.heap.size + 2) w' us' s) ∧ Below w.heap.size w w' := by
  obtain ⟨a, c, b, d, e, f, rfl, hS, hH, hO, hN, m1, m2, m3⟩ := st_viewN h
  obtain ⟨l, hd, op, nx⟩ := s
  simp only at hS hH hO hN m1 m2 m3 hf ⊢
  obtain ⟨⟨f1, f2⟩, f3, f4, f5⟩ := hf
  simp only at f1 f2 f3 f4 f5
  unfold maxLen at m1 m2 m3
  obtain ⟨post, hpost⟩ : ∃ post : Ending → World → Prop, post = fun e w' => (∃ us', e = .returned (.agg us'.toArray) ∧ SepN (w.heap.size + 2) w' us' (l, hd, op, nx)) ∧ Below w.heap.size w w' := ⟨_, rfl⟩
  have HPo : Hid (∀ us' w', SepN (w.heap.size + 2) w' us' (l, hd, op, nx) → Below w.heap.size w w' → post (.returned (.agg us'.toArray)) w') := fun v' w' h1 h2 => by rw [hpost]; exact ⟨⟨v', rfl, h1⟩, h2⟩
  rw [← hpost]
  clear hpost
  obtain ⟨W, hW⟩ : ∃ W, W = (w.alloc (.cells #[.slice a l.length c, .slice b hd.length d, .slice e op.length f, .int .i64 nx] 31)).alloc (.cells #[.slice none 0 0, .slice none 0 0, .slice none 0 0, .int .i64 0] 31) := ⟨_, rfl⟩
  have hbW : Below w.heap.size w W := by rw [hW]; exact ((Below.refl _ w).alloc (Nat.le_refl _) _).alloc (by simp) _
  have hB1 : Box W w.heap.size 31 #[.slice a l.length c, .slice b hd.length d, .slice e op.length f, .int .i64 nx] := by rw [hW]; exact (Box.new _ _ _).alloc _
  have hB2 : Box W (w.heap.size + 1) 31 #[.slice none 0 0, .slice none 0 0, .slice none 0 0, .int .i64 0] := by
    rw [hW]
    have := Box.new (w.alloc (.cells #[.slice a l.length c, .slice b hd.length d, .slice e op.length f, .int .i64 nx] 31)) 31 #[.slice none 0 0, .slice none 0 0, .slice none 0 0, .int .i64 0]
    rwa [World.size_alloc] at this
  have hszW : W.heap.size = w.heap.size + 2 := by rw [hW]; simp
  obtain ⟨v', vss, hv, hC, hE⟩ := hS
  obtain rfl : Value.slice a l.length c = v' := by simpa using hv
  have HC := cloneS_any n0 _ l.length vss.flatten W (hC.keep (.of_below hbW)) (fun u hu => by
    obtain ⟨us, h1, h2⟩ := List.mem_flatten.1 hu
    obtain ⟨q, _, hq⟩ := hE.left h1
    exact sgN.ones hq u h2) f1
  have HE : Hid (Each (sgN.lies 0 w) vss l ∧ l.length ≤ 4398046510976) := ⟨hE.mono fun _ _ h => sgN.weaken h (Nat.zero_le _), by omega⟩
  have HW : Hid (Below w.heap.size w W ∧ W.heap.size = w.heap.size + 2) := ⟨hbW, hszW⟩
  have HB : Hid (∀ V, Below W.heap.size W V → Box V w.heap.size 31 #[.slice a l.length c, .slice b hd.length d, .slice e op.length f, .int .i64 nx] ∧ Box V (w.heap.size + 1) 31 #[.slice none 0 0, .slice none 0 0, .slice none 0 0, .int .i64 0]) := fun V hV => ⟨hB1.below hV hB1.lt, hB2.below hV hB2.lt⟩
  have HA : Hid (boolsS.lies n0 w [.slice b hd.length d] hd ∧ bksN.lies n0 w [.slice e op.length f] op ∧ I64 nx ∧ (∀ p ∈ l, Fits p) ∧ hd.length ≤ 140737488351232 ∧ FitsB op) := ⟨hH, hO, hN, f2, f3, f4, f5⟩
  obtain ⟨n, hn⟩ : ∃ n, n = l.length := ⟨_, rfl⟩
  obtain ⟨nh, hnh⟩ : ∃ n, n = hd.length := ⟨_, rfl⟩
  obtain ⟨no, hno⟩ : ∃ n, n = op.length := ⟨_, rfl⟩
  have HN : Hid (n = l.length ∧ nh = hd.length ∧ no = op.length) := ⟨hn, hnh, hno⟩
  rw [← hn, ← hnh, ← hno] at hB1 HB hW
  rw [← hnh, ← hno] at HA
  rw [← hn] at HC HE hv m1
  rw [← hn, ← hnh, ← hno]
  obtain ⟨g0, g1, g2, g3, -⟩ := hB1.four
  rw [hW] at g0 g1 g2 g3
  clear h hH hO hN hbW hB1 hB2 hszW hC hE f1 f2 f3 f4 f5 hn hnh hno hv
  go_enter Try.func55, Try.ntmps55
  go_wp2_with fail
  rw [← hW]
  clear hW g0 g1 g2 g3
  refine HC.mono ?_
  rintro e1 w1 ⟨⟨v1, rfl, hv1⟩, hb1⟩
  obtain ⟨a1, c1, rfl⟩ := own_shape hv1
  have hx1 := (HB.out w1 hb1).1
  obtain ⟨d0, d1, d2, d3, k0, k1, k2, k3⟩ := hx1.four
  obtain ⟨X, hX⟩ : ∃ X, X = w1.setCell ⟨w.heap.size, 0, none⟩ (.slice a1 n c1) := ⟨_, rfl⟩
  have hxX : Box X w.heap.size 31 #[.slice a1 n c1, .slice b nh d, .slice e no f, .int .i64 nx] := by rw [hX]; exact hx1.set 0 _
  have hyX : Box X (w.heap.size + 1) 31 #[.slice none 0 0, .slice none 0 0, .slice none 0 0, .int .i64 0] := by rw [hX]; exact (HB.out w1 hb1).2.other (by omega)
  have hbX : Below w.heap.size w X := by rw [hX]; exact (HW.out.1.trans (hb1.mono HW.out.1.size)).setCell (p := ⟨w.heap.size, 0, none⟩) (Nat.le_refl _) _
  have hMX : MX w X (w.heap.size + 2) (.slice a1 n c1) l 0 := by
    have h1 := HE.out.1
    refine ⟨vss, ?_, by rw [h1.length], fun i p hp => ?_⟩
    · have h2 := own_weaken hv1 (Nat.le_of_eq HW.out.2.symm)
      rw [hX, ← HN.out.1]
      exact own_same h2 (.set (by omega))
    · obtain ⟨us, h2, h3⟩ := h1.get hp
      exact ⟨us, h2, fun c => by omega, fun _ => h3⟩
  have HJ : Hid (MX w X (w.heap.size + 2) (.slice a1 n c1) l 0 ∧ Box X w.heap.size 31 #[.slice a1 n c1, .slice b nh d, .slice e no f, .int .i64 nx] ∧ Box X (w.heap.size + 1) 31 #[.slice none 0 0, .slice none 0 0, .slice none 0 0, .int .i64 0] ∧ Below w.heap.size w X) := ⟨hMX, hxX, hyX, hbX⟩
  have hl1 := run_len Try.underlying28 a1 n c1
  obtain ⟨y0, y1, y2, y3, -⟩ := hxX.four
  clear hv1 hb1 hx1 hxX hyX hbX hMX HC HB
  go_upto_region 2 with fail
  rw [← hX]
  clear hX d0 d1 d2 d3 k0 k1 k2 k3
  go_wp2
  clear y0 y1 y2 y3
  go_loopw [12] (fun i wr => ∃ k : Nat, k ≤ n ∧ i = .int .i64 k ∧ Hid (MX w wr (w.heap.size + 2) (.slice a1 n c1) l k ∧ Box wr w.heap.size 31 #[.slice a1 n c1, .slice b nh d, .slice e no f, .int .i64 nx] ∧ Box wr (w.heap.size + 1) 31 #[.slice none 0 0, .slice none 0 0, .slice none 0 0, .int .i64 0] ∧ Below w.heap.size w wr)) (fun i _ => n - (intOf i).toNat)
  case atStart => exact ⟨0, Nat.zero_le _, rfl, HJ.out⟩
  case round =>
    clear HJ
    obtain ⟨k, hk, rfl, HJ⟩ := hrel
    by_cases hlt : k < n
    · obtain ⟨p, hp⟩ := get_lt (l := l) (k := k) (by rw [← HN.out.1]; exact hlt)
      obtain ⟨g, cap, x, xc, hvv, hg0, hg1, hix, hL, hst⟩ := HJ.out.1.at hp
      obtain ⟨rfl, -, rfl⟩ : a1 = some ⟨g, 0, none⟩ ∧ n = l.length ∧ c1 = cap := by simpa using hvv
      have HF : Hid (FitsB p.2) := HA.out.2.2.2.1 p (List.mem_of_getElem? hp)
      obtain ⟨q, pb⟩ := p
      simp only at hL hst HF
      obtain ⟨m, hm⟩ : ∃ m, m = pb.length := ⟨_, rfl⟩
      rw [← hm] at hst hL
      have HL : Hid (sgN.lies 0 w [.int .i64 q, .slice x m xc] (q, pb)) := hL
      have HST : Hid (∀ W, Below wr.heap.size wr W → (W.cell? ⟨g, k * 2, none⟩ = some (.int .i64 q) ∧ W.cell? ⟨g, k * 2 + 1, none⟩ = some (.slice x m xc) ∧ W.frozen? ⟨g, k * 2 + 1, none⟩ = false) ∧
        ∀ u, bksN.owns (w.heap.size + 2) W [u] pb → MX w (W.setCell ⟨g, k * 2 + 1, none⟩ u) (w.heap.size + 2) (.slice (some ⟨g, 0, none⟩) n c1) l (k + 1) ∧ W.grownBy (W.setCell ⟨g, k * 2 + 1, none⟩ u) (some g)) := hst
      obtain ⟨c0, c1', cf⟩ := (hst wr (Below.refl _ _)).1
      obtain ⟨V, hV⟩ : ∃ V, V = wr.alloc (.cells #[.int .i64 q, .slice x m xc] 45) := ⟨_, rfl⟩
      have hbV : Below wr.heap.size wr V := by rw [hV]; exact (Below.refl _ _).alloc (Nat.le_refl _) _
      have hxV : Box V wr.heap.size 45 #[.int .i64 q, .slice x m xc] := by rw [hV]; exact Box.new _ _ _
      have HV : Hid (Below wr.heap.size wr V ∧ ∀ U, Below V.heap.size V U → U.cell? ⟨w.heap.size, 0, none⟩ = some (.slice (some ⟨g, 0, none⟩) n c1) ∧ U.cell? ⟨wr.heap.size, 1, none⟩ = some (.slice x m xc)) := ⟨hbV, fun U hU => ⟨((HJ.out.2.1.below (hbV.trans (hU.mono hbV.size)) HJ.out.2.1.lt).four).1, ((hxV.below hU hxV.lt).two).2.1⟩⟩
      have HC : Hid (Calls Try.prog 38 #[.slice x m xc] V.drew fun e w' => (∃ v', e = .returned v' ∧ bksN.owns V.heap.size w' [v'] pb) ∧ Below V.heap.size V w') :=
        (cblocks_any 0 (.slice x m xc) pb V.drew (bksN.below (bksN.below (bksN.below (by obtain ⟨u1, u2, he, ⟨rfl, _⟩, h2⟩ := HL.out; simp at he; rw [he.2]; exact h2) HJ.out.2.2.2) hbV) (Below.refl _ _).drew) HF.out).mono fun e w' h => ⟨h.1, ((Below.refl _ V).drew).trans h.2⟩
      have HG : Hid (w.heap.size + 2 ≤ g ∧ g < wr.heap.size) := ⟨hg0, hg1⟩
      have hki : (k : Int) < (n : Int) := by omega
      have hfa : k * 2 + 1 = k * 2 + 1 := rfl
      clear hst hL hp hm hbV hxV hvv hg0 hg1 hfa
      go_upto_region 5 with fail
      rw [← hV]
      clear hV c0 c1' cf
      go_wp2
      refine AnyBut.begin (fun U => U.cell? ⟨w.heap.size, 0, none⟩ = some (.slice (some ⟨g, 0, none⟩) n c1) ∧ U.cell? ⟨wr.heap.size, 1, none⟩ = some (.slice x m xc)) 1000 (by kernel_rfl) ?_
      have hSS := HV.out.2 V.drew (Below.refl _ V).drew
      refine tx 0 17 hSS ?_
      simp only [ua, ub, uc, ud]
      refine tx 1 18 hSS ?_
      simp only [ua, ub, uc, ud]
      refine tx 2 19 hSS ?_
      simp only [ua, ub, uc, ud]
      refine tx 3 20 hSS ?_
      simp only [ua, ub, uc, ud]
      refine tx 4 21 hSS ?_
      simp only [ua, ub, uc, ud]
      refine AnyBut.step (i := 5) (by kernel_rfl) rfl (fun K hK => ?_)
      go_simp
      refine Calls.mono HC.out ?_
      rintro e9 w2 ⟨⟨v2, rfl, hv2⟩, hb2⟩
      dsimp only
      refine hK.out _ _ (HV.out.2 w2 hb2) ?_
      clear hK hSS
      have hSS := HV.out.2 w2 hb2
      refine tx 6 23 hSS ?_
      simp only [ua, ub, uc, ud]
      refine tx 7 24 hSS ?_
      simp only [ua, ub, uc, ud]
      clear hSS
      obtain ⟨ax, cx, _, hv, -, -⟩ := Shape.list_own (S := bkN) (ht := Try.underlying29) (hc := cells29) hv2
      obtain rfl : v2 = _ := by simpa using hv
      have hbw2 : Below wr.heap.size wr w2 := HV.out.1.trans (hb2.mono HV.out.1.size)
      obtain ⟨⟨-, cz, fz⟩, hst2⟩ := HST.out w2 hbw2
      obtain ⟨hM3, hg3⟩ := hst2 _ (bksN.oweaken hv2 (by have := HV.out.1.size; have := HG.out; omega))
      obtain ⟨Y, hY⟩ : ∃ Y, Y = w2.setCell ⟨g, k * 2 + 1, none⟩ (.slice ax pb.length cx) := ⟨_, rfl⟩
      have hSY : Y.cell? ⟨w.heap.size, 0, none⟩ = some (.slice (some ⟨g, 0, none⟩) n c1) ∧ Y.cell? ⟨wr.heap.size, 1, none⟩ = some (.slice x m xc) := by
        have h1 := HV.out.2 w2 hb2
        have h2 : Below g w2 Y := by rw [hY]; exact (Below.refl _ _).setCell (p := ⟨g, k * 2 + 1, none⟩) (Nat.le_refl _) _
        refine ⟨by rw [h2.cell (by have := HG.out; show w.heap.size < g; omega)]; exact h1.1, ?_⟩
        rw [← h1.2, hY]
        unfold World.cell?
        rw [Below.heap_setCell _ _ _ _ (by have := HG.out; show wr.heap.size ≠ g; omega)]
      rw [← hY] at hM3 hg3
      have HJ3 : Hid (MX w Y (w.heap.size + 2) (.slice (some ⟨g, 0, none⟩) n c1) l (k + 1) ∧ Box Y w.heap.size 31 #[.slice (some ⟨g, 0, none⟩) n c1, .slice b nh d, .slice e no f, .int .i64 nx] ∧ Box Y (w.heap.size + 1) 31 #[.slice none 0 0, .slice none 0 0, .slice none 0 0, .int .i64 0] ∧ Below w.heap.size w Y) := ⟨hM3, (HJ.out.2.1.below hbw2 HJ.out.2.1.lt).grown hg3 (by have := HG.out; simp; omega), (HJ.out.2.2.1.below hbw2 HJ.out.2.2.1.lt).grown hg3 (by have := HG.out; simp; omega), by rw [hY]; exact (HJ.out.2.2.2.trans (hbw2.mono HJ.out.2.2.2.size)).setCell (p := ⟨g, k * 2 + 1, none⟩) (by have := HG.out; simp; omega) _⟩
      refine AnyBut.step (i := 8) (by kernel_rfl) rfl (fun K hK => ?_)
      go_simp
      rw [← hY]
      refine hK.out _ _ hSY ?_
      clear hK hSY hY hM3 hg3 hst2 fz cz hbw2 hv hv2 hb2 hix
      refine AnyBut.done (by kernel_rfl) ?_
      go_wp2
      go_roundw
      case rel => exact ⟨k + 1, by omega, by go_num, HJ3.out⟩
      case measure => simp [intOf]; omega
    · obtain rfl : k = n := by omega
      have hSO : sgsN.owns (w.heap.size + 2) wr [.slice a1 k c1] l := by
        have h1 := HJ.out.1
        rw [HN.out.1] at h1
        rw [HN.out.1]
        exact h1.whole
      have HCB := cloneB_any n0 (.slice b nh d) nh (hd.map Value.bool) wr (by
        obtain ⟨v', hv, hC, _⟩ := boolsS.below HA.out.1 HJ.out.2.2.2
        obtain rfl : Value.slice b nh d = v' := by simpa using hv
        rw [HN.out.2.1] at hC ⊢
        exact hC) (fun u hu => by
        obtain ⟨y, _, rfl⟩ := List.mem_map.1 hu
        rfl) (by have := HA.out.2.2.2.2.1; have := HN.out.2.1; omega)
      obtain ⟨y0, y1, y2, y3, j0, j1, j2, j3⟩ := HJ.out.2.1.four
      have HSO : Hid (sgsN.owns (w.heap.size + 2) wr [.slice a1 k c1] l) := hSO
      clear hSO
      go_wp2_with fail
      clear y0 y1 y2 y3 j0 j1 j2 j3
      refine HCB.mono ?_
      rintro e5 w5 ⟨⟨v5, rfl, hv5⟩, hb5⟩
      obtain ⟨a5, c5, rfl⟩ := own_shape hv5
      have hx5 := HJ.out.2.1.below hb5 HJ.out.2.1.lt
      obtain ⟨y0, y1, y2, y3, j0, j1, j2, j3⟩ := hx5.four
      obtain ⟨X, hX⟩ : ∃ X, X = w5.setCell ⟨w.heap.size, 1, none⟩ (.slice a5 nh c5) := ⟨_, rfl⟩
      have hxX : Box X w.heap.size 31 #[.slice a1 k c1, .slice a5 nh c5, .slice e no f, .int .i64 nx] := by rw [hX]; exact hx5.set 1 _
      have hsX : Same (w.heap.size + 2) wr X := by rw [hX]; exact Same.trans (.of_below hb5) hb5.size (.set (by omega))
      have hbX : Below w.heap.size w X := by rw [hX]; exact (HJ.out.2.2.2.trans (hb5.mono HJ.out.2.2.2.size)).setCell (p := ⟨w.heap.size, 1, none⟩) (Nat.le_refl _) _
      have hyX : Box X (w.heap.size + 1) 31 #[.slice none 0 0, .slice none 0 0, .slice none 0 0, .int .i64 0] := by rw [hX]; exact (HJ.out.2.2.1.below hb5 HJ.out.2.2.1.lt).other (by omega)
      have hH5 : boolsS.owns (w.heap.size + 2) X [.slice a5 nh c5] hd := by
        refine boolsS.osame (n := w.heap.size + 2) (w := w5) ⟨_, rfl, ?_, fun _ _ => trivial⟩ (by rw [hX]; exact .set (by omega))
        have := own_weaken hv5 (show w.heap.size + 2 ≤ wr.heap.size by have := HJ.out.2.2.1.lt; omega)
        rw [HN.out.2.1] at this ⊢
        exact this
      have HX : Hid (sgsN.owns (w.heap.size + 2) X [.slice a1 k c1] l ∧ boolsS.owns (w.heap.size + 2) X [.slice a5 nh c5] hd ∧ Box X (w.heap.size + 1) 31 #[.slice none 0 0, .slice none 0 0, .slice none 0 0, .int .i64 0] ∧ Below w.heap.size w X ∧ Box X w.heap.size 31 #[.slice a1 k c1, .slice a5 nh c5, .slice e no f, .int .i64 nx]) := ⟨sgsN.osame HSO.out hsX, hH5, hyX, hbX, hxX⟩
      have HCO := cblocks_any n0 (.slice e no f) op X (bksN.below HA.out.2.1 hbX) HA.out.2.2.2.2.2
      obtain ⟨z0, z1, z2, z3, l0, l1, l2, l3⟩ := hxX.four
      clear hv5 hb5 hx5 hxX hsX hbX hyX hH5 HCB HSO HJ
      go_upto_region 8 with fail
      rw [← hX]
      clear hX y0 y1 y2 y3 j0 j1 j2 j3
      go_wp2_with fail
      clear z0 z1 z2 z3 l0 l1 l2 l3
      refine HCO.mono ?_
      rintro e6 w6 ⟨⟨v6, rfl, hv6⟩, hb6⟩
      obtain ⟨a6, c6, _, hv, -, -⟩ := Shape.list_own (S := bkN) (ht := Try.underlying29) (hc := cells29) hv6
      obtain rfl : v6 = _ := by simpa using hv
      have hx6 := HX.out.2.2.2.2.below hb6 HX.out.2.2.2.2.lt
      obtain ⟨y0, y1, y2, y3, j0, j1, j2, j3⟩ := hx6.four
      rw [← HN.out.2.2] at hv6 ⊢
      obtain ⟨Y, hY⟩ : ∃ Y, Y = w6.setCell ⟨w.heap.size, 2, none⟩ (.slice a6 no c6) := ⟨_, rfl⟩
      have hxY : Box Y w.heap.size 31 #[.slice a1 k c1, .slice a5 nh c5, .slice a6 no c6, .int .i64 nx] := by rw [hY]; exact hx6.set 2 _
      have hsY : Same (w.heap.size + 2) X Y := by rw [hY]; exact Same.trans (.of_below hb6) hb6.size (.set (by omega))
      have hbY : Below w.heap.size w Y := by rw [hY]; exact (HX.out.2.2.2.1.trans (hb6.mono HX.out.2.2.2.1.size)).setCell (p := ⟨w.heap.size, 2, none⟩) (Nat.le_refl _) _
      have hyY : Box Y (w.heap.size + 1) 31 #[.slice none 0 0, .slice none 0 0, .slice none 0 0, .int .i64 0] := by rw [hY]; exact (HX.out.2.2.1.below hb6 HX.out.2.2.1.lt).other (by omega)
      have HY : Hid (Below w.heap.size w Y ∧ w.heap.size + 2 ≤ X.heap.size ∧ ∀ Z, Same (w.heap.size + 2) Y Z → Y.heap.size ≤ Z.heap.size → SepN (w.heap.size + 2) Z [.slice a1 k c1, .slice a5 nh c5, .slice a6 no c6, .int .i64 nx] (l, hd, op, nx)) := ⟨hbY, by have := HX.out.2.2.1.lt; omega, fun Z hZ hZs => by
        have hxs : w.heap.size + 2 ≤ X.heap.size := by have := HX.out.2.2.1.lt; omega
        have hYs : X.heap.size ≤ Y.heap.size := by rw [hY]; simp [World.setCell]; exact hb6.size
        refine ⟨_, _, _, X.heap.size, rfl, hxs, by omega, fun U hU => ?_, ?_, HA.out.2.2.1⟩
        · have hs : Same (w.heap.size + 2) X U := fun k h1 h2 => (hU k h1 h2).trans ((hZ k h1 (by omega)).trans (hsY k h1 h2))
          exact ⟨sgsN.osame HX.out.1 hs, boolsS.osame HX.out.2.1 hs⟩
        · refine bksN.osame (w := Y) ?_ (fun k h1 h2 => hZ k (by omega) h2)
          rw [hY]
          exact bksN.osame hv6 (.set (by omega))⟩
      obtain ⟨z0, z1, z2, z3, -⟩ := hxY.four
      obtain ⟨x0, x1, x2, x3, l0, l1, l2, l3⟩ := hyY.four
      clear hv6 hb6 hx6 hxY hsY hbY hyY HCO HX hv
      go_upto_region 9 with fail
      rw [← hY]
      clear hY y0 y1 y2 y3 j0 j1 j2 j3
      go_wp2
      refine bodyPost_ret (v := .agg #[.slice a1 k c1, .slice a5 nh c5, .slice a6 no c6, .int .i64 nx]) (by simp [results, Try.results55, go_sem, *]) rfl ?_
      refine HPo.out [_, _, _, _] _ (HY.out.2.2 _ (.set4 (by omega)) (by simp [World.setCell])) (below_set4 HY.out.1 (by omega) _ _ _ _)

end Go.Proofs.Ytkpckadicjdieab
