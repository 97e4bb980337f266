/-
  Slots in memory of their own, a store into one of them; slices.Clone; the closures by which a slot is changed, and changed.
-/
import Derived.Test.YtgfdggilplkmfaaCheck2
import Derived.Laws.OwnMore
import Derived.Lib.Slices
namespace Go.Proofs.Ytgfdggilplkmfaa
open Go.RowKit

/-- A slot in a row of its own: where it lies, and what a store makes of the row. -/
def Puts (t : TypeId) (base : Nat) (v : Value) (l : List Sl) (i : Nat) (p : Sl) (g o : Nat) (W : World) : Prop :=
  W.cell? ⟨g, o, none⟩ = some (.int .i64 p.1) ∧ W.cell? ⟨g, o + 1, none⟩ = some (.int .i64 p.2) ∧ W.frozen? ⟨g, o, none⟩ = false ∧ W.frozen? ⟨g, o + 1, none⟩ = false ∧
    (∀ q x, EOk (q, x) → OwnE t base ((W.setCell ⟨g, o, none⟩ (.int .i64 q)).setCell ⟨g, o + 1, none⟩ (.int .i64 x)) v (l.set i (q, x))) ∧
    (∀ q, I64 q → OwnE t base (W.setCell ⟨g, o, none⟩ (.int .i64 q)) v (l.set i (q, p.2))) ∧ (∀ x, I64 x → OwnE t base (W.setCell ⟨g, o + 1, none⟩ (.int .i64 x)) v (l.set i (p.1, x)))

theorem set_at {α : Type} {l : List α} {i : Nat} {a : α} (h : l[i]? = some a) : l.set i a = l := by
  obtain ⟨hi, e⟩ := List.getElem?_eq_some_iff.1 h
  rw [← e, List.set_getElem_self]

theorem own_at {t T : TypeId} (ht : Try.prog.underlying T = some (.slice t)) (hI : (Try.prog.info? t).map (fun i => (i.zero, i.size, i.bytes)) = some (some (.agg #[.int .i64 0, .int .i64 0]), 2, 16)) {base : Nat} {w : World} {v : Value} {l : List Sl} (h : OwnE t base w v l) (i : Nat) (p : Sl) (hp : l[i]? = some p) :
    ∃ g o cap, v = .slice (some ⟨g, 0, none⟩) l.length cap ∧ base ≤ g ∧ g < w.heap.size ∧ (∀ W, (Instr.indexAt T v (.int .i64 i)).run Try.prog W = .ok (.pointer (some ⟨g, o, none⟩)) W) ∧ ∀ W, Below w.heap.size w W → Puts t base v l i p g o W := by
  obtain ⟨i0, hi0, _, hz, _⟩ := info_parts hI
  have hi : i < l.length := (List.getElem?_eq_some_iff.1 hp).1
  obtain ⟨g, cap, rfl⟩ : ∃ g cap, v = .slice (some ⟨g, 0, none⟩) l.length cap := by
    rcases h.1.2 with ⟨_, h0⟩ | ⟨g, cap, cur, h', _⟩
    · omega
    · exact ⟨g, cap, h'⟩
  have hob : (Value.slice (some ⟨g, 0, none⟩) l.length cap).ownBlock = some g := rfl
  have hlt := h.1.lt g hob
  refine ⟨g, i * 2, cap, rfl, hlt.1, hlt.2, fun W => ?_, fun W hW => ?_⟩
  · have := run_index (size := 2) ht hi0 hz g 0 l.length cap i hi W
    simpa using this
  have hC := (h.below hW).1
  have e0 := (evs_at hp).1
  have e1 := (evs_at hp).2
  have c0 := hC.cells hob (i * 2) _ e0
  have c1 := hC.cells hob (i * 2 + 1) _ e1
  rw [add_plain, Nat.zero_add] at c0 c1
  refine ⟨c0, c1, hC.frozenAt _, hC.frozenAt _, fun q x hq => ⟨?_, h.2.set i hq⟩, fun q hq => ⟨?_, h.2.set i (p := (q, p.2)) ⟨hq, (h.2.get hp).2⟩⟩, fun x hx => ⟨?_, h.2.set i (p := (p.1, x)) ⟨(h.2.get hp).1, hx⟩⟩⟩
  · have h1 := (hC.stored (i * 2) (.int .i64 q)).1
    have h2 := (h1.stored (i * 2 + 1) (.int .i64 x)).1
    rw [List.length_set, evs_set]
    exact h2
  · have h1 := (hC.stored (i * 2) (.int .i64 q)).1
    rw [List.length_set, evs_set]
    have : ((evs l).set (i * 2) (.int .i64 q)).set (i * 2 + 1) (.int .i64 p.2) = (evs l).set (i * 2) (.int .i64 q) := set_at (by rw [List.getElem?_set_ne (by omega)]; exact e1)
    rw [this]
    exact h1
  · have h1 := (hC.stored (i * 2 + 1) (.int .i64 x)).1
    rw [List.length_set, evs_set]
    have : (evs l).set (i * 2) (.int .i64 p.1) = evs l := set_at e0
    rw [this]
    exact h1

set_option maxRecDepth 100000 in
set_option maxHeartbeats 1000000 in
theorem clone_any (n0 : Nat) (v : Value) (l : List Sl) (w : World) (h : ArgE n0 w v l) (hs : l.length ≤ 4096) :
    Calls Try.prog 37 #[v] w fun e w' => (∃ v', e = .returned v' ∧ OwnE 57 w.heap.size w' v' l) ∧ Below w.heap.size w w' := by
  obtain ⟨i0, hi, hz0, hz1, hz2⟩ := info_parts Try.info57
  obtain ⟨post, hpost⟩ : ∃ post : Ending → World → Prop, post = fun e w' => (∃ v', e = .returned v' ∧ OwnE 57 w.heap.size w' v' l) ∧ Below w.heap.size w w' := ⟨_, rfl⟩
  have HPo : Hid (∀ v' w', OwnE 57 w.heap.size w' v' l → Below w.heap.size w w' → post (.returned v') w') := fun v' w' h1 h2 => by rw [hpost]; exact ⟨⟨v', rfl, h1⟩, h2⟩
  rw [← hpost]
  clear hpost
  have ho := h.2
  obtain ⟨hl, h | ⟨x, cap, rfl, hcap, hm, _, hc⟩⟩ := h.1
  · obtain ⟨rfl, h0⟩ := h
    obtain rfl := List.eq_nil_of_length_eq_zero h0
    have hN : ∀ w : World, (binOp .eql 23 (.slice none 0 0) (.slice none 0 0)).run Try.prog w = .ok (.bool true) w := fun w => Lib.run_eql_slice_nil w _ _ none 0 0 0 0 Try.underlying23
    go_enter Try.func37, Try.ntmps37
    go_wp2
    exact HPo.out _ _ ⟨World.ownsRow_nil _ _ _ _, ho⟩ (Below.refl _ _)
  · have hone := evs_one l
    obtain ⟨W, hW⟩ : ∃ W, W = w.alloc (.cells #[] 57) := ⟨_, rfl⟩
    have hbW : Below w.heap.size w W := by rw [hW]; exact (Below.refl _ w).alloc (Nat.le_refl _) _
    have hO : W.ownsRow w.heap.size 57 2 (.slice (some ⟨w.heap.size, 0, none⟩) 0 0) 0 [] := by rw [hW]; exact World.ownsRow_made w #[] 0 (Nat.le_refl _) (Nat.zero_le _) rfl
    have hc' : ∀ j u, (evs l)[j]? = some u → W.cell? (x.add j) = some u := fun j u hj => by
      have := hc j u hj
      rw [← this]
      exact hbW.cell (cell_lt this)
    have hN : ∀ w : World, (binOp .eql 23 (.slice (some x) l.length cap) (.slice none 0 0)).run Try.prog w = .ok (.bool false) w := fun w => Lib.run_eql_slice_nil w _ _ (some x) _ _ 0 0 Try.underlying23
    go_enter Try.func37, Try.ntmps37
    go_wp2_with (at_builtin; rw [← hW]; refine wpList_append_own _ rfl _ _ 23 rfl w.heap.size 57 i0 (.agg #[.int .i64 0, .int .i64 0]) 2 16 Try.underlying23 hi hz0 hz1 hz2 rfl (by decide) (.slice (some ⟨w.heap.size, 0, none⟩) 0 0) 0 [] rfl hO x l.length cap (evs l) rfl hl hc' hone (by omega) (by omega) hbW.size ?_)
    intro v' w1 hown hgrow _
    rw [← hW] at hgrow
    have hb : Below w.heap.size w w1 := hbW.grown hgrow hbW.size (fun k h => by cases h; exact Nat.le_refl _)
    clear hgrow hc hone hW hO hc'
    go_wp2
    exact HPo.out _ _ ⟨by simpa using hown, ho⟩ hb

set_option maxHeartbeats 1000000 in
theorem doAlloc_any (g o B1 B2 : Nat) (q x : Int) (w : World) (h1 : w.cell? ⟨B1, 0, none⟩ = some (.int .i64 q)) (h2 : w.cell? ⟨B2, 0, none⟩ = some (.int .i64 x)) (c0 c1 : Value) (h3 : w.cell? ⟨g, o, none⟩ = some c0) (h4 : w.cell? ⟨g, o + 1, none⟩ = some c1) (h5 : w.frozen? ⟨g, o, none⟩ = false) (h6 : w.frozen? ⟨g, o + 1, none⟩ = false) :
    Calls Try.prog 28 #[.pointer (some ⟨g, o, none⟩), .pointer (some ⟨B1, 0, none⟩), .pointer (some ⟨B2, 0, none⟩)] w fun e w' => (∃ u, e = .returned u) ∧ w' = (w.setCell ⟨g, o, none⟩ (.int .i64 q)).setCell ⟨g, o + 1, none⟩ (.int .i64 x) := by
  go_enter Try.func28, Try.ntmps28
  go_wp2
  refine bodyPost_end (v := .tuple #[]) (by simp [results, Try.results28, go_sem]) rfl ?_
  exact ⟨⟨_, rfl⟩, rfl⟩

set_option maxHeartbeats 1000000 in
theorem doKill_any (g o B : Nat) (x n : Int) (hx : 0 ≤ x ∧ x ≤ 8) (hn : 0 ≤ n ∧ n ≤ x) (w : World) (h1 : w.cell? ⟨B, 0, none⟩ = some (.int .i64 n)) (h4 : w.cell? ⟨g, o + 1, none⟩ = some (.int .i64 x)) (h6 : w.frozen? ⟨g, o + 1, none⟩ = false) :
    Calls Try.prog 31 #[.pointer (some ⟨g, o, none⟩), .pointer (some ⟨B, 0, none⟩)] w fun e w' => (∃ u, e = .returned u) ∧ ∃ W, Below w.heap.size w W ∧ w' = W.setCell ⟨g, o + 1, none⟩ (.int .i64 (x - n)) := by
  obtain ⟨post, hpost⟩ : ∃ post : Ending → World → Prop, post = fun e w' => (∃ u, e = .returned u) ∧ ∃ W, Below w.heap.size w W ∧ w' = W.setCell ⟨g, o + 1, none⟩ (.int .i64 (x - n)) := ⟨_, rfl⟩
  have HPo : Hid (∀ u W, Below w.heap.size w W → post (.returned u) (W.setCell ⟨g, o + 1, none⟩ (.int .i64 (x - n)))) := fun u W hb => by rw [hpost]; exact ⟨⟨u, rfl⟩, W, hb, rfl⟩
  rw [← hpost]
  clear hpost
  have hwr : IntKind.i64.wrap (x - n) = x - n := by unfold IntKind.wrap; simp [IntKind.signed, IntKind.bits]; omega
  go_enter Try.func31, Try.ntmps31
  go_wp2
  go_region
  go_wp2
  refine bodyPost_end (v := .tuple #[]) (by simp [results, Try.results31, go_sem]) rfl ?_
  exact HPo.out _ w.drew (Below.refl _ w).drew

set_option maxHeartbeats 1000000 in
theorem doFree_any (g o : Nat) (c0 : Value) (w : World) (h3 : w.cell? ⟨g, o, none⟩ = some c0) (h5 : w.frozen? ⟨g, o, none⟩ = false) :
    Calls Try.prog 33 #[.pointer (some ⟨g, o, none⟩)] w fun e w' => (∃ u, e = .returned u) ∧ w' = w.setCell ⟨g, o, none⟩ (.int .i64 0) := by
  go_enter Try.func33, Try.ntmps33
  go_wp2
  refine bodyPost_end (v := .tuple #[]) (by simp [results, Try.results33, go_sem]) rfl ?_
  exact ⟨⟨_, rfl⟩, rfl⟩

set_option maxRecDepth 100000 in
set_option maxHeartbeats 2000000 in
theorem changedAlloc_any (n0 : Nat) (B1 B2 : Nat) (v : Value) (l : List Sl) (i : Nat) (p p' : Sl) (hp : l[i]? = some p) (hs : l.length ≤ 64) (w : World) (h : ArgE n0 w v l)
    (hdo : ∀ V v2 g o, Below w.heap.size w V → OwnE 57 w.heap.size V v2 l → w.heap.size ≤ g → (∀ U, Below V.heap.size V U → Puts 57 w.heap.size v2 l i p g o U) →
      Calls Try.prog 28 #[.pointer (some ⟨g, o, none⟩), .pointer (some ⟨B1, 0, none⟩), .pointer (some ⟨B2, 0, none⟩)] V fun e w' => (∃ u, e = .returned u) ∧ OwnE 57 w.heap.size w' v2 (l.set i p') ∧ Below w.heap.size w w') :
    Calls Try.prog 27 #[v, .int .i64 i, .func (.func 28) #[] #[.pointer (some ⟨B1, 0, none⟩), .pointer (some ⟨B2, 0, none⟩)]] w fun e w' => (∃ v', e = .returned v' ∧ OwnE 57 w.heap.size w' v' (l.set i p')) ∧ Below w.heap.size w w' := by
  obtain ⟨post, hpost⟩ : ∃ post : Ending → World → Prop, post = fun e w' => (∃ v', e = .returned v' ∧ OwnE 57 w.heap.size w' v' (l.set i p')) ∧ Below w.heap.size w w' := ⟨_, rfl⟩
  have HPo : Hid (∀ v' w', OwnE 57 w.heap.size w' v' (l.set i p') → Below w.heap.size w w' → post (.returned v') w') := fun v' w' h1 h2 => by rw [hpost]; exact ⟨⟨v', rfl, h1⟩, h2⟩
  rw [← hpost]
  clear hpost
  have HC := clone_any n0 v l w h (by omega)
  have HD : Hid (∀ V v2 g o, Below w.heap.size w V → OwnE 57 w.heap.size V v2 l → w.heap.size ≤ g → (∀ U, Below V.heap.size V U → Puts 57 w.heap.size v2 l i p g o U) →
      Calls Try.prog 28 #[.pointer (some ⟨g, o, none⟩), .pointer (some ⟨B1, 0, none⟩), .pointer (some ⟨B2, 0, none⟩)] V fun e w' => (∃ u, e = .returned u) ∧ OwnE 57 w.heap.size w' v2 (l.set i p') ∧ Below w.heap.size w w') := hdo
  have HP : Hid (l[i]? = some p) := hp
  clear h hdo hp hs
  go_enter Try.func27, Try.ntmps27
  go_wp2_with fail
  refine HC.mono ?_
  rintro e w2 ⟨⟨v2, rfl, hO⟩, hb2⟩
  obtain ⟨g, o, cap, hv, hg, _, hix, hput⟩ := own_at Try.underlying23 Try.info57 hO i p HP.out
  have HE := HD.out w2 v2 g o hb2 hO hg hput
  clear hO hb2 hput hg hv
  go_wp2_with fail
  refine HE.mono ?_
  rintro e w3 ⟨⟨u, rfl⟩, hO3, hb3⟩
  have H3 : Hid (OwnE 57 w.heap.size w3 v2 (l.set i p') ∧ Below w.heap.size w w3) := ⟨hO3, hb3⟩
  clear hO3 hb3
  go_wp2
  exact HPo.out _ _ H3.out.1 H3.out.2

set_option maxRecDepth 100000 in
set_option maxHeartbeats 2000000 in
theorem changedKill_any (n0 : Nat) (B : Nat) (v : Value) (l : List Sl) (i : Nat) (p p' : Sl) (hp : l[i]? = some p) (hs : l.length ≤ 64) (w : World) (h : ArgE n0 w v l)
    (hdo : ∀ V v2 g o, Below w.heap.size w V → OwnE 57 w.heap.size V v2 l → w.heap.size ≤ g → (∀ U, Below V.heap.size V U → Puts 57 w.heap.size v2 l i p g o U) →
      Calls Try.prog 31 #[.pointer (some ⟨g, o, none⟩), .pointer (some ⟨B, 0, none⟩)] V fun e w' => (∃ u, e = .returned u) ∧ OwnE 57 w.heap.size w' v2 (l.set i p') ∧ Below w.heap.size w w') :
    Calls Try.prog 27 #[v, .int .i64 i, .func (.func 31) #[] #[.pointer (some ⟨B, 0, none⟩)]] w fun e w' => (∃ v', e = .returned v' ∧ OwnE 57 w.heap.size w' v' (l.set i p')) ∧ Below w.heap.size w w' := by
  obtain ⟨post, hpost⟩ : ∃ post : Ending → World → Prop, post = fun e w' => (∃ v', e = .returned v' ∧ OwnE 57 w.heap.size w' v' (l.set i p')) ∧ Below w.heap.size w w' := ⟨_, rfl⟩
  have HPo : Hid (∀ v' w', OwnE 57 w.heap.size w' v' (l.set i p') → Below w.heap.size w w' → post (.returned v') w') := fun v' w' h1 h2 => by rw [hpost]; exact ⟨⟨v', rfl, h1⟩, h2⟩
  rw [← hpost]
  clear hpost
  have HC := clone_any n0 v l w h (by omega)
  have HD : Hid (∀ V v2 g o, Below w.heap.size w V → OwnE 57 w.heap.size V v2 l → w.heap.size ≤ g → (∀ U, Below V.heap.size V U → Puts 57 w.heap.size v2 l i p g o U) →
      Calls Try.prog 31 #[.pointer (some ⟨g, o, none⟩), .pointer (some ⟨B, 0, none⟩)] V fun e w' => (∃ u, e = .returned u) ∧ OwnE 57 w.heap.size w' v2 (l.set i p') ∧ Below w.heap.size w w') := hdo
  have HP : Hid (l[i]? = some p) := hp
  clear h hdo hp hs
  go_enter Try.func27, Try.ntmps27
  go_wp2_with fail
  refine HC.mono ?_
  rintro e w2 ⟨⟨v2, rfl, hO⟩, hb2⟩
  obtain ⟨g, o, cap, hv, hg, _, hix, hput⟩ := own_at Try.underlying23 Try.info57 hO i p HP.out
  have HE := HD.out w2 v2 g o hb2 hO hg hput
  clear hO hb2 hput hg hv
  go_wp2_with fail
  refine HE.mono ?_
  rintro e w3 ⟨⟨u, rfl⟩, hO3, hb3⟩
  have H3 : Hid (OwnE 57 w.heap.size w3 v2 (l.set i p') ∧ Below w.heap.size w w3) := ⟨hO3, hb3⟩
  clear hO3 hb3
  go_wp2
  exact HPo.out _ _ H3.out.1 H3.out.2

set_option maxRecDepth 100000 in
set_option maxHeartbeats 2000000 in
theorem changedFree_any (n0 : Nat) (v : Value) (l : List Sl) (i : Nat) (p p' : Sl) (hp : l[i]? = some p) (hs : l.length ≤ 64) (w : World) (h : ArgE n0 w v l)
    (hdo : ∀ V v2 g o, Below w.heap.size w V → OwnE 57 w.heap.size V v2 l → w.heap.size ≤ g → (∀ U, Below V.heap.size V U → Puts 57 w.heap.size v2 l i p g o U) →
      Calls Try.prog 33 #[.pointer (some ⟨g, o, none⟩)] V fun e w' => (∃ u, e = .returned u) ∧ OwnE 57 w.heap.size w' v2 (l.set i p') ∧ Below w.heap.size w w') :
    Calls Try.prog 27 #[v, .int .i64 i, .func (.func 33) #[] #[]] w fun e w' => (∃ v', e = .returned v' ∧ OwnE 57 w.heap.size w' v' (l.set i p')) ∧ Below w.heap.size w w' := by
  obtain ⟨post, hpost⟩ : ∃ post : Ending → World → Prop, post = fun e w' => (∃ v', e = .returned v' ∧ OwnE 57 w.heap.size w' v' (l.set i p')) ∧ Below w.heap.size w w' := ⟨_, rfl⟩
  have HPo : Hid (∀ v' w', OwnE 57 w.heap.size w' v' (l.set i p') → Below w.heap.size w w' → post (.returned v') w') := fun v' w' h1 h2 => by rw [hpost]; exact ⟨⟨v', rfl, h1⟩, h2⟩
  rw [← hpost]
  clear hpost
  have HC := clone_any n0 v l w h (by omega)
  have HD : Hid (∀ V v2 g o, Below w.heap.size w V → OwnE 57 w.heap.size V v2 l → w.heap.size ≤ g → (∀ U, Below V.heap.size V U → Puts 57 w.heap.size v2 l i p g o U) →
      Calls Try.prog 33 #[.pointer (some ⟨g, o, none⟩)] V fun e w' => (∃ u, e = .returned u) ∧ OwnE 57 w.heap.size w' v2 (l.set i p') ∧ Below w.heap.size w w') := hdo
  have HP : Hid (l[i]? = some p) := hp
  clear h hdo hp hs
  go_enter Try.func27, Try.ntmps27
  go_wp2_with fail
  refine HC.mono ?_
  rintro e w2 ⟨⟨v2, rfl, hO⟩, hb2⟩
  obtain ⟨g, o, cap, hv, hg, _, hix, hput⟩ := own_at Try.underlying23 Try.info57 hO i p HP.out
  have HE := HD.out w2 v2 g o hb2 hO hg hput
  clear hO hb2 hput hg hv
  go_wp2_with fail
  refine HE.mono ?_
  rintro e w3 ⟨⟨u, rfl⟩, hO3, hb3⟩
  have H3 : Hid (OwnE 57 w.heap.size w3 v2 (l.set i p') ∧ Below w.heap.size w w3) := ⟨hO3, hb3⟩
  clear hO3 hb3
  go_wp2
  exact HPo.out _ _ H3.out.1 H3.out.2

end Go.Proofs.Ytgfdggilplkmfaa
