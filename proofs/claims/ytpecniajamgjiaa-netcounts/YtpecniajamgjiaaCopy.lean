/-
  What one, copied and clonePacket make of a packet: the same one, its octets in a block of their own.
-/
import Derived.Test.YtpecniajamgjiaaSame
import Derived.Deep.RegionHeld3
namespace Go.Proofs.Ytpecniajamgjiaa
open Go.RowKit

/-- What a copy of a packet makes. -/
def CopiesPk (f : FuncId) : Prop := ∀ (n0 : Nat) (us : List Value) (p : Pk) (w : World), pkF.lies n0 w us p → p.2.2.length ≤ 140737488355328 →
    Calls Try.prog f #[.agg us.toArray] w fun e w' => (∃ us', e = .returned (.agg us'.toArray) ∧ pkF.owns w.heap.size w' us' p) ∧ Below w.heap.size w w'

set_option maxRecDepth 100000 in
set_option maxHeartbeats 2000000 in
theorem one_any : CopiesPk 8 := by
  intro n0 us p w h hs
  obtain ⟨a, c, rfl, hA, hf, ht⟩ := pk_view h
  obtain ⟨f, t, d⟩ := p
  simp only at hA hf ht hs
  have HR : Hid (I64 f ∧ I64 t ∧ d.length ≤ 140737488355328) := ⟨hf, ht, hs⟩
  obtain ⟨W, hW⟩ : ∃ W, W = (w.alloc (.cells #[.int .i64 f, .int .i64 t, .slice a d.length c] 27)).alloc (.cells #[.int .i64 0, .int .i64 0, .slice none 0 0] 32) := ⟨_, rfl⟩
  have hb : Below w.heap.size w W := by
    rw [hW]; exact ((Below.refl _ w).alloc (Nat.le_refl _) _).alloc (by simp) _
  have hP : Box W w.heap.size 27 #[.int .i64 f, .int .i64 t, .slice a d.length c] := by
    rw [hW]; exact (Box.new w 27 _).alloc _
  have hR : Box W (w.heap.size + 1) 32 #[.int .i64 0, .int .i64 0, .slice none 0 0] := by
    rw [hW]
    have := Box.new (w.alloc (.cells #[.int .i64 f, .int .i64 t, .slice a d.length c] 27)) 32 #[.int .i64 0, .int .i64 0, .slice none 0 0]
    rwa [World.size_alloc] at this
  have HW : Hid (Below w.heap.size w W ∧ Box W w.heap.size 27 #[.int .i64 f, .int .i64 t, .slice a d.length c] ∧ Box W (w.heap.size + 1) 32 #[.int .i64 0, .int .i64 0, .slice none 0 0]) := ⟨hb, hP, hR⟩
  have HC : Hid (Calls Try.prog 28 #[.slice a d.length c] W.drew fun e w' => (∃ v', e = .returned v' ∧ Own1 W.heap.size w' v' d) ∧ Below W.heap.size W w') :=
    (copy_any n0 _ d W.drew (hA.below (hb.trans (Below.refl _ W).drew)) hs).mono fun e w' h => ⟨h.1, ((Below.refl _ W).drew).trans h.2⟩
  clear hA hf ht hs h hb hP hR
  simp only
  go_enter Try.func8, Try.ntmps8
  go_wp2
  rw [← hW]
  clear hW
  obtain ⟨g0, g1, g2, _⟩ := HW.out.2.1.three
  obtain ⟨g3, g4, g5, g6, g7, g8⟩ := HW.out.2.2.three
  go_region_held3 (fun w' => w'.cell? ⟨w.heap.size, 0, none⟩ = some (.int .i64 f) ∧ w'.cell? ⟨w.heap.size, 1, none⟩ = some (.int .i64 t) ∧ w'.cell? ⟨w.heap.size, 2, none⟩ = some (.slice a d.length c))
    (first | exact ⟨g0, g1, g2⟩ | exact ⟨b0, b1, b2⟩ | go_keep)
    ((go_simp; refine HC.out.mono ?_; rintro e w2 ⟨⟨v2, rfl, hv2⟩, hb2⟩; obtain ⟨x2, y2, rfl⟩ := hv2.shape; obtain ⟨b0, b1, b2, _⟩ := (HW.out.2.1.below hb2 HW.out.2.1.lt).three; obtain ⟨d0, d1, d2, f0, f1, f2⟩ := (HW.out.2.2.below hb2 HW.out.2.2.lt).three))
  have HO : Hid (Own1 W.heap.size w2 (.slice x2 d.length y2) d ∧ Below w.heap.size w w2 ∧ w.heap.size + 1 < W.heap.size) := ⟨hv2, below_any HW.out.1 hb2, HW.out.2.2.lt⟩
  clear hv2 hb2
  go_wp2
  refine bodyPost_ret (v := .agg #[.int .i64 f, .int .i64 t, .slice x2 d.length y2]) (by simp [results, Try.results8, go_sem, *]) rfl ⟨⟨[_, _, _], rfl, ?_⟩, ?_⟩
  · exact pkF.oweaken (pkF.osame (pk_omk (p := (f, t, d)) HO.out.1 HR.out.1 HR.out.2.1) (.set3 HO.out.2.2)) (by have := HO.out.2.2; omega)
  · exact below_set3 HO.out.2.1 (by omega) _ _ _

set_option maxRecDepth 100000 in
set_option maxHeartbeats 2000000 in
theorem copied34 : CopiesPk 34 := by
  intro n0 us p w h hs
  obtain ⟨a, c, rfl, hA, hf, ht⟩ := pk_view h
  obtain ⟨f, t, d⟩ := p
  simp only at hA hf ht hs
  have HR : Hid (I64 f ∧ I64 t ∧ d.length ≤ 140737488355328) := ⟨hf, ht, hs⟩
  obtain ⟨W, hW⟩ : ∃ W, W = (w.alloc (.cells #[.int .i64 f, .int .i64 t, .slice a d.length c] 27)).alloc (.cells #[.int .i64 0, .int .i64 0, .slice none 0 0] 27) := ⟨_, rfl⟩
  have hb : Below w.heap.size w W := by
    rw [hW]; exact ((Below.refl _ w).alloc (Nat.le_refl _) _).alloc (by simp) _
  have hP : Box W w.heap.size 27 #[.int .i64 f, .int .i64 t, .slice a d.length c] := by
    rw [hW]; exact (Box.new w 27 _).alloc _
  have hR : Box W (w.heap.size + 1) 27 #[.int .i64 0, .int .i64 0, .slice none 0 0] := by
    rw [hW]
    have := Box.new (w.alloc (.cells #[.int .i64 f, .int .i64 t, .slice a d.length c] 27)) 27 #[.int .i64 0, .int .i64 0, .slice none 0 0]
    rwa [World.size_alloc] at this
  have HW : Hid (Below w.heap.size w W ∧ Box W w.heap.size 27 #[.int .i64 f, .int .i64 t, .slice a d.length c] ∧ Box W (w.heap.size + 1) 27 #[.int .i64 0, .int .i64 0, .slice none 0 0]) := ⟨hb, hP, hR⟩
  have HC : Hid (Calls Try.prog 44 #[.slice a d.length c] W.drew fun e w' => (∃ v', e = .returned v' ∧ Own1 W.heap.size w' v' d) ∧ Below W.heap.size W w') :=
    (copied_any n0 _ d W.drew (hA.below (hb.trans (Below.refl _ W).drew)) hs).mono fun e w' h => ⟨h.1, ((Below.refl _ W).drew).trans h.2⟩
  clear hA hf ht hs h hb hP hR
  simp only
  go_enter Try.func34, Try.ntmps34
  go_wp2
  rw [← hW]
  clear hW
  obtain ⟨g0, g1, g2, _⟩ := HW.out.2.1.three
  obtain ⟨g3, g4, g5, g6, g7, g8⟩ := HW.out.2.2.three
  go_region_held3 (fun w' => w'.cell? ⟨w.heap.size, 0, none⟩ = some (.int .i64 f) ∧ w'.cell? ⟨w.heap.size, 1, none⟩ = some (.int .i64 t) ∧ w'.cell? ⟨w.heap.size, 2, none⟩ = some (.slice a d.length c))
    (first | exact ⟨g0, g1, g2⟩ | exact ⟨b0, b1, b2⟩ | go_keep)
    ((go_simp; refine HC.out.mono ?_; rintro e w2 ⟨⟨v2, rfl, hv2⟩, hb2⟩; obtain ⟨x2, y2, rfl⟩ := hv2.shape; obtain ⟨b0, b1, b2, _⟩ := (HW.out.2.1.below hb2 HW.out.2.1.lt).three; obtain ⟨d0, d1, d2, f0, f1, f2⟩ := (HW.out.2.2.below hb2 HW.out.2.2.lt).three))
  have HO : Hid (Own1 W.heap.size w2 (.slice x2 d.length y2) d ∧ Below w.heap.size w w2 ∧ w.heap.size + 1 < W.heap.size) := ⟨hv2, below_any HW.out.1 hb2, HW.out.2.2.lt⟩
  clear hv2 hb2
  go_wp2
  refine bodyPost_ret (v := .agg #[.int .i64 f, .int .i64 t, .slice x2 d.length y2]) (by simp [results, Try.results34, go_sem, *]) rfl ⟨⟨[_, _, _], rfl, ?_⟩, ?_⟩
  · exact pkF.oweaken (pkF.osame (pk_omk (p := (f, t, d)) HO.out.1 HR.out.1 HR.out.2.1) (.set3 HO.out.2.2)) (by have := HO.out.2.2; omega)
  · exact below_set3 HO.out.2.1 (by omega) _ _ _

set_option maxHeartbeats 2000000 in
theorem clonePacket_any : CopiesPk 31 := by
  intro n0 us p w h hs
  obtain ⟨a, c, rfl, hA, hf, ht⟩ := pk_view h
  obtain ⟨f, t, d⟩ := p
  simp only at hA hf ht hs
  have HR : Hid (I64 f ∧ I64 t ∧ d.length ≤ 140737488355328) := ⟨hf, ht, hs⟩
  obtain ⟨W, hW⟩ : ∃ W, W = (w.alloc (.cells #[.int .i64 f, .int .i64 t, .slice a d.length c] 32)).alloc (.cells #[.int .i64 0, .int .i64 0, .slice none 0 0] 32) := ⟨_, rfl⟩
  have hb : Below w.heap.size w W := by
    rw [hW]; exact ((Below.refl _ w).alloc (Nat.le_refl _) _).alloc (by simp) _
  have hP : Box W w.heap.size 32 #[.int .i64 f, .int .i64 t, .slice a d.length c] := by
    rw [hW]; exact (Box.new w 32 _).alloc _
  have hR : Box W (w.heap.size + 1) 32 #[.int .i64 0, .int .i64 0, .slice none 0 0] := by
    rw [hW]
    have := Box.new (w.alloc (.cells #[.int .i64 f, .int .i64 t, .slice a d.length c] 32)) 32 #[.int .i64 0, .int .i64 0, .slice none 0 0]
    rwa [World.size_alloc] at this
  have HW : Hid (Below w.heap.size w W ∧ Box W w.heap.size 32 #[.int .i64 f, .int .i64 t, .slice a d.length c] ∧ Box W (w.heap.size + 1) 32 #[.int .i64 0, .int .i64 0, .slice none 0 0]) := ⟨hb, hP, hR⟩
  have HC := clone_bytes n0 _ d W (hA.below hb) hs
  clear hA hf ht hs h hb hP hR
  simp only
  go_enter Try.func31, Try.ntmps31
  go_wp2_with fail
  rw [← hW]
  clear hW
  refine HC.mono ?_
  rintro e w2 ⟨⟨v2, rfl, hv2⟩, hb2⟩
  obtain ⟨x2, y2, rfl⟩ := hv2.shape
  obtain ⟨b0, b1, b2, f0, f1, f2⟩ := (HW.out.2.1.below hb2 HW.out.2.1.lt).three
  obtain ⟨d0, d1, d2, e0, e1, e2⟩ := (HW.out.2.2.below hb2 HW.out.2.2.lt).three
  have HO : Hid (Own1 W.heap.size w2 (.slice x2 d.length y2) d ∧ Below w.heap.size w w2 ∧ w.heap.size + 1 < W.heap.size) := ⟨hv2, below_any HW.out.1 hb2, HW.out.2.2.lt⟩
  clear hv2 hb2 HC
  go_wp2
  refine bodyPost_ret (v := .agg #[.int .i64 f, .int .i64 t, .slice x2 d.length y2]) (by simp [results, Try.results31, go_sem, *]) rfl ⟨⟨[_, _, _], rfl, ?_⟩, ?_⟩
  · exact pkF.oweaken (pkF.osame (pkF.osame (pk_omk (p := (f, t, d)) HO.out.1 HR.out.1 HR.out.2.1) (.set (by have := HO.out.2.2; omega))) (.set3 (by have := HO.out.2.2; omega))) (by have := HO.out.2.2; omega)
  · exact below_set3 (HO.out.2.1.setCell (p := ⟨w.heap.size, 2, none⟩) (Nat.le_refl _) _) (by omega) _ _ _

end Go.Proofs.Ytpecniajamgjiaa
