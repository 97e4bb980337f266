/-
  fs.Stat: what it answers.
  fs.Read: what it answers.
  fs.List: what it answers.
  Plain mathematics: what is made and taken away again leaves all as it was, but the next number; what a directory's names lead to; a file's two names.
-/
import Derived.Test.YtkcnephbaffmbabGreatDoorQ11
import Derived.Test.YtkcnephbaffmbabGreatDoorQ33
import Derived.Test.YtkcnephbaffmbabGreatDoorQ41
namespace Go.Proofs.YtkcnephbaffmbabGreatDoor
open Go.RowKit
open P (ArgT OwnT tv serr sval)
def statN (s : St) (xs : List ByteArray) : Nd := if (wlk s.1 1 xs).2 = 0 then tgt s xs else nd0
def HoldsN (N : Nd) (Q : Nat) (w : World) : Prop := ∃ ea ec fa fc, Box w Q 53 #[.int .i64 N.1, .bool (isD N), .int .i64 (lk N), .slice ea (en N).length ec, .int .i64 (fi N).1, .slice fa (fi N).2.length fc]
theorem HoldsN.nil {w : World} {Q : Nat} (h : Box w Q 53 #[.int .i64 0, .bool false, .int .i64 0, .slice none 0 0, .int .i64 0, .slice none 0 0]) : HoldsN nd0 Q w := ⟨none, 0, none, 0, h⟩
theorem HoldsN.below {N : Nd} {Q : Nat} {w w' : World} (h : HoldsN N Q w) (hb : Below w.heap.size w w') : HoldsN N Q w' := by
  obtain ⟨ea, ec, fa, fc, h⟩ := h
  exact ⟨ea, ec, fa, fc, h.below hb h.lt⟩
set_option maxRecDepth 100000 in
set_option maxHeartbeats 4000000 in
theorem statDo_any (n0 : Nat) (a : Option Addr) (c : Nat) (s : St) (hK : Wk s) (p : ByteArray) (B Q : Nat) (v2 : Value) (w0 V : World) (hA : ndsN.lies n0 w0 [.slice a s.1.length c] s.1) (hb : Below w0.heap.size w0 V) (hB : Box V B 29 #[.slice a s.1.length c, .int .i64 s.2]) (hL : OwnL w0.heap.size V v2 [p]) (hQ : Box V Q 53 #[.int .i64 0, .bool false, .int .i64 0, .slice none 0 0, .int .i64 0, .slice none 0 0]) :
    Calls Tryz.prog 53 #[.pointer (some ⟨B, 0, none⟩), v2, .pointer (some ⟨Q, 0, none⟩)] V fun e w' => (∃ E, e = .returned E ∧ EV (wlk s.1 1 (sval p)).2 E) ∧ V.grownBy w' (some Q) ∧ HoldsN (statN s (sval p)) Q w' := by
  obtain ⟨pb, po, pa, pc, hix, hpc, hT⟩ := hL.at 0 p rfl
  have hix : ∀ W, (Instr.indexAt 71 v2 (.int .i64 0)).run Tryz.prog W = .ok (.pointer (some ⟨pb, po, none⟩)) W := hix
  have HC := walk_any n0 _ a c s hK pa pc (sval p) V.drew (ndsN.below hA (below_any hb (Below.refl _ V).drew)) (hT.below (Below.refl _ V).drew)
  obtain ⟨g0, g1, -, -⟩ := hB.two
  have HQ : Hid (Box V Q 53 #[.int .i64 0, .bool false, .int .i64 0, .slice none 0 0, .int .i64 0, .slice none 0 0] ∧ Box V B 29 #[.slice a s.1.length c, .int .i64 s.2]) := ⟨hQ, hB⟩
  have HND : Hid ((wlk s.1 1 (sval p)).2 = 0 → ∀ W, Below V.heap.size V W → ∃ b o ea ec fa fc, (W.cell? ⟨b, o, none⟩ = some (.int .i64 (tgt s (sval p)).1) ∧ W.cell? ⟨b, o + 1, none⟩ = some (.bool (isD (tgt s (sval p)))) ∧ W.cell? ⟨b, o + 2, none⟩ = some (.int .i64 (lk (tgt s (sval p)))) ∧ W.cell? ⟨b, o + 3, none⟩ = some (.slice ea (en (tgt s (sval p))).length ec) ∧ W.cell? ⟨b, o + 4, none⟩ = some (.int .i64 (fi (tgt s (sval p))).1) ∧ W.cell? ⟨b, o + 5, none⟩ = some (.slice fa (fi (tgt s (sval p))).2.length fc)) ∧ Calls Tryz.prog 55 #[.agg #[.slice a s.1.length c, .int .i64 s.2], .int .i64 (wlk s.1 1 (sval p)).1] W fun e w' => e = .returned (.pointer (some ⟨b, o, none⟩)) ∧ Below W.heap.size W w') := fun h0 W hW => by
    obtain ⟨h1, h2, _⟩ := hK.lead h0
    obtain ⟨k, hk⟩ := List.getElem?_of_mem h1
    have hAW := ndsN.below hA (below_any hb hW)
    obtain ⟨b, o, e, f, hix, -, hcs, hLN⟩ := nds_atN hAW k _ hk
    obtain ⟨ea, ec, rfl, -, -⟩ := hLN.1.1.shape
    obtain ⟨fa, fc, hfe, -, -⟩ := Shape.list_len (S := F.bkN) (ht := Tryz.underlying49) (hc := F.cells49) hLN.2.1
    obtain rfl : f = _ := by simpa using hfe
    refine ⟨b, o, ea, ec, fa, fc, nv_cells hcs, ?_⟩
    rw [h2]
    exact node_any n0 _ s.2 s.1 hK.up k _ hk b o W hAW (by have := hK.len; omega) hix
  have HSN : Hid (statN s (sval p) = if (wlk s.1 1 (sval p)).2 = 0 then tgt s (sval p) else nd0) := rfl
  generalize statN s (sval p) = N at HSN ⊢
  generalize tgt s (sval p) = T at HSN HND
  obtain ⟨ri, hri⟩ : ∃ y, y = (wlk s.1 1 (sval p)).1 := ⟨_, rfl⟩
  obtain ⟨re, hre⟩ : ∃ y, y = (wlk s.1 1 (sval p)).2 := ⟨_, rfl⟩
  rw [← hri, ← hre] at HC HND
  rw [← hre] at HSN ⊢
  obtain ⟨n, hn⟩ : ∃ n, n = s.1.length := ⟨_, rfl⟩
  obtain ⟨nx, hnx⟩ : ∃ n, n = s.2 := ⟨_, rfl⟩
  obtain ⟨m, hm⟩ : ∃ m, m = (sval p).length := ⟨_, rfl⟩
  rw [← hn, ← hnx] at HC HQ HND
  rw [← hm] at HC
  rw [← hn] at g0
  rw [← hnx] at g1
  rw [← hm] at hpc
  have HS0 : V.drew.cell? ⟨B, 0, none⟩ = some (.slice a n c) ∧ V.drew.cell? ⟨B, 1, none⟩ = some (.int .i64 nx) ∧ V.drew.cell? ⟨pb, po, none⟩ = some (.slice pa m pc) := ⟨g0, g1, hpc⟩
  obtain ⟨post, hpost⟩ : ∃ post : Ending → World → Prop, post = fun e w' => (∃ E, e = .returned E ∧ EV re E) ∧ V.grownBy w' (some Q) ∧ HoldsN N Q w' := ⟨_, rfl⟩
  have HPo : Hid (∀ E w', EV re E → V.grownBy w' (some Q) → HoldsN N Q w' → post (.returned E) w') := fun E w' h1 h2 h3 => by rw [hpost]; exact ⟨⟨_, rfl, h1⟩, h2, h3⟩
  rw [← hpost]
  clear hA hb hB hL hQ hT hri hre hn hnx hm hK hpost
  go_enter Tryz.func53, Tryz.ntmps53
  go_wp2
  go_region_held3 (fun U => U.cell? ⟨B, 0, none⟩ = some (.slice a n c) ∧ U.cell? ⟨B, 1, none⟩ = some (.int .i64 nx) ∧ U.cell? ⟨pb, po, none⟩ = some (.slice pa m pc))
    (first | with_reducible exact HS1 | with_reducible exact HS0)
    ((first | (go_at_call 54; refine HC.mono ?_; rintro e w1 ⟨⟨E, rfl, hE⟩, hb1⟩; have HS1 : w1.cell? ⟨B, 0, none⟩ = some (.slice a n c) ∧ w1.cell? ⟨B, 1, none⟩ = some (.int .i64 nx) ∧ w1.cell? ⟨pb, po, none⟩ = some (.slice pa m pc) := ⟨by rw [hb1.cell (p := ⟨B, 0, none⟩) (cell_lt HS0.1)]; exact HS0.1, by rw [hb1.cell (p := ⟨B, 1, none⟩) (cell_lt HS0.2.1)]; exact HS0.2.1, by rw [hb1.cell (p := ⟨pb, po, none⟩) (cell_lt HS0.2.2)]; exact HS0.2.2⟩)))
  have HBL : Hid (Below V.heap.size V w1) := below_any (Below.refl _ V).drew hb1
  clear hb1 HS0 g0 g1 HC hpc
  by_cases hz : re = 0
  · have hN : N = T := by rw [HSN.out, if_pos hz]
    subst hN
    subst hz
    obtain rfl : E = .nilIface := by
      rcases hE with ⟨_, h⟩ | ⟨h, _⟩
      · exact h
      · exact absurd rfl h
    obtain ⟨b, o, ea, ec, fa, fc, hcs, HCN⟩ := HND.out (by simp) w1 HBL.out
    obtain ⟨x0, x1, -⟩ := HS1
    have HCS : Hid (w1.cell? ⟨b, o, none⟩ = some (.int .i64 N.1) ∧ w1.cell? ⟨b, o + 1, none⟩ = some (.bool (isD N)) ∧ w1.cell? ⟨b, o + 2, none⟩ = some (.int .i64 (lk N)) ∧ w1.cell? ⟨b, o + 3, none⟩ = some (.slice ea (en N).length ec) ∧ w1.cell? ⟨b, o + 4, none⟩ = some (.int .i64 (fi N).1) ∧ w1.cell? ⟨b, o + 5, none⟩ = some (.slice fa (fi N).2.length fc)) := hcs
    clear hE hcs
    go_wp2_with fail
    refine HCN.mono ?_
    rintro e2 w2 ⟨rfl, hb2⟩
    have kc : ∀ {x : Addr} {u : Value}, w1.cell? x = some u → w2.cell? x = some u := fun h => by rw [hb2.cell (cell_lt h)]; exact h
    obtain ⟨y0, y1, y2, y3, y4, y5⟩ := HCS.out
    replace y0 := kc y0
    replace y1 := kc y1
    replace y2 := kc y2
    replace y3 := kc y3
    replace y4 := kc y4
    replace y5 := kc y5
    have hQ2 := HQ.out.1.below (below_any HBL.out hb2) HQ.out.1.lt
    have HQ2 : Hid (Box w2 Q 53 #[.int .i64 0, .bool false, .int .i64 0, .slice none 0 0, .int .i64 0, .slice none 0 0] ∧ Below V.heap.size V w2) := ⟨hQ2, below_any HBL.out hb2⟩
    obtain ⟨z0, z1, z2, z3, z4, z5⟩ := hQ2.six
    have f0 := hQ2.frozen 0
    have f1 := hQ2.frozen 1
    have f2 := hQ2.frozen 2
    have f3 := hQ2.frozen 3
    have f4 := hQ2.frozen 4
    have f5 := hQ2.frozen 5
    have HHN : Hid (∀ w', Box w' Q 53 #[.int .i64 N.1, .bool (isD N), .int .i64 (lk N), .slice ea (en N).length ec, .int .i64 (fi N).1, .slice fa (fi N).2.length fc] → HoldsN N Q w') := fun w' h => ⟨ea, ec, fa, fc, h⟩
    generalize N.1 = v0 at y0 HHN
    generalize isD N = v1 at y1 HHN
    generalize lk N = v2' at y2 HHN
    generalize (en N).length = v3 at y3 HHN
    generalize (fi N).1 = v4 at y4 HHN
    generalize (fi N).2.length = v5 at y5 HHN
    clear kc hQ2 hb2 HCN x0 x1 HCS HND HSN
    go_wp2
    refine HPo.out _ _ ev_nil ?_ (HHN.out _ ?_)
    · exact ((((((grown_below HQ2.out.2 _).trans (grown_set _ _ _ _)).trans (grown_set _ _ _ _)).trans (grown_set _ _ _ _)).trans (grown_set _ _ _ _)).trans (grown_set _ _ _ _)).trans (grown_set _ _ _ _)
    · exact (((((HQ2.out.1.set 0 _).set 1 _).set 2 _).set 3 _).set 4 _).set 5 _
  · have hN : N = nd0 := by rw [HSN.out, if_neg hz]
    have HN : Hid (HoldsN N Q w1) := by rw [hN]; exact HoldsN.nil (HQ.out.1.below HBL.out HQ.out.1.lt)
    have HE : Hid (EV re E) := hE
    obtain ⟨a2, l2, c2, s2, rfl⟩ : ∃ a2 l2 c2 s2, E = refV (.slice a2 l2 c2) re s2 := by
      rcases hE with ⟨h, _⟩ | ⟨_, a2, l2, c2, s2, h⟩
      · exact absurd h hz
      · exact ⟨a2, l2, c2, s2, h⟩
    clear hE hz hN HS1
    go_wp2
    exact HPo.out _ _ HE.out (grown_below HBL.out _) HN.out
theorem statN_small {s : St} (h : Ok s) (xs : List ByteArray) : 0 ≤ (fi (statN s xs)).1 ∧ (fi (statN s xs)).1 + ((en (statN s xs)).length : Int) ≤ 4096 := by
  unfold statN
  split
  · rename_i h0
    obtain ⟨h1, _, _⟩ := h.wk.lead h0
    cases hd : isD (tgt s xs)
    · obtain ⟨h2, h3⟩ := h.wk.files _ h1 hd
      have := (F.chk_iff.1 h3).1
      rw [h2]
      simp only [List.length_nil]
      omega
    · obtain ⟨h2, h3⟩ := h.wk.dirs _ h1 hd
      have := h2.1
      rw [h3]
      simp only
      omega
  · decide
set_option maxRecDepth 100000 in
set_option maxHeartbeats 4000000 in
theorem Stat_any (n0 : Nat) (a : Option Addr) (c : Nat) (s : St) (p : ByteArray) (hp : p.size ≤ maxLen) (w : World) (hA : ndsN.lies n0 w [.slice a s.1.length c] s.1) (hg : Glob w) :
    Calls Tryz.prog 21 #[.agg #[.slice a s.1.length c, .int .i64 s.2], .string p] w fun e w' => (∃ N k, e = .returned (.tuple #[.int .i64 N.1, .bool (isD N), .int .i64 ((fi N).1 + ((en N).length : Int)), .int .i64 (lk N), .int .i64 k]) ∧ ((¬ Ok s ∧ N = nd0 ∧ k = 9) ∨ (Ok s ∧ serr p ≠ 0 ∧ N = nd0 ∧ k = serr p) ∨ (Ok s ∧ serr p = 0 ∧ N = statN s (sval p) ∧ k = (wlk s.1 1 (sval p)).2))) ∧ Below w.heap.size w w' := by
  obtain ⟨l, nx⟩ := s
  simp only at hA ⊢
  obtain ⟨W1, hW1⟩ : ∃ W, W = w.alloc (.cells #[.slice a l.length c, .int .i64 nx] 29) := ⟨_, rfl⟩
  obtain ⟨W2, hW2⟩ : ∃ W, W = W1.alloc (.cells #[.int .i64 0, .bool false, .int .i64 0, .slice none 0 0, .int .i64 0, .slice none 0 0] 53) := ⟨_, rfl⟩
  obtain ⟨W3, hW3⟩ : ∃ W, W = W2.alloc (.cells #[.string p] 9) := ⟨_, rfl⟩
  have hb1 : Below w.heap.size w W1 := by rw [hW1]; exact (Below.refl _ w).alloc (Nat.le_refl _) _
  have hb2 : Below w.heap.size w W2 := by rw [hW2]; exact hb1.alloc hb1.size _
  have hb3 : Below w.heap.size w W3 := by rw [hW3]; exact hb2.alloc hb2.size _
  obtain ⟨Q, hQ⟩ : ∃ Q, Q = W1.heap.size := ⟨_, rfl⟩
  have hBQ : Box W3 Q 53 #[.int .i64 0, .bool false, .int .i64 0, .slice none 0 0, .int .i64 0, .slice none 0 0] := by rw [hW3, hW2, hQ]; exact (Box.new _ _ _).alloc _
  have hBS : Box W1 w.heap.size 29 #[.slice a l.length c, .int .i64 nx] := by rw [hW1]; exact Box.new _ _ _
  have hBT : Box W3 W2.heap.size 9 #[.string p] := by rw [hW3]; exact Box.new _ _ _
  have hX : ArgT w.heap.size W3 (.slice (some ⟨W2.heap.size, 0, none⟩) 1 1) [p] := argT_box (ps := [p]) hBT hb2.size (by simp [maxLen]) fun q hq => by rw [List.mem_singleton.1 hq]; exact hp
  have HC := look1_any 53 Tryz.call53 (.pointer (some ⟨Q, 0, none⟩)) n0 w.heap.size a c (l, nx) (some ⟨W2.heap.size, 0, none⟩) 1 [p] (by simp) W3 (ndsN.below hA hb3) hX (hg.below hb3 hg.lt) (some Q) (wlk l 1 (sval p)).2 (HoldsN (statN (l, nx) (sval p)) Q) (fun V V' h hb => h.below hb)
    (fun r hr => by cases hr; have := hg.lt; have := hb1.size; omega)
    (fun hok _ V v2 B hbV hB hBl hL => statDo_any n0 a c (l, nx) hok.wk p B Q v2 W3 V (ndsN.below hA hb3) hbV hB hL (hBQ.below hbV hBQ.lt))
  simp only at HC
  have HSM : Hid (Ok (l, nx) → 0 ≤ (fi (statN (l, nx) (sval p))).1 ∧ (fi (statN (l, nx) (sval p))).1 + ((en (statN (l, nx) (sval p))).length : Int) ≤ 4096) := fun h => statN_small h (sval p)
  obtain ⟨post, hpost⟩ : ∃ post : Ending → World → Prop, post = fun e w' => (∃ N k, e = .returned (.tuple #[.int .i64 N.1, .bool (isD N), .int .i64 ((fi N).1 + ((en N).length : Int)), .int .i64 (lk N), .int .i64 k]) ∧ ((¬ Ok (l, nx) ∧ N = nd0 ∧ k = 9) ∨ (Ok (l, nx) ∧ serr p ≠ 0 ∧ N = nd0 ∧ k = serr p) ∨ (Ok (l, nx) ∧ serr p = 0 ∧ N = statN (l, nx) (sval p) ∧ k = (wlk l 1 (sval p)).2))) ∧ Below w.heap.size w w' := ⟨_, rfl⟩
  have HPo : Hid (∀ N k w', ((¬ Ok (l, nx) ∧ N = nd0 ∧ k = 9) ∨ (Ok (l, nx) ∧ serr p ≠ 0 ∧ N = nd0 ∧ k = serr p) ∨ (Ok (l, nx) ∧ serr p = 0 ∧ N = statN (l, nx) (sval p) ∧ k = (wlk l 1 (sval p)).2)) → Below w.heap.size w w' → post (.returned (.tuple #[.int .i64 N.1, .bool (isD N), .int .i64 ((fi N).1 + ((en N).length : Int)), .int .i64 (lk N), .int .i64 k])) w') := fun N k w' h1 h2 => by rw [hpost]; exact ⟨⟨N, k, rfl, h1⟩, h2⟩
  rw [← hpost]
  have hps : psE [p] = serr p := by rw [psE]; split <;> simp_all [psE]
  rw [hps] at HC
  have HB : Hid (Below w.heap.size w W3 ∧ Box W3 Q 53 #[.int .i64 0, .bool false, .int .i64 0, .slice none 0 0, .int .i64 0, .slice none 0 0] ∧ w.heap.size ≤ Q) := ⟨hb3, hBQ, by rw [hQ]; exact hb1.size⟩
  obtain ⟨n, hn⟩ : ∃ n, n = l.length := ⟨_, rfl⟩
  rw [← hn] at HC hW1 hBS ⊢
  obtain ⟨g0, g1, -, -⟩ := hBS.two
  have g0' : W2.cell? ⟨w.heap.size, 0, none⟩ = some (.slice a n c) := by
    have : Box W2 w.heap.size 29 #[.slice a n c, .int .i64 nx] := by rw [hW2]; exact hBS.alloc _
    exact this.two.1
  have g1' : W2.cell? ⟨w.heap.size, 1, none⟩ = some (.int .i64 nx) := by
    have : Box W2 w.heap.size 29 #[.slice a n c, .int .i64 nx] := by rw [hW2]; exact hBS.alloc _
    exact this.two.2.1
  have hs1 : W1.heap.size = w.heap.size + 1 := by rw [hW1]; exact Array.size_push _
  have hs2 : W2.heap.size = w.heap.size + 1 + 1 := by rw [hW2, ← hs1]; exact Array.size_push _
  rw [hs1] at hQ
  rw [hs2] at HC
  subst hQ
  rw [hW2, hW1] at g0' g1'
  clear hA hg hp hb1 hb2 hb3 hBQ hBS hBT hX hps hn hpost g0 g1 hs1 hs2
  go_enter Tryz.func21, Tryz.ntmps21
  go_wp2_with fail
  rw [← hW1, ← hW2, ← hW3]
  clear hW1 hW2 hW3 g0' g1'
  generalize statN (l, nx) (sval p) = SN at HC HPo HSM
  generalize (wlk l 1 (sval p)).2 = wk at HC HPo
  generalize serr p = pe at HC HPo
  refine HC.mono ?_
  rintro e w4 ⟨r, rfl, hr⟩
  have hq : ∃ N, HoldsN N (w.heap.size + 1) w4 ∧ Below w.heap.size w w4 ∧ ((¬ Ok (l, nx) ∧ N = nd0 ∧ r = 9) ∨ (Ok (l, nx) ∧ pe ≠ 0 ∧ N = nd0 ∧ r = pe) ∨ (Ok (l, nx) ∧ pe = 0 ∧ N = SN ∧ r = wk)) ∧ 0 ≤ (fi N).1 ∧ (fi N).1 + ((en N).length : Int) ≤ 4096 := by
    rcases hr with ⟨h1, h2, h3⟩ | ⟨h1, h2, h3, h4⟩ | ⟨h1, h2, h3, h4, h5⟩
    · exact ⟨nd0, HoldsN.nil (HB.out.2.1.below h3 HB.out.2.1.lt), below_any HB.out.1 h3, .inl ⟨h1, rfl, h2⟩, by decide, by decide⟩
    · exact ⟨nd0, HoldsN.nil (HB.out.2.1.below h4 HB.out.2.1.lt), below_any HB.out.1 h4, .inr (.inl ⟨h1, h2, rfl, h3⟩), by decide, by decide⟩
    · exact ⟨_, h5, HB.out.1.grown h4 HB.out.1.size (fun k hk => by cases hk; omega), .inr (.inr ⟨h1, h2, rfl, h3⟩), HSM.out h1⟩
  obtain ⟨N, ⟨ea, ec, fa, fc, hz⟩, hbz, hrz, hs0, hs1⟩ := hq
  obtain ⟨q0, q1, q2, q3, q4, q5⟩ := hz.six
  have HF : Hid (Below w.heap.size w w4 ∧ ((¬ Ok (l, nx) ∧ N = nd0 ∧ r = 9) ∨ (Ok (l, nx) ∧ pe ≠ 0 ∧ N = nd0 ∧ r = pe) ∨ (Ok (l, nx) ∧ pe = 0 ∧ N = SN ∧ r = wk))) := ⟨hbz, hrz⟩
  have HP := HPo.out N r
  have hlen := run_len Tryz.underlying48 ea (en N).length ec
  have HP2 : Hid (∀ w', Below w.heap.size w w' → post (.returned (.tuple #[.int .i64 N.1, .bool (isD N), .int .i64 ((fi N).1 + ((en N).length : Int)), .int .i64 (lk N), .int .i64 r])) w') := fun w' h => HPo.out N r w' HF.out.2 h
  generalize N.1 = v0 at q0 HP2
  generalize isD N = v1 at q1 HP2
  generalize lk N = v2 at q2 HP2
  generalize (en N).length = v3 at q3 HP2 hs1 hlen
  generalize (fi N).1 = v4 at q4 HP2 hs0 hs1
  clear hz hbz hrz hr HC HP q5
  go_wp2
  go_quiet (fail)
  go_wp2
  refine bodyPost_ret (v := .tuple #[.int .i64 v0, .bool v1, .int .i64 (v4 + (v3 : Int)), .int .i64 v2, .int .i64 r]) (by simp [results, Tryz.results21, go_sem, *]) rfl (HP2.out _ (below_drewN HF.out.1 _))
end Go.Proofs.YtkcnephbaffmbabGreatDoor

namespace Go.Proofs.YtkcnephbaffmbabGreatDoor
open Go.RowKit
open F (Fl flN bksN rdE rdO)
open P (ArgT OwnT tv serr sval)
def frE (s : St) (xs : List ByteArray) (off n : Int) : Int := if filE s.1 xs ≠ 0 then filE s.1 xs else rdE (fi (tgt s xs)) off n
def frO (s : St) (xs : List ByteArray) (off n : Int) : List Int := if filE s.1 xs ≠ 0 then [] else rdO (fi (tgt s xs)) off n
def HoldsO (base : Nat) (O : List Int) (Q : Nat) (w : World) : Prop := ∃ a c, Box w Q 25 #[.slice a O.length c] ∧ Arg base w (.slice a O.length c) O
theorem HoldsO.below {base : Nat} {O : List Int} {Q : Nat} {w w' : World} (h : HoldsO base O Q w) (hb : Below w.heap.size w w') : HoldsO base O Q w' := by
  obtain ⟨a, c, h1, h2⟩ := h
  exact ⟨a, c, h1.below hb h1.lt, h2.below hb⟩
theorem HoldsO.nil {base : Nat} {w : World} {Q : Nat} (h : Box w Q 25 #[.slice none 0 0]) : HoldsO base [] Q w := ⟨none, 0, h, .mk ⟨rfl, .inl ⟨rfl, rfl⟩⟩ (fun _ h => by cases h)⟩
theorem OwnL.at2 {base : Nat} {w : World} {v : Value} {ps : List ByteArray} (h : OwnL base w v ps) (i : Nat) (p : ByteArray) (hp : ps[i]? = some p) :
    ∃ b o a c, (∀ W, (Instr.indexAt 71 v (.int .i64 i)).run Tryz.prog W = .ok (.pointer (some ⟨b, o, none⟩)) W) ∧ w.cell? ⟨b, o, none⟩ = some (.slice a (sval p).length c) ∧ ArgT base w (.slice a (sval p).length c) (sval p) ∧ base ≤ b := by
  obtain ⟨us, h1, h2⟩ := h
  obtain ⟨u, hu, hT⟩ := h2.get hp
  obtain ⟨a, c, rfl⟩ := hT.shape
  obtain ⟨i0, hi0, _, hz, _⟩ := info_parts Tryz.info60
  have hC : Cells base w 1 v ps.length us := .own h1
  obtain ⟨b, o, hix, hb, hc⟩ := hC.index (by omega) Tryz.underlying71 hi0 hz i (List.getElem?_eq_some_iff.1 hp).1
  exact ⟨b, o, a, c, hix, hc 0 _ (by simpa using hu), hT.arg, hb⟩
theorem read_split {fe wi : Int} {l : List Nd} {v : Value} {e : Ending} (h : (fe ≠ 0 ∧ (∃ E, e = .returned (.tuple #[.pointer none, E]) ∧ EV fe E)) ∨ (fe = 0 ∧ ∃ k p b o, l[k]? = some p ∧ p.1 = wi ∧ (∀ W, (Instr.indexAt 27 v (.int .i64 (k : Nat))).run Tryz.prog W = .ok (.pointer (some ⟨b, o, none⟩)) W) ∧ e = .returned (.tuple #[.pointer (some ⟨b, o, none⟩), .nilIface]))) :
    ∃ R1 R2, e = .returned (.tuple #[R1, R2]) ∧ ((fe ≠ 0 ∧ R1 = .pointer none ∧ EV fe R2) ∨ (fe = 0 ∧ R2 = .nilIface ∧ ∃ k q b o, l[k]? = some q ∧ q.1 = wi ∧ (∀ W, (Instr.indexAt 27 v (.int .i64 (k : Nat))).run Tryz.prog W = .ok (.pointer (some ⟨b, o, none⟩)) W) ∧ R1 = .pointer (some ⟨b, o, none⟩))) := by
  rcases h with ⟨h0, E, rfl, h⟩ | ⟨h0, k, p, b, o, h1, h2, h3, rfl⟩
  · exact ⟨_, _, rfl, .inl ⟨h0, rfl, h⟩⟩
  · exact ⟨_, _, rfl, .inr ⟨h0, rfl, k, p, b, o, h1, h2, h3, rfl⟩⟩
set_option maxRecDepth 100000 in
set_option maxHeartbeats 8000000 in
theorem readDo_any (n0 : Nat) (a : Option Addr) (c : Nat) (s : St) (hK : Wk s) (p : ByteArray) (off nn : Int) (ho : I64 off) (hn : I64 nn) (B Q1 Q2 Q : Nat) (v2 : Value) (w0 V : World) (hA : ndsN.lies n0 w0 [.slice a s.1.length c] s.1) (hb : Below w0.heap.size w0 V) (hB : Box V B 29 #[.slice a s.1.length c, .int .i64 s.2]) (hL : OwnL w0.heap.size V v2 [p]) (hQ1 : Box V Q1 3 #[.int .i64 off]) (hQ2 : Box V Q2 3 #[.int .i64 nn]) (hQ : Box V Q 25 #[.slice none 0 0]) (hQw : Q < w0.heap.size) :
    Calls Tryz.prog 36 #[.pointer (some ⟨B, 0, none⟩), v2, .pointer (some ⟨Q1, 0, none⟩), .pointer (some ⟨Q2, 0, none⟩), .pointer (some ⟨Q, 0, none⟩)] V fun e w' => (∃ E, e = .returned E ∧ EV (frE s (sval p) off nn) E) ∧ V.grownBy w' (some Q) ∧ HoldsO w0.heap.size (frO s (sval p) off nn) Q w' := by
  obtain ⟨pb, po, pa, pc, hix, hpc, hT, hpb⟩ := hL.at2 0 p rfl
  have HPB : Hid (w0.heap.size ≤ pb) := hpb
  have hix : ∀ W, (Instr.indexAt 71 v2 (.int .i64 0)).run Tryz.prog W = .ok (.pointer (some ⟨pb, po, none⟩)) W := hix
  have HC := findFile_any n0 _ a c s hK pa pc (sval p) V.drew (ndsN.below hA (below_any hb (Below.refl _ V).drew)) (hT.below (Below.refl _ V).drew)
  obtain ⟨g0, g1, -, -⟩ := hB.two
  have HQ : Hid (Box V Q 25 #[.slice none 0 0] ∧ Box V Q1 3 #[.int .i64 off] ∧ Box V Q2 3 #[.int .i64 nn] ∧ Q < w0.heap.size ∧ w0.heap.size ≤ V.heap.size ∧ V.cell? ⟨pb, po, none⟩ = some (.slice pa (sval p).length pc)) := ⟨hQ, hQ1, hQ2, hQw, hb.size, hpc⟩
  have HNN : Hid (filE s.1 (sval p) = 0 → (wlk s.1 1 (sval p)).1 = (tgt s (sval p)).1 ∧ ∀ q ∈ s.1, q.1 = (tgt s (sval p)).1 → q = tgt s (sval p)) := fun h0 => by
    have hl := hK.lead (fil_zero h0).1
    refine ⟨hl.2.1, fun q hq he => ?_⟩
    have h1 := gt_of hK.up hq
    have h2 := gt_of hK.up hl.1
    rw [← h1, he, h2]
  have HAV : Hid (∀ W, Below V.heap.size V W → ndsN.lies n0 W [.slice a s.1.length c] s.1) := fun W hW => ndsN.below hA (below_any hb hW)
  have HRE : Hid (frE s (sval p) off nn = (if filE s.1 (sval p) ≠ 0 then filE s.1 (sval p) else rdE (fi (tgt s (sval p))) off nn) ∧ frO s (sval p) off nn = (if filE s.1 (sval p) ≠ 0 then [] else rdO (fi (tgt s (sval p))) off nn) ∧ I64 off ∧ I64 nn) := ⟨rfl, rfl, ho, hn⟩
  generalize frE s (sval p) off nn = re at HRE ⊢
  generalize frO s (sval p) off nn = ro at HRE ⊢
  generalize tgt s (sval p) = T at HNN HRE
  generalize (wlk s.1 1 (sval p)).1 = wi at HC HNN
  generalize filE s.1 (sval p) = fe at HC HNN HRE
  obtain ⟨n, hn'⟩ : ∃ n, n = s.1.length := ⟨_, rfl⟩
  obtain ⟨nx, hnx⟩ : ∃ n, n = s.2 := ⟨_, rfl⟩
  obtain ⟨m, hm⟩ : ∃ m, m = (sval p).length := ⟨_, rfl⟩
  obtain ⟨l, hl⟩ : ∃ l, l = s.1 := ⟨_, rfl⟩
  rw [← hn', ← hnx, ← hm, ← hl] at HC
  rw [← hn', ← hl] at HAV
  rw [← hl] at HNN
  rw [← hm] at HQ hpc
  rw [← hn'] at g0
  rw [← hnx] at g1
  have HS0 : V.drew.cell? ⟨B, 0, none⟩ = some (.slice a n c) ∧ V.drew.cell? ⟨B, 1, none⟩ = some (.int .i64 nx) ∧ V.drew.cell? ⟨pb, po, none⟩ = some (.slice pa m pc) := ⟨g0, g1, hpc⟩
  obtain ⟨post, hpost⟩ : ∃ post : Ending → World → Prop, post = fun e w' => (∃ E, e = .returned E ∧ EV re E) ∧ V.grownBy w' (some Q) ∧ HoldsO w0.heap.size ro Q w' := ⟨_, rfl⟩
  have HPo : Hid (∀ E w', EV re E → V.grownBy w' (some Q) → HoldsO w0.heap.size ro Q w' → post (.returned E) w') := fun E w' h1 h2 h3 => by rw [hpost]; exact ⟨⟨_, rfl, h1⟩, h2, h3⟩
  rw [← hpost]
  clear hA hb hB hL hQ hQ1 hQ2 hT hpb hn' hnx hm hl hK hpost ho hn hQw
  go_enter Tryz.func36, Tryz.ntmps36
  go_wp2
  go_region_held3 (fun U => U.cell? ⟨B, 0, none⟩ = some (.slice a n c) ∧ U.cell? ⟨B, 1, none⟩ = some (.int .i64 nx) ∧ U.cell? ⟨pb, po, none⟩ = some (.slice pa m pc))
    (first | with_reducible exact HS1 | with_reducible exact HS0)
    ((first | (go_at_call 37; refine HC.mono ?_; rintro e w1 ⟨hr, hb1⟩; have HS1 : w1.cell? ⟨B, 0, none⟩ = some (.slice a n c) ∧ w1.cell? ⟨B, 1, none⟩ = some (.int .i64 nx) ∧ w1.cell? ⟨pb, po, none⟩ = some (.slice pa m pc) := ⟨by rw [hb1.cell (p := ⟨B, 0, none⟩) (cell_lt HS0.1)]; exact HS0.1, by rw [hb1.cell (p := ⟨B, 1, none⟩) (cell_lt HS0.2.1)]; exact HS0.2.1, by rw [hb1.cell (p := ⟨pb, po, none⟩) (cell_lt HS0.2.2)]; exact HS0.2.2⟩; obtain ⟨R1, R2, rfl, hr2⟩ : ∃ R1 R2, e = .returned (.tuple #[R1, R2]) ∧ ((fe ≠ 0 ∧ R1 = .pointer none ∧ EV fe R2) ∨ (fe = 0 ∧ R2 = .nilIface ∧ ∃ k q b o, l[k]? = some q ∧ q.1 = wi ∧ (∀ W, (Instr.indexAt 27 (.slice a n c) (.int .i64 (k : Nat))).run Tryz.prog W = .ok (.pointer (some ⟨b, o, none⟩)) W) ∧ R1 = .pointer (some ⟨b, o, none⟩))) := read_split hr)))
  have HBL : Hid (Below V.heap.size V w1) := below_any (Below.refl _ V).drew hb1
  have HPC : Hid (w1.cell? ⟨pb, po, none⟩ = some (.slice pa m pc)) := HS1.2.2
  clear hb1 HS0 HS1 g0 g1 HC hpc hr
  rcases hr2 with ⟨hne, rfl, hE⟩ | ⟨h0, rfl, k, q, b, o, hk, hqw, hixq, rfl⟩
  · have hre : re = fe := by rw [HRE.out.1, if_pos hne]
    have hro : ro = [] := by rw [HRE.out.2.1, if_pos hne]
    have HE : Hid (EV re R2 ∧ HoldsO w0.heap.size ro Q w1) := ⟨by rw [hre]; exact hE, by rw [hro]; exact HoldsO.nil (HQ.out.1.below HBL.out HQ.out.1.lt)⟩
    obtain ⟨a2, l2, c2, s2, rfl⟩ : ∃ a2 l2 c2 s2, R2 = refV (.slice a2 l2 c2) fe s2 := by
      rcases hE with ⟨h, _⟩ | ⟨_, a2, l2, c2, s2, h⟩
      · exact absurd h hne
      · exact ⟨a2, l2, c2, s2, h⟩
    clear hE hne hre hro
    go_wp2
    exact HPo.out _ _ HE.out.1 (grown_below HBL.out _) HE.out.2
  subst h0
  have hqT : q = T := (HNN.out rfl).2 q (List.mem_of_getElem? hk) (hqw.trans (HNN.out rfl).1)
  subst hqT
  obtain ⟨b', o', e', f', hix', -, hcs, hLN⟩ := nds_atN (HAV.out w1 HBL.out) k q hk
  have hbo := (hix' w1).symm.trans (hixq w1)
  simp only [Result.ok.injEq, Value.pointer.injEq, Option.some.injEq, Addr.mk.injEq, and_true] at hbo
  obtain ⟨rfl, rfl⟩ := hbo
  obtain ⟨fa, fc, hfe, -, -⟩ := Shape.list_len (S := F.bkN) (ht := Tryz.underlying49) (hc := F.cells49) hLN.2.1
  obtain rfl : f' = _ := by simpa using hfe
  obtain ⟨-, -, -, -, c4, c5⟩ := nv_cells hcs
  have HCR := F.read_any n0 _ (fi q) off nn w1.drew (flN.below hLN.file (Below.refl _ w1).drew) HRE.out.2.2.1 HRE.out.2.2.2
  have HR2 : Hid (re = rdE (fi q) off nn ∧ ro = rdO (fi q) off nn) := by
    have h1 := HRE.out.1
    have h2 := HRE.out.2.1
    rw [if_neg (by decide)] at h1 h2
    exact ⟨h1, h2⟩
  have q1 := (HQ.out.2.1.below HBL.out HQ.out.2.1.lt).cell 0 rfl
  have q2 := (HQ.out.2.2.1.below HBL.out HQ.out.2.2.1.lt).cell 0 rfl
  generalize (fi q).1 = z0 at c4 HCR
  generalize (fi q).2.length = l0 at c5 HCR
  generalize rdE (fi q) off nn = rke at HCR HR2
  generalize rdO (fi q) off nn = rko at HCR HR2
  have HS0 : w1.drew.cell? ⟨b', o' + 4, none⟩ = some (.int .i64 z0) ∧ w1.drew.cell? ⟨b', o' + 4 + 1, none⟩ = some (.slice fa l0 fc) ∧ w1.drew.cell? ⟨Q1, 0, none⟩ = some (.int .i64 off) ∧ w1.drew.cell? ⟨Q2, 0, none⟩ = some (.int .i64 nn) := ⟨c4, c5, q1, q2⟩
  clear hcs hLN hfe hix' hixq hqw hk c4 c5 q1 q2
  go_wp2
  go_region_held3 (fun U => U.cell? ⟨b', o' + 4, none⟩ = some (.int .i64 z0) ∧ U.cell? ⟨b', o' + 4 + 1, none⟩ = some (.slice fa l0 fc) ∧ U.cell? ⟨Q1, 0, none⟩ = some (.int .i64 off) ∧ U.cell? ⟨Q2, 0, none⟩ = some (.int .i64 nn))
    (first | with_reducible exact HS1 | with_reducible exact HS0)
    ((first | (go_at_call 38; refine HCR.mono ?_; rintro e2 w2 ⟨⟨v3, rfl, hv3⟩, hb2⟩; have HS1 : w2.cell? ⟨b', o' + 4, none⟩ = some (.int .i64 z0) ∧ w2.cell? ⟨b', o' + 4 + 1, none⟩ = some (.slice fa l0 fc) ∧ w2.cell? ⟨Q1, 0, none⟩ = some (.int .i64 off) ∧ w2.cell? ⟨Q2, 0, none⟩ = some (.int .i64 nn) := ⟨by rw [hb2.cell (cell_lt HS0.1)]; exact HS0.1, by rw [hb2.cell (cell_lt HS0.2.1)]; exact HS0.2.1, by rw [hb2.cell (cell_lt HS0.2.2.1)]; exact HS0.2.2.1, by rw [hb2.cell (cell_lt HS0.2.2.2)]; exact HS0.2.2.2⟩)))
  obtain ⟨ra, rc, rfl, -, -, -⟩ := hv3.shape
  have HB2 : Hid (Below V.heap.size V w2) := below_any HBL.out (below_any (Below.refl _ w1).drew hb2)
  have hQ2 := HQ.out.1.below HB2.out HQ.out.1.lt
  have HF : Hid (HoldsO w0.heap.size ro Q (w2.setCell ⟨Q, 0, none⟩ (.slice ra rko.length rc)) ∧ V.grownBy (w2.setCell ⟨Q, 0, none⟩ (.slice ra rko.length rc)) (some Q)) := by
    refine ⟨?_, (grown_below HB2.out _).trans (grown_set _ _ _ _)⟩
    rw [HR2.out.2]
    refine ⟨ra, rc, hQ2.set 0 _, ?_⟩
    have h1 : Arg w1.heap.size w2 (.slice ra rko.length rc) rko := hv3
    exact (h1.keep (.set (by have := HQ.out.2.2.2; have := HBL.out.size; omega))).weaken (by have := HQ.out.2.2.2; have := HBL.out.size; omega)
  have y0 := hQ2.cell 0 rfl
  have f0 := hQ2.frozen 0
  have pc0 : (w2.setCell ⟨Q, 0, none⟩ (.slice ra rko.length rc)).cell? ⟨pb, po, none⟩ = some (.slice pa m pc) := by
    have h1 : w2.cell? ⟨pb, po, none⟩ = some (.slice pa m pc) := by
      have h0 : w1.drew.cell? ⟨pb, po, none⟩ = some (.slice pa m pc) := HPC.out
      rw [hb2.cell (cell_lt h0)]; exact h0
    exact (Same.set (n := w0.heap.size) HQ.out.2.2.2.1).cell HPB.out h1
  generalize rko.length = rl at HF pc0 ⊢
  clear hv3 hb2 hQ2 HS0 HS1 HCR
  by_cases hz : rke = 0
  · have hre : re = 0 := HR2.out.1.trans hz
    subst hz
    have HRZ : Hid (re = 0) := hre
    have hrf := refuse_ok (.slice pa m pc) (w2.setCell ⟨Q, 0, none⟩ (.slice ra rl rc))
    clear hre
    go_wp2_with fail
    refine hrf.mono ?_
    rintro e5 w5 ⟨rfl, rfl⟩
    go_wp2
    exact HPo.out _ _ (by rw [HRZ.out]; exact ev_nil) HF.out.2 HF.out.1
  · have HRZ : Hid (re = rke ∧ rke ≠ 0) := ⟨HR2.out.1, hz⟩
    have hrf := refuse_bad rke hz pa m pc (w2.setCell ⟨Q, 0, none⟩ (.slice ra rl rc))
    go_wp2_with fail
    refine hrf.mono ?_
    rintro e5 w5 ⟨rfl, rfl⟩
    go_wp2
    exact HPo.out _ _ (by rw [HRZ.out.1]; exact ev_ref HRZ.out.2 _ _ _ _) HF.out.2 HF.out.1
set_option maxRecDepth 100000 in
set_option maxHeartbeats 4000000 in
theorem Read_any (n0 : Nat) (a : Option Addr) (c : Nat) (s : St) (p : ByteArray) (hp : p.size ≤ maxLen) (off nn : Int) (ho : I64 off) (hn : I64 nn) (w : World) (hA : ndsN.lies n0 w [.slice a s.1.length c] s.1) (hg : Glob w) :
    Calls Tryz.prog 11 #[.agg #[.slice a s.1.length c, .int .i64 s.2], .string p, .int .i64 off, .int .i64 nn] w fun e w' => (∃ v O k, e = .returned (.tuple #[v, .int .i64 k]) ∧ Arg w.heap.size w' v O ∧ ((¬ Ok s ∧ O = [] ∧ k = 9) ∨ (Ok s ∧ serr p ≠ 0 ∧ O = [] ∧ k = serr p) ∨ (Ok s ∧ serr p = 0 ∧ O = frO s (sval p) off nn ∧ k = frE s (sval p) off nn))) ∧ Below w.heap.size w w' := by
  obtain ⟨W1, hW1⟩ : ∃ W, W = w.alloc (.cells #[.slice a s.1.length c, .int .i64 s.2] 29) := ⟨_, rfl⟩
  obtain ⟨V1, hV1⟩ : ∃ W, W = W1.alloc (.cells #[.int .i64 off] 3) := ⟨_, rfl⟩
  obtain ⟨V2, hV2⟩ : ∃ W, W = V1.alloc (.cells #[.int .i64 nn] 3) := ⟨_, rfl⟩
  obtain ⟨W2, hW2⟩ : ∃ W, W = V2.alloc (.cells #[.slice none 0 0] 25) := ⟨_, rfl⟩
  obtain ⟨W3, hW3⟩ : ∃ W, W = W2.alloc (.cells #[.string p] 9) := ⟨_, rfl⟩
  have hb1 : Below w.heap.size w W1 := by rw [hW1]; exact (Below.refl _ w).alloc (Nat.le_refl _) _
  have hbv : Below w.heap.size w V1 := by rw [hV1]; exact hb1.alloc hb1.size _
  have hbv2 : Below w.heap.size w V2 := by rw [hV2]; exact hbv.alloc hbv.size _
  have hb2 : Below w.heap.size w W2 := by rw [hW2]; exact hbv2.alloc hbv2.size _
  have hb3 : Below w.heap.size w W3 := by rw [hW3]; exact hb2.alloc hb2.size _
  have hs1 : W1.heap.size = w.heap.size + 1 := by rw [hW1]; exact Array.size_push _
  have hsv : V1.heap.size = w.heap.size + 1 + 1 := by rw [hV1, ← hs1]; exact Array.size_push _
  have hsv2 : V2.heap.size = w.heap.size + 1 + 1 + 1 := by rw [hV2, ← hsv]; exact Array.size_push _
  have hs2 : W2.heap.size = w.heap.size + 1 + 1 + 1 + 1 := by rw [hW2, ← hsv2]; exact Array.size_push _
  have hs3 : W3.heap.size = w.heap.size + 1 + 1 + 1 + 1 + 1 := by rw [hW3, ← hs2]; exact Array.size_push _
  have hBS : Box W2 w.heap.size 29 #[.slice a s.1.length c, .int .i64 s.2] := by
    have : Box W1 w.heap.size 29 #[.slice a s.1.length c, .int .i64 s.2] := by rw [hW1]; exact Box.new _ _ _
    rw [hW2, hV2, hV1]; exact ((this.alloc _).alloc _).alloc _
  have hBQ1 : Box W3 (w.heap.size + 1) 3 #[.int .i64 off] := by rw [hW3, hW2, hV2, hV1, ← hs1]; exact (((Box.new _ _ _).alloc _).alloc _).alloc _
  have hBQ2 : Box W3 (w.heap.size + 1 + 1) 3 #[.int .i64 nn] := by rw [hW3, hW2, hV2, ← hsv]; exact ((Box.new _ _ _).alloc _).alloc _
  have hBQ : Box W3 (w.heap.size + 1 + 1 + 1) 25 #[.slice none 0 0] := by rw [hW3, hW2, ← hsv2]; exact (Box.new _ _ _).alloc _
  have hBT : Box W3 W2.heap.size 9 #[.string p] := by rw [hW3]; exact Box.new _ _ _
  have hX : ArgT w.heap.size W3 (.slice (some ⟨W2.heap.size, 0, none⟩) 1 1) [p] := argT_box (ps := [p]) hBT hb2.size (by simp [maxLen]) fun q hq => by rw [List.mem_singleton.1 hq]; exact hp
  have HC := look3_any 36 Tryz.call36 (.pointer (some ⟨w.heap.size + 1, 0, none⟩)) (.pointer (some ⟨w.heap.size + 1 + 1, 0, none⟩)) (.pointer (some ⟨w.heap.size + 1 + 1 + 1, 0, none⟩)) n0 w.heap.size a c s (some ⟨W2.heap.size, 0, none⟩) 1 [p] (by simp) W3 (ndsN.below hA hb3) hX (hg.below hb3 hg.lt) (some (w.heap.size + 1 + 1 + 1)) (frE s (sval p) off nn) (HoldsO W3.heap.size (frO s (sval p) off nn) (w.heap.size + 1 + 1 + 1)) (fun V V' h hb => h.below hb)
    (fun r hr => by cases hr; omega)
    (fun hok _ V v2 B hbV hB hBl hL => readDo_any n0 a c s hok.wk p off nn ho hn B (w.heap.size + 1) (w.heap.size + 1 + 1) (w.heap.size + 1 + 1 + 1) v2 W3 V (ndsN.below hA hb3) hbV hB hL (hBQ1.below hbV hBQ1.lt) (hBQ2.below hbV hBQ2.lt) (hBQ.below hbV hBQ.lt) (by omega))
  rw [hs2] at HC
  have hps : psE [p] = serr p := by rw [psE]; split <;> simp_all [psE]
  rw [hps] at HC
  obtain ⟨post, hpost⟩ : ∃ post : Ending → World → Prop, post = fun e w' => (∃ v O k, e = .returned (.tuple #[v, .int .i64 k]) ∧ Arg w.heap.size w' v O ∧ ((¬ Ok s ∧ O = [] ∧ k = 9) ∨ (Ok s ∧ serr p ≠ 0 ∧ O = [] ∧ k = serr p) ∨ (Ok s ∧ serr p = 0 ∧ O = frO s (sval p) off nn ∧ k = frE s (sval p) off nn))) ∧ Below w.heap.size w w' := ⟨_, rfl⟩
  have HPo : Hid (∀ v O k w', Arg w.heap.size w' v O → ((¬ Ok s ∧ O = [] ∧ k = 9) ∨ (Ok s ∧ serr p ≠ 0 ∧ O = [] ∧ k = serr p) ∨ (Ok s ∧ serr p = 0 ∧ O = frO s (sval p) off nn ∧ k = frE s (sval p) off nn)) → Below w.heap.size w w' → post (.returned (.tuple #[v, .int .i64 k])) w') := fun v O k w' h1 h2 h3 => by rw [hpost]; exact ⟨⟨v, O, k, rfl, h1, h2⟩, h3⟩
  rw [← hpost]
  have HB : Hid (Box W3 (w.heap.size + 1 + 1 + 1) 25 #[.slice none 0 0] ∧ Below w.heap.size w W3) := ⟨hBQ, hb3⟩
  generalize frE s (sval p) off nn = fe at HC HPo
  generalize frO s (sval p) off nn = fo at HC HPo
  generalize serr p = pe at HC HPo
  obtain ⟨g0, g1, -, -⟩ := hBS.two
  rw [hW2, hV2, hV1, hW1] at g0 g1
  obtain ⟨n, hn'⟩ : ∃ n, n = s.1.length := ⟨_, rfl⟩
  obtain ⟨nx, hnx⟩ : ∃ n, n = s.2 := ⟨_, rfl⟩
  rw [← hn'] at HC hW1 g0 g1 ⊢
  rw [← hnx] at HC hW1 g0 g1 ⊢
  clear hA hg hp hb1 hbv hbv2 hb2 hb3 hBQ hBQ1 hBQ2 hBS hBT hX hn' hnx hpost hs1 hsv hsv2 hs2 hs3 ho hn hps
  go_enter Tryz.func11, Tryz.ntmps11
  go_wp2_with fail
  rw [← hW1, ← hV1, ← hV2, ← hW2, ← hW3]
  clear hW1 hV1 hV2 hW2 hW3 g0 g1
  refine HC.mono ?_
  rintro e w4 ⟨r, rfl, hr⟩
  have hq : ∃ O, HoldsO w.heap.size O (w.heap.size + 1 + 1 + 1) w4 ∧ Below w.heap.size w w4 ∧ ((¬ Ok s ∧ O = [] ∧ r = 9) ∨ (Ok s ∧ pe ≠ 0 ∧ O = [] ∧ r = pe) ∨ (Ok s ∧ pe = 0 ∧ O = fo ∧ r = fe)) := by
    rcases hr with ⟨h1, h2, h3⟩ | ⟨h1, h2, h3, h4⟩ | ⟨h1, h2, h3, h4, h5⟩
    · exact ⟨[], HoldsO.nil (HB.out.1.below h3 HB.out.1.lt), below_any HB.out.2 h3, .inl ⟨h1, rfl, h2⟩⟩
    · exact ⟨[], HoldsO.nil (HB.out.1.below h4 HB.out.1.lt), below_any HB.out.2 h4, .inr (.inl ⟨h1, h2, rfl, h3⟩)⟩
    · obtain ⟨oa, oc, o1, o2⟩ := h5
      exact ⟨_, ⟨oa, oc, o1, o2.weaken HB.out.2.size⟩, HB.out.2.grown h4 HB.out.2.size (fun k hk => by cases hk; omega), .inr (.inr ⟨h1, h2, rfl, h3⟩)⟩
  obtain ⟨O, ⟨oa, oc, hz, hAo⟩, hbz, hrz⟩ := hq
  have q0 := hz.cell 0 rfl
  have HF : Hid (post (.returned (.tuple #[.slice oa O.length oc, .int .i64 r])) w4) := HPo.out _ _ _ _ hAo hrz hbz
  generalize O.length = ol at q0 HF
  clear hz hbz hrz hr HC hAo
  go_wp2
  exact HF.out
end Go.Proofs.YtkcnephbaffmbabGreatDoor

namespace Go.Proofs.YtkcnephbaffmbabGreatDoor
open Go.RowKit
open D (En ArgE)
open P (ArgT OwnT tv TOk serr sval)
attribute [local go_sem ↓] Go.wp_at_zero Go.wp_at_succ
theorem dir_split {fe wi : Int} {l : List Nd} {v : Value} {e : Ending} (h : (fe ≠ 0 ∧ (∃ E, e = .returned (.tuple #[.pointer none, E]) ∧ EV fe E)) ∨ (fe = 0 ∧ ∃ k p b o, l[k]? = some p ∧ p.1 = wi ∧ (∀ W, (Instr.indexAt 27 v (.int .i64 (k : Nat))).run Tryz.prog W = .ok (.pointer (some ⟨b, o, none⟩)) W) ∧ e = .returned (.tuple #[.pointer (some ⟨b, o, none⟩), .nilIface]))) :
    ∃ R1 R2, e = .returned (.tuple #[R1, R2]) ∧ ((fe ≠ 0 ∧ R1 = .pointer none ∧ EV fe R2) ∨ (fe = 0 ∧ R2 = .nilIface ∧ ∃ k q b o, l[k]? = some q ∧ q.1 = wi ∧ (∀ W, (Instr.indexAt 27 v (.int .i64 (k : Nat))).run Tryz.prog W = .ok (.pointer (some ⟨b, o, none⟩)) W) ∧ R1 = .pointer (some ⟨b, o, none⟩))) := read_split h
def lsO (s : St) (xs : List ByteArray) : List ByteArray := if dirE s.1 xs ≠ 0 then [] else (en (tgt s xs)).map (·.1)
def HoldsT (base : Nat) (O : List ByteArray) (Q : Nat) (w : World) : Prop := ∃ v, Box w Q 60 #[v] ∧ OwnT base w v O
theorem HoldsT.below {base : Nat} {O : List ByteArray} {Q : Nat} {w w' : World} (h : HoldsT base O Q w) (hb : Below w.heap.size w w') : HoldsT base O Q w' := by
  obtain ⟨v, h1, h2⟩ := h
  exact ⟨v, h1.below hb h1.lt, h2.below hb⟩
theorem HoldsT.nil {base : Nat} {w : World} {Q : Nat} (h : Box w Q 60 #[.slice none 0 0]) : HoldsT base [] Q w := ⟨_, h, World.ownsRow_nil _ _ _ _, fun _ h => by cases h⟩
set_option maxRecDepth 100000 in
set_option maxHeartbeats 8000000 in
theorem listDo_any (n0 : Nat) (a : Option Addr) (c : Nat) (s : St) (hK : Wk s) (p : ByteArray) (B Q : Nat) (v2 : Value) (wE w0 V : World) (hA : ndsN.lies n0 wE [.slice a s.1.length c] s.1) (hE0 : Below wE.heap.size wE V) (hQE : wE.heap.size ≤ Q) (hb : Below w0.heap.size w0 V) (hB : Box V B 29 #[.slice a s.1.length c, .int .i64 s.2]) (hL : OwnL w0.heap.size V v2 [p]) (hQ : Box V Q 60 #[.slice none 0 0]) :
    Calls Tryz.prog 50 #[.pointer (some ⟨B, 0, none⟩), v2, .pointer (some ⟨Q, 0, none⟩)] V fun e w' => (∃ E, e = .returned E ∧ EV (dirE s.1 (sval p)) E) ∧ V.grownBy w' (some Q) ∧ HoldsT w0.heap.size (lsO s (sval p)) Q w' := by
  obtain ⟨i3, hi3, hz30, hz31, hz32⟩ := info_parts Tryz.info9
  obtain ⟨pb, po, pa, pc, hix, hpc, hT⟩ := hL.at 0 p rfl
  have hix : ∀ W, (Instr.indexAt 71 v2 (.int .i64 0)).run Tryz.prog W = .ok (.pointer (some ⟨pb, po, none⟩)) W := hix
  have HC := findDir_any n0 _ a c s hK pa pc (sval p) V.drew (ndsN.below hA (below_any hE0 (Below.refl _ V).drew)) (hT.below (Below.refl _ V).drew)
  obtain ⟨g0, g1, -, -⟩ := hB.two
  have HQ : Hid (Box V Q 60 #[.slice none 0 0] ∧ Below wE.heap.size wE V ∧ wE.heap.size ≤ Q ∧ w0.heap.size ≤ V.heap.size) := ⟨hQ, hE0, hQE, hb.size⟩
  have HNN : Hid (dirE s.1 (sval p) = 0 → (wlk s.1 1 (sval p)).1 = (tgt s (sval p)).1 ∧ (∀ q ∈ s.1, q.1 = (tgt s (sval p)).1 → q = tgt s (sval p)) ∧ (en (tgt s (sval p))).length ≤ 63 ∧ ∀ e ∈ en (tgt s (sval p)), e.1.size ≤ 16) := fun h0 => by
    have hl := hK.lead (dir_zero h0).1
    have hsm := hK.small.2 _ hl.1
    refine ⟨hl.2.1, fun q hq he => ?_, (hK.dirs _ hl.1 (dir_zero h0).2).1.1, hsm.2.1⟩
    have h1 := gt_of hK.up hq
    have h2 := gt_of hK.up hl.1
    rw [← h1, he, h2]
  have HAV : Hid (ndsN.lies n0 wE [.slice a s.1.length c] s.1) := hA
  have HRE : Hid (lsO s (sval p) = (if dirE s.1 (sval p) ≠ 0 then [] else (en (tgt s (sval p))).map (·.1))) := rfl
  generalize lsO s (sval p) = ro at HRE ⊢
  generalize tgt s (sval p) = T at HNN HRE
  generalize (wlk s.1 1 (sval p)).1 = wi at HC HNN
  generalize dirE s.1 (sval p) = fe at HC HNN HRE ⊢
  obtain ⟨n, hn'⟩ : ∃ n, n = s.1.length := ⟨_, rfl⟩
  obtain ⟨nx, hnx⟩ : ∃ n, n = s.2 := ⟨_, rfl⟩
  obtain ⟨m, hm⟩ : ∃ m, m = (sval p).length := ⟨_, rfl⟩
  obtain ⟨l, hl⟩ : ∃ l, l = s.1 := ⟨_, rfl⟩
  rw [← hn', ← hnx, ← hm, ← hl] at HC
  rw [← hn', ← hl] at HAV
  rw [← hl] at HNN
  rw [← hm] at hpc
  rw [← hn'] at g0
  rw [← hnx] at g1
  have HS0 : V.drew.cell? ⟨B, 0, none⟩ = some (.slice a n c) ∧ V.drew.cell? ⟨B, 1, none⟩ = some (.int .i64 nx) ∧ V.drew.cell? ⟨pb, po, none⟩ = some (.slice pa m pc) := ⟨g0, g1, hpc⟩
  obtain ⟨post, hpost⟩ : ∃ post : Ending → World → Prop, post = fun e w' => (∃ E, e = .returned E ∧ EV fe E) ∧ V.grownBy w' (some Q) ∧ HoldsT w0.heap.size ro Q w' := ⟨_, rfl⟩
  have HPo : Hid (∀ E w', EV fe E → V.grownBy w' (some Q) → HoldsT w0.heap.size ro Q w' → post (.returned E) w') := fun E w' h1 h2 h3 => by rw [hpost]; exact ⟨⟨_, rfl, h1⟩, h2, h3⟩
  rw [← hpost]
  clear hA hb hB hL hQ hT hn' hnx hm hl hK hpost hE0 hQE
  go_enter Tryz.func50, Tryz.ntmps50
  go_wp2
  go_region_held3 (fun U => U.cell? ⟨B, 0, none⟩ = some (.slice a n c) ∧ U.cell? ⟨B, 1, none⟩ = some (.int .i64 nx) ∧ U.cell? ⟨pb, po, none⟩ = some (.slice pa m pc))
    (first | with_reducible exact HS1 | with_reducible exact HS0)
    ((first | (go_at_call 51; refine HC.mono ?_; rintro e w1 ⟨hr, hb1⟩; have HS1 : w1.cell? ⟨B, 0, none⟩ = some (.slice a n c) ∧ w1.cell? ⟨B, 1, none⟩ = some (.int .i64 nx) ∧ w1.cell? ⟨pb, po, none⟩ = some (.slice pa m pc) := ⟨by rw [hb1.cell (p := ⟨B, 0, none⟩) (cell_lt HS0.1)]; exact HS0.1, by rw [hb1.cell (p := ⟨B, 1, none⟩) (cell_lt HS0.2.1)]; exact HS0.2.1, by rw [hb1.cell (p := ⟨pb, po, none⟩) (cell_lt HS0.2.2)]; exact HS0.2.2⟩; obtain ⟨R1, R2, rfl, hr2⟩ : ∃ R1 R2, e = .returned (.tuple #[R1, R2]) ∧ ((fe ≠ 0 ∧ R1 = .pointer none ∧ EV fe R2) ∨ (fe = 0 ∧ R2 = .nilIface ∧ ∃ k q b o, l[k]? = some q ∧ q.1 = wi ∧ (∀ W, (Instr.indexAt 27 (.slice a n c) (.int .i64 (k : Nat))).run Tryz.prog W = .ok (.pointer (some ⟨b, o, none⟩)) W) ∧ R1 = .pointer (some ⟨b, o, none⟩))) := dir_split hr)))
  have HBL : Hid (Below V.heap.size V w1) := below_any (Below.refl _ V).drew hb1
  clear hb1 HS0 HS1 g0 g1 HC hpc hr
  rcases hr2 with ⟨hne, rfl, hE⟩ | ⟨h0, rfl, k, q, b, o, hk, hqw, hixq, rfl⟩
  · have hro : ro = [] := by rw [HRE.out, if_pos hne]
    have HE : Hid (EV fe R2 ∧ HoldsT w0.heap.size ro Q w1) := ⟨hE, by rw [hro]; exact HoldsT.nil (HQ.out.1.below HBL.out HQ.out.1.lt)⟩
    obtain ⟨a2, l2, c2, s2, rfl⟩ : ∃ a2 l2 c2 s2, R2 = refV (.slice a2 l2 c2) fe s2 := by
      rcases hE with ⟨h, _⟩ | ⟨_, a2, l2, c2, s2, h⟩
      · exact absurd h hne
      · exact ⟨a2, l2, c2, s2, h⟩
    clear hE hne hro
    go_wp2
    exact HPo.out _ _ HE.out.1 (grown_below HBL.out _) HE.out.2
  subst h0
  have hqT : q = T := (HNN.out rfl).2.1 q (List.mem_of_getElem? hk) (hqw.trans (HNN.out rfl).1)
  subst hqT
  obtain ⟨b', o', e', f', hix', -, hcs, hLN⟩ := nds_atN HAV.out k q hk
  have hbo := (hix' w1).symm.trans (hixq w1)
  simp only [Result.ok.injEq, Value.pointer.injEq, Option.some.injEq, Addr.mk.injEq, and_true] at hbo
  obtain ⟨rfl, rfl⟩ := hbo
  obtain ⟨ea, ec, rfl, -, -⟩ := hLN.1.1.shape
  obtain ⟨-, -, -, c3, -, -⟩ := nv_cells hcs
  have c3' : w1.cell? ⟨b', o' + 3, none⟩ = some (.slice ea (en q).length ec) := by rw [(below_any HQ.out.2.1 HBL.out).cell (cell_lt c3)]; exact c3
  obtain ⟨L, hLL⟩ : ∃ y, y = en q := ⟨_, rfl⟩
  have HR2 : Hid (ro = L.map (·.1) ∧ L.length ≤ 63 ∧ (∀ e ∈ L, e.1.size ≤ 16) ∧ ArgE n0 wE (.slice ea L.length ec) L) := by
    have h2 := HRE.out
    rw [if_neg (by decide)] at h2
    rw [hLL]
    exact ⟨h2, (HNN.out rfl).2.2.1, (HNN.out rfl).2.2.2, hLN.1⟩
  rw [← hLL] at c3'
  obtain ⟨ln, hln⟩ : ∃ y, y = L.length := ⟨_, rfl⟩
  have HLN : Hid (ln = L.length) := hln
  rw [← hln] at c3' HR2
  have hln63 : ln ≤ 63 := HR2.out.2.1
  have hlen := run_len Tryz.underlying48 ea ln ec
  clear hcs hLN hix' hixq hqw hk c3 hLL hln
  go_wp2
  go_loopw [28] (fun i wr => ∃ (j : Nat) (v : Value), j ≤ ln ∧ i = .int .i64 j ∧ Hid (Box wr Q 60 #[v] ∧ OwnT w1.heap.size wr v ((L.take j).map (·.1)) ∧ w1.grownBy wr (some Q))) (fun i _ => ln - (intOf i).toNat)
  case atStart => exact ⟨0, _, Nat.zero_le _, rfl, HQ.out.1.below HBL.out HQ.out.1.lt, ⟨World.ownsRow_nil _ _ _ _, fun _ h => by cases h⟩, grown_below (Below.refl _ _) _⟩
  case round =>
    obtain ⟨j, v, hj, rfl, HJ⟩ := hrel
    by_cases hlt : j < ln
    · obtain ⟨e, he⟩ := get_lt (l := L) (k := j) (by rw [← HLN.out]; exact hlt)
      have HBE : Hid (Below wE.heap.size wE wr) := (below_any HQ.out.2.1 HBL.out).grown HJ.out.2.2 (by have := HQ.out.2.1.size; have := HBL.out.size; omega) (fun k hk => by cases hk; exact HQ.out.2.2.1)
      have hAr := HR2.out.2.2.2
      rw [HLN.out] at hAr
      obtain ⟨be, oe, hixe, -, d0, d1⟩ := ArgE.atN (hAr.below HBE.out) j e he
      rw [← HLN.out] at hixe
      have HTK : Hid ((L.take (j + 1)).map (·.1) = (L.take j).map (·.1) ++ [e.1] ∧ ((L.take j).map (·.1)).length = j ∧ e.1.size ≤ 16) := ⟨by rw [take_snoc he]; simp, by have := HLN.out; rw [List.length_map, List.length_take]; omega, HR2.out.2.2.1 e (List.mem_of_getElem? he)⟩
      obtain ⟨en', ei⟩ := e
      simp only at d0 d1 HTK
      obtain ⟨U, hU⟩ : ∃ U, U = wr.alloc (.cells #[.string en', .int .i64 ei] 55) := ⟨_, rfl⟩
      have HU : Hid (Below wr.heap.size wr U ∧ Box U wr.heap.size 55 #[.string en', .int .i64 ei]) := ⟨by rw [hU]; exact (Below.refl _ _).alloc (Nat.le_refl _) _, by rw [hU]; exact Box.new _ _ _⟩
      have HCL : Hid (Calls Tryz.prog 52 #[.string en'] U.drew fun e w' => e = .returned (.string en') ∧ Below U.heap.size U w') := (P.clone_any en' U.drew HTK.out.2.2).mono fun e w' h => ⟨h.1, ((Below.refl _ U).drew).trans h.2⟩
      obtain ⟨a', cap', rfl⟩ := own_shape HJ.out.2.1.1
      rw [HTK.out.2.1] at HJ
      have HO : Hid (∀ W, Below wr.heap.size wr W → W.ownsRow w1.heap.size 9 1 (.slice a' j cap') j (tv ((L.take j).map (·.1)))) := fun W hW => by
        have := (HJ.out.2.1.below hW).1
        rwa [HTK.out.2.1] at this
      have HBQ : Hid (Box U Q 60 #[.slice a' j cap']) := HJ.out.1.below HU.out.1 HJ.out.1.lt
      have hki : (j : Int) < (ln : Int) := by omega
      clear he hAr
      go_wp2
      rw [← hU]
      clear hU
      have hSS : U.drew.cell? ⟨wr.heap.size, 0, none⟩ = some (.string en') ∧ U.drew.cell? ⟨Q, 0, none⟩ = some (.slice a' j cap') := ⟨HU.out.2.two.1, HBQ.out.cell 0 rfl⟩
      refine AnyBut.begin (fun W => W.cell? ⟨wr.heap.size, 0, none⟩ = some (.string en') ∧ W.cell? ⟨Q, 0, none⟩ = some (.slice a' j cap')) 6 (by kernel_rfl) ?_
      refine AnyBut.take (i := 0) (some 32) (v := ?_) rfl rfl (by kernel_rfl) rfl (by kernel_rfl) (by kernel_rfl) (by kernel_rfl) (fun _ _ _ h => h) (.inl ⟨by rfl, ?_⟩) hSS ?_
      rotate_left
      · (intro W hSW; (try dsimp only at hSW); go_simp; try with_reducible rfl)
      simp only [Act.put, List.setIfInBounds_toArray, List.set_cons_zero, List.set_cons_succ]
      refine AnyBut.take (i := 1) (some 33) (v := ?_) rfl rfl (by kernel_rfl) rfl (by kernel_rfl) (by kernel_rfl) (by kernel_rfl) (fun _ _ _ h => h) (.inl ⟨by rfl, ?_⟩) hSS ?_
      rotate_left
      · (intro W hSW; (try dsimp only at hSW); go_simp; try with_reducible rfl)
      simp only [Act.put, List.setIfInBounds_toArray, List.set_cons_zero, List.set_cons_succ]
      refine AnyBut.take (i := 2) (some 34) (v := ?_) rfl rfl (by kernel_rfl) rfl (by kernel_rfl) (by kernel_rfl) (by kernel_rfl) (fun _ _ _ h => h) (.inl ⟨by rfl, ?_⟩) hSS ?_
      rotate_left
      · (intro W hSW; (try dsimp only at hSW); go_simp; try with_reducible rfl)
      simp only [Act.put, List.setIfInBounds_toArray, List.set_cons_zero, List.set_cons_succ]
      refine AnyBut.step (i := 3) (by kernel_rfl) rfl (fun K hK => ?_)
      go_simp
      refine Calls.mono HCL.out ?_
      rintro e w2 ⟨rfl, hb2⟩
      have hx2 := HU.out.2.below hb2 HU.out.2.lt
      have hq2 := HBQ.out.below hb2 HBQ.out.lt
      dsimp only
      refine hK.out _ _ ⟨hx2.two.1, hq2.cell 0 rfl⟩ ?_
      clear hK hSS
      refine AnyBut.step (i := 4) (by kernel_rfl) rfl (fun K hK => ?_)
      go_simp
      have hx3 := hx2.alloc (.cells #[.string en'] 9)
      have hq3 := hq2.alloc (.cells #[.string en'] 9)
      have hbw := below_any HU.out.1 hb2
      refine hK.out _ _ ⟨hx3.two.1, hq3.cell 0 rfl⟩ ?_
      clear hK
      refine AnyBut.step (i := 5) (by kernel_rfl) rfl (fun K hK => ?_)
      refine step_append_lies _ (by rfl) _ _ _ (by rfl) w1.heap.size 9 i3 _ 1 16 Tryz.underlying60 hi3 hz30 hz31 hz32 rfl (by omega) _ j _ (by rfl) ((HO.out w2 hbw).alloc _) ⟨w2.heap.size, 0, none⟩ 1 1 [.string en'] (by rfl) (by rfl)
        (World.news_of_block (cs := #[.string en']) (t := 9) (fr := (0, 0)) (heap_alloc_new w2 _)) (by simp [Value.oneCell']) (by omega) (by unfold maxLen; omega) (by omega) (by have := hbw.size; have := HJ.out.2.2.size; simp; omega) (w2.heap.size + 1) (by simp) ?_
      intro gg cap3 w3 hown3 hgrow3 hat hltg
      have hneQ : some Q ≠ (Value.slice a' j cap').ownBlock := fun e => by
        have h1 := ((HO.out wr (Below.refl _ _)).lt _ e.symm).1
        have h2 := HQ.out.1.lt
        have := HBL.out.size
        omega
      have hne : some wr.heap.size ≠ (Value.slice a' j cap').ownBlock := fun e => by have := ((HO.out wr (Below.refl _ _)).lt _ e.symm).2; omega
      have hx4 := hx3.grown hgrow3 hne
      have hq4 := hq3.grown hgrow3 hneQ
      refine hK.out _ _ ⟨hx4.two.1, hq4.cell 0 rfl⟩ ?_
      clear hK
      refine AnyBut.last (by kernel_rfl) (by kernel_rfl) rfl (fun K hK => ?_)
      have y0 := hq4.cell 0 rfl
      have y1 := hq4.frozen 0
      go_simp
      refine hK.out _ _ ?_
      clear hK
      have HF : Hid (Box (w3.setCell ⟨Q, 0, none⟩ (.slice (some ⟨gg, 0, none⟩) (j + 1) cap3)) Q 60 #[.slice (some ⟨gg, 0, none⟩) (j + 1) cap3] ∧ OwnT w1.heap.size (w3.setCell ⟨Q, 0, none⟩ (.slice (some ⟨gg, 0, none⟩) (j + 1) cap3)) (.slice (some ⟨gg, 0, none⟩) (j + 1) cap3) ((L.take (j + 1)).map (·.1)) ∧ w1.grownBy (w3.setCell ⟨Q, 0, none⟩ (.slice (some ⟨gg, 0, none⟩) (j + 1) cap3)) (some Q)) := by
        have hQlt : Q < w1.heap.size := by have := HQ.out.1.lt; have := HBL.out.size; omega
        refine ⟨hq4.set 0 _, ⟨?_, fun x hx => ?_⟩, ?_⟩
        · rw [HTK.out.1, List.length_append, HTK.out.2.1]
          have : tv ((L.take j).map (·.1) ++ [en']) = tv ((L.take j).map (·.1)) ++ [.string en'] := by simp [tv]
          rw [this]
          exact own_same hown3 (.set hQlt)
        · rw [HTK.out.1] at hx
          rcases List.mem_append.1 hx with hx | hx
          · exact HJ.out.2.1.2 x hx
          · rw [List.mem_singleton.1 hx]; have := HTK.out.2.2; unfold maxLen; omega
        · refine World.grownBy.trans (b := w3) ?_ (grown_set _ _ _ _)
          refine ⟨(hgrow3.os.trans hbw.os).trans HJ.out.2.2.os, (hgrow3.tape.trans hbw.tape).trans HJ.out.2.2.tape, (hgrow3.output.trans hbw.output).trans HJ.out.2.2.output, ?_, fun k hk hnk => ?_⟩
          · have := hgrow3.size; have := hbw.size; have := HJ.out.2.2.size; simp at *; omega
          · have h1 := HJ.out.2.2.size
            have h2 := hbw.size
            rw [hgrow3.block k (by simp; omega) (fun e => by have := ((HO.out wr (Below.refl _ _)).lt _ e.symm).1; omega), Below.heap_alloc w2 _ k (by omega), hbw.block k (by omega)]
            exact HJ.out.2.2.block k hk hnk
      clear hown3 hgrow3 hat hltg hne hneQ hx4 hq4 hx3 hq3 hx2 hq2 hbw hb2 y0 y1 hixe d0 d1
      go_wp2
      go_roundw
      case rel => exact ⟨j + 1, _, by omega, by go_num, HF.out⟩
      case measure => simp [intOf]; omega
    · obtain rfl : j = ln := by omega
      have hT : L.take j = L := by rw [HLN.out]; simp
      rw [hT] at HJ
      have HF : Hid (V.grownBy wr (some Q) ∧ HoldsT w0.heap.size ro Q wr) := ⟨(grown_below HBL.out _).trans HJ.out.2.2, by rw [HR2.out.1]; exact ⟨v, HJ.out.1, ⟨own_weaken HJ.out.2.1.1 (by have := HQ.out.2.2.2; have := HBL.out.size; omega), HJ.out.2.1.2⟩⟩⟩
      go_wp2
      exact HPo.out _ _ ev_nil HF.out.1 HF.out.2
end Go.Proofs.YtkcnephbaffmbabGreatDoor

namespace Go.Proofs.YtkcnephbaffmbabGreatDoor
open D (En nameOk inoOk Good Chk there fnd ins del aerr)
open F (Fl chk rdE rdO)
open P (serr sval)
theorem wlk_mono {l l' : List Nd} (h : ∀ n ∈ l, isD n = true → ∃ n' ∈ l', n'.1 = n.1 ∧ isD n' = true ∧ ∀ e ∈ en n, e ∈ en n') : ∀ {xs : List ByteArray} {i c : Int}, Wlk l i xs c → Wlk l' i xs c
  | [], _, _, hw => hw
  | _ :: _, _, _, ⟨n, hn, h1, h2, d, hd, hw⟩ => by
    obtain ⟨n', hn', e1, e2, e3⟩ := h n hn h2
    exact ⟨n', hn', e1.trans h1, e2, d, e3 _ hd, wlk_mono h hw⟩
theorem wlk_of {s : St} (hK : Wk s) {xs : List ByteArray} {n : Nd} (hn : n ∈ s.1) (h : Wlk s.1 1 xs n.1) : wlk s.1 1 xs = (n.1, 0) ∧ tgt s xs = n := by
  obtain ⟨h1, h2⟩ := (wlk_root hK).2 h
  refine ⟨Prod.ext h2 h1, ?_⟩
  unfold tgt
  rw [h2]; exact gt_of hK.up hn
theorem list_find {s : St} (h : Ok s) {xs : List ByteArray} (he : dirE s.1 xs = 0) {i : Nat} {x : ByteArray} (hx : (lsO s xs)[i]? = some x) :
    nameOk x = true ∧ xs.length + 1 ≤ 8 ∧ (wlk s.1 1 (xs ++ [x])).2 = 0 ∧ 1 < (wlk s.1 1 (xs ++ [x])).1 ∧ (tgt s (xs ++ [x])).1 = (wlk s.1 1 (xs ++ [x])).1 ∧ 1 ≤ lk (tgt s (xs ++ [x])) := by
  obtain ⟨d1, d2⟩ := dir_zero he
  obtain ⟨t1, t2, t3⟩ := h.wk.lead d1
  unfold lsO at hx
  rw [if_neg (by rw [he]; exact fun c => c rfl), List.getElem?_map] at hx
  cases hg : (en (tgt s xs))[i]? with
  | none => rw [hg] at hx; cases hx
  | some e =>
    rw [hg] at hx
    obtain rfl : e.1 = x := by simpa using hx
    have hm := List.mem_of_getElem? hg
    have hck := (h.wk.dirs _ t1 d2).1
    have hgd := hck.2.1 e hm
    have hW : Wlk s.1 1 (xs ++ [e.1]) e.2 := wlk_snoc.2 ⟨_, t1, t3, d2, hm⟩
    obtain ⟨m, hm1, hm2⟩ := h.wk.names _ t1 e hm
    obtain ⟨g1, g2⟩ := wlk_of h.wk hm1 (by rw [hm2]; exact hW)
    have hn1 := h.named t1 hm
    have hlow := (h.wk.low m hm1).1
    have hz : (wlk s.1 1 (xs ++ [e.1])).2 = 0 := by rw [g1]
    refine ⟨hgd.1, h.depth t1 d2 (wlk_way h.wk.up t3) hm, hz, ?_, ?_, (ok_lks h (by simp) hz).1⟩
    · rw [g1]; simp only; omega
    · rw [g1, g2]
theorem list_up {s : St} (h : Ok s) {xs : List ByteArray} (he : dirE s.1 xs = 0) {i j : Nat} {x y : ByteArray} (hij : i < j) (hx : (lsO s xs)[i]? = some x) (hy : (lsO s xs)[j]? = some y) : D.ltB x y = true := by
  obtain ⟨d1, d2⟩ := dir_zero he
  obtain ⟨t1, t2, t3⟩ := h.wk.lead d1
  unfold lsO at hx hy
  rw [if_neg (by rw [he]; exact fun c => c rfl), List.getElem?_map] at hx hy
  cases hg : (en (tgt s xs))[i]? with
  | none => rw [hg] at hx; cases hx
  | some e =>
    cases hg' : (en (tgt s xs))[j]? with
    | none => rw [hg'] at hy; cases hy
    | some f =>
      rw [hg] at hx; rw [hg'] at hy
      obtain rfl : e.1 = x := by simpa using hx
      obtain rfl : f.1 = y := by simpa using hy
      have hck := (h.wk.dirs _ t1 d2).1
      obtain ⟨i1, i2⟩ := List.getElem?_eq_some_iff.1 hg
      obtain ⟨j1, j2⟩ := List.getElem?_eq_some_iff.1 hg'
      have := List.pairwise_iff_getElem.1 hck.2.2 i j i1 j1 hij
      rw [i2, j2] at this
      exact this
theorem list_stat {s : St} (h : Ok s) {xs : List ByteArray} (he : dirE s.1 xs = 0) : (wlk s.1 1 xs).2 = 0 ∧ isD (statN s xs) = true ∧ (fi (statN s xs)).1 + ((en (statN s xs)).length : Int) = ((lsO s xs).length : Int) ∧ (lsO s xs).length ≤ 63 := by
  obtain ⟨d1, d2⟩ := dir_zero he
  obtain ⟨t1, t2, t3⟩ := h.wk.lead d1
  have hk := h.wk.dirs _ t1 d2
  unfold statN lsO
  rw [if_pos d1, if_neg (by rw [he]; exact fun c => c rfl), hk.2, List.length_map]
  refine ⟨d1, d2, by simp, hk.1.1⟩
end Go.Proofs.YtkcnephbaffmbabGreatDoor
