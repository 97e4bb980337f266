/-
  The document's shape: whether each node may be by itself; for every state.
-/
import Derived.Test.YtkcnephbaffmbaaGreatDoorN29
import Derived.Test.YtkcnephbaffmbaaGreatDoorN42
set_option maxRecDepth 100000
set_option maxHeartbeats 40000000
namespace Go.Proofs.YtkcnephbaffmbaaGreatDoor
open Go.RowKit
open D (En ArgE Chk)
open F (Fl bksR flR)
theorem rshape_any (n0 : Nat) (a : Option Addr) (c : Nat) (s : St) (w : World) (hA : ndsR.lies n0 w [.slice a s.1.length c] s.1) (hM : FitsS s.1) :
   Calls Tryz.prog 66 #[.agg #[.slice a s.1.length c, .int .i64 s.2]] w fun e w' => Says e (Pre s) ∧ Below w.heap.size w w' := by
 obtain ⟨l, nx⟩ := s
 simp only at hA hM ⊢
 have hl1 := run_len Tryz.underlying22 a l.length c
 obtain ⟨post, hpost⟩ : ∃ post : Ending → World → Prop, post = fun e w' => Says e (Pre (l, nx)) ∧ Below w.heap.size w w' := ⟨_, rfl⟩
 have HNo : Hid (∀ w', ¬ ShapeR (l, nx) → Below w.heap.size w w' → post (.returned (.bool false)) w') := fun w' h1 h2 => by rw [hpost]; exact ⟨says_no fun h => h1 (shape_pre.2 h), h2⟩
 have HYes : Hid (∀ w', ShapeR (l, nx) → Below w.heap.size w w' → post (.returned (.bool true)) w') := fun w' h1 h2 => by rw [hpost]; exact ⟨says_yes (shape_pre.1 h1), h2⟩
 rw [← hpost]
 clear hpost
 obtain ⟨W, hW⟩ := exa (w.alloc (.cells #[.slice a l.length c, .int .i64 nx] 24))
 have hb : Below w.heap.size w W := by rw [hW]; exact (Below.refl _ w).alloc (Nat.le_refl _) _
 have hB : Box W w.heap.size 24 #[.slice a l.length c, .int .i64 nx] := by rw [hW]; exact Box.new _ _ _
 obtain ⟨p0, p1, -, -⟩ := hB.two
 have HW : Hid (Below w.heap.size w W ∧ ndsR.lies n0 W [.slice a l.length c] l ∧ Box W w.heap.size 24 #[.slice a l.length c, .int .i64 nx]) := ⟨hb, ndsR.below hA hb, hB⟩
 have HM : Hid (∀ p ∈ l, (en p).length ≤ 140737488351232) := fun p hp => by have := (hM.2 p hp).1; omega
 obtain ⟨n, hn⟩ := exa (l.length)
 have HN : Hid (n = l.length) := hn
 have hn47 : n ≤ 140737488351232 := by rw [hn]; have := hM.1; omega
 rw [← hn] at HW hl1 hW p0 ⊢
 rw [hW] at p0 p1
 clear hA hb hB hn hM
 by_cases h2 : nx < 2
 case pos =>
   rw [hW] at HW
   clear hW
   go_enter Tryz.func66, Tryz.ntmps66
   go_wp2
   exact HNo.out _ (fun h => by have := h.nx; simp only at this; omega) HW.out.1
 by_cases h3 : 2147483647 < nx
 case pos =>
   rw [hW] at HW
   clear hW
   go_enter Tryz.func66, Tryz.ntmps66
   go_wp2
   exact HNo.out _ (fun h => by have := h.nx; simp only at this; omega) HW.out.1
 by_cases h4 : n < 1
 case pos =>
   obtain rfl : n = 0 := by omega
   rw [hW] at HW
   clear hW
   go_enter Tryz.func66, Tryz.ntmps66
   go_wp2
   exact HNo.out _ (fun h => by have h9 := h.len; have := HN.out; simp only at h9; omega) HW.out.1
 by_cases h5 : 128 < n
 case pos =>
   rw [hW] at HW
   clear hW
   go_enter Tryz.func66, Tryz.ntmps66
   go_wp2
   exact HNo.out _ (fun h => by have h9 := h.len; have := HN.out; simp only at h9; omega) HW.out.1
 have h4i : ¬ (n : Int) < 1 := by omega
 have h5i : ¬ 128 < (n : Int) := by omega
 obtain ⟨t, ht⟩ := get_lt (l := l) (k := 0) (by rw [← HN.out]; omega)
 obtain ⟨tb, tt, te, tf, htix, -, htc, -⟩ := nds_atR HW.out.2.1 0 t ht
 obtain ⟨t0, t1, t2, -, -, -⟩ := nv_cells htc
 have htix : ∀ W, (Instr.indexAt 22 (.slice a n c) (.int .i64 0)).run Tryz.prog W = .ok (.pointer (some ⟨tb, tt, none⟩)) W := htix
 have h0n : (0 : Int) < (n : Int) := by omega
 obtain ⟨ti, hti⟩ := exa (t.1)
 obtain ⟨td, htd⟩ := exa (isD t)
 obtain ⟨tk, htk⟩ := exa (lk t)
 have HT : Hid (l[0]? = some t ∧ ti = t.1 ∧ td = isD t ∧ tk = lk t) := ⟨ht, hti, htd, htk⟩
 rw [← hti] at t0
 rw [← htd] at t1
 rw [← htk] at t2
 rw [hW] at t0 t1 t2
 clear ht htc hti htd htk
 by_cases h6 : ti = 1
 case neg =>
   have h6b : (ti == 1) = false := by simpa using h6
   rw [hW] at HW
   clear hW
   go_enter Tryz.func66, Tryz.ntmps66
   go_wp2
   exact HNo.out _ (fun h => by obtain ⟨q, q0, q1, q2, q3⟩ := h.top; rw [HT.out.1] at q0; cases q0; exact h6 (HT.out.2.1.trans q1)) HW.out.1
 subst h6
 cases htd : td
 case false =>
   subst htd
   rw [hW] at HW
   clear hW
   go_enter Tryz.func66, Tryz.ntmps66
   go_wp2
   exact HNo.out _ (fun h => by obtain ⟨q, q0, q1, q2, q3⟩ := h.top; rw [HT.out.1] at q0; cases q0; rw [HT.out.2.2.1.symm] at q2; cases q2) HW.out.1
 subst htd
 by_cases h7 : tk = 0
 case neg =>
   have h7b : (tk == 0) = false := by simpa using h7
   rw [hW] at HW
   clear hW
   go_enter Tryz.func66, Tryz.ntmps66
   go_wp2
   exact HNo.out _ (fun h => by obtain ⟨q, q0, q1, q2, q3⟩ := h.top; rw [HT.out.1] at q0; cases q0; exact h7 (HT.out.2.2.2.trans q3)) HW.out.1
 subst h7
 go_enter Tryz.func66, Tryz.ntmps66
 go_wp2
 rw [← hW]
 clear hW p0 p1 t0 t1 t2 htix
 go_loopw [3] (fun i wr => ∃ k : Nat, k ≤ n ∧ i = .int .i64 k ∧ Hid (∀ (j : Nat) p, j < k → l[j]? = some p → NodeR (l, nx) j p) ∧ Hid (Below W.heap.size W wr)) (fun i _ => n - (intOf i).toNat)
 case atStart => exact ⟨0, Nat.zero_le _, rfl, fun j p hj => by omega, Below.refl _ _⟩
 case round =>
   obtain ⟨k, hk, rfl, HK, HB⟩ := hrel
   obtain ⟨p0, p1, -, -⟩ := (HW.out.2.2.below HB.out HW.out.2.2.lt).two
   by_cases hlt : k < n
   case neg =>
     obtain rfl : k = n := by omega
     go_wp2
     refine HYes.out _ ⟨by simp only; omega, by have := HN.out; simp only; omega, ⟨t, HT.out.1, HT.out.2.1.symm, HT.out.2.2.1.symm, HT.out.2.2.2.symm⟩, fun i p hp => HK.out i p ?_ hp⟩ (below_any HW.out.1 HB.out)
     rw [HN.out]; exact (List.getElem?_eq_some_iff.1 hp).1
   obtain ⟨p, hp⟩ := get_lt (l := l) (k := k) (by rw [← HN.out]; exact hlt)
   obtain ⟨b, o, ee, ff, hix, -, hcs, hLR⟩ := nds_atR (ndsR.below HW.out.2.1 HB.out) k p hp
   obtain ⟨c0, c1, c2, c3, c4, c5⟩ := nv_cells hcs
   obtain ⟨ea, ec, rfl, -⟩ := hLR.1.shape
   obtain ⟨fa, fc, hfe, -⟩ := Shape.list_len (S := F.bkR) (ht := Tryz.underlying74) (hc := F.cells74) hLR.2.1
   obtain rfl : ff = _ := by simpa using hfe
   have hkn : (k : Int) < (n : Int) := by omega
   have HP : Hid (l[k]? = some p ∧ LR n0 wr p (.slice ea (en p).length ec) (.slice fa (fi p).2.length fc) ∧ p ∈ l) := ⟨hp, hLR, List.mem_of_getElem? hp⟩
   obtain ⟨el, hel⟩ := exa ((en p).length)
   obtain ⟨fl, hfl⟩ := exa ((fi p).2.length)
   obtain ⟨pi, hpi⟩ := exa (p.1)
   obtain ⟨pd, hpd⟩ := exa (isD p)
   obtain ⟨pl, hpl⟩ := exa (lk p)
   obtain ⟨pz, hpz⟩ := exa ((fi p).1)
   have HE : Hid (el = (en p).length ∧ fl = (fi p).2.length ∧ pi = p.1 ∧ pd = isD p ∧ pl = lk p ∧ pz = (fi p).1) := ⟨hel, hfl, hpi, hpd, hpl, hpz⟩
   have hel47 : el ≤ 140737488351232 := by rw [hel]; exact HM.out p HP.out.2.2
   rw [← hel] at c3 HP
   rw [← hfl] at c5 HP
   rw [← hpi] at c0
   rw [← hpd] at c1
   rw [← hpl] at c2
   rw [← hpz] at c4
   obtain ⟨X, hX⟩ := exa (wr.alloc (.cells #[.int .i64 pi, .bool pd, .int .i64 pl, .slice ea el ec, .int .i64 pz, .slice fa fl fc] 78))
   have hbX : Below wr.heap.size wr X := by rw [hX]; exact (Below.refl _ wr).alloc (Nat.le_refl _) _
   have hBX : Box X wr.heap.size 78 #[.int .i64 pi, .bool pd, .int .i64 pl, .slice ea el ec, .int .i64 pz, .slice fa fl fc] := by rw [hX]; exact Box.new _ _ _
   have HXW : Hid (Below wr.heap.size wr X) := hbX
   have HX : Hid (Below W.heap.size W X ∧ Box X wr.heap.size 78 #[.int .i64 pi, .bool pd, .int .i64 pl, .slice ea el ec, .int .i64 pz, .slice fa fl fc]) := ⟨below_any HB.out hbX, hBX⟩
   have hl2 := run_len Tryz.underlying73 ea el ec
   have HC8 := D.rcheck_any n0 (.slice ea el ec) (en p) X.drew ((HP.out.2.1.1.below hbX).below (Below.refl _ X).drew)
   have HC7 : Hid (∀ q, Calls Tryz.prog 119 #[.agg #[.int .i64 pz, .slice fa fl fc]] (X.drewN q) fun e w' => e = .returned (.int .i64 (F.cerr (fi p))) ∧ Below (X.drewN q).heap.size (X.drewN q) w') := fun q => by
     have h1 := (HP.out.2.1.below (below_any hbX (below_drewN (Below.refl _ X) q))).file
     rw [← HE.out.2.2.2.2.2] at h1
     exact F.rcheck_any n0 [_, _] (fi p) _ h1
   have HBX : Hid (∀ V, Below X.heap.size X V → Below w.heap.size w V) := fun V hV => below_any (below_any HW.out.1 HX.out.1) hV
   have HNK : Hid (∀ h : ¬ NodeR (l, nx) k p, ¬ ShapeR (l, nx)) := fun h h2 => h (h2.all k p HP.out.1)
   have HCB : Hid (∀ V, Below X.heap.size X V → V.cell? ⟨w.heap.size, 0, none⟩ = some (.slice a n c) ∧ V.cell? ⟨w.heap.size, 1, none⟩ = some (.int .i64 nx) ∧ V.cell? ⟨wr.heap.size, 0, none⟩ = some (.int .i64 pi) ∧ V.cell? ⟨wr.heap.size, 1, none⟩ = some (.bool pd) ∧ V.cell? ⟨wr.heap.size, 2, none⟩ = some (.int .i64 pl) ∧ V.cell? ⟨wr.heap.size, 3, none⟩ = some (.slice ea el ec) ∧ V.cell? ⟨wr.heap.size, 4, none⟩ = some (.int .i64 pz) ∧ V.cell? ⟨wr.heap.size, 4 + 1, none⟩ = some (.slice fa fl fc)) := fun V hV => by
     have h1 := HW.out.2.2.below HX.out.1 HW.out.2.2.lt
     obtain ⟨z0, z1, -, -⟩ := (h1.below hV h1.lt).two
     obtain ⟨y0, y1, y2, y3, y4, y5⟩ := (HX.out.2.below hV HX.out.2.lt).six
     exact ⟨z0, z1, y0, y1, y2, y3, y4, y5⟩
   clear hcs hLR hfe hel hfl hpi hpd hpl hpz hbX hBX hp
   cases k with
   | zero =>
     have hix0 : ∀ W, (Instr.indexAt 22 (.slice a n c) (.int .i64 0)).run Tryz.prog W = .ok (.pointer (some ⟨b, o, none⟩)) W := hix
     have hk00 : decide ((0 : Int) < 0) = false := by decide
     have HSX : Hid (∀ U, Below X.heap.size X U → U.cell? ⟨w.heap.size, 0, none⟩ = some (.slice a n c) ∧ U.cell? ⟨w.heap.size, 1, none⟩ = some (.int .i64 nx) ∧ U.cell? ⟨wr.heap.size, 0, none⟩ = some (.int .i64 pi) ∧ U.cell? ⟨wr.heap.size, 3, none⟩ = some (.slice ea el ec) ∧ U.cell? ⟨wr.heap.size, 4, none⟩ = some (.int .i64 pz) ∧ U.cell? ⟨wr.heap.size, 4 + 1, none⟩ = some (.slice fa fl fc)) := fun U hU => ⟨(HCB.out U hU).1, (HCB.out U hU).2.1, (HCB.out U hU).2.2.1, (HCB.out U hU).2.2.2.2.2.1, (HCB.out U hU).2.2.2.2.2.2.1, (HCB.out U hU).2.2.2.2.2.2.2⟩
     have HS0 := HSX.out X.drew (Below.refl _ X).drew
     by_cases g1 : pi < 1
     case pos =>
       have g1b : decide (pi < 1) = true := decide_eq_true g1
       go_wp2
       rw [← hX]
       clear hX p0 p1 c0 c1 c2 c3 c4 c5
       have hSS := HS0
       refine AnyBut.begin (fun U => U.cell? ⟨w.heap.size, 0, none⟩ = some (.slice a n c) ∧ U.cell? ⟨w.heap.size, 1, none⟩ = some (.int .i64 nx) ∧ U.cell? ⟨wr.heap.size, 0, none⟩ = some (.int .i64 pi) ∧ U.cell? ⟨wr.heap.size, 3, none⟩ = some (.slice ea el ec) ∧ U.cell? ⟨wr.heap.size, 4, none⟩ = some (.int .i64 pz) ∧ U.cell? ⟨wr.heap.size, 4 + 1, none⟩ = some (.slice fa fl fc)) 1000 (by kernel_rfl) ?_
       refine tx 0 62 hSS ?_
       simp only [ua, ub, uc, ud]
       refine tx 1 63 hSS ?_
       simp only [ua, ub, uc, ud]
       refine tx 2 64 hSS ?_
       simp only [ua, ub, uc, ud]
       refine tx 3 65 hSS ?_
       simp only [ua, ub, uc, ud]
       refine tu 4 66 hSS ?_
       simp only [ua, ub, uc, ud]
       refine tu 5 67 hSS ?_
       simp only [ua, ub, uc, ud]
       refine tu 6 68 hSS ?_
       simp only [ua, ub, uc, ud]
       refine tu 7 69 hSS ?_
       simp only [ua, ub, uc, ud]
       refine tu 8 70 hSS ?_
       simp only [ua, ub, uc, ud]
       refine tx 9 71 hSS ?_
       simp only [ua, ub, uc, ud]
       refine tx 10 72 hSS ?_
       simp only [ua, ub, uc, ud]
       refine tu 11 73 hSS ?_
       simp only [ua, ub, uc, ud]
       refine tu 12 74 hSS ?_
       simp only [ua, ub, uc, ud]
       refine tu 13 75 hSS ?_
       simp only [ua, ub, uc, ud]
       refine tu 14 76 hSS ?_
       simp only [ua, ub, uc, ud]
       refine tu 15 77 hSS ?_
       simp only [ua, ub, uc, ud]
       refine tu 16 78 hSS ?_
       simp only [ua, ub, uc, ud]
       refine tu 17 79 hSS ?_
       simp only [ua, ub, uc, ud]
       refine tu 18 80 hSS ?_
       simp only [ua, ub, uc, ud]
       refine tu 19 81 hSS ?_
       simp only [ua, ub, uc, ud]
       refine tu 20 82 hSS ?_
       simp only [ua, ub, uc, ud]
       refine tu 21 83 hSS ?_
       simp only [ua, ub, uc, ud]
       refine tu 22 84 hSS ?_
       simp only [ua, ub, uc, ud]
       refine tu 23 85 hSS ?_
       simp only [ua, ub, uc, ud]
       refine tu 24 86 hSS ?_
       simp only [ua, ub, uc, ud]
       refine tx 25 87 hSS ?_
       simp only [ua, ub, uc, ud]
       refine tx 26 88 hSS ?_
       simp only [ua, ub, uc, ud]
       refine tu 27 89 hSS ?_
       simp only [ua, ub, uc, ud]
       refine tu 28 90 hSS ?_
       simp only [ua, ub, uc, ud]
       refine tu 29 91 hSS ?_
       simp only [ua, ub, uc, ud]
       refine tu 30 92 hSS ?_
       simp only [ua, ub, uc, ud]
       refine tx 31 93 hSS ?_
       simp only [ua, ub, uc, ud]
       refine tx 32 94 hSS ?_
       simp only [ua, ub, uc, ud]
       refine tu 33 95 hSS ?_
       simp only [ua, ub, uc, ud]
       refine tu 34 96 hSS ?_
       simp only [ua, ub, uc, ud]
       refine tu 35 97 hSS ?_
       simp only [ua, ub, uc, ud]
       refine tu 36 98 hSS ?_
       simp only [ua, ub, uc, ud]
       refine tx 37 99 hSS ?_
       simp only [ua, ub, uc, ud]
       refine AnyBut.done (by kernel_rfl) ?_
       clear hSS
       have HZ : Hid (Below w.heap.size w X.drew) := HBX.out _ (Below.refl _ X).drew
       clear HS0
       go_wp2
       exact HNo.out _ (HNK.out fun h => by have := h.low; have := HE.out.2.2.1; omega) HZ.out
     have g1b : decide (pi < 1) = false := decide_eq_false g1
     by_cases g2 : nx ≤ pi
     case pos =>
       have g2b : decide (nx ≤ pi) = true := decide_eq_true g2
       go_wp2
       rw [← hX]
       clear hX p0 p1 c0 c1 c2 c3 c4 c5
       have hSS := HS0
       refine AnyBut.begin (fun U => U.cell? ⟨w.heap.size, 0, none⟩ = some (.slice a n c) ∧ U.cell? ⟨w.heap.size, 1, none⟩ = some (.int .i64 nx) ∧ U.cell? ⟨wr.heap.size, 0, none⟩ = some (.int .i64 pi) ∧ U.cell? ⟨wr.heap.size, 3, none⟩ = some (.slice ea el ec) ∧ U.cell? ⟨wr.heap.size, 4, none⟩ = some (.int .i64 pz) ∧ U.cell? ⟨wr.heap.size, 4 + 1, none⟩ = some (.slice fa fl fc)) 1000 (by kernel_rfl) ?_
       refine tx 0 62 hSS ?_
       simp only [ua, ub, uc, ud]
       refine tx 1 63 hSS ?_
       simp only [ua, ub, uc, ud]
       refine tx 2 64 hSS ?_
       simp only [ua, ub, uc, ud]
       refine tx 3 65 hSS ?_
       simp only [ua, ub, uc, ud]
       refine tx 4 66 hSS ?_
       simp only [ua, ub, uc, ud]
       refine tx 5 67 hSS ?_
       simp only [ua, ub, uc, ud]
       refine tx 6 68 hSS ?_
       simp only [ua, ub, uc, ud]
       refine tx 7 69 hSS ?_
       simp only [ua, ub, uc, ud]
       refine tx 8 70 hSS ?_
       simp only [ua, ub, uc, ud]
       refine tx 9 71 hSS ?_
       simp only [ua, ub, uc, ud]
       refine tx 10 72 hSS ?_
       simp only [ua, ub, uc, ud]
       refine tu 11 73 hSS ?_
       simp only [ua, ub, uc, ud]
       refine tu 12 74 hSS ?_
       simp only [ua, ub, uc, ud]
       refine tu 13 75 hSS ?_
       simp only [ua, ub, uc, ud]
       refine tu 14 76 hSS ?_
       simp only [ua, ub, uc, ud]
       refine tu 15 77 hSS ?_
       simp only [ua, ub, uc, ud]
       refine tu 16 78 hSS ?_
       simp only [ua, ub, uc, ud]
       refine tu 17 79 hSS ?_
       simp only [ua, ub, uc, ud]
       refine tu 18 80 hSS ?_
       simp only [ua, ub, uc, ud]
       refine tu 19 81 hSS ?_
       simp only [ua, ub, uc, ud]
       refine tu 20 82 hSS ?_
       simp only [ua, ub, uc, ud]
       refine tu 21 83 hSS ?_
       simp only [ua, ub, uc, ud]
       refine tu 22 84 hSS ?_
       simp only [ua, ub, uc, ud]
       refine tu 23 85 hSS ?_
       simp only [ua, ub, uc, ud]
       refine tu 24 86 hSS ?_
       simp only [ua, ub, uc, ud]
       refine tx 25 87 hSS ?_
       simp only [ua, ub, uc, ud]
       refine tx 26 88 hSS ?_
       simp only [ua, ub, uc, ud]
       refine tu 27 89 hSS ?_
       simp only [ua, ub, uc, ud]
       refine tu 28 90 hSS ?_
       simp only [ua, ub, uc, ud]
       refine tu 29 91 hSS ?_
       simp only [ua, ub, uc, ud]
       refine tu 30 92 hSS ?_
       simp only [ua, ub, uc, ud]
       refine tx 31 93 hSS ?_
       simp only [ua, ub, uc, ud]
       refine tx 32 94 hSS ?_
       simp only [ua, ub, uc, ud]
       refine tu 33 95 hSS ?_
       simp only [ua, ub, uc, ud]
       refine tu 34 96 hSS ?_
       simp only [ua, ub, uc, ud]
       refine tu 35 97 hSS ?_
       simp only [ua, ub, uc, ud]
       refine tu 36 98 hSS ?_
       simp only [ua, ub, uc, ud]
       refine tx 37 99 hSS ?_
       simp only [ua, ub, uc, ud]
       refine AnyBut.done (by kernel_rfl) ?_
       clear hSS
       have HZ : Hid (Below w.heap.size w X.drew) := HBX.out _ (Below.refl _ X).drew
       clear HS0
       go_wp2
       exact HNo.out _ (HNK.out fun h => by have h9 := h.nx; have := HE.out.2.2.1; simp only at h9; omega) HZ.out
     have g2b : decide (nx ≤ pi) = false := decide_eq_false g2
     by_cases g4 : Chk (en p)
     case neg =>
       rw [D.cerr_bad g4] at HC8
       go_wp2
       rw [← hX]
       clear hX p0 p1 c0 c1 c2 c3 c4 c5
       have hSS := HS0
       refine AnyBut.begin (fun U => U.cell? ⟨w.heap.size, 0, none⟩ = some (.slice a n c) ∧ U.cell? ⟨w.heap.size, 1, none⟩ = some (.int .i64 nx) ∧ U.cell? ⟨wr.heap.size, 0, none⟩ = some (.int .i64 pi) ∧ U.cell? ⟨wr.heap.size, 3, none⟩ = some (.slice ea el ec) ∧ U.cell? ⟨wr.heap.size, 4, none⟩ = some (.int .i64 pz) ∧ U.cell? ⟨wr.heap.size, 4 + 1, none⟩ = some (.slice fa fl fc)) 1000 (by kernel_rfl) ?_
       refine tx 0 62 hSS ?_
       simp only [ua, ub, uc, ud]
       refine tx 1 63 hSS ?_
       simp only [ua, ub, uc, ud]
       refine tx 2 64 hSS ?_
       simp only [ua, ub, uc, ud]
       refine tx 3 65 hSS ?_
       simp only [ua, ub, uc, ud]
       refine tx 4 66 hSS ?_
       simp only [ua, ub, uc, ud]
       refine tx 5 67 hSS ?_
       simp only [ua, ub, uc, ud]
       refine tx 6 68 hSS ?_
       simp only [ua, ub, uc, ud]
       refine tx 7 69 hSS ?_
       simp only [ua, ub, uc, ud]
       refine tx 8 70 hSS ?_
       simp only [ua, ub, uc, ud]
       refine tx 9 71 hSS ?_
       simp only [ua, ub, uc, ud]
       refine tx 10 72 hSS ?_
       simp only [ua, ub, uc, ud]
       refine tx 11 73 hSS ?_
       simp only [ua, ub, uc, ud]
       refine tx 12 74 hSS ?_
       simp only [ua, ub, uc, ud]
       refine tx 13 75 hSS ?_
       simp only [ua, ub, uc, ud]
       refine tu 14 76 hSS ?_
       simp only [ua, ub, uc, ud]
       refine tu 15 77 hSS ?_
       simp only [ua, ub, uc, ud]
       refine tu 16 78 hSS ?_
       simp only [ua, ub, uc, ud]
       refine tu 17 79 hSS ?_
       simp only [ua, ub, uc, ud]
       refine tu 18 80 hSS ?_
       simp only [ua, ub, uc, ud]
       refine tu 19 81 hSS ?_
       simp only [ua, ub, uc, ud]
       refine tu 20 82 hSS ?_
       simp only [ua, ub, uc, ud]
       refine tu 21 83 hSS ?_
       simp only [ua, ub, uc, ud]
       refine tu 22 84 hSS ?_
       simp only [ua, ub, uc, ud]
       refine tu 23 85 hSS ?_
       simp only [ua, ub, uc, ud]
       refine tx 24 86 hSS ?_
       simp only [ua, ub, uc, ud]
       refine tx 25 87 hSS ?_
       simp only [ua, ub, uc, ud]
       refine tx 26 88 hSS ?_
       simp only [ua, ub, uc, ud]
       refine tx 27 89 hSS ?_
       simp only [ua, ub, uc, ud]
       refine tx 28 90 hSS ?_
       simp only [ua, ub, uc, ud]
       refine AnyBut.step (i := 29) (by kernel_rfl) rfl (fun K hK => ?_)
       go_simp
       refine Calls.mono HC8 ?_
       rintro e v1 ⟨rfl, q1, rfl⟩
       have HV1 : Hid (Below X.heap.size X (X.drew.drewN q1)) := below_drewN (Below.refl _ X).drew q1
       have HC7' := HC7.out (1 + q1)
       have HV1' : Hid (Below X.heap.size X (X.drewN (1 + q1))) := below_drewN (Below.refl _ X) _
       dsimp only
       refine hK.out _ _ (HSX.out _ HV1.out) ?_
       clear hK hSS
       have hSS := HSX.out _ HV1.out
       refine tx 30 92 hSS ?_
       simp only [ua, ub, uc, ud]
       refine tx 31 93 hSS ?_
       simp only [ua, ub, uc, ud]
       refine tx 32 94 hSS ?_
       simp only [ua, ub, uc, ud]
       refine tu 33 95 hSS ?_
       simp only [ua, ub, uc, ud]
       refine tu 34 96 hSS ?_
       simp only [ua, ub, uc, ud]
       refine tu 35 97 hSS ?_
       simp only [ua, ub, uc, ud]
       refine tu 36 98 hSS ?_
       simp only [ua, ub, uc, ud]
       refine tx 37 99 hSS ?_
       simp only [ua, ub, uc, ud]
       refine AnyBut.done (by kernel_rfl) ?_
       clear hSS
       have HZ : Hid (Below w.heap.size w (X.drew.drewN q1)) := HBX.out _ HV1.out
       clear HS0
       go_wp2
       exact HNo.out _ (HNK.out fun h => g4 h.ens) HZ.out
     rw [D.cerr_ok g4] at HC8
     by_cases g5 : F.chk (fi p) = true
     case neg =>
       have HCE : F.cerr (fi p) = 9 := if_neg g5
       rw [HCE] at HC7
       clear HCE
       go_wp2
       rw [← hX]
       clear hX p0 p1 c0 c1 c2 c3 c4 c5
       have hSS := HS0
       refine AnyBut.begin (fun U => U.cell? ⟨w.heap.size, 0, none⟩ = some (.slice a n c) ∧ U.cell? ⟨w.heap.size, 1, none⟩ = some (.int .i64 nx) ∧ U.cell? ⟨wr.heap.size, 0, none⟩ = some (.int .i64 pi) ∧ U.cell? ⟨wr.heap.size, 3, none⟩ = some (.slice ea el ec) ∧ U.cell? ⟨wr.heap.size, 4, none⟩ = some (.int .i64 pz) ∧ U.cell? ⟨wr.heap.size, 4 + 1, none⟩ = some (.slice fa fl fc)) 1000 (by kernel_rfl) ?_
       refine tx 0 62 hSS ?_
       simp only [ua, ub, uc, ud]
       refine tx 1 63 hSS ?_
       simp only [ua, ub, uc, ud]
       refine tx 2 64 hSS ?_
       simp only [ua, ub, uc, ud]
       refine tx 3 65 hSS ?_
       simp only [ua, ub, uc, ud]
       refine tx 4 66 hSS ?_
       simp only [ua, ub, uc, ud]
       refine tx 5 67 hSS ?_
       simp only [ua, ub, uc, ud]
       refine tx 6 68 hSS ?_
       simp only [ua, ub, uc, ud]
       refine tx 7 69 hSS ?_
       simp only [ua, ub, uc, ud]
       refine tx 8 70 hSS ?_
       simp only [ua, ub, uc, ud]
       refine tx 9 71 hSS ?_
       simp only [ua, ub, uc, ud]
       refine tx 10 72 hSS ?_
       simp only [ua, ub, uc, ud]
       refine tx 11 73 hSS ?_
       simp only [ua, ub, uc, ud]
       refine tx 12 74 hSS ?_
       simp only [ua, ub, uc, ud]
       refine tx 13 75 hSS ?_
       simp only [ua, ub, uc, ud]
       refine tu 14 76 hSS ?_
       simp only [ua, ub, uc, ud]
       refine tu 15 77 hSS ?_
       simp only [ua, ub, uc, ud]
       refine tu 16 78 hSS ?_
       simp only [ua, ub, uc, ud]
       refine tu 17 79 hSS ?_
       simp only [ua, ub, uc, ud]
       refine tu 18 80 hSS ?_
       simp only [ua, ub, uc, ud]
       refine tu 19 81 hSS ?_
       simp only [ua, ub, uc, ud]
       refine tu 20 82 hSS ?_
       simp only [ua, ub, uc, ud]
       refine tu 21 83 hSS ?_
       simp only [ua, ub, uc, ud]
       refine tu 22 84 hSS ?_
       simp only [ua, ub, uc, ud]
       refine tu 23 85 hSS ?_
       simp only [ua, ub, uc, ud]
       refine tx 24 86 hSS ?_
       simp only [ua, ub, uc, ud]
       refine tx 25 87 hSS ?_
       simp only [ua, ub, uc, ud]
       refine tx 26 88 hSS ?_
       simp only [ua, ub, uc, ud]
       refine tx 27 89 hSS ?_
       simp only [ua, ub, uc, ud]
       refine tx 28 90 hSS ?_
       simp only [ua, ub, uc, ud]
       refine AnyBut.step (i := 29) (by kernel_rfl) rfl (fun K hK => ?_)
       go_simp
       refine Calls.mono HC8 ?_
       rintro e v1 ⟨rfl, q1, rfl⟩
       have HV1 : Hid (Below X.heap.size X (X.drew.drewN q1)) := below_drewN (Below.refl _ X).drew q1
       have HC7' := HC7.out (1 + q1)
       have HV1' : Hid (Below X.heap.size X (X.drewN (1 + q1))) := below_drewN (Below.refl _ X) _
       dsimp only
       refine hK.out _ _ (HSX.out _ HV1.out) ?_
       clear hK hSS
       have hSS := HSX.out _ HV1.out
       refine tx 30 92 hSS ?_
       simp only [ua, ub, uc, ud]
       refine tx 31 93 hSS ?_
       simp only [ua, ub, uc, ud]
       refine tx 32 94 hSS ?_
       simp only [ua, ub, uc, ud]
       refine tx 33 95 hSS ?_
       simp only [ua, ub, uc, ud]
       refine tx 34 96 hSS ?_
       simp only [ua, ub, uc, ud]
       refine AnyBut.step (i := 35) (by kernel_rfl) rfl (fun K hK => ?_)
       go_simp
       refine Calls.mono HC7' ?_
       rintro e v2 ⟨rfl, hb2⟩
       have HV2 : Hid (Below X.heap.size X v2) := below_any HV1'.out hb2
       dsimp only
       refine hK.out _ _ (HSX.out _ HV2.out) ?_
       clear hK hSS
       have hSS := HSX.out _ HV2.out
       refine tx 36 98 hSS ?_
       simp only [ua, ub, uc, ud]
       refine tx 37 99 hSS ?_
       simp only [ua, ub, uc, ud]
       refine AnyBut.done (by kernel_rfl) ?_
       clear hSS
       have HZ : Hid (Below w.heap.size w v2) := HBX.out _ HV2.out
       clear HS0
       go_wp2
       exact HNo.out _ (HNK.out fun h => g5 h.fil) HZ.out
     have HCE : F.cerr (fi p) = 0 := if_pos g5
     rw [HCE] at HC7
     clear HCE
     go_wp2
     rw [← hX]
     clear hX p0 p1 c0 c1 c2 c3 c4 c5
     have hSS := HS0
     refine AnyBut.begin (fun U => U.cell? ⟨w.heap.size, 0, none⟩ = some (.slice a n c) ∧ U.cell? ⟨w.heap.size, 1, none⟩ = some (.int .i64 nx) ∧ U.cell? ⟨wr.heap.size, 0, none⟩ = some (.int .i64 pi) ∧ U.cell? ⟨wr.heap.size, 3, none⟩ = some (.slice ea el ec) ∧ U.cell? ⟨wr.heap.size, 4, none⟩ = some (.int .i64 pz) ∧ U.cell? ⟨wr.heap.size, 4 + 1, none⟩ = some (.slice fa fl fc)) 1000 (by kernel_rfl) ?_
     refine tx 0 62 hSS ?_
     simp only [ua, ub, uc, ud]
     refine tx 1 63 hSS ?_
     simp only [ua, ub, uc, ud]
     refine tx 2 64 hSS ?_
     simp only [ua, ub, uc, ud]
     refine tx 3 65 hSS ?_
     simp only [ua, ub, uc, ud]
     refine tx 4 66 hSS ?_
     simp only [ua, ub, uc, ud]
     refine tx 5 67 hSS ?_
     simp only [ua, ub, uc, ud]
     refine tx 6 68 hSS ?_
     simp only [ua, ub, uc, ud]
     refine tx 7 69 hSS ?_
     simp only [ua, ub, uc, ud]
     refine tx 8 70 hSS ?_
     simp only [ua, ub, uc, ud]
     refine tx 9 71 hSS ?_
     simp only [ua, ub, uc, ud]
     refine tx 10 72 hSS ?_
     simp only [ua, ub, uc, ud]
     refine tx 11 73 hSS ?_
     simp only [ua, ub, uc, ud]
     refine tx 12 74 hSS ?_
     simp only [ua, ub, uc, ud]
     refine tx 13 75 hSS ?_
     simp only [ua, ub, uc, ud]
     refine tu 14 76 hSS ?_
     simp only [ua, ub, uc, ud]
     refine tu 15 77 hSS ?_
     simp only [ua, ub, uc, ud]
     refine tu 16 78 hSS ?_
     simp only [ua, ub, uc, ud]
     refine tu 17 79 hSS ?_
     simp only [ua, ub, uc, ud]
     refine tu 18 80 hSS ?_
     simp only [ua, ub, uc, ud]
     refine tu 19 81 hSS ?_
     simp only [ua, ub, uc, ud]
     refine tu 20 82 hSS ?_
     simp only [ua, ub, uc, ud]
     refine tu 21 83 hSS ?_
     simp only [ua, ub, uc, ud]
     refine tu 22 84 hSS ?_
     simp only [ua, ub, uc, ud]
     refine tu 23 85 hSS ?_
     simp only [ua, ub, uc, ud]
     refine tx 24 86 hSS ?_
     simp only [ua, ub, uc, ud]
     refine tx 25 87 hSS ?_
     simp only [ua, ub, uc, ud]
     refine tx 26 88 hSS ?_
     simp only [ua, ub, uc, ud]
     refine tx 27 89 hSS ?_
     simp only [ua, ub, uc, ud]
     refine tx 28 90 hSS ?_
     simp only [ua, ub, uc, ud]
     refine AnyBut.step (i := 29) (by kernel_rfl) rfl (fun K hK => ?_)
     go_simp
     refine Calls.mono HC8 ?_
     rintro e v1 ⟨rfl, q1, rfl⟩
     have HV1 : Hid (Below X.heap.size X (X.drew.drewN q1)) := below_drewN (Below.refl _ X).drew q1
     have HC7' := HC7.out (1 + q1)
     have HV1' : Hid (Below X.heap.size X (X.drewN (1 + q1))) := below_drewN (Below.refl _ X) _
     dsimp only
     refine hK.out _ _ (HSX.out _ HV1.out) ?_
     clear hK hSS
     have hSS := HSX.out _ HV1.out
     refine tx 30 92 hSS ?_
     simp only [ua, ub, uc, ud]
     refine tx 31 93 hSS ?_
     simp only [ua, ub, uc, ud]
     refine tx 32 94 hSS ?_
     simp only [ua, ub, uc, ud]
     refine tx 33 95 hSS ?_
     simp only [ua, ub, uc, ud]
     refine tx 34 96 hSS ?_
     simp only [ua, ub, uc, ud]
     refine AnyBut.step (i := 35) (by kernel_rfl) rfl (fun K hK => ?_)
     go_simp
     refine Calls.mono HC7' ?_
     rintro e v2 ⟨rfl, hb2⟩
     have HV2 : Hid (Below X.heap.size X v2) := below_any HV1'.out hb2
     dsimp only
     refine hK.out _ _ (HSX.out _ HV2.out) ?_
     clear hK hSS
     have hSS := HSX.out _ HV2.out
     refine tx 36 98 hSS ?_
     simp only [ua, ub, uc, ud]
     refine tx 37 99 hSS ?_
     simp only [ua, ub, uc, ud]
     refine AnyBut.done (by kernel_rfl) ?_
     clear hSS
     obtain ⟨z0, z1, y0, y1, y2, y3, y4, y5⟩ := HCB.out v2 HV2.out
     have HZ : Hid (Below w.heap.size w v2) := HBX.out _ HV2.out
     have HG45 : Hid (Chk (en p) ∧ F.chk (fi p) = true) := ⟨g4, g5⟩
     clear HS0 HC7' hb2 HC8 HC7 HV1 HV1' g4 g5
     cases pd
     case true =>
       by_cases g6 : pz = 0
       case neg =>
         have g6b : (pz == 0) = false := by simpa using g6
         go_wp2
         exact HNo.out _ (HNK.out fun h => g6 (HE.out.2.2.2.2.2.trans (h.dir HE.out.2.2.2.1.symm))) HZ.out
       subst g6
       have HCN := rnamed_any n0 a c l nx pi v2.drew (by rw [← HN.out]; exact ndsR.below HW.out.2.1 (below_any HX.out.1 (below_any HV2.out (Below.refl _ v2).drew))) (by rw [← HN.out]; omega) HM.out
       rw [← HN.out] at HCN
       obtain ⟨cn, hcn⟩ := exa (cnt l pi)
       have HCNT : Hid (cn = cnt l p.1) := by show _ = _; rw [hcn, HE.out.2.2.1]
       rw [← hcn] at HCN
       clear hcn
       have HSY : Hid (∀ U, Below X.heap.size X U → U.cell? ⟨w.heap.size, 0, none⟩ = some (.slice a n c) ∧ U.cell? ⟨w.heap.size, 1, none⟩ = some (.int .i64 nx) ∧ U.cell? ⟨wr.heap.size, 0, none⟩ = some (.int .i64 pi) ∧ U.cell? ⟨wr.heap.size, 1, none⟩ = some (.bool true) ∧ U.cell? ⟨wr.heap.size, 2, none⟩ = some (.int .i64 pl)) := fun U hU => ⟨(HCB.out U hU).1, (HCB.out U hU).2.1, (HCB.out U hU).2.2.1, (HCB.out U hU).2.2.2.1, (HCB.out U hU).2.2.2.2.1⟩
       have HT0 := HSY.out v2.drew (below_any HV2.out (Below.refl _ v2).drew)
       by_cases g9 : pl = (cn : Int)
       case neg =>
         have g9b : (pl == (cn : Int)) = false := by simpa using g9
         have g9c : (pl != (cn : Int)) = true := by simpa using g9
         have g9d : decide (pl = (cn : Int)) = false := decide_eq_false g9
         go_wp2
         clear z0 z1 y0 y1 y2 y3 y4 y5
         have hSS := HT0
         refine AnyBut.begin (fun U => U.cell? ⟨w.heap.size, 0, none⟩ = some (.slice a n c) ∧ U.cell? ⟨w.heap.size, 1, none⟩ = some (.int .i64 nx) ∧ U.cell? ⟨wr.heap.size, 0, none⟩ = some (.int .i64 pi) ∧ U.cell? ⟨wr.heap.size, 1, none⟩ = some (.bool true) ∧ U.cell? ⟨wr.heap.size, 2, none⟩ = some (.int .i64 pl)) 1000 (by kernel_rfl) ?_
         refine tx 0 119 hSS ?_
         simp only [ua, ub, uc, ud]
         refine tx 1 120 hSS ?_
         simp only [ua, ub, uc, ud]
         refine tx 2 121 hSS ?_
         simp only [ua, ub, uc, ud]
         refine tu 3 122 hSS ?_
         simp only [ua, ub, uc, ud]
         refine tu 4 123 hSS ?_
         simp only [ua, ub, uc, ud]
         refine tu 5 124 hSS ?_
         simp only [ua, ub, uc, ud]
         refine tu 6 125 hSS ?_
         simp only [ua, ub, uc, ud]
         refine tu 7 126 hSS ?_
         simp only [ua, ub, uc, ud]
         refine tu 8 127 hSS ?_
         simp only [ua, ub, uc, ud]
         refine tu 9 128 hSS ?_
         simp only [ua, ub, uc, ud]
         refine tu 10 129 hSS ?_
         simp only [ua, ub, uc, ud]
         refine tu 11 130 hSS ?_
         simp only [ua, ub, uc, ud]
         refine tu 12 131 hSS ?_
         simp only [ua, ub, uc, ud]
         refine tu 13 132 hSS ?_
         simp only [ua, ub, uc, ud]
         refine tu 14 133 hSS ?_
         simp only [ua, ub, uc, ud]
         refine tu 15 134 hSS ?_
         simp only [ua, ub, uc, ud]
         refine tu 16 135 hSS ?_
         simp only [ua, ub, uc, ud]
         refine tu 17 136 hSS ?_
         simp only [ua, ub, uc, ud]
         refine tu 18 137 hSS ?_
         simp only [ua, ub, uc, ud]
         refine tu 19 138 hSS ?_
         simp only [ua, ub, uc, ud]
         refine tx 20 139 hSS ?_
         simp only [ua, ub, uc, ud]
         refine tx 21 140 hSS ?_
         simp only [ua, ub, uc, ud]
         refine tx 22 141 hSS ?_
         simp only [ua, ub, uc, ud]
         refine tx 23 142 hSS ?_
         simp only [ua, ub, uc, ud]
         refine tx 24 143 hSS ?_
         simp only [ua, ub, uc, ud]
         refine tx 25 144 hSS ?_
         simp only [ua, ub, uc, ud]
         refine tx 26 145 hSS ?_
         simp only [ua, ub, uc, ud]
         refine AnyBut.step (i := 27) (by kernel_rfl) rfl (fun K hK => ?_)
         go_simp
         refine Calls.mono HCN ?_
         rintro e v3 ⟨rfl, hb3⟩
         have HV3 : Hid (Below X.heap.size X v3) := below_any (below_any HV2.out (Below.refl _ v2).drew) hb3
         dsimp only
         refine hK.out _ _ (HSY.out _ HV3.out) ?_
         clear hK hSS
         have hSS := HSY.out _ HV3.out
         refine tx 28 147 hSS ?_
         simp only [ua, ub, uc, ud]
         refine tx 29 148 hSS ?_
         simp only [ua, ub, uc, ud]
         refine AnyBut.done (by kernel_rfl) ?_
         clear hSS
         have HZ3 : Hid (Below w.heap.size w v3) := HBX.out _ HV3.out
         clear HT0
         go_wp2
         exact HNo.out _ (HNK.out fun h => g9 (by rw [HCNT.out, HE.out.2.2.2.2.1]; exact h.lks)) HZ3.out
       have g9b : (pl == (cn : Int)) = true := by simpa using g9
       have g9c : (pl != (cn : Int)) = false := by simpa using g9
       have g9d : decide (pl = (cn : Int)) = true := decide_eq_true g9
       have HG9 : Hid (pl = (cn : Int)) := g9
       clear g9
       go_wp2
       clear z0 z1 y0 y1 y2 y3 y4 y5
       have hSS := HT0
       refine AnyBut.begin (fun U => U.cell? ⟨w.heap.size, 0, none⟩ = some (.slice a n c) ∧ U.cell? ⟨w.heap.size, 1, none⟩ = some (.int .i64 nx) ∧ U.cell? ⟨wr.heap.size, 0, none⟩ = some (.int .i64 pi) ∧ U.cell? ⟨wr.heap.size, 1, none⟩ = some (.bool true) ∧ U.cell? ⟨wr.heap.size, 2, none⟩ = some (.int .i64 pl)) 1000 (by kernel_rfl) ?_
       refine tx 0 119 hSS ?_
       simp only [ua, ub, uc, ud]
       refine tx 1 120 hSS ?_
       simp only [ua, ub, uc, ud]
       refine tx 2 121 hSS ?_
       simp only [ua, ub, uc, ud]
       refine tu 3 122 hSS ?_
       simp only [ua, ub, uc, ud]
       refine tu 4 123 hSS ?_
       simp only [ua, ub, uc, ud]
       refine tu 5 124 hSS ?_
       simp only [ua, ub, uc, ud]
       refine tu 6 125 hSS ?_
       simp only [ua, ub, uc, ud]
       refine tu 7 126 hSS ?_
       simp only [ua, ub, uc, ud]
       refine tu 8 127 hSS ?_
       simp only [ua, ub, uc, ud]
       refine tu 9 128 hSS ?_
       simp only [ua, ub, uc, ud]
       refine tu 10 129 hSS ?_
       simp only [ua, ub, uc, ud]
       refine tu 11 130 hSS ?_
       simp only [ua, ub, uc, ud]
       refine tu 12 131 hSS ?_
       simp only [ua, ub, uc, ud]
       refine tu 13 132 hSS ?_
       simp only [ua, ub, uc, ud]
       refine tu 14 133 hSS ?_
       simp only [ua, ub, uc, ud]
       refine tu 15 134 hSS ?_
       simp only [ua, ub, uc, ud]
       refine tu 16 135 hSS ?_
       simp only [ua, ub, uc, ud]
       refine tu 17 136 hSS ?_
       simp only [ua, ub, uc, ud]
       refine tu 18 137 hSS ?_
       simp only [ua, ub, uc, ud]
       refine tu 19 138 hSS ?_
       simp only [ua, ub, uc, ud]
       refine tx 20 139 hSS ?_
       simp only [ua, ub, uc, ud]
       refine tx 21 140 hSS ?_
       simp only [ua, ub, uc, ud]
       refine tx 22 141 hSS ?_
       simp only [ua, ub, uc, ud]
       refine tx 23 142 hSS ?_
       simp only [ua, ub, uc, ud]
       refine tx 24 143 hSS ?_
       simp only [ua, ub, uc, ud]
       refine tx 25 144 hSS ?_
       simp only [ua, ub, uc, ud]
       refine tx 26 145 hSS ?_
       simp only [ua, ub, uc, ud]
       refine AnyBut.step (i := 27) (by kernel_rfl) rfl (fun K hK => ?_)
       go_simp
       refine Calls.mono HCN ?_
       rintro e v3 ⟨rfl, hb3⟩
       have HV3 : Hid (Below X.heap.size X v3) := below_any (below_any HV2.out (Below.refl _ v2).drew) hb3
       dsimp only
       refine hK.out _ _ (HSY.out _ HV3.out) ?_
       clear hK hSS
       have hSS := HSY.out _ HV3.out
       refine tx 28 147 hSS ?_
       simp only [ua, ub, uc, ud]
       refine tx 29 148 hSS ?_
       simp only [ua, ub, uc, ud]
       refine AnyBut.done (by kernel_rfl) ?_
       clear hSS
       have HPL : Hid (pl = lk p ∧ pl = (cn : Int)) := ⟨HE.out.2.2.2.2.1, HG9.out⟩
       obtain ⟨z0, z1, y0, y1, y2, y3, y4, y5⟩ := HCB.out v3 HV3.out
       clear HT0 hb3 HCN g9b g9c g9d z0 z1 y0 y1 y2 y4 y5
       go_wp2
       clear y3
       have HNO : Hid ((∀ e ∈ en p, ∃ m ∈ l, m.1 = e.2) → NodeR (l, nx) 0 p) := fun hnm => by
         refine ⟨by have := HE.out.2.2.1; omega, by have := HE.out.2.2.1; simp only; omega, fun q hi => by omega, HG45.out.1, HG45.out.2, fun _ => HE.out.2.2.2.2.2.symm, fun hd => (by rw [← HE.out.2.2.2.1] at hd; cases hd), fun hi => by omega, fun hi => by omega, ?_, hnm⟩
         simp only
         rw [← HCNT.out, ← HPL.out.1]
         exact HPL.out.2
       go_loopw [5] (fun i wq => ∃ m : Nat, m ≤ el ∧ i = .int .i64 m ∧ Hid (∀ (j : Nat) e, j < m → (en p)[j]? = some e → ∃ q ∈ l, q.1 = e.2) ∧ Hid (Below X.heap.size X wq)) (fun i _ => el - (intOf i).toNat)
       case atStart => exact ⟨0, Nat.zero_le _, rfl, fun j e hj => by omega, HV3.out⟩
       case round =>
         rename World => wq
         obtain ⟨m, hm, rfl, HMM, HBQ⟩ := hrel
         obtain ⟨z0, z1, y0, y1, y2, y3, y4, y5⟩ := HCB.out wq HBQ.out
         by_cases hmlt : m < el
         case neg =>
           obtain rfl : m = el := by omega
           have HFIN : Hid (NodeR (l, nx) 0 p) := HNO.out fun x hx => by
             obtain ⟨i, hi⟩ := List.getElem?_of_mem hx
             exact HMM.out i x (by have := (List.getElem?_eq_some_iff.1 hi).1; have := HE.out.1; omega) hi
           clear z0 z1 y0 y1 y2 y4 y5
           go_wp2
           go_roundw
           case rel =>
             refine ⟨0 + 1, by omega, by go_num, fun i r hi hr => ?_, below_any HX.out.1 HBQ.out⟩
             by_cases h9 : i < 0
             · exact HK.out i r h9 hr
             · obtain rfl : i = 0 := by omega
               rw [HP.out.1] at hr
               cases hr
               exact HFIN.out
           case measure => simp [intOf]; omega
         obtain ⟨en', hen'⟩ := get_lt (l := en p) (k := m) (by have := HE.out.1; omega)
         obtain ⟨b9, o9, hix9, -, d0, d1⟩ := (HP.out.2.1.1.below (below_any HXW.out HBQ.out)).atR m en' hen'
         obtain ⟨es, ei⟩ := en'
         simp only at d0 d1
         have hmi : (m : Int) < (el : Int) := by omega
         have HEN : Hid ((en p)[m]? = some (es, ei)) := hen'
         have HCP := rplace_any n0 a c l nx ei wq.drew (by rw [← HN.out]; exact ndsR.below HW.out.2.1 (below_any HX.out.1 (below_any HBQ.out (Below.refl _ wq).drew)))
         rw [← HN.out] at HCP
         obtain ⟨pp, hpp⟩ := exa (plc l ei)
         have HPP : Hid (pp = plc l ei) := hpp
         rw [← hpp] at HCP
         have HR0 : wq.drew.cell? ⟨w.heap.size, 0, none⟩ = some (.slice a n c) ∧ wq.drew.cell? ⟨w.heap.size, 1, none⟩ = some (.int .i64 nx) ∧ wq.drew.cell? ⟨wr.heap.size, 3, none⟩ = some (.slice ea el ec) ∧ wq.drew.cell? ⟨b9, o9 + 1, none⟩ = some (.int .i64 ei) := ⟨z0, z1, y3, d1⟩
         clear hpp hen' z0 z1 y0 y1 y2 y4 y5 d0
         go_wp2
         clear y3 d1
         go_region_held3 (fun U => U.cell? ⟨w.heap.size, 0, none⟩ = some (.slice a n c) ∧ U.cell? ⟨w.heap.size, 1, none⟩ = some (.int .i64 nx) ∧ U.cell? ⟨wr.heap.size, 3, none⟩ = some (.slice ea el ec) ∧ U.cell? ⟨b9, o9 + 1, none⟩ = some (.int .i64 ei))
           (first | with_reducible exact HR1 | with_reducible exact HR0)
           ((first | (go_at_call 75; refine HCP.mono ?_; rintro e v4 ⟨rfl, hb4⟩; have HV4 : Hid (Below X.heap.size X v4) := below_any (below_any HBQ.out (Below.refl _ wq).drew) hb4; have HR1 : v4.cell? ⟨w.heap.size, 0, none⟩ = some (.slice a n c) ∧ v4.cell? ⟨w.heap.size, 1, none⟩ = some (.int .i64 nx) ∧ v4.cell? ⟨wr.heap.size, 3, none⟩ = some (.slice ea el ec) ∧ v4.cell? ⟨b9, o9 + 1, none⟩ = some (.int .i64 ei) := ⟨by rw [hb4.cell (cell_lt HR0.1)]; exact HR0.1, by rw [hb4.cell (cell_lt HR0.2.1)]; exact HR0.2.1, by rw [hb4.cell (cell_lt HR0.2.2.1)]; exact HR0.2.2.1, by rw [hb4.cell (cell_lt HR0.2.2.2)]; exact HR0.2.2.2⟩)))
         have HZ4 : Hid (Below w.heap.size w v4) := HBX.out _ HV4.out
         clear HR0 HR1 hb4 HCP
         by_cases g10 : pp < 0
         · go_wp2
           refine HNo.out _ (HNK.out fun h => ?_) HZ4.out
           obtain ⟨r, hr, hr2⟩ := h.nms (es, ei) (List.mem_of_getElem? HEN.out)
           rw [HPP.out] at g10
           exact (plc_neg g10).2.2 r hr hr2
         · go_wp2
           go_roundw
           case rel =>
             refine ⟨m + 1, by omega, by go_num, fun i r hi hr => ?_, HV4.out⟩
             by_cases h9 : i < m
             · exact HMM.out i r h9 hr
             · obtain rfl : i = m := by omega
               rw [HEN.out] at hr
               cases hr
               rw [HPP.out] at g10
               obtain ⟨k9, r9, -, hr9, hr8, -⟩ := plc_at (by omega : 0 ≤ plc l ei)
               exact ⟨r9, List.mem_of_getElem? hr9, hr8⟩
           case measure => simp [intOf]; omega
     case false =>
       by_cases g6 : 0 < el
       case pos =>
         have g6i : (0 : Int) < (el : Int) := by omega
         go_wp2
         refine HNo.out _ (HNK.out fun h => ?_) HZ.out
         have h1 := h.nod HE.out.2.2.2.1.symm
         have h2 := HE.out.1
         rw [h1] at h2
         simp at h2
         omega
       obtain rfl : el = 0 := by omega
       have HCN := rnamed_any n0 a c l nx pi v2.drew (by rw [← HN.out]; exact ndsR.below HW.out.2.1 (below_any HX.out.1 (below_any HV2.out (Below.refl _ v2).drew))) (by rw [← HN.out]; omega) HM.out
       rw [← HN.out] at HCN
       obtain ⟨cn, hcn⟩ := exa (cnt l pi)
       have HCNT : Hid (cn = cnt l p.1) := by show _ = _; rw [hcn, HE.out.2.2.1]
       rw [← hcn] at HCN
       clear hcn
       have HSY : Hid (∀ U, Below X.heap.size X U → U.cell? ⟨w.heap.size, 0, none⟩ = some (.slice a n c) ∧ U.cell? ⟨w.heap.size, 1, none⟩ = some (.int .i64 nx) ∧ U.cell? ⟨wr.heap.size, 0, none⟩ = some (.int .i64 pi) ∧ U.cell? ⟨wr.heap.size, 1, none⟩ = some (.bool false) ∧ U.cell? ⟨wr.heap.size, 2, none⟩ = some (.int .i64 pl)) := fun U hU => ⟨(HCB.out U hU).1, (HCB.out U hU).2.1, (HCB.out U hU).2.2.1, (HCB.out U hU).2.2.2.1, (HCB.out U hU).2.2.2.2.1⟩
       have HT0 := HSY.out v2.drew (below_any HV2.out (Below.refl _ v2).drew)
       by_cases g9 : pl = (cn : Int)
       case neg =>
         have g9b : (pl == (cn : Int)) = false := by simpa using g9
         have g9c : (pl != (cn : Int)) = true := by simpa using g9
         have g9d : decide (pl = (cn : Int)) = false := decide_eq_false g9
         go_wp2
         clear z0 z1 y0 y1 y2 y3 y4 y5
         have hSS := HT0
         refine AnyBut.begin (fun U => U.cell? ⟨w.heap.size, 0, none⟩ = some (.slice a n c) ∧ U.cell? ⟨w.heap.size, 1, none⟩ = some (.int .i64 nx) ∧ U.cell? ⟨wr.heap.size, 0, none⟩ = some (.int .i64 pi) ∧ U.cell? ⟨wr.heap.size, 1, none⟩ = some (.bool false) ∧ U.cell? ⟨wr.heap.size, 2, none⟩ = some (.int .i64 pl)) 1000 (by kernel_rfl) ?_
         refine tx 0 119 hSS ?_
         simp only [ua, ub, uc, ud]
         refine tx 1 120 hSS ?_
         simp only [ua, ub, uc, ud]
         refine tx 2 121 hSS ?_
         simp only [ua, ub, uc, ud]
         refine tu 3 122 hSS ?_
         simp only [ua, ub, uc, ud]
         refine tu 4 123 hSS ?_
         simp only [ua, ub, uc, ud]
         refine tu 5 124 hSS ?_
         simp only [ua, ub, uc, ud]
         refine tu 6 125 hSS ?_
         simp only [ua, ub, uc, ud]
         refine tu 7 126 hSS ?_
         simp only [ua, ub, uc, ud]
         refine tu 8 127 hSS ?_
         simp only [ua, ub, uc, ud]
         refine tu 9 128 hSS ?_
         simp only [ua, ub, uc, ud]
         refine tu 10 129 hSS ?_
         simp only [ua, ub, uc, ud]
         refine tu 11 130 hSS ?_
         simp only [ua, ub, uc, ud]
         refine tu 12 131 hSS ?_
         simp only [ua, ub, uc, ud]
         refine tu 13 132 hSS ?_
         simp only [ua, ub, uc, ud]
         refine tu 14 133 hSS ?_
         simp only [ua, ub, uc, ud]
         refine tu 15 134 hSS ?_
         simp only [ua, ub, uc, ud]
         refine tu 16 135 hSS ?_
         simp only [ua, ub, uc, ud]
         refine tu 17 136 hSS ?_
         simp only [ua, ub, uc, ud]
         refine tu 18 137 hSS ?_
         simp only [ua, ub, uc, ud]
         refine tu 19 138 hSS ?_
         simp only [ua, ub, uc, ud]
         refine tx 20 139 hSS ?_
         simp only [ua, ub, uc, ud]
         refine tx 21 140 hSS ?_
         simp only [ua, ub, uc, ud]
         refine tx 22 141 hSS ?_
         simp only [ua, ub, uc, ud]
         refine tx 23 142 hSS ?_
         simp only [ua, ub, uc, ud]
         refine tx 24 143 hSS ?_
         simp only [ua, ub, uc, ud]
         refine tx 25 144 hSS ?_
         simp only [ua, ub, uc, ud]
         refine tx 26 145 hSS ?_
         simp only [ua, ub, uc, ud]
         refine AnyBut.step (i := 27) (by kernel_rfl) rfl (fun K hK => ?_)
         go_simp
         refine Calls.mono HCN ?_
         rintro e v3 ⟨rfl, hb3⟩
         have HV3 : Hid (Below X.heap.size X v3) := below_any (below_any HV2.out (Below.refl _ v2).drew) hb3
         dsimp only
         refine hK.out _ _ (HSY.out _ HV3.out) ?_
         clear hK hSS
         have hSS := HSY.out _ HV3.out
         refine tx 28 147 hSS ?_
         simp only [ua, ub, uc, ud]
         refine tx 29 148 hSS ?_
         simp only [ua, ub, uc, ud]
         refine AnyBut.done (by kernel_rfl) ?_
         clear hSS
         have HZ3 : Hid (Below w.heap.size w v3) := HBX.out _ HV3.out
         clear HT0
         go_wp2
         exact HNo.out _ (HNK.out fun h => g9 (by rw [HCNT.out, HE.out.2.2.2.2.1]; exact h.lks)) HZ3.out
       have g9b : (pl == (cn : Int)) = true := by simpa using g9
       have g9c : (pl != (cn : Int)) = false := by simpa using g9
       have g9d : decide (pl = (cn : Int)) = true := decide_eq_true g9
       have HG9 : Hid (pl = (cn : Int)) := g9
       clear g9
       go_wp2
       clear z0 z1 y0 y1 y2 y3 y4 y5
       have hSS := HT0
       refine AnyBut.begin (fun U => U.cell? ⟨w.heap.size, 0, none⟩ = some (.slice a n c) ∧ U.cell? ⟨w.heap.size, 1, none⟩ = some (.int .i64 nx) ∧ U.cell? ⟨wr.heap.size, 0, none⟩ = some (.int .i64 pi) ∧ U.cell? ⟨wr.heap.size, 1, none⟩ = some (.bool false) ∧ U.cell? ⟨wr.heap.size, 2, none⟩ = some (.int .i64 pl)) 1000 (by kernel_rfl) ?_
       refine tx 0 119 hSS ?_
       simp only [ua, ub, uc, ud]
       refine tx 1 120 hSS ?_
       simp only [ua, ub, uc, ud]
       refine tx 2 121 hSS ?_
       simp only [ua, ub, uc, ud]
       refine tu 3 122 hSS ?_
       simp only [ua, ub, uc, ud]
       refine tu 4 123 hSS ?_
       simp only [ua, ub, uc, ud]
       refine tu 5 124 hSS ?_
       simp only [ua, ub, uc, ud]
       refine tu 6 125 hSS ?_
       simp only [ua, ub, uc, ud]
       refine tu 7 126 hSS ?_
       simp only [ua, ub, uc, ud]
       refine tu 8 127 hSS ?_
       simp only [ua, ub, uc, ud]
       refine tu 9 128 hSS ?_
       simp only [ua, ub, uc, ud]
       refine tu 10 129 hSS ?_
       simp only [ua, ub, uc, ud]
       refine tu 11 130 hSS ?_
       simp only [ua, ub, uc, ud]
       refine tu 12 131 hSS ?_
       simp only [ua, ub, uc, ud]
       refine tu 13 132 hSS ?_
       simp only [ua, ub, uc, ud]
       refine tu 14 133 hSS ?_
       simp only [ua, ub, uc, ud]
       refine tu 15 134 hSS ?_
       simp only [ua, ub, uc, ud]
       refine tu 16 135 hSS ?_
       simp only [ua, ub, uc, ud]
       refine tu 17 136 hSS ?_
       simp only [ua, ub, uc, ud]
       refine tu 18 137 hSS ?_
       simp only [ua, ub, uc, ud]
       refine tu 19 138 hSS ?_
       simp only [ua, ub, uc, ud]
       refine tx 20 139 hSS ?_
       simp only [ua, ub, uc, ud]
       refine tx 21 140 hSS ?_
       simp only [ua, ub, uc, ud]
       refine tx 22 141 hSS ?_
       simp only [ua, ub, uc, ud]
       refine tx 23 142 hSS ?_
       simp only [ua, ub, uc, ud]
       refine tx 24 143 hSS ?_
       simp only [ua, ub, uc, ud]
       refine tx 25 144 hSS ?_
       simp only [ua, ub, uc, ud]
       refine tx 26 145 hSS ?_
       simp only [ua, ub, uc, ud]
       refine AnyBut.step (i := 27) (by kernel_rfl) rfl (fun K hK => ?_)
       go_simp
       refine Calls.mono HCN ?_
       rintro e v3 ⟨rfl, hb3⟩
       have HV3 : Hid (Below X.heap.size X v3) := below_any (below_any HV2.out (Below.refl _ v2).drew) hb3
       dsimp only
       refine hK.out _ _ (HSY.out _ HV3.out) ?_
       clear hK hSS
       have hSS := HSY.out _ HV3.out
       refine tx 28 147 hSS ?_
       simp only [ua, ub, uc, ud]
       refine tx 29 148 hSS ?_
       simp only [ua, ub, uc, ud]
       refine AnyBut.done (by kernel_rfl) ?_
       clear hSS
       have HPL : Hid (pl = lk p ∧ pl = (cn : Int)) := ⟨HE.out.2.2.2.2.1, HG9.out⟩
       obtain ⟨z0, z1, y0, y1, y2, y3, y4, y5⟩ := HCB.out v3 HV3.out
       clear HT0 hb3 HCN g9b g9c g9d z0 z1 y0 y1 y2 y4 y5
       go_wp2
       clear y3
       have HNO : Hid ((∀ e ∈ en p, ∃ m ∈ l, m.1 = e.2) → NodeR (l, nx) 0 p) := fun hnm => by
         refine ⟨by have := HE.out.2.2.1; omega, by have := HE.out.2.2.1; simp only; omega, fun q hi => by omega, HG45.out.1, HG45.out.2, fun hd => (by rw [← HE.out.2.2.2.1] at hd; cases hd), fun _ => List.eq_nil_of_length_eq_zero HE.out.1.symm, fun hi => by omega, fun hi => by omega, ?_, hnm⟩
         simp only
         rw [← HCNT.out, ← HPL.out.1]
         exact HPL.out.2
       go_loopw [5] (fun i wq => ∃ m : Nat, m ≤ 0 ∧ i = .int .i64 m ∧ Hid (∀ (j : Nat) e, j < m → (en p)[j]? = some e → ∃ q ∈ l, q.1 = e.2) ∧ Hid (Below X.heap.size X wq)) (fun i _ => 0 - (intOf i).toNat)
       case atStart => exact ⟨0, Nat.zero_le _, rfl, fun j e hj => by omega, HV3.out⟩
       case round =>
         rename World => wq
         obtain ⟨m, hm, rfl, HMM, HBQ⟩ := hrel
         obtain ⟨z0, z1, y0, y1, y2, y3, y4, y5⟩ := HCB.out wq HBQ.out
         by_cases hmlt : m < 0
         case neg =>
           obtain rfl : m = 0 := by omega
           have HFIN : Hid (NodeR (l, nx) 0 p) := HNO.out fun x hx => by
             obtain ⟨i, hi⟩ := List.getElem?_of_mem hx
             exact HMM.out i x (by have := (List.getElem?_eq_some_iff.1 hi).1; have := HE.out.1; omega) hi
           clear z0 z1 y0 y1 y2 y4 y5
           go_wp2
           go_roundw
           case rel =>
             refine ⟨0 + 1, by omega, by go_num, fun i r hi hr => ?_, below_any HX.out.1 HBQ.out⟩
             by_cases h9 : i < 0
             · exact HK.out i r h9 hr
             · obtain rfl : i = 0 := by omega
               rw [HP.out.1] at hr
               cases hr
               exact HFIN.out
           case measure => simp [intOf]; omega
         exact absurd hmlt (Nat.not_lt_zero _)
   | succ j =>
     obtain ⟨q0, hq0⟩ := get_lt (l := l) (k := j) (by rw [← HN.out]; omega)
     obtain ⟨qb, qo, qe, qf, hixq, -, hcq, -⟩ := nds_atR (ndsR.below HW.out.2.1 HX.out.1) j q0 hq0
     obtain ⟨k0, -⟩ := nv_cells hcq
     obtain ⟨qi, hqi⟩ := exa (q0.1)
     rw [← hqi] at k0
     have HQ : Hid ((l[j]? = some q0 ∧ qi = q0.1) ∧ ∀ U, Below X.heap.size X U → U.cell? ⟨qb, qo, none⟩ = some (.int .i64 qi)) := ⟨⟨hq0, hqi⟩, fun U hU => by rw [hU.cell (cell_lt k0)]; exact k0⟩
     have hix1 : ∀ W, (Instr.indexAt 22 (.slice a n c) (.int .i64 ((j : Int) + 1))).run Tryz.prog W = .ok (.pointer (some ⟨b, o, none⟩)) W := hix
     have hwj : IntKind.i64.wrap (j : Int) = j := wrap_i64 (by omega) (by omega)
     have hwj1 : IntKind.i64.wrap ((j : Int) + 1 - 1) = j := by rw [wrap_i64 (by omega) (by omega)]; omega
     have hjn : (j : Int) < (n : Int) := by omega
     have hj0 : (0 : Int) ≤ (j : Int) := by omega
     have hj1 : (0 : Int) < (j : Int) + 1 := by omega
     have hj1b : decide ((0 : Int) < (j : Int) + 1) = true := decide_eq_true hj1
     clear hcq hqi hq0 k0
     have HSX : Hid (∀ U, Below X.heap.size X U → U.cell? ⟨w.heap.size, 0, none⟩ = some (.slice a n c) ∧ U.cell? ⟨w.heap.size, 1, none⟩ = some (.int .i64 nx) ∧ U.cell? ⟨wr.heap.size, 0, none⟩ = some (.int .i64 pi) ∧ U.cell? ⟨wr.heap.size, 3, none⟩ = some (.slice ea el ec) ∧ U.cell? ⟨wr.heap.size, 4, none⟩ = some (.int .i64 pz) ∧ U.cell? ⟨wr.heap.size, 4 + 1, none⟩ = some (.slice fa fl fc) ∧ U.cell? ⟨qb, qo, none⟩ = some (.int .i64 qi)) := fun U hU => ⟨(HCB.out U hU).1, (HCB.out U hU).2.1, (HCB.out U hU).2.2.1, (HCB.out U hU).2.2.2.2.2.1, (HCB.out U hU).2.2.2.2.2.2.1, (HCB.out U hU).2.2.2.2.2.2.2, HQ.out.2 U hU⟩
     have HS0 := HSX.out X.drew (Below.refl _ X).drew
     by_cases g1 : pi < 1
     case pos =>
       have g1b : decide (pi < 1) = true := decide_eq_true g1
       go_wp2
       rw [← hX]
       clear hX p0 p1 c0 c1 c2 c3 c4 c5
       have hSS := HS0
       refine AnyBut.begin (fun U => U.cell? ⟨w.heap.size, 0, none⟩ = some (.slice a n c) ∧ U.cell? ⟨w.heap.size, 1, none⟩ = some (.int .i64 nx) ∧ U.cell? ⟨wr.heap.size, 0, none⟩ = some (.int .i64 pi) ∧ U.cell? ⟨wr.heap.size, 3, none⟩ = some (.slice ea el ec) ∧ U.cell? ⟨wr.heap.size, 4, none⟩ = some (.int .i64 pz) ∧ U.cell? ⟨wr.heap.size, 4 + 1, none⟩ = some (.slice fa fl fc) ∧ U.cell? ⟨qb, qo, none⟩ = some (.int .i64 qi)) 1000 (by kernel_rfl) ?_
       refine tx 0 62 hSS ?_
       simp only [ua, ub, uc, ud]
       refine tx 1 63 hSS ?_
       simp only [ua, ub, uc, ud]
       refine tx 2 64 hSS ?_
       simp only [ua, ub, uc, ud]
       refine tx 3 65 hSS ?_
       simp only [ua, ub, uc, ud]
       refine tu 4 66 hSS ?_
       simp only [ua, ub, uc, ud]
       refine tu 5 67 hSS ?_
       simp only [ua, ub, uc, ud]
       refine tu 6 68 hSS ?_
       simp only [ua, ub, uc, ud]
       refine tu 7 69 hSS ?_
       simp only [ua, ub, uc, ud]
       refine tu 8 70 hSS ?_
       simp only [ua, ub, uc, ud]
       refine tx 9 71 hSS ?_
       simp only [ua, ub, uc, ud]
       refine tx 10 72 hSS ?_
       simp only [ua, ub, uc, ud]
       refine tu 11 73 hSS ?_
       simp only [ua, ub, uc, ud]
       refine tu 12 74 hSS ?_
       simp only [ua, ub, uc, ud]
       refine tu 13 75 hSS ?_
       simp only [ua, ub, uc, ud]
       refine tu 14 76 hSS ?_
       simp only [ua, ub, uc, ud]
       refine tu 15 77 hSS ?_
       simp only [ua, ub, uc, ud]
       refine tu 16 78 hSS ?_
       simp only [ua, ub, uc, ud]
       refine tu 17 79 hSS ?_
       simp only [ua, ub, uc, ud]
       refine tu 18 80 hSS ?_
       simp only [ua, ub, uc, ud]
       refine tu 19 81 hSS ?_
       simp only [ua, ub, uc, ud]
       refine tu 20 82 hSS ?_
       simp only [ua, ub, uc, ud]
       refine tu 21 83 hSS ?_
       simp only [ua, ub, uc, ud]
       refine tu 22 84 hSS ?_
       simp only [ua, ub, uc, ud]
       refine tu 23 85 hSS ?_
       simp only [ua, ub, uc, ud]
       refine tu 24 86 hSS ?_
       simp only [ua, ub, uc, ud]
       refine tx 25 87 hSS ?_
       simp only [ua, ub, uc, ud]
       refine tx 26 88 hSS ?_
       simp only [ua, ub, uc, ud]
       refine tu 27 89 hSS ?_
       simp only [ua, ub, uc, ud]
       refine tu 28 90 hSS ?_
       simp only [ua, ub, uc, ud]
       refine tu 29 91 hSS ?_
       simp only [ua, ub, uc, ud]
       refine tu 30 92 hSS ?_
       simp only [ua, ub, uc, ud]
       refine tx 31 93 hSS ?_
       simp only [ua, ub, uc, ud]
       refine tx 32 94 hSS ?_
       simp only [ua, ub, uc, ud]
       refine tu 33 95 hSS ?_
       simp only [ua, ub, uc, ud]
       refine tu 34 96 hSS ?_
       simp only [ua, ub, uc, ud]
       refine tu 35 97 hSS ?_
       simp only [ua, ub, uc, ud]
       refine tu 36 98 hSS ?_
       simp only [ua, ub, uc, ud]
       refine tx 37 99 hSS ?_
       simp only [ua, ub, uc, ud]
       refine AnyBut.done (by kernel_rfl) ?_
       clear hSS
       have HZ : Hid (Below w.heap.size w X.drew) := HBX.out _ (Below.refl _ X).drew
       clear HS0
       go_wp2
       exact HNo.out _ (HNK.out fun h => by have := h.low; have := HE.out.2.2.1; omega) HZ.out
     have g1b : decide (pi < 1) = false := decide_eq_false g1
     by_cases g2 : nx ≤ pi
     case pos =>
       have g2b : decide (nx ≤ pi) = true := decide_eq_true g2
       go_wp2
       rw [← hX]
       clear hX p0 p1 c0 c1 c2 c3 c4 c5
       have hSS := HS0
       refine AnyBut.begin (fun U => U.cell? ⟨w.heap.size, 0, none⟩ = some (.slice a n c) ∧ U.cell? ⟨w.heap.size, 1, none⟩ = some (.int .i64 nx) ∧ U.cell? ⟨wr.heap.size, 0, none⟩ = some (.int .i64 pi) ∧ U.cell? ⟨wr.heap.size, 3, none⟩ = some (.slice ea el ec) ∧ U.cell? ⟨wr.heap.size, 4, none⟩ = some (.int .i64 pz) ∧ U.cell? ⟨wr.heap.size, 4 + 1, none⟩ = some (.slice fa fl fc) ∧ U.cell? ⟨qb, qo, none⟩ = some (.int .i64 qi)) 1000 (by kernel_rfl) ?_
       refine tx 0 62 hSS ?_
       simp only [ua, ub, uc, ud]
       refine tx 1 63 hSS ?_
       simp only [ua, ub, uc, ud]
       refine tx 2 64 hSS ?_
       simp only [ua, ub, uc, ud]
       refine tx 3 65 hSS ?_
       simp only [ua, ub, uc, ud]
       refine tx 4 66 hSS ?_
       simp only [ua, ub, uc, ud]
       refine tx 5 67 hSS ?_
       simp only [ua, ub, uc, ud]
       refine tx 6 68 hSS ?_
       simp only [ua, ub, uc, ud]
       refine tx 7 69 hSS ?_
       simp only [ua, ub, uc, ud]
       refine tx 8 70 hSS ?_
       simp only [ua, ub, uc, ud]
       refine tx 9 71 hSS ?_
       simp only [ua, ub, uc, ud]
       refine tx 10 72 hSS ?_
       simp only [ua, ub, uc, ud]
       refine tu 11 73 hSS ?_
       simp only [ua, ub, uc, ud]
       refine tu 12 74 hSS ?_
       simp only [ua, ub, uc, ud]
       refine tu 13 75 hSS ?_
       simp only [ua, ub, uc, ud]
       refine tu 14 76 hSS ?_
       simp only [ua, ub, uc, ud]
       refine tu 15 77 hSS ?_
       simp only [ua, ub, uc, ud]
       refine tu 16 78 hSS ?_
       simp only [ua, ub, uc, ud]
       refine tu 17 79 hSS ?_
       simp only [ua, ub, uc, ud]
       refine tu 18 80 hSS ?_
       simp only [ua, ub, uc, ud]
       refine tu 19 81 hSS ?_
       simp only [ua, ub, uc, ud]
       refine tu 20 82 hSS ?_
       simp only [ua, ub, uc, ud]
       refine tu 21 83 hSS ?_
       simp only [ua, ub, uc, ud]
       refine tu 22 84 hSS ?_
       simp only [ua, ub, uc, ud]
       refine tu 23 85 hSS ?_
       simp only [ua, ub, uc, ud]
       refine tu 24 86 hSS ?_
       simp only [ua, ub, uc, ud]
       refine tx 25 87 hSS ?_
       simp only [ua, ub, uc, ud]
       refine tx 26 88 hSS ?_
       simp only [ua, ub, uc, ud]
       refine tu 27 89 hSS ?_
       simp only [ua, ub, uc, ud]
       refine tu 28 90 hSS ?_
       simp only [ua, ub, uc, ud]
       refine tu 29 91 hSS ?_
       simp only [ua, ub, uc, ud]
       refine tu 30 92 hSS ?_
       simp only [ua, ub, uc, ud]
       refine tx 31 93 hSS ?_
       simp only [ua, ub, uc, ud]
       refine tx 32 94 hSS ?_
       simp only [ua, ub, uc, ud]
       refine tu 33 95 hSS ?_
       simp only [ua, ub, uc, ud]
       refine tu 34 96 hSS ?_
       simp only [ua, ub, uc, ud]
       refine tu 35 97 hSS ?_
       simp only [ua, ub, uc, ud]
       refine tu 36 98 hSS ?_
       simp only [ua, ub, uc, ud]
       refine tx 37 99 hSS ?_
       simp only [ua, ub, uc, ud]
       refine AnyBut.done (by kernel_rfl) ?_
       clear hSS
       have HZ : Hid (Below w.heap.size w X.drew) := HBX.out _ (Below.refl _ X).drew
       clear HS0
       go_wp2
       exact HNo.out _ (HNK.out fun h => by have h9 := h.nx; have := HE.out.2.2.1; simp only at h9; omega) HZ.out
     have g2b : decide (nx ≤ pi) = false := decide_eq_false g2
     by_cases g3 : pi ≤ qi
     case pos =>
       have g3b : decide (pi ≤ qi) = true := decide_eq_true g3
       go_wp2
       rw [← hX]
       clear hX p0 p1 c0 c1 c2 c3 c4 c5
       have hSS := HS0
       refine AnyBut.begin (fun U => U.cell? ⟨w.heap.size, 0, none⟩ = some (.slice a n c) ∧ U.cell? ⟨w.heap.size, 1, none⟩ = some (.int .i64 nx) ∧ U.cell? ⟨wr.heap.size, 0, none⟩ = some (.int .i64 pi) ∧ U.cell? ⟨wr.heap.size, 3, none⟩ = some (.slice ea el ec) ∧ U.cell? ⟨wr.heap.size, 4, none⟩ = some (.int .i64 pz) ∧ U.cell? ⟨wr.heap.size, 4 + 1, none⟩ = some (.slice fa fl fc) ∧ U.cell? ⟨qb, qo, none⟩ = some (.int .i64 qi)) 1000 (by kernel_rfl) ?_
       refine tx 0 62 hSS ?_
       simp only [ua, ub, uc, ud]
       refine tx 1 63 hSS ?_
       simp only [ua, ub, uc, ud]
       refine tx 2 64 hSS ?_
       simp only [ua, ub, uc, ud]
       refine tx 3 65 hSS ?_
       simp only [ua, ub, uc, ud]
       refine tx 4 66 hSS ?_
       simp only [ua, ub, uc, ud]
       refine tx 5 67 hSS ?_
       simp only [ua, ub, uc, ud]
       refine tx 6 68 hSS ?_
       simp only [ua, ub, uc, ud]
       refine tx 7 69 hSS ?_
       simp only [ua, ub, uc, ud]
       refine tx 8 70 hSS ?_
       simp only [ua, ub, uc, ud]
       refine tx 9 71 hSS ?_
       simp only [ua, ub, uc, ud]
       refine tx 10 72 hSS ?_
       simp only [ua, ub, uc, ud]
       refine tx 11 73 hSS ?_
       simp only [ua, ub, uc, ud]
       refine tx 12 74 hSS ?_
       simp only [ua, ub, uc, ud]
       refine tx 13 75 hSS ?_
       simp only [ua, ub, uc, ud]
       refine tx 14 76 hSS ?_
       simp only [ua, ub, uc, ud]
       refine tx 15 77 hSS ?_
       simp only [ua, ub, uc, ud]
       refine tx 16 78 hSS ?_
       simp only [ua, ub, uc, ud]
       refine tx 17 79 hSS ?_
       simp only [ua, ub, uc, ud]
       refine tx 18 80 hSS ?_
       simp only [ua, ub, uc, ud]
       refine tx 19 81 hSS ?_
       simp only [ua, ub, uc, ud]
       refine tx 20 82 hSS ?_
       simp only [ua, ub, uc, ud]
       refine tx 21 83 hSS ?_
       simp only [ua, ub, uc, ud]
       refine tx 22 84 hSS ?_
       simp only [ua, ub, uc, ud]
       refine tx 23 85 hSS ?_
       simp only [ua, ub, uc, ud]
       refine tx 24 86 hSS ?_
       simp only [ua, ub, uc, ud]
       refine tx 25 87 hSS ?_
       simp only [ua, ub, uc, ud]
       refine tx 26 88 hSS ?_
       simp only [ua, ub, uc, ud]
       refine tu 27 89 hSS ?_
       simp only [ua, ub, uc, ud]
       refine tu 28 90 hSS ?_
       simp only [ua, ub, uc, ud]
       refine tu 29 91 hSS ?_
       simp only [ua, ub, uc, ud]
       refine tu 30 92 hSS ?_
       simp only [ua, ub, uc, ud]
       refine tx 31 93 hSS ?_
       simp only [ua, ub, uc, ud]
       refine tx 32 94 hSS ?_
       simp only [ua, ub, uc, ud]
       refine tu 33 95 hSS ?_
       simp only [ua, ub, uc, ud]
       refine tu 34 96 hSS ?_
       simp only [ua, ub, uc, ud]
       refine tu 35 97 hSS ?_
       simp only [ua, ub, uc, ud]
       refine tu 36 98 hSS ?_
       simp only [ua, ub, uc, ud]
       refine tx 37 99 hSS ?_
       simp only [ua, ub, uc, ud]
       refine AnyBut.done (by kernel_rfl) ?_
       clear hSS
       have HZ : Hid (Below w.heap.size w X.drew) := HBX.out _ (Below.refl _ X).drew
       clear HS0
       go_wp2
       exact HNo.out _ (HNK.out fun h => by have := h.up q0 (by omega) HQ.out.1.1; have := HE.out.2.2.1; have := HQ.out.1.2; omega) HZ.out
     have g3b : decide (pi ≤ qi) = false := decide_eq_false g3
     by_cases g4 : Chk (en p)
     case neg =>
       rw [D.cerr_bad g4] at HC8
       go_wp2
       rw [← hX]
       clear hX p0 p1 c0 c1 c2 c3 c4 c5
       have hSS := HS0
       refine AnyBut.begin (fun U => U.cell? ⟨w.heap.size, 0, none⟩ = some (.slice a n c) ∧ U.cell? ⟨w.heap.size, 1, none⟩ = some (.int .i64 nx) ∧ U.cell? ⟨wr.heap.size, 0, none⟩ = some (.int .i64 pi) ∧ U.cell? ⟨wr.heap.size, 3, none⟩ = some (.slice ea el ec) ∧ U.cell? ⟨wr.heap.size, 4, none⟩ = some (.int .i64 pz) ∧ U.cell? ⟨wr.heap.size, 4 + 1, none⟩ = some (.slice fa fl fc) ∧ U.cell? ⟨qb, qo, none⟩ = some (.int .i64 qi)) 1000 (by kernel_rfl) ?_
       refine tx 0 62 hSS ?_
       simp only [ua, ub, uc, ud]
       refine tx 1 63 hSS ?_
       simp only [ua, ub, uc, ud]
       refine tx 2 64 hSS ?_
       simp only [ua, ub, uc, ud]
       refine tx 3 65 hSS ?_
       simp only [ua, ub, uc, ud]
       refine tx 4 66 hSS ?_
       simp only [ua, ub, uc, ud]
       refine tx 5 67 hSS ?_
       simp only [ua, ub, uc, ud]
       refine tx 6 68 hSS ?_
       simp only [ua, ub, uc, ud]
       refine tx 7 69 hSS ?_
       simp only [ua, ub, uc, ud]
       refine tx 8 70 hSS ?_
       simp only [ua, ub, uc, ud]
       refine tx 9 71 hSS ?_
       simp only [ua, ub, uc, ud]
       refine tx 10 72 hSS ?_
       simp only [ua, ub, uc, ud]
       refine tx 11 73 hSS ?_
       simp only [ua, ub, uc, ud]
       refine tx 12 74 hSS ?_
       simp only [ua, ub, uc, ud]
       refine tx 13 75 hSS ?_
       simp only [ua, ub, uc, ud]
       refine tx 14 76 hSS ?_
       simp only [ua, ub, uc, ud]
       refine tx 15 77 hSS ?_
       simp only [ua, ub, uc, ud]
       refine tx 16 78 hSS ?_
       simp only [ua, ub, uc, ud]
       refine tx 17 79 hSS ?_
       simp only [ua, ub, uc, ud]
       refine tx 18 80 hSS ?_
       simp only [ua, ub, uc, ud]
       refine tx 19 81 hSS ?_
       simp only [ua, ub, uc, ud]
       refine tx 20 82 hSS ?_
       simp only [ua, ub, uc, ud]
       refine tx 21 83 hSS ?_
       simp only [ua, ub, uc, ud]
       refine tx 22 84 hSS ?_
       simp only [ua, ub, uc, ud]
       refine tx 23 85 hSS ?_
       simp only [ua, ub, uc, ud]
       refine tx 24 86 hSS ?_
       simp only [ua, ub, uc, ud]
       refine tx 25 87 hSS ?_
       simp only [ua, ub, uc, ud]
       refine tx 26 88 hSS ?_
       simp only [ua, ub, uc, ud]
       refine tx 27 89 hSS ?_
       simp only [ua, ub, uc, ud]
       refine tx 28 90 hSS ?_
       simp only [ua, ub, uc, ud]
       refine AnyBut.step (i := 29) (by kernel_rfl) rfl (fun K hK => ?_)
       go_simp
       refine Calls.mono HC8 ?_
       rintro e v1 ⟨rfl, q1, rfl⟩
       have HV1 : Hid (Below X.heap.size X (X.drew.drewN q1)) := below_drewN (Below.refl _ X).drew q1
       have HC7' := HC7.out (1 + q1)
       have HV1' : Hid (Below X.heap.size X (X.drewN (1 + q1))) := below_drewN (Below.refl _ X) _
       dsimp only
       refine hK.out _ _ (HSX.out _ HV1.out) ?_
       clear hK hSS
       have hSS := HSX.out _ HV1.out
       refine tx 30 92 hSS ?_
       simp only [ua, ub, uc, ud]
       refine tx 31 93 hSS ?_
       simp only [ua, ub, uc, ud]
       refine tx 32 94 hSS ?_
       simp only [ua, ub, uc, ud]
       refine tu 33 95 hSS ?_
       simp only [ua, ub, uc, ud]
       refine tu 34 96 hSS ?_
       simp only [ua, ub, uc, ud]
       refine tu 35 97 hSS ?_
       simp only [ua, ub, uc, ud]
       refine tu 36 98 hSS ?_
       simp only [ua, ub, uc, ud]
       refine tx 37 99 hSS ?_
       simp only [ua, ub, uc, ud]
       refine AnyBut.done (by kernel_rfl) ?_
       clear hSS
       have HZ : Hid (Below w.heap.size w (X.drew.drewN q1)) := HBX.out _ HV1.out
       clear HS0
       go_wp2
       exact HNo.out _ (HNK.out fun h => g4 h.ens) HZ.out
     rw [D.cerr_ok g4] at HC8
     by_cases g5 : F.chk (fi p) = true
     case neg =>
       have HCE : F.cerr (fi p) = 9 := if_neg g5
       rw [HCE] at HC7
       clear HCE
       go_wp2
       rw [← hX]
       clear hX p0 p1 c0 c1 c2 c3 c4 c5
       have hSS := HS0
       refine AnyBut.begin (fun U => U.cell? ⟨w.heap.size, 0, none⟩ = some (.slice a n c) ∧ U.cell? ⟨w.heap.size, 1, none⟩ = some (.int .i64 nx) ∧ U.cell? ⟨wr.heap.size, 0, none⟩ = some (.int .i64 pi) ∧ U.cell? ⟨wr.heap.size, 3, none⟩ = some (.slice ea el ec) ∧ U.cell? ⟨wr.heap.size, 4, none⟩ = some (.int .i64 pz) ∧ U.cell? ⟨wr.heap.size, 4 + 1, none⟩ = some (.slice fa fl fc) ∧ U.cell? ⟨qb, qo, none⟩ = some (.int .i64 qi)) 1000 (by kernel_rfl) ?_
       refine tx 0 62 hSS ?_
       simp only [ua, ub, uc, ud]
       refine tx 1 63 hSS ?_
       simp only [ua, ub, uc, ud]
       refine tx 2 64 hSS ?_
       simp only [ua, ub, uc, ud]
       refine tx 3 65 hSS ?_
       simp only [ua, ub, uc, ud]
       refine tx 4 66 hSS ?_
       simp only [ua, ub, uc, ud]
       refine tx 5 67 hSS ?_
       simp only [ua, ub, uc, ud]
       refine tx 6 68 hSS ?_
       simp only [ua, ub, uc, ud]
       refine tx 7 69 hSS ?_
       simp only [ua, ub, uc, ud]
       refine tx 8 70 hSS ?_
       simp only [ua, ub, uc, ud]
       refine tx 9 71 hSS ?_
       simp only [ua, ub, uc, ud]
       refine tx 10 72 hSS ?_
       simp only [ua, ub, uc, ud]
       refine tx 11 73 hSS ?_
       simp only [ua, ub, uc, ud]
       refine tx 12 74 hSS ?_
       simp only [ua, ub, uc, ud]
       refine tx 13 75 hSS ?_
       simp only [ua, ub, uc, ud]
       refine tx 14 76 hSS ?_
       simp only [ua, ub, uc, ud]
       refine tx 15 77 hSS ?_
       simp only [ua, ub, uc, ud]
       refine tx 16 78 hSS ?_
       simp only [ua, ub, uc, ud]
       refine tx 17 79 hSS ?_
       simp only [ua, ub, uc, ud]
       refine tx 18 80 hSS ?_
       simp only [ua, ub, uc, ud]
       refine tx 19 81 hSS ?_
       simp only [ua, ub, uc, ud]
       refine tx 20 82 hSS ?_
       simp only [ua, ub, uc, ud]
       refine tx 21 83 hSS ?_
       simp only [ua, ub, uc, ud]
       refine tx 22 84 hSS ?_
       simp only [ua, ub, uc, ud]
       refine tx 23 85 hSS ?_
       simp only [ua, ub, uc, ud]
       refine tx 24 86 hSS ?_
       simp only [ua, ub, uc, ud]
       refine tx 25 87 hSS ?_
       simp only [ua, ub, uc, ud]
       refine tx 26 88 hSS ?_
       simp only [ua, ub, uc, ud]
       refine tx 27 89 hSS ?_
       simp only [ua, ub, uc, ud]
       refine tx 28 90 hSS ?_
       simp only [ua, ub, uc, ud]
       refine AnyBut.step (i := 29) (by kernel_rfl) rfl (fun K hK => ?_)
       go_simp
       refine Calls.mono HC8 ?_
       rintro e v1 ⟨rfl, q1, rfl⟩
       have HV1 : Hid (Below X.heap.size X (X.drew.drewN q1)) := below_drewN (Below.refl _ X).drew q1
       have HC7' := HC7.out (1 + q1)
       have HV1' : Hid (Below X.heap.size X (X.drewN (1 + q1))) := below_drewN (Below.refl _ X) _
       dsimp only
       refine hK.out _ _ (HSX.out _ HV1.out) ?_
       clear hK hSS
       have hSS := HSX.out _ HV1.out
       refine tx 30 92 hSS ?_
       simp only [ua, ub, uc, ud]
       refine tx 31 93 hSS ?_
       simp only [ua, ub, uc, ud]
       refine tx 32 94 hSS ?_
       simp only [ua, ub, uc, ud]
       refine tx 33 95 hSS ?_
       simp only [ua, ub, uc, ud]
       refine tx 34 96 hSS ?_
       simp only [ua, ub, uc, ud]
       refine AnyBut.step (i := 35) (by kernel_rfl) rfl (fun K hK => ?_)
       go_simp
       refine Calls.mono HC7' ?_
       rintro e v2 ⟨rfl, hb2⟩
       have HV2 : Hid (Below X.heap.size X v2) := below_any HV1'.out hb2
       dsimp only
       refine hK.out _ _ (HSX.out _ HV2.out) ?_
       clear hK hSS
       have hSS := HSX.out _ HV2.out
       refine tx 36 98 hSS ?_
       simp only [ua, ub, uc, ud]
       refine tx 37 99 hSS ?_
       simp only [ua, ub, uc, ud]
       refine AnyBut.done (by kernel_rfl) ?_
       clear hSS
       have HZ : Hid (Below w.heap.size w v2) := HBX.out _ HV2.out
       clear HS0
       go_wp2
       exact HNo.out _ (HNK.out fun h => g5 h.fil) HZ.out
     have HCE : F.cerr (fi p) = 0 := if_pos g5
     rw [HCE] at HC7
     clear HCE
     go_wp2
     rw [← hX]
     clear hX p0 p1 c0 c1 c2 c3 c4 c5
     have hSS := HS0
     refine AnyBut.begin (fun U => U.cell? ⟨w.heap.size, 0, none⟩ = some (.slice a n c) ∧ U.cell? ⟨w.heap.size, 1, none⟩ = some (.int .i64 nx) ∧ U.cell? ⟨wr.heap.size, 0, none⟩ = some (.int .i64 pi) ∧ U.cell? ⟨wr.heap.size, 3, none⟩ = some (.slice ea el ec) ∧ U.cell? ⟨wr.heap.size, 4, none⟩ = some (.int .i64 pz) ∧ U.cell? ⟨wr.heap.size, 4 + 1, none⟩ = some (.slice fa fl fc) ∧ U.cell? ⟨qb, qo, none⟩ = some (.int .i64 qi)) 1000 (by kernel_rfl) ?_
     refine tx 0 62 hSS ?_
     simp only [ua, ub, uc, ud]
     refine tx 1 63 hSS ?_
     simp only [ua, ub, uc, ud]
     refine tx 2 64 hSS ?_
     simp only [ua, ub, uc, ud]
     refine tx 3 65 hSS ?_
     simp only [ua, ub, uc, ud]
     refine tx 4 66 hSS ?_
     simp only [ua, ub, uc, ud]
     refine tx 5 67 hSS ?_
     simp only [ua, ub, uc, ud]
     refine tx 6 68 hSS ?_
     simp only [ua, ub, uc, ud]
     refine tx 7 69 hSS ?_
     simp only [ua, ub, uc, ud]
     refine tx 8 70 hSS ?_
     simp only [ua, ub, uc, ud]
     refine tx 9 71 hSS ?_
     simp only [ua, ub, uc, ud]
     refine tx 10 72 hSS ?_
     simp only [ua, ub, uc, ud]
     refine tx 11 73 hSS ?_
     simp only [ua, ub, uc, ud]
     refine tx 12 74 hSS ?_
     simp only [ua, ub, uc, ud]
     refine tx 13 75 hSS ?_
     simp only [ua, ub, uc, ud]
     refine tx 14 76 hSS ?_
     simp only [ua, ub, uc, ud]
     refine tx 15 77 hSS ?_
     simp only [ua, ub, uc, ud]
     refine tx 16 78 hSS ?_
     simp only [ua, ub, uc, ud]
     refine tx 17 79 hSS ?_
     simp only [ua, ub, uc, ud]
     refine tx 18 80 hSS ?_
     simp only [ua, ub, uc, ud]
     refine tx 19 81 hSS ?_
     simp only [ua, ub, uc, ud]
     refine tx 20 82 hSS ?_
     simp only [ua, ub, uc, ud]
     refine tx 21 83 hSS ?_
     simp only [ua, ub, uc, ud]
     refine tx 22 84 hSS ?_
     simp only [ua, ub, uc, ud]
     refine tx 23 85 hSS ?_
     simp only [ua, ub, uc, ud]
     refine tx 24 86 hSS ?_
     simp only [ua, ub, uc, ud]
     refine tx 25 87 hSS ?_
     simp only [ua, ub, uc, ud]
     refine tx 26 88 hSS ?_
     simp only [ua, ub, uc, ud]
     refine tx 27 89 hSS ?_
     simp only [ua, ub, uc, ud]
     refine tx 28 90 hSS ?_
     simp only [ua, ub, uc, ud]
     refine AnyBut.step (i := 29) (by kernel_rfl) rfl (fun K hK => ?_)
     go_simp
     refine Calls.mono HC8 ?_
     rintro e v1 ⟨rfl, q1, rfl⟩
     have HV1 : Hid (Below X.heap.size X (X.drew.drewN q1)) := below_drewN (Below.refl _ X).drew q1
     have HC7' := HC7.out (1 + q1)
     have HV1' : Hid (Below X.heap.size X (X.drewN (1 + q1))) := below_drewN (Below.refl _ X) _
     dsimp only
     refine hK.out _ _ (HSX.out _ HV1.out) ?_
     clear hK hSS
     have hSS := HSX.out _ HV1.out
     refine tx 30 92 hSS ?_
     simp only [ua, ub, uc, ud]
     refine tx 31 93 hSS ?_
     simp only [ua, ub, uc, ud]
     refine tx 32 94 hSS ?_
     simp only [ua, ub, uc, ud]
     refine tx 33 95 hSS ?_
     simp only [ua, ub, uc, ud]
     refine tx 34 96 hSS ?_
     simp only [ua, ub, uc, ud]
     refine AnyBut.step (i := 35) (by kernel_rfl) rfl (fun K hK => ?_)
     go_simp
     refine Calls.mono HC7' ?_
     rintro e v2 ⟨rfl, hb2⟩
     have HV2 : Hid (Below X.heap.size X v2) := below_any HV1'.out hb2
     dsimp only
     refine hK.out _ _ (HSX.out _ HV2.out) ?_
     clear hK hSS
     have hSS := HSX.out _ HV2.out
     refine tx 36 98 hSS ?_
     simp only [ua, ub, uc, ud]
     refine tx 37 99 hSS ?_
     simp only [ua, ub, uc, ud]
     refine AnyBut.done (by kernel_rfl) ?_
     clear hSS
     obtain ⟨z0, z1, y0, y1, y2, y3, y4, y5⟩ := HCB.out v2 HV2.out
     have HZ : Hid (Below w.heap.size w v2) := HBX.out _ HV2.out
     have HG45 : Hid (Chk (en p) ∧ F.chk (fi p) = true) := ⟨g4, g5⟩
     clear HS0 HC7' hb2 HC8 HC7 HV1 HV1' g4 g5
     cases pd
     case true =>
       by_cases g6 : pz = 0
       case neg =>
         have g6b : (pz == 0) = false := by simpa using g6
         go_wp2
         exact HNo.out _ (HNK.out fun h => g6 (HE.out.2.2.2.2.2.trans (h.dir HE.out.2.2.2.1.symm))) HZ.out
       subst g6
       have HCN := rnamed_any n0 a c l nx pi v2.drew (by rw [← HN.out]; exact ndsR.below HW.out.2.1 (below_any HX.out.1 (below_any HV2.out (Below.refl _ v2).drew))) (by rw [← HN.out]; omega) HM.out
       rw [← HN.out] at HCN
       obtain ⟨cn, hcn⟩ := exa (cnt l pi)
       have HCNT : Hid (cn = cnt l p.1) := by show _ = _; rw [hcn, HE.out.2.2.1]
       rw [← hcn] at HCN
       clear hcn
       have HSY : Hid (∀ U, Below X.heap.size X U → U.cell? ⟨w.heap.size, 0, none⟩ = some (.slice a n c) ∧ U.cell? ⟨w.heap.size, 1, none⟩ = some (.int .i64 nx) ∧ U.cell? ⟨wr.heap.size, 0, none⟩ = some (.int .i64 pi) ∧ U.cell? ⟨wr.heap.size, 1, none⟩ = some (.bool true) ∧ U.cell? ⟨wr.heap.size, 2, none⟩ = some (.int .i64 pl)) := fun U hU => ⟨(HCB.out U hU).1, (HCB.out U hU).2.1, (HCB.out U hU).2.2.1, (HCB.out U hU).2.2.2.1, (HCB.out U hU).2.2.2.2.1⟩
       have HT0 := HSY.out v2.drew (below_any HV2.out (Below.refl _ v2).drew)
       have hjp : decide ((0 : Int) < (j : Int) + 1) = true := decide_eq_true (by omega)
       by_cases g7 : pl = 1
       case neg =>
         have g7b : (pl == 1) = false := by simpa using g7
         have g7c : (pl != 1) = true := by simpa using g7
         have g7d : decide (pl = 1) = false := decide_eq_false g7
         go_wp2
         clear z0 z1 y0 y1 y2 y3 y4 y5
         have hSS := HT0
         refine AnyBut.begin (fun U => U.cell? ⟨w.heap.size, 0, none⟩ = some (.slice a n c) ∧ U.cell? ⟨w.heap.size, 1, none⟩ = some (.int .i64 nx) ∧ U.cell? ⟨wr.heap.size, 0, none⟩ = some (.int .i64 pi) ∧ U.cell? ⟨wr.heap.size, 1, none⟩ = some (.bool true) ∧ U.cell? ⟨wr.heap.size, 2, none⟩ = some (.int .i64 pl)) 1000 (by kernel_rfl) ?_
         refine tx 0 119 hSS ?_
         simp only [ua, ub, uc, ud]
         refine tx 1 120 hSS ?_
         simp only [ua, ub, uc, ud]
         refine tx 2 121 hSS ?_
         simp only [ua, ub, uc, ud]
         refine tx 3 122 hSS ?_
         simp only [ua, ub, uc, ud]
         refine tx 4 123 hSS ?_
         simp only [ua, ub, uc, ud]
         refine tx 5 124 hSS ?_
         simp only [ua, ub, uc, ud]
         refine tx 6 125 hSS ?_
         simp only [ua, ub, uc, ud]
         refine tx 7 126 hSS ?_
         simp only [ua, ub, uc, ud]
         refine tx 8 127 hSS ?_
         simp only [ua, ub, uc, ud]
         refine tx 9 128 hSS ?_
         simp only [ua, ub, uc, ud]
         refine tx 10 129 hSS ?_
         simp only [ua, ub, uc, ud]
         refine tu 11 130 hSS ?_
         simp only [ua, ub, uc, ud]
         refine tu 12 131 hSS ?_
         simp only [ua, ub, uc, ud]
         refine tu 13 132 hSS ?_
         simp only [ua, ub, uc, ud]
         refine tx 14 133 hSS ?_
         simp only [ua, ub, uc, ud]
         refine tx 15 134 hSS ?_
         simp only [ua, ub, uc, ud]
         refine tu 16 135 hSS ?_
         simp only [ua, ub, uc, ud]
         refine tu 17 136 hSS ?_
         simp only [ua, ub, uc, ud]
         refine tu 18 137 hSS ?_
         simp only [ua, ub, uc, ud]
         refine tx 19 138 hSS ?_
         simp only [ua, ub, uc, ud]
         refine tx 20 139 hSS ?_
         simp only [ua, ub, uc, ud]
         refine tx 21 140 hSS ?_
         simp only [ua, ub, uc, ud]
         refine tu 22 141 hSS ?_
         simp only [ua, ub, uc, ud]
         refine tu 23 142 hSS ?_
         simp only [ua, ub, uc, ud]
         refine tu 24 143 hSS ?_
         simp only [ua, ub, uc, ud]
         refine tu 25 144 hSS ?_
         simp only [ua, ub, uc, ud]
         refine tu 26 145 hSS ?_
         simp only [ua, ub, uc, ud]
         refine tu 27 146 hSS ?_
         simp only [ua, ub, uc, ud]
         refine tu 28 147 hSS ?_
         simp only [ua, ub, uc, ud]
         refine tx 29 148 hSS ?_
         simp only [ua, ub, uc, ud]
         refine AnyBut.done (by kernel_rfl) ?_
         clear hSS
         have HZ3 : Hid (Below w.heap.size w v2.drew) := HBX.out _ (below_any HV2.out (Below.refl _ v2).drew)
         clear HT0
         go_wp2
         exact HNo.out _ (HNK.out fun h => g7 (HE.out.2.2.2.2.1.trans (h.one (by omega) HE.out.2.2.2.1.symm))) HZ3.out
       subst g7
       by_cases g9 : (1 : Int) = (cn : Int)
       case neg =>
         have g9b : ((1 : Int) == (cn : Int)) = false := by simpa using g9
         have g9c : ((1 : Int) != (cn : Int)) = true := by simpa using g9
         have g9d : decide ((1 : Int) = (cn : Int)) = false := decide_eq_false g9
         go_wp2
         clear z0 z1 y0 y1 y2 y3 y4 y5
         have hSS := HT0
         refine AnyBut.begin (fun U => U.cell? ⟨w.heap.size, 0, none⟩ = some (.slice a n c) ∧ U.cell? ⟨w.heap.size, 1, none⟩ = some (.int .i64 nx) ∧ U.cell? ⟨wr.heap.size, 0, none⟩ = some (.int .i64 pi) ∧ U.cell? ⟨wr.heap.size, 1, none⟩ = some (.bool true) ∧ U.cell? ⟨wr.heap.size, 2, none⟩ = some (.int .i64 1)) 1000 (by kernel_rfl) ?_
         refine tx 0 119 hSS ?_
         simp only [ua, ub, uc, ud]
         refine tx 1 120 hSS ?_
         simp only [ua, ub, uc, ud]
         refine tx 2 121 hSS ?_
         simp only [ua, ub, uc, ud]
         refine tx 3 122 hSS ?_
         simp only [ua, ub, uc, ud]
         refine tx 4 123 hSS ?_
         simp only [ua, ub, uc, ud]
         refine tx 5 124 hSS ?_
         simp only [ua, ub, uc, ud]
         refine tx 6 125 hSS ?_
         simp only [ua, ub, uc, ud]
         refine tx 7 126 hSS ?_
         simp only [ua, ub, uc, ud]
         refine tx 8 127 hSS ?_
         simp only [ua, ub, uc, ud]
         refine tx 9 128 hSS ?_
         simp only [ua, ub, uc, ud]
         refine tx 10 129 hSS ?_
         simp only [ua, ub, uc, ud]
         refine tx 11 130 hSS ?_
         simp only [ua, ub, uc, ud]
         refine tx 12 131 hSS ?_
         simp only [ua, ub, uc, ud]
         refine tx 13 132 hSS ?_
         simp only [ua, ub, uc, ud]
         refine tx 14 133 hSS ?_
         simp only [ua, ub, uc, ud]
         refine tx 15 134 hSS ?_
         simp only [ua, ub, uc, ud]
         refine tx 16 135 hSS ?_
         simp only [ua, ub, uc, ud]
         refine tx 17 136 hSS ?_
         simp only [ua, ub, uc, ud]
         refine tx 18 137 hSS ?_
         simp only [ua, ub, uc, ud]
         refine tx 19 138 hSS ?_
         simp only [ua, ub, uc, ud]
         refine tx 20 139 hSS ?_
         simp only [ua, ub, uc, ud]
         refine tx 21 140 hSS ?_
         simp only [ua, ub, uc, ud]
         refine tx 22 141 hSS ?_
         simp only [ua, ub, uc, ud]
         refine tx 23 142 hSS ?_
         simp only [ua, ub, uc, ud]
         refine tx 24 143 hSS ?_
         simp only [ua, ub, uc, ud]
         refine tx 25 144 hSS ?_
         simp only [ua, ub, uc, ud]
         refine tx 26 145 hSS ?_
         simp only [ua, ub, uc, ud]
         refine AnyBut.step (i := 27) (by kernel_rfl) rfl (fun K hK => ?_)
         go_simp
         refine Calls.mono HCN ?_
         rintro e v3 ⟨rfl, hb3⟩
         have HV3 : Hid (Below X.heap.size X v3) := below_any (below_any HV2.out (Below.refl _ v2).drew) hb3
         dsimp only
         refine hK.out _ _ (HSY.out _ HV3.out) ?_
         clear hK hSS
         have hSS := HSY.out _ HV3.out
         refine tx 28 147 hSS ?_
         simp only [ua, ub, uc, ud]
         refine tx 29 148 hSS ?_
         simp only [ua, ub, uc, ud]
         refine AnyBut.done (by kernel_rfl) ?_
         clear hSS
         have HZ3 : Hid (Below w.heap.size w v3) := HBX.out _ HV3.out
         clear HT0
         go_wp2
         exact HNo.out _ (HNK.out fun h => g9 (by rw [HCNT.out]; exact HE.out.2.2.2.2.1.trans h.lks)) HZ3.out
       have g9b : ((1 : Int) == (cn : Int)) = true := by simpa using g9
       have g9c : ((1 : Int) != (cn : Int)) = false := by simpa using g9
       have g9d : decide ((1 : Int) = (cn : Int)) = true := decide_eq_true g9
       have HG9 : Hid ((1 : Int) = (cn : Int)) := g9
       clear g9
       go_wp2
       clear z0 z1 y0 y1 y2 y3 y4 y5
       have hSS := HT0
       refine AnyBut.begin (fun U => U.cell? ⟨w.heap.size, 0, none⟩ = some (.slice a n c) ∧ U.cell? ⟨w.heap.size, 1, none⟩ = some (.int .i64 nx) ∧ U.cell? ⟨wr.heap.size, 0, none⟩ = some (.int .i64 pi) ∧ U.cell? ⟨wr.heap.size, 1, none⟩ = some (.bool true) ∧ U.cell? ⟨wr.heap.size, 2, none⟩ = some (.int .i64 1)) 1000 (by kernel_rfl) ?_
       refine tx 0 119 hSS ?_
       simp only [ua, ub, uc, ud]
       refine tx 1 120 hSS ?_
       simp only [ua, ub, uc, ud]
       refine tx 2 121 hSS ?_
       simp only [ua, ub, uc, ud]
       refine tx 3 122 hSS ?_
       simp only [ua, ub, uc, ud]
       refine tx 4 123 hSS ?_
       simp only [ua, ub, uc, ud]
       refine tx 5 124 hSS ?_
       simp only [ua, ub, uc, ud]
       refine tx 6 125 hSS ?_
       simp only [ua, ub, uc, ud]
       refine tx 7 126 hSS ?_
       simp only [ua, ub, uc, ud]
       refine tx 8 127 hSS ?_
       simp only [ua, ub, uc, ud]
       refine tx 9 128 hSS ?_
       simp only [ua, ub, uc, ud]
       refine tx 10 129 hSS ?_
       simp only [ua, ub, uc, ud]
       refine tx 11 130 hSS ?_
       simp only [ua, ub, uc, ud]
       refine tx 12 131 hSS ?_
       simp only [ua, ub, uc, ud]
       refine tx 13 132 hSS ?_
       simp only [ua, ub, uc, ud]
       refine tx 14 133 hSS ?_
       simp only [ua, ub, uc, ud]
       refine tx 15 134 hSS ?_
       simp only [ua, ub, uc, ud]
       refine tx 16 135 hSS ?_
       simp only [ua, ub, uc, ud]
       refine tx 17 136 hSS ?_
       simp only [ua, ub, uc, ud]
       refine tx 18 137 hSS ?_
       simp only [ua, ub, uc, ud]
       refine tx 19 138 hSS ?_
       simp only [ua, ub, uc, ud]
       refine tx 20 139 hSS ?_
       simp only [ua, ub, uc, ud]
       refine tx 21 140 hSS ?_
       simp only [ua, ub, uc, ud]
       refine tx 22 141 hSS ?_
       simp only [ua, ub, uc, ud]
       refine tx 23 142 hSS ?_
       simp only [ua, ub, uc, ud]
       refine tx 24 143 hSS ?_
       simp only [ua, ub, uc, ud]
       refine tx 25 144 hSS ?_
       simp only [ua, ub, uc, ud]
       refine tx 26 145 hSS ?_
       simp only [ua, ub, uc, ud]
       refine AnyBut.step (i := 27) (by kernel_rfl) rfl (fun K hK => ?_)
       go_simp
       refine Calls.mono HCN ?_
       rintro e v3 ⟨rfl, hb3⟩
       have HV3 : Hid (Below X.heap.size X v3) := below_any (below_any HV2.out (Below.refl _ v2).drew) hb3
       dsimp only
       refine hK.out _ _ (HSY.out _ HV3.out) ?_
       clear hK hSS
       have hSS := HSY.out _ HV3.out
       refine tx 28 147 hSS ?_
       simp only [ua, ub, uc, ud]
       refine tx 29 148 hSS ?_
       simp only [ua, ub, uc, ud]
       refine AnyBut.done (by kernel_rfl) ?_
       clear hSS
       have HPL : Hid (1 = lk p ∧ 1 = (cn : Int)) := ⟨HE.out.2.2.2.2.1, HG9.out⟩
       obtain ⟨z0, z1, y0, y1, y2, y3, y4, y5⟩ := HCB.out v3 HV3.out
       clear HT0 hb3 HCN g9b g9c g9d z0 z1 y0 y1 y2 y4 y5
       go_wp2
       clear y3
       have HNO : Hid ((∀ e ∈ en p, ∃ m ∈ l, m.1 = e.2) → NodeR (l, nx) (j + 1) p) := fun hnm => by
         refine ⟨by have := HE.out.2.2.1; omega, by have := HE.out.2.2.1; simp only; omega, fun q _ hq => by
           have e1 := HQ.out.1.1
           have e2 : (l[j + 1 - 1]?) = some q := hq
           rw [show j + 1 - 1 = j by omega] at e2
           have e1 : l[j]? = some q0 := e1
           rw [e1] at e2
           cases e2
           have := HQ.out.1.2
           have := HE.out.2.2.1
           omega, HG45.out.1, HG45.out.2, fun _ => HE.out.2.2.2.2.2.symm, fun hd => (by rw [← HE.out.2.2.2.1] at hd; cases hd), fun _ _ => HPL.out.1.symm, fun _ => by rw [← HPL.out.1]; decide, ?_, hnm⟩
         simp only
         rw [← HCNT.out, ← HPL.out.1]
         exact HPL.out.2
       go_loopw [5] (fun i wq => ∃ m : Nat, m ≤ el ∧ i = .int .i64 m ∧ Hid (∀ (j : Nat) e, j < m → (en p)[j]? = some e → ∃ q ∈ l, q.1 = e.2) ∧ Hid (Below X.heap.size X wq)) (fun i _ => el - (intOf i).toNat)
       case atStart => exact ⟨0, Nat.zero_le _, rfl, fun j e hj => by omega, HV3.out⟩
       case round =>
         rename World => wq
         obtain ⟨m, hm, rfl, HMM, HBQ⟩ := hrel
         obtain ⟨z0, z1, y0, y1, y2, y3, y4, y5⟩ := HCB.out wq HBQ.out
         by_cases hmlt : m < el
         case neg =>
           obtain rfl : m = el := by omega
           have HFIN : Hid (NodeR (l, nx) (j + 1) p) := HNO.out fun x hx => by
             obtain ⟨i, hi⟩ := List.getElem?_of_mem hx
             exact HMM.out i x (by have := (List.getElem?_eq_some_iff.1 hi).1; have := HE.out.1; omega) hi
           clear z0 z1 y0 y1 y2 y4 y5
           go_wp2
           go_roundw
           case rel =>
             refine ⟨(j + 1) + 1, by omega, by go_num, fun i r hi hr => ?_, below_any HX.out.1 HBQ.out⟩
             by_cases h9 : i < (j + 1)
             · exact HK.out i r h9 hr
             · obtain rfl : i = j + 1 := by omega
               rw [HP.out.1] at hr
               cases hr
               exact HFIN.out
           case measure => simp [intOf]; omega
         obtain ⟨en', hen'⟩ := get_lt (l := en p) (k := m) (by have := HE.out.1; omega)
         obtain ⟨b9, o9, hix9, -, d0, d1⟩ := (HP.out.2.1.1.below (below_any HXW.out HBQ.out)).atR m en' hen'
         obtain ⟨es, ei⟩ := en'
         simp only at d0 d1
         have hmi : (m : Int) < (el : Int) := by omega
         have HEN : Hid ((en p)[m]? = some (es, ei)) := hen'
         have HCP := rplace_any n0 a c l nx ei wq.drew (by rw [← HN.out]; exact ndsR.below HW.out.2.1 (below_any HX.out.1 (below_any HBQ.out (Below.refl _ wq).drew)))
         rw [← HN.out] at HCP
         obtain ⟨pp, hpp⟩ := exa (plc l ei)
         have HPP : Hid (pp = plc l ei) := hpp
         rw [← hpp] at HCP
         have HR0 : wq.drew.cell? ⟨w.heap.size, 0, none⟩ = some (.slice a n c) ∧ wq.drew.cell? ⟨w.heap.size, 1, none⟩ = some (.int .i64 nx) ∧ wq.drew.cell? ⟨wr.heap.size, 3, none⟩ = some (.slice ea el ec) ∧ wq.drew.cell? ⟨b9, o9 + 1, none⟩ = some (.int .i64 ei) := ⟨z0, z1, y3, d1⟩
         clear hpp hen' z0 z1 y0 y1 y2 y4 y5 d0
         go_wp2
         clear y3 d1
         go_region_held3 (fun U => U.cell? ⟨w.heap.size, 0, none⟩ = some (.slice a n c) ∧ U.cell? ⟨w.heap.size, 1, none⟩ = some (.int .i64 nx) ∧ U.cell? ⟨wr.heap.size, 3, none⟩ = some (.slice ea el ec) ∧ U.cell? ⟨b9, o9 + 1, none⟩ = some (.int .i64 ei))
           (first | with_reducible exact HR1 | with_reducible exact HR0)
           ((first | (go_at_call 75; refine HCP.mono ?_; rintro e v4 ⟨rfl, hb4⟩; have HV4 : Hid (Below X.heap.size X v4) := below_any (below_any HBQ.out (Below.refl _ wq).drew) hb4; have HR1 : v4.cell? ⟨w.heap.size, 0, none⟩ = some (.slice a n c) ∧ v4.cell? ⟨w.heap.size, 1, none⟩ = some (.int .i64 nx) ∧ v4.cell? ⟨wr.heap.size, 3, none⟩ = some (.slice ea el ec) ∧ v4.cell? ⟨b9, o9 + 1, none⟩ = some (.int .i64 ei) := ⟨by rw [hb4.cell (cell_lt HR0.1)]; exact HR0.1, by rw [hb4.cell (cell_lt HR0.2.1)]; exact HR0.2.1, by rw [hb4.cell (cell_lt HR0.2.2.1)]; exact HR0.2.2.1, by rw [hb4.cell (cell_lt HR0.2.2.2)]; exact HR0.2.2.2⟩)))
         have HZ4 : Hid (Below w.heap.size w v4) := HBX.out _ HV4.out
         clear HR0 HR1 hb4 HCP
         by_cases g10 : pp < 0
         · go_wp2
           refine HNo.out _ (HNK.out fun h => ?_) HZ4.out
           obtain ⟨r, hr, hr2⟩ := h.nms (es, ei) (List.mem_of_getElem? HEN.out)
           rw [HPP.out] at g10
           exact (plc_neg g10).2.2 r hr hr2
         · go_wp2
           go_roundw
           case rel =>
             refine ⟨m + 1, by omega, by go_num, fun i r hi hr => ?_, HV4.out⟩
             by_cases h9 : i < m
             · exact HMM.out i r h9 hr
             · obtain rfl : i = m := by omega
               rw [HEN.out] at hr
               cases hr
               rw [HPP.out] at g10
               obtain ⟨k9, r9, -, hr9, hr8, -⟩ := plc_at (by omega : 0 ≤ plc l ei)
               exact ⟨r9, List.mem_of_getElem? hr9, hr8⟩
           case measure => simp [intOf]; omega
     case false =>
       by_cases g6 : 0 < el
       case pos =>
         have g6i : (0 : Int) < (el : Int) := by omega
         go_wp2
         refine HNo.out _ (HNK.out fun h => ?_) HZ.out
         have h1 := h.nod HE.out.2.2.2.1.symm
         have h2 := HE.out.1
         rw [h1] at h2
         simp at h2
         omega
       obtain rfl : el = 0 := by omega
       have HCN := rnamed_any n0 a c l nx pi v2.drew (by rw [← HN.out]; exact ndsR.below HW.out.2.1 (below_any HX.out.1 (below_any HV2.out (Below.refl _ v2).drew))) (by rw [← HN.out]; omega) HM.out
       rw [← HN.out] at HCN
       obtain ⟨cn, hcn⟩ := exa (cnt l pi)
       have HCNT : Hid (cn = cnt l p.1) := by show _ = _; rw [hcn, HE.out.2.2.1]
       rw [← hcn] at HCN
       clear hcn
       have HSY : Hid (∀ U, Below X.heap.size X U → U.cell? ⟨w.heap.size, 0, none⟩ = some (.slice a n c) ∧ U.cell? ⟨w.heap.size, 1, none⟩ = some (.int .i64 nx) ∧ U.cell? ⟨wr.heap.size, 0, none⟩ = some (.int .i64 pi) ∧ U.cell? ⟨wr.heap.size, 1, none⟩ = some (.bool false) ∧ U.cell? ⟨wr.heap.size, 2, none⟩ = some (.int .i64 pl)) := fun U hU => ⟨(HCB.out U hU).1, (HCB.out U hU).2.1, (HCB.out U hU).2.2.1, (HCB.out U hU).2.2.2.1, (HCB.out U hU).2.2.2.2.1⟩
       have HT0 := HSY.out v2.drew (below_any HV2.out (Below.refl _ v2).drew)
       have hjp : decide ((0 : Int) < (j : Int) + 1) = true := decide_eq_true (by omega)
       by_cases g7 : pl < 1
       case pos =>
         have g7b : decide (pl < 1) = true := decide_eq_true g7
         go_wp2
         clear z0 z1 y0 y1 y2 y3 y4 y5
         have hSS := HT0
         refine AnyBut.begin (fun U => U.cell? ⟨w.heap.size, 0, none⟩ = some (.slice a n c) ∧ U.cell? ⟨w.heap.size, 1, none⟩ = some (.int .i64 nx) ∧ U.cell? ⟨wr.heap.size, 0, none⟩ = some (.int .i64 pi) ∧ U.cell? ⟨wr.heap.size, 1, none⟩ = some (.bool false) ∧ U.cell? ⟨wr.heap.size, 2, none⟩ = some (.int .i64 pl)) 1000 (by kernel_rfl) ?_
         refine tx 0 119 hSS ?_
         simp only [ua, ub, uc, ud]
         refine tx 1 120 hSS ?_
         simp only [ua, ub, uc, ud]
         refine tx 2 121 hSS ?_
         simp only [ua, ub, uc, ud]
         refine tx 3 122 hSS ?_
         simp only [ua, ub, uc, ud]
         refine tx 4 123 hSS ?_
         simp only [ua, ub, uc, ud]
         refine tx 5 124 hSS ?_
         simp only [ua, ub, uc, ud]
         refine tu 6 125 hSS ?_
         simp only [ua, ub, uc, ud]
         refine tu 7 126 hSS ?_
         simp only [ua, ub, uc, ud]
         refine tu 8 127 hSS ?_
         simp only [ua, ub, uc, ud]
         refine tx 9 128 hSS ?_
         simp only [ua, ub, uc, ud]
         refine tx 10 129 hSS ?_
         simp only [ua, ub, uc, ud]
         refine tx 11 130 hSS ?_
         simp only [ua, ub, uc, ud]
         refine tx 12 131 hSS ?_
         simp only [ua, ub, uc, ud]
         refine tx 13 132 hSS ?_
         simp only [ua, ub, uc, ud]
         refine tx 14 133 hSS ?_
         simp only [ua, ub, uc, ud]
         refine tx 15 134 hSS ?_
         simp only [ua, ub, uc, ud]
         refine tu 16 135 hSS ?_
         simp only [ua, ub, uc, ud]
         refine tu 17 136 hSS ?_
         simp only [ua, ub, uc, ud]
         refine tu 18 137 hSS ?_
         simp only [ua, ub, uc, ud]
         refine tx 19 138 hSS ?_
         simp only [ua, ub, uc, ud]
         refine tx 20 139 hSS ?_
         simp only [ua, ub, uc, ud]
         refine tx 21 140 hSS ?_
         simp only [ua, ub, uc, ud]
         refine tu 22 141 hSS ?_
         simp only [ua, ub, uc, ud]
         refine tu 23 142 hSS ?_
         simp only [ua, ub, uc, ud]
         refine tu 24 143 hSS ?_
         simp only [ua, ub, uc, ud]
         refine tu 25 144 hSS ?_
         simp only [ua, ub, uc, ud]
         refine tu 26 145 hSS ?_
         simp only [ua, ub, uc, ud]
         refine tu 27 146 hSS ?_
         simp only [ua, ub, uc, ud]
         refine tu 28 147 hSS ?_
         simp only [ua, ub, uc, ud]
         refine tx 29 148 hSS ?_
         simp only [ua, ub, uc, ud]
         refine AnyBut.done (by kernel_rfl) ?_
         clear hSS
         have HZ3 : Hid (Below w.heap.size w v2.drew) := HBX.out _ (below_any HV2.out (Below.refl _ v2).drew)
         clear HT0
         go_wp2
         exact HNo.out _ (HNK.out fun h => by have := (h.few (by omega)).1; have := HE.out.2.2.2.2.1; omega) HZ3.out
       have g7b : decide (pl < 1) = false := decide_eq_false g7
       by_cases g8 : 16 < pl
       case pos =>
         have g8b : decide (16 < pl) = true := decide_eq_true g8
         go_wp2
         clear z0 z1 y0 y1 y2 y3 y4 y5
         have hSS := HT0
         refine AnyBut.begin (fun U => U.cell? ⟨w.heap.size, 0, none⟩ = some (.slice a n c) ∧ U.cell? ⟨w.heap.size, 1, none⟩ = some (.int .i64 nx) ∧ U.cell? ⟨wr.heap.size, 0, none⟩ = some (.int .i64 pi) ∧ U.cell? ⟨wr.heap.size, 1, none⟩ = some (.bool false) ∧ U.cell? ⟨wr.heap.size, 2, none⟩ = some (.int .i64 pl)) 1000 (by kernel_rfl) ?_
         refine tx 0 119 hSS ?_
         simp only [ua, ub, uc, ud]
         refine tx 1 120 hSS ?_
         simp only [ua, ub, uc, ud]
         refine tx 2 121 hSS ?_
         simp only [ua, ub, uc, ud]
         refine tx 3 122 hSS ?_
         simp only [ua, ub, uc, ud]
         refine tx 4 123 hSS ?_
         simp only [ua, ub, uc, ud]
         refine tx 5 124 hSS ?_
         simp only [ua, ub, uc, ud]
         refine tu 6 125 hSS ?_
         simp only [ua, ub, uc, ud]
         refine tu 7 126 hSS ?_
         simp only [ua, ub, uc, ud]
         refine tu 8 127 hSS ?_
         simp only [ua, ub, uc, ud]
         refine tx 9 128 hSS ?_
         simp only [ua, ub, uc, ud]
         refine tx 10 129 hSS ?_
         simp only [ua, ub, uc, ud]
         refine tx 11 130 hSS ?_
         simp only [ua, ub, uc, ud]
         refine tx 12 131 hSS ?_
         simp only [ua, ub, uc, ud]
         refine tx 13 132 hSS ?_
         simp only [ua, ub, uc, ud]
         refine tx 14 133 hSS ?_
         simp only [ua, ub, uc, ud]
         refine tx 15 134 hSS ?_
         simp only [ua, ub, uc, ud]
         refine tx 16 135 hSS ?_
         simp only [ua, ub, uc, ud]
         refine tx 17 136 hSS ?_
         simp only [ua, ub, uc, ud]
         refine tx 18 137 hSS ?_
         simp only [ua, ub, uc, ud]
         refine tx 19 138 hSS ?_
         simp only [ua, ub, uc, ud]
         refine tx 20 139 hSS ?_
         simp only [ua, ub, uc, ud]
         refine tx 21 140 hSS ?_
         simp only [ua, ub, uc, ud]
         refine tu 22 141 hSS ?_
         simp only [ua, ub, uc, ud]
         refine tu 23 142 hSS ?_
         simp only [ua, ub, uc, ud]
         refine tu 24 143 hSS ?_
         simp only [ua, ub, uc, ud]
         refine tu 25 144 hSS ?_
         simp only [ua, ub, uc, ud]
         refine tu 26 145 hSS ?_
         simp only [ua, ub, uc, ud]
         refine tu 27 146 hSS ?_
         simp only [ua, ub, uc, ud]
         refine tu 28 147 hSS ?_
         simp only [ua, ub, uc, ud]
         refine tx 29 148 hSS ?_
         simp only [ua, ub, uc, ud]
         refine AnyBut.done (by kernel_rfl) ?_
         clear hSS
         have HZ3 : Hid (Below w.heap.size w v2.drew) := HBX.out _ (below_any HV2.out (Below.refl _ v2).drew)
         clear HT0
         go_wp2
         exact HNo.out _ (HNK.out fun h => by have := (h.few (by omega)).2; have := HE.out.2.2.2.2.1; omega) HZ3.out
       have g8b : decide (16 < pl) = false := decide_eq_false g8
       by_cases g9 : pl = (cn : Int)
       case neg =>
         have g9b : (pl == (cn : Int)) = false := by simpa using g9
         have g9c : (pl != (cn : Int)) = true := by simpa using g9
         have g9d : decide (pl = (cn : Int)) = false := decide_eq_false g9
         go_wp2
         clear z0 z1 y0 y1 y2 y3 y4 y5
         have hSS := HT0
         refine AnyBut.begin (fun U => U.cell? ⟨w.heap.size, 0, none⟩ = some (.slice a n c) ∧ U.cell? ⟨w.heap.size, 1, none⟩ = some (.int .i64 nx) ∧ U.cell? ⟨wr.heap.size, 0, none⟩ = some (.int .i64 pi) ∧ U.cell? ⟨wr.heap.size, 1, none⟩ = some (.bool false) ∧ U.cell? ⟨wr.heap.size, 2, none⟩ = some (.int .i64 pl)) 1000 (by kernel_rfl) ?_
         refine tx 0 119 hSS ?_
         simp only [ua, ub, uc, ud]
         refine tx 1 120 hSS ?_
         simp only [ua, ub, uc, ud]
         refine tx 2 121 hSS ?_
         simp only [ua, ub, uc, ud]
         refine tx 3 122 hSS ?_
         simp only [ua, ub, uc, ud]
         refine tx 4 123 hSS ?_
         simp only [ua, ub, uc, ud]
         refine tx 5 124 hSS ?_
         simp only [ua, ub, uc, ud]
         refine tu 6 125 hSS ?_
         simp only [ua, ub, uc, ud]
         refine tu 7 126 hSS ?_
         simp only [ua, ub, uc, ud]
         refine tu 8 127 hSS ?_
         simp only [ua, ub, uc, ud]
         refine tx 9 128 hSS ?_
         simp only [ua, ub, uc, ud]
         refine tx 10 129 hSS ?_
         simp only [ua, ub, uc, ud]
         refine tx 11 130 hSS ?_
         simp only [ua, ub, uc, ud]
         refine tx 12 131 hSS ?_
         simp only [ua, ub, uc, ud]
         refine tx 13 132 hSS ?_
         simp only [ua, ub, uc, ud]
         refine tx 14 133 hSS ?_
         simp only [ua, ub, uc, ud]
         refine tx 15 134 hSS ?_
         simp only [ua, ub, uc, ud]
         refine tx 16 135 hSS ?_
         simp only [ua, ub, uc, ud]
         refine tx 17 136 hSS ?_
         simp only [ua, ub, uc, ud]
         refine tx 18 137 hSS ?_
         simp only [ua, ub, uc, ud]
         refine tx 19 138 hSS ?_
         simp only [ua, ub, uc, ud]
         refine tx 20 139 hSS ?_
         simp only [ua, ub, uc, ud]
         refine tx 21 140 hSS ?_
         simp only [ua, ub, uc, ud]
         refine tx 22 141 hSS ?_
         simp only [ua, ub, uc, ud]
         refine tx 23 142 hSS ?_
         simp only [ua, ub, uc, ud]
         refine tx 24 143 hSS ?_
         simp only [ua, ub, uc, ud]
         refine tx 25 144 hSS ?_
         simp only [ua, ub, uc, ud]
         refine tx 26 145 hSS ?_
         simp only [ua, ub, uc, ud]
         refine AnyBut.step (i := 27) (by kernel_rfl) rfl (fun K hK => ?_)
         go_simp
         refine Calls.mono HCN ?_
         rintro e v3 ⟨rfl, hb3⟩
         have HV3 : Hid (Below X.heap.size X v3) := below_any (below_any HV2.out (Below.refl _ v2).drew) hb3
         dsimp only
         refine hK.out _ _ (HSY.out _ HV3.out) ?_
         clear hK hSS
         have hSS := HSY.out _ HV3.out
         refine tx 28 147 hSS ?_
         simp only [ua, ub, uc, ud]
         refine tx 29 148 hSS ?_
         simp only [ua, ub, uc, ud]
         refine AnyBut.done (by kernel_rfl) ?_
         clear hSS
         have HZ3 : Hid (Below w.heap.size w v3) := HBX.out _ HV3.out
         clear HT0
         go_wp2
         exact HNo.out _ (HNK.out fun h => g9 (by rw [HCNT.out, HE.out.2.2.2.2.1]; exact h.lks)) HZ3.out
       have g9b : (pl == (cn : Int)) = true := by simpa using g9
       have g9c : (pl != (cn : Int)) = false := by simpa using g9
       have g9d : decide (pl = (cn : Int)) = true := decide_eq_true g9
       have HG9 : Hid (pl = (cn : Int)) := g9
       clear g9
       go_wp2
       clear z0 z1 y0 y1 y2 y3 y4 y5
       have hSS := HT0
       refine AnyBut.begin (fun U => U.cell? ⟨w.heap.size, 0, none⟩ = some (.slice a n c) ∧ U.cell? ⟨w.heap.size, 1, none⟩ = some (.int .i64 nx) ∧ U.cell? ⟨wr.heap.size, 0, none⟩ = some (.int .i64 pi) ∧ U.cell? ⟨wr.heap.size, 1, none⟩ = some (.bool false) ∧ U.cell? ⟨wr.heap.size, 2, none⟩ = some (.int .i64 pl)) 1000 (by kernel_rfl) ?_
       refine tx 0 119 hSS ?_
       simp only [ua, ub, uc, ud]
       refine tx 1 120 hSS ?_
       simp only [ua, ub, uc, ud]
       refine tx 2 121 hSS ?_
       simp only [ua, ub, uc, ud]
       refine tx 3 122 hSS ?_
       simp only [ua, ub, uc, ud]
       refine tx 4 123 hSS ?_
       simp only [ua, ub, uc, ud]
       refine tx 5 124 hSS ?_
       simp only [ua, ub, uc, ud]
       refine tu 6 125 hSS ?_
       simp only [ua, ub, uc, ud]
       refine tu 7 126 hSS ?_
       simp only [ua, ub, uc, ud]
       refine tu 8 127 hSS ?_
       simp only [ua, ub, uc, ud]
       refine tx 9 128 hSS ?_
       simp only [ua, ub, uc, ud]
       refine tx 10 129 hSS ?_
       simp only [ua, ub, uc, ud]
       refine tx 11 130 hSS ?_
       simp only [ua, ub, uc, ud]
       refine tx 12 131 hSS ?_
       simp only [ua, ub, uc, ud]
       refine tx 13 132 hSS ?_
       simp only [ua, ub, uc, ud]
       refine tx 14 133 hSS ?_
       simp only [ua, ub, uc, ud]
       refine tx 15 134 hSS ?_
       simp only [ua, ub, uc, ud]
       refine tx 16 135 hSS ?_
       simp only [ua, ub, uc, ud]
       refine tx 17 136 hSS ?_
       simp only [ua, ub, uc, ud]
       refine tx 18 137 hSS ?_
       simp only [ua, ub, uc, ud]
       refine tx 19 138 hSS ?_
       simp only [ua, ub, uc, ud]
       refine tx 20 139 hSS ?_
       simp only [ua, ub, uc, ud]
       refine tx 21 140 hSS ?_
       simp only [ua, ub, uc, ud]
       refine tx 22 141 hSS ?_
       simp only [ua, ub, uc, ud]
       refine tx 23 142 hSS ?_
       simp only [ua, ub, uc, ud]
       refine tx 24 143 hSS ?_
       simp only [ua, ub, uc, ud]
       refine tx 25 144 hSS ?_
       simp only [ua, ub, uc, ud]
       refine tx 26 145 hSS ?_
       simp only [ua, ub, uc, ud]
       refine AnyBut.step (i := 27) (by kernel_rfl) rfl (fun K hK => ?_)
       go_simp
       refine Calls.mono HCN ?_
       rintro e v3 ⟨rfl, hb3⟩
       have HV3 : Hid (Below X.heap.size X v3) := below_any (below_any HV2.out (Below.refl _ v2).drew) hb3
       dsimp only
       refine hK.out _ _ (HSY.out _ HV3.out) ?_
       clear hK hSS
       have hSS := HSY.out _ HV3.out
       refine tx 28 147 hSS ?_
       simp only [ua, ub, uc, ud]
       refine tx 29 148 hSS ?_
       simp only [ua, ub, uc, ud]
       refine AnyBut.done (by kernel_rfl) ?_
       clear hSS
       have HPL : Hid (pl = lk p ∧ pl = (cn : Int)) := ⟨HE.out.2.2.2.2.1, HG9.out⟩
       obtain ⟨z0, z1, y0, y1, y2, y3, y4, y5⟩ := HCB.out v3 HV3.out
       clear HT0 hb3 HCN g9b g9c g9d z0 z1 y0 y1 y2 y4 y5
       go_wp2
       clear y3
       have HNO : Hid ((∀ e ∈ en p, ∃ m ∈ l, m.1 = e.2) → NodeR (l, nx) (j + 1) p) := fun hnm => by
         refine ⟨by have := HE.out.2.2.1; omega, by have := HE.out.2.2.1; simp only; omega, fun q _ hq => by
           have e1 := HQ.out.1.1
           have e2 : (l[j + 1 - 1]?) = some q := hq
           rw [show j + 1 - 1 = j by omega] at e2
           have e1 : l[j]? = some q0 := e1
           rw [e1] at e2
           cases e2
           have := HQ.out.1.2
           have := HE.out.2.2.1
           omega, HG45.out.1, HG45.out.2, fun hd => (by rw [← HE.out.2.2.2.1] at hd; cases hd), fun _ => List.eq_nil_of_length_eq_zero HE.out.1.symm, fun _ hd => (by rw [← HE.out.2.2.2.1] at hd; cases hd), fun _ => by rw [← HPL.out.1]; omega, ?_, hnm⟩
         simp only
         rw [← HCNT.out, ← HPL.out.1]
         exact HPL.out.2
       go_loopw [5] (fun i wq => ∃ m : Nat, m ≤ 0 ∧ i = .int .i64 m ∧ Hid (∀ (j : Nat) e, j < m → (en p)[j]? = some e → ∃ q ∈ l, q.1 = e.2) ∧ Hid (Below X.heap.size X wq)) (fun i _ => 0 - (intOf i).toNat)
       case atStart => exact ⟨0, Nat.zero_le _, rfl, fun j e hj => by omega, HV3.out⟩
       case round =>
         rename World => wq
         obtain ⟨m, hm, rfl, HMM, HBQ⟩ := hrel
         obtain ⟨z0, z1, y0, y1, y2, y3, y4, y5⟩ := HCB.out wq HBQ.out
         by_cases hmlt : m < 0
         case neg =>
           obtain rfl : m = 0 := by omega
           have HFIN : Hid (NodeR (l, nx) (j + 1) p) := HNO.out fun x hx => by
             obtain ⟨i, hi⟩ := List.getElem?_of_mem hx
             exact HMM.out i x (by have := (List.getElem?_eq_some_iff.1 hi).1; have := HE.out.1; omega) hi
           clear z0 z1 y0 y1 y2 y4 y5
           go_wp2
           go_roundw
           case rel =>
             refine ⟨(j + 1) + 1, by omega, by go_num, fun i r hi hr => ?_, below_any HX.out.1 HBQ.out⟩
             by_cases h9 : i < (j + 1)
             · exact HK.out i r h9 hr
             · obtain rfl : i = j + 1 := by omega
               rw [HP.out.1] at hr
               cases hr
               exact HFIN.out
           case measure => simp [intOf]; omega
         exact absurd hmlt (Nat.not_lt_zero _)
end Go.Proofs.YtkcnephbaffmbaaGreatDoor
