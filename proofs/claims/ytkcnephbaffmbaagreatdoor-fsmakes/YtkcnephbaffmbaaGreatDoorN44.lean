/-
  The document's Check: 0 just if the state may be, else 9; for every state.
  What the document's Own makes of a state that may be: the same one, in a row of its own.
  The document's nodes in a row of its own, while other memory may change: X says which.
-/
import Derived.Test.YtkcnephbaffmbaaGreatDoorN30
import Derived.Test.YtkcnephbaffmbaaGreatDoorN38
import Derived.Test.YtkcnephbaffmbaaGreatDoorN43
set_option maxRecDepth 100000
set_option maxHeartbeats 8000000
namespace Go.Proofs.YtkcnephbaffmbaaGreatDoor
open Go.RowKit
open D (En ArgE)
theorem make_rowB (W : World) (l : List Nd) (h : l.length ≤ 128) : (Instr.makeSlice 106 (.int .i64 l.length) (.int .i64 l.length)).run Tryz.prog W = .ok (.slice (some ⟨W.heap.size, 0, none⟩) l.length l.length) (W.alloc (.cells (rowB l fun _ => false) 4)) := by
 rw [run_make_row' (P := Tryz.prog) 106 4 (.bool false) 1 Tryz.underlying106 Tryz.info4' rfl .i64 .i64 l.length (by omega) (by omega) W]
 congr 3
 apply Array.ext'
 rw [toList_madeCells_one]
 simp only [rowB, List.map_const', List.toList_toArray]
theorem rcheck10_any (n0 : Nat) (a : Option Addr) (c : Nat) (s : St) (w : World) (hA : ndsR.lies n0 w [.slice a s.1.length c] s.1) (hM : FitsS s.1) :
   Calls Tryz.prog 23 #[.agg #[.slice a s.1.length c, .int .i64 s.2]] w fun e w' => (∃ r : Int, e = .returned (.int .i64 r) ∧ ((Ok s ∧ r = 0) ∨ (¬ Ok s ∧ r = 9))) ∧ Below w.heap.size w w' := by
 obtain ⟨l, nx⟩ := s
 simp only at hA hM ⊢
 obtain ⟨post, hpost⟩ : ∃ post : Ending → World → Prop, post = fun e w' => (∃ r : Int, e = .returned (.int .i64 r) ∧ ((Ok (l, nx) ∧ r = 0) ∨ (¬ Ok (l, nx) ∧ r = 9))) ∧ Below w.heap.size w w' := ⟨_, rfl⟩
 have HNo : Hid (∀ w', ¬ Ok (l, nx) → Below w.heap.size w w' → post (.returned (.int .i64 9)) w') := fun w' h1 h2 => by rw [hpost]; exact ⟨⟨9, rfl, .inr ⟨h1, rfl⟩⟩, h2⟩
 have HYes : Hid (∀ w', Ok (l, nx) → Below w.heap.size w w' → post (.returned (.int .i64 0)) w') := fun w' h1 h2 => by rw [hpost]; exact ⟨⟨0, rfl, .inl ⟨h1, rfl⟩⟩, h2⟩
 rw [← hpost]
 clear hpost
 obtain ⟨W, hW⟩ := exa (w.alloc (.cells #[.slice a l.length c, .int .i64 nx] 24))
 have hb : Below w.heap.size w W := by rw [hW]; exact (Below.refl _ w).alloc (Nat.le_refl _) _
 have HW : Hid (Below w.heap.size w W ∧ Box W w.heap.size 24 #[.slice a l.length c, .int .i64 nx]) := ⟨hb, by rw [hW]; exact Box.new _ _ _⟩
 have HA : Hid (∀ V, Below W.heap.size W V → V.cell? ⟨w.heap.size, 0, none⟩ = some (.slice a l.length c) ∧ V.cell? ⟨w.heap.size, 1, none⟩ = some (.int .i64 nx) ∧ ndsR.lies n0 V [.slice a l.length c] l) := fun V hV => by
   obtain ⟨g0, g1, _, _⟩ := (HW.out.2.below hV HW.out.2.lt).two
   exact ⟨g0, g1, ndsR.below hA (below_any HW.out.1 hV)⟩
 have HM : Hid (∀ p ∈ l, (en p).length ≤ 140737488351232) := fun p hp => by have := (hM.2 p hp).1; omega
 have H1 := rshape_any n0 a c (l, nx) W (HA.out W (Below.refl _ _)).2.2 hM
 have H2 : Hid (∀ V, Below W.heap.size W V → Calls Tryz.prog 67 #[.agg #[.slice a l.length c, .int .i64 nx], .int .i64 1, .int .i64 8] V fun r w' => r = .returned (.int .i64 (dpt l 9 1)) ∧ Below V.heap.size V w') := fun V hV => by
   have := rreach_any n0 a c l nx HM.out 9 (by omega) 1 V (HA.out V hV).2.2
   exact this
 have H3 : Hid (Pre (l, nx) → ∀ V U, Below W.heap.size W V → Below V.heap.size V U → V.heap.size ≤ V.heap.size → Marked V U V.heap.size l (fun _ => false) → Calls Tryz.prog 68 #[.agg #[.slice a l.length c, .int .i64 nx], .slice (some ⟨V.heap.size, 0, none⟩) l.length l.length, .int .i64 1, .int .i64 8] U fun r w' => r = .returned (.tuple #[]) ∧ (∃ M', Marked V w' V.heap.size l M' ∧ ∀ x, M' x = true ↔ x ∈ vis l 8 1) ∧ Below V.heap.size V w') := fun hP V U hV hU _ hM0 => by
   obtain ⟨t, ht, ht1, _⟩ := hP.top
   refine (rmark_any n0 a c l nx hP.up HM.out V V.heap.size (HA.out V hV).2.2 9 (by omega) 1 ⟨t, ht, ht1⟩ hP.names U _ hM0).mono fun r w' h => ⟨h.1, ?_, ?_⟩
   · obtain ⟨M', h1, h2⟩ := h.2.1
     refine ⟨M', h1, fun x => ?_⟩
     rw [h2 x, vis'_eq]
     simp
   · obtain ⟨M', h1, h2⟩ := h.2.1
     exact h1.bel
 have HD : Hid (∀ d, d = dpt l 9 1 → (d ≤ 8 ↔ Bd l 8 1)) := fun d hd => by rw [hd]; exact (bd_iff 8 1).symm
 obtain ⟨g0, g1, -⟩ := HA.out W (Below.refl _ _)
 obtain ⟨n, hn⟩ := exa (l.length)
 have HN : Hid (n = l.length) := hn
 simp only at H1
 have hl1 := run_len Tryz.underlying22 a n c
 rw [← hn] at HW HA H1 H2 H3 hW g0 ⊢
 rw [hW] at g0 g1
 clear hA hb hM hn
 go_enter Tryz.func23, Tryz.ntmps23
 go_wp2_with fail
 rw [← hW]
 clear hW g0 g1
 refine H1.mono ?_
 rintro e w1 ⟨⟨t, rfl, hiff⟩, hb1⟩
 have HB1 : Hid (Below W.heap.size W w1) := hb1
 clear hb1 H1
 cases t
 · have HO : Hid (¬ Ok (l, nx)) := fun h => by have := hiff.2 h.1; cases this
   clear hiff
   go_wp2
   exact HNo.out _ HO.out (below_any HW.out.1 HB1.out)
 have HP : Hid (Pre (l, nx)) := hiff.1 rfl
 clear hiff
 obtain ⟨g0, g1, -⟩ := HA.out w1 HB1.out
 have H2' := H2.out w1 HB1.out
 obtain ⟨d, hd⟩ := exa (dpt l 9 1)
 have HDD : Hid (d ≤ 8 ↔ Bd l 8 1) := HD.out d hd
 have hd9 : d ≤ 9 := by rw [hd]; exact dpt_le 9 1
 rw [← hd] at H2'
 clear hd
 go_wp2_with fail
 refine H2'.mono ?_
 rintro e w2 ⟨rfl, hb2⟩
 have HB2 : Hid (Below W.heap.size W w2) := below_any HB1.out hb2
 clear hb2 H2' g0 g1
 by_cases h8 : 8 < (d : Int)
 · have HO : Hid (¬ Ok (l, nx)) := fun h => by
     have := HDD.out.2 ((h.1.deep.1 h.2).1)
     omega
   go_wp2
   exact HNo.out _ HO.out (below_any HW.out.1 HB2.out)
 have HBd : Hid (Bd l 8 1) := HDD.out.1 (by omega)
 obtain ⟨g0, g1, -⟩ := HA.out w2 HB2.out
 have hmk := make_rowB w2 l (by have := HP.out.len; exact this)
 rw [← HN.out] at hmk
 obtain ⟨W3, hW3⟩ := exa (w2.alloc (.cells (rowB l fun _ => false) 4))
 have hb3 : Below w2.heap.size w2 W3 := by rw [hW3]; exact (Below.refl _ w2).alloc (Nat.le_refl _) _
 have HM3 : Hid (Marked w2 W3 w2.heap.size l (fun _ => false) ∧ Below W.heap.size W W3) := ⟨⟨hb3, Nat.le_refl _, by rw [hW3]; exact Box.new _ _ _⟩, below_any HB2.out hb3⟩
 have H3' := H3.out HP.out w2 W3 HB2.out hb3 (Nat.le_refl _) HM3.out.1
 obtain ⟨k0, k1, -⟩ := HA.out W3 HM3.out.2
 rw [hW3] at k0 k1
 rw [← hW3] at hmk
 clear hb3
 rw [hW3] at hmk
 go_wp2_with fail
 rw [← hW3]
 clear hW3 g0 g1 k0 k1 hmk
 refine H3'.mono ?_
 rintro e w4 ⟨rfl, ⟨M, hM4, hin⟩, hb4⟩
 have HB4 : Hid (Below W.heap.size W w4 ∧ Marked w2 w4 w2.heap.size l M ∧ ∀ x, M x = true ↔ x ∈ vis l 8 1) := ⟨below_any HB2.out hb4, hM4, hin⟩
 obtain ⟨i4, hi4, hz4, hs4, -⟩ := info_parts Tryz.info4'
 have HIX : Hid (∀ (k : Nat), k < n → ∀ W, (Instr.indexAt 106 (.slice (some ⟨w2.heap.size, 0, none⟩) n n) (.int .i64 k)).run Tryz.prog W = .ok (.pointer (some ⟨w2.heap.size, k, none⟩)) W) := fun k hk W => by
   have := run_index Tryz.underlying106 hi4 hs4 w2.heap.size 0 n n k hk W
   simpa using this
 have hl2 := run_len Tryz.underlying106 (some ⟨w2.heap.size, 0, none⟩) n n
 have hn128 : n ≤ 128 := by rw [HN.out]; exact HP.out.len
 clear hM4 hin hb4 H3' hi4 hz4 hs4 i4
 go_wp2
 go_loopw [4] (fun i wr => ∃ k : Nat, k ≤ n ∧ i = .int .i64 k ∧ Hid (∀ (j : Nat) p, j < k → l[j]? = some p → M p.1 = true) ∧ wr = w4) (fun i _ => n - (intOf i).toNat)
 case atStart => exact ⟨0, Nat.zero_le _, rfl, fun j p hj => by omega, by first | trivial | rfl⟩
 case round =>
   obtain ⟨k, hk, rfl, HK, hwr⟩ := hrel
   obtain rfl := hwr.symm
   by_cases hlt : k < n
   · obtain ⟨p, hp⟩ := get_lt (l := l) (k := k) (by rw [← HN.out]; exact hlt)
     have hix := HIX.out k hlt
     have hc := HB4.out.2.1.box.cell k (rowB_at hp)
     have HX : Hid (l[k]? = some p) := hp
     obtain ⟨m, hm⟩ := exa (M p.1)
     have HMm : Hid (m = M p.1) := hm
     rw [← hm] at hc
     have hkn : (k : Int) < (n : Int) := by omega
     clear hp hm
     cases m
     · have HO : Hid (¬ Ok (l, nx)) := fun h => by
         have h1 := (h.1.deep.1 h.2).2 p (List.mem_of_getElem? HX.out)
         have h2 := (HB4.out.2.2 p.1).2 h1
         rw [← HMm.out] at h2
         cases h2
       go_wp2
       exact HNo.out _ HO.out (below_any HW.out.1 HB4.out.1)
     · go_wp2
       go_roundw
       case rel =>
         refine ⟨k + 1, by omega, by go_num, fun j q hj hq => ?_, by first | trivial | rfl⟩
         by_cases e : j < k
         · exact HK.out j q e hq
         · obtain rfl : j = k := by omega
           rw [HX.out] at hq
           cases hq
           exact HMm.out.symm
       case measure => simp [intOf]; omega
   · obtain rfl : k = n := by omega
     have HO : Hid (Ok (l, nx)) := ⟨HP.out, HP.out.deep.2 ⟨HBd.out, fun q hq => by
       obtain ⟨j, hj⟩ := List.getElem?_of_mem hq
       exact (HB4.out.2.2 q.1).1 (HK.out j q (by rw [HN.out]; exact (List.getElem?_eq_some_iff.1 hj).1) hj)⟩⟩
     go_wp2
     exact HYes.out _ HO.out (below_any HW.out.1 HB4.out.1)
end Go.Proofs.YtkcnephbaffmbaaGreatDoor
namespace Go.Proofs.YtkcnephbaffmbaaGreatDoor
open Go.RowKit
open D (En ArgE OwnE evs)
open F (Fl bksR flR txt mk)
attribute [local go_sem ↓] Go.wp_at_zero Go.wp_at_succ
theorem push_allR {ops : Array Oper} {rest : List Oper} {o : Oper} {a : Act} {Q : Exit → Act → World → Prop} (hgd : o.guard = none) (s x : Operand) (ho : o.op = .call { callee := .builtin .append, args := #[s, x], argTypes := #[73, 73] })
   (base n1 : Nat) (v u : Value) (l m : List En) (w : World) (hs : a.eval s = v) (hO : OwnE 123 base w v l) (hx : a.eval x = u) (hA : ArgE n1 w u m) (hlen : l.length + m.length ≤ 100000) (hb : base ≤ w.heap.size)
   (h : ∀ v' w', OwnE 123 base w' v' (l ++ m) → w.grownBy w' v.ownBlock → wpList Tryz.prog ops Q rest (a.put o.dst v') w') : wpList Tryz.prog ops Q (o :: rest) a w := by
 obtain ⟨i3, hi3, hz0, hz1, hz2⟩ := info_parts D.Tryz.info123
 obtain ⟨hl, ⟨rfl, h0⟩ | ⟨ad, cap, rfl, hc, hm, _, hcell⟩⟩ := hA.1
 · obtain rfl := List.eq_nil_of_length_eq_zero h0
   refine wpList_append_own_none hgd s x 73 ho base 123 i3 2 Tryz.underlying73 hi3 v l.length (evs l) hs hO.1 hx ?_
   exact h v w (by simpa using hO) ⟨rfl, rfl, rfl, Nat.le_refl _, fun _ _ _ => rfl⟩
 · refine wpList_append_own _ hgd s x 73 ho base 123 i3 _ 2 24 Tryz.underlying73 hi3 hz0 hz1 hz2 rfl (by omega) v l.length (evs l) hs hO.1 ad m.length cap (evs m) hx (by rw [D.evs_length]) hcell (D.evs_one m) (by unfold maxLen; omega) (by omega) hb ?_
   intro v' w' h1 h2 _
   refine h v' w' ⟨?_, hO.2.append hA.2⟩ h2
   rw [List.length_append, D.evs_append]
   exact h1
theorem bks_agree {B0 B1 : Nat} {r : Option Nat} {w w' : World} {b : Value} {bs : List F.Bk} {base : Nat} (h : bksR.lies base w [b] bs) (hb : B1 ≤ base) (hr : ∀ g, r = some g → g < base) (ha : Agree B0 B1 r w w') : bksR.lies 0 w' [b] bs :=
 bksR.weaken (bksR.keep h fun k h1 h2 => ha k (fun e => by have := hr k e.symm; omega) h2 (.inr (by omega))) (Nat.zero_le _)
theorem ens_agree {B0 B1 : Nat} {r : Option Nat} {w w' : World} {e : Value} {es : List En} {base : Nat} (h : ArgE base w e es) (hb : B1 ≤ base) (hr : ∀ g, r = some g → g < base) (ha : Agree B0 B1 r w w') : ArgE 0 w' e es :=
 (h.keep fun k h1 h2 => ha k (fun e => by have := hr k e.symm; omega) h2 (.inr (by omega))).weaken (Nat.zero_le _)
theorem bks_nil {n : Nat} {w : World} {b : Value} (h : bksR.lies n w [b] []) (w' : World) : bksR.lies 0 w' [b] [] := by
 obtain ⟨v, vss, hv, hC, hE⟩ := h
 cases vss with
 | cons _ _ => exact hE.elim
 | nil =>
   refine ⟨v, [], hv, ⟨hC.1, ?_⟩, trivial⟩
   rcases hC.2 with ⟨h1, h2⟩ | ⟨x, cap, h1, h2, h3, _, _⟩
   · exact .inl ⟨h1, h2⟩
   · exact .inr ⟨x, cap, h1, h2, h3, Nat.zero_le _, fun i u hu => by simp at hu⟩
theorem OR.weaken {B0 B1 B2 : Nat} {w : World} {v : Value} {l : List Nd} (h : OR B0 B1 w v l) (hB : B2 ≤ B1) : OR B0 B2 w v l := by
 obtain ⟨vss, h1, h2⟩ := h
 exact ⟨vss, own_weaken h1 hB, h2.mono fun _ _ ⟨e, b, h3, h4⟩ => ⟨e, b, h3, h4.1, fun w' ha => h4.2 w' fun k k1 k2 k3 => ha k k1 k2 (k3.imp id fun h => by omega)⟩⟩
theorem OR.owns {B0 B1 : Nat} {w : World} {v : Value} {l : List Nd} (h : OR B0 B1 w v l) : ∀ g, v.ownBlock = some g → B1 ≤ g ∧ g < w.heap.size := fun g hg => by
 obtain ⟨vss, h1, _⟩ := h
 exact h1.lt g hg
theorem rown_any (n0 : Nat) (w0 : World) (a : Option Addr) (c : Nat) (s : St) (hK : Wk s) (w : World) (hb0 : Below w0.heap.size w0 w) (hA : ndsR.lies n0 w0 [.slice a s.1.length c] s.1) :
   Calls Tryz.prog 42 #[.agg #[.slice a s.1.length c, .int .i64 s.2]] w fun e w' => (∃ v', e = .returned (.agg #[v', .int .i64 s.2]) ∧ OR w0.heap.size w.heap.size w' v' s.1) ∧ Below w.heap.size w w' := by
 have hS := hK.small
 obtain ⟨i3, hi3, hz30, hz31, hz32⟩ := info_parts Tryz.info78
 have HKK : Hid (∀ p ∈ s.1, (isD p = true → fi p = (0, [])) ∧ (isD p = false → F.chk (fi p) = true)) := fun p hp => ⟨fun hd => (hK.dirs p hp hd).2, fun hd => (hK.files p hp hd).2⟩
 obtain ⟨l, nx⟩ := s
 simp only at hA hS HKK ⊢
 obtain ⟨n, hn⟩ := exa (l.length)
 have HL : Hid (ndsR.lies n0 w0 [.slice a n c] l ∧ n = l.length ∧ n ≤ 4096 ∧ Small l ∧ Below w0.heap.size w0 w) := ⟨by rw [hn]; exact hA, hn, by rw [hn]; exact hS.1, hS, hb0⟩
 have hn4 : n ≤ 4096 := HL.out.2.2.1
 have hl1 := run_len Tryz.underlying22 a n c
 obtain ⟨post, hpost⟩ : ∃ post : Ending → World → Prop, post = fun e w' => (∃ v', e = .returned (.agg #[v', .int .i64 nx]) ∧ OR w0.heap.size w.heap.size w' v' l) ∧ Below w.heap.size w w' := ⟨_, rfl⟩
 have HPo : Hid (∀ v' w', OR w0.heap.size w.heap.size w' v' l → Below w.heap.size w w' → post (.returned (.agg #[v', .int .i64 nx])) w') := fun v' w' h1 h2 => by rw [hpost]; exact ⟨⟨v', rfl, h1⟩, h2⟩
 rw [← hpost, ← hn]
 clear hA hS hn hpost hb0 hK
 go_enter Tryz.func42, Tryz.ntmps42
 go_wp2
 go_loopw [4] (fun i wr => ∃ (k : Nat) (v : Value), k ≤ n ∧ i = .int .i64 k ∧ Hid (Box wr w.heap.size 24 #[.slice a n c, .int .i64 nx] ∧ Box wr (w.heap.size + 1) 24 #[.slice none 0 0, .int .i64 0] ∧ Box wr (w.heap.size + 2) 24 #[v, .int .i64 nx] ∧
   OR w0.heap.size (w.heap.size + 3) wr v (l.take k) ∧ Below w.heap.size w wr ∧ w.heap.size + 3 ≤ wr.heap.size)) (fun i _ => n - (intOf i).toNat)
 case atStart =>
   refine ⟨0, _, Nat.zero_le _, rfl, ?_, ?_, ?_, OR.nil _ _ _, ?_, ?_⟩
   · exact ((Box.new w 24 _).alloc _).alloc _
   · have := (Box.new (w.alloc (.cells #[.slice a n c, .int .i64 nx] 24)) 24 #[.slice none 0 0, .int .i64 0]).alloc (.cells #[.slice none 0 0, .int .i64 nx] 24)
     simpa using this
   · have := Box.new ((w.alloc (.cells #[.slice a n c, .int .i64 nx] 24)).alloc (.cells #[.slice none 0 0, .int .i64 0] 24)) 24 #[.slice none 0 0, .int .i64 nx]
     simpa using this
   · exact (((Below.refl _ w).alloc (Nat.le_refl _) _).alloc (by simp) _).alloc (by simp; omega) _
   · simp
 case round =>
   obtain ⟨k, v, hk, rfl, HJ⟩ := hrel
   obtain ⟨r0, r1, -, -⟩ := HJ.out.1.two
   by_cases hlt : k < n
   · obtain ⟨p, hp⟩ := get_lt (l := l) (k := k) (by rw [← HL.out.2.1]; exact hlt)
     have HB0 : Hid (Below w0.heap.size w0 wr) := HL.out.2.2.2.2.trans (HJ.out.2.2.2.2.1.mono HL.out.2.2.2.2.size)
     obtain ⟨b, o, e, f, hix, -, hcs, hLN⟩ := nds_atR (ndsR.below HL.out.1 HB0.out) k p hp
     have HTK : Hid (l.take (k + 1) = l.take k ++ [p] ∧ (l.take k).length = k) := ⟨take_snoc hp, by have := HL.out.2.1; rw [List.length_take]; omega⟩
     obtain ⟨c0, c1, c2, c3, c4, c5⟩ := nv_cells hcs
     obtain ⟨ea, ec, rfl, -, -⟩ := hLN.1.1.shape
     obtain ⟨fa, fc, hfe, -, -⟩ := Shape.list_len (S := F.bkR) (ht := Tryz.underlying74) (hc := F.cells74) hLN.2.1
     obtain rfl : f = _ := by simpa using hfe
     have hpl0 := List.mem_of_getElem? hp
     have HP : Hid (LR n0 wr p (.slice ea (en p).length ec) (.slice fa (fi p).2.length fc) ∧ (en p).length ≤ 4096) := ⟨hLN, (HL.out.2.2.2.1.2 p hpl0).1⟩
     have HKP : Hid ((isD p = true → fi p = (0, [])) ∧ (isD p = false → F.chk (fi p) = true)) := HKK.out p hpl0
     obtain ⟨V, hV⟩ := exa (wr.alloc (.cells #[.int .i64 p.1, .bool (isD p), .int .i64 (lk p), .slice ea (en p).length ec, .int .i64 (fi p).1, .slice fa (fi p).2.length fc] 78))
     have HV : Hid (Below wr.heap.size wr V ∧ Box V wr.heap.size 78 #[.int .i64 p.1, .bool (isD p), .int .i64 (lk p), .slice ea (en p).length ec, .int .i64 (fi p).1, .slice fa (fi p).2.length fc]) := ⟨by rw [hV]; exact (Below.refl _ _).alloc (Nat.le_refl _) _, by rw [hV]; exact Box.new _ _ _⟩
     have HAE : Hid (ArgE n0 V (.slice ea (en p).length ec) (en p)) := HP.out.1.1.below HV.out.1
     have hki : (k : Int) < (n : Int) := by omega
     have g3 := HV.out.2.cell 3 rfl
     rw [hV] at g3
     obtain ⟨el, hel⟩ := exa ((en p).length)
     obtain ⟨fl, hfl⟩ := exa ((fi p).2.length)
     obtain ⟨pi, hpi⟩ := exa (p.1)
     obtain ⟨pd, hpd⟩ := exa (isD p)
     obtain ⟨pl, hpl⟩ := exa (lk p)
     obtain ⟨pz, hpz⟩ := exa ((fi p).1)
     have HEQ : Hid (el = (en p).length ∧ fl = (fi p).2.length ∧ (∀ e f, nv p e f = [.int .i64 pi, .bool pd, .int .i64 pl, e, .int .i64 pz, f]) ∧ NOk p ∧ pz = (fi p).1 ∧ pd = isD p) := ⟨hel, hfl, fun e f => by rw [hpi, hpd, hpl, hpz]; rfl, HP.out.1.2.2, hpz, hpd⟩
     rw [← hel] at c3 g3 HV hV HAE HP
     rw [← hfl] at c5 g3 HV hV HP
     rw [← hpi] at c0 g3 HV hV
     rw [← hpd] at c1 g3 HV hV
     rw [← hpl] at c2 g3 HV hV
     rw [← hpz] at c4 g3 HV hV
     clear hcs hLN hp hfe hel hfl hpi hpd hpl hpz hpl0
     obtain ⟨a', cap', rfl⟩ := HJ.out.2.2.2.1.shape
     rw [HTK.out.2] at HJ
     obtain ⟨vss, hown0, hEE⟩ := HJ.out.2.2.2.1
     rw [HTK.out.2] at hown0
     have HEE : Hid (Each (fun us q => ∃ e b, us = nv q e b ∧ PR w0.heap.size (w.heap.size + 3) (Value.slice a' k cap').ownBlock wr q e b) vss (l.take k)) := hEE
     have HVB : Hid (∀ g', (Value.slice a' k cap').ownBlock = some g' → g' < wr.heap.size) := fun g' hg' => (hown0.lt g' hg').2
     have HROW : Hid (∀ W, Below wr.heap.size wr W → W.ownsRow (w.heap.size + 3) 78 6 (.slice a' k cap') k vss.flatten ∧ W.cell? ⟨w.heap.size + 2, 0, none⟩ = some (.slice a' k cap')) := fun W hW => ⟨own_below hown0 hW, (HJ.out.2.2.1.below hW (by have := HJ.out.2.2.2.2.2; omega)).two.1⟩
     clear hown0 hEE
     cases hpd : pd
     case true =>
       subst hpd
       have hf0 : fi p = (0, []) := HKP.out.1 HEQ.out.2.2.2.2.2.symm
       go_wp2_with (at_builtin; first
         | (rw [← hW3, HB3.out.2.2.2.2.2]
            clear hW3 hx0
            have HH5 : Hid (Box W3 w.heap.size 24 #[.slice a n c, .int .i64 nx] ∧ Box W3 (w.heap.size + 1) 24 #[.slice none 0 0, .int .i64 0] ∧ Box W3 (w.heap.size + 2) 24 #[.slice a' k cap', .int .i64 nx] ∧ W3.ownsRow (w.heap.size + 3) 78 6 (.slice a' k cap') k vss.flatten ∧ Below w.heap.size w W3 ∧ w.heap.size + 3 ≤ W3.heap.size) :=
              ⟨HJ.out.1.below HB3.out.2.1 (by have := HJ.out.2.2.2.2.2; omega), HJ.out.2.1.below HB3.out.2.1 (by have := HJ.out.2.2.2.2.2; omega), HJ.out.2.2.1.below HB3.out.2.1 (by have := HJ.out.2.2.2.2.2; omega), hown0, below_any HJ.out.2.2.2.2.1 HB3.out.2.1, by have := HB3.out.2.1.size; have := HJ.out.2.2.2.2.2; omega⟩
            refine push_row (by rfl) _ _ 22 78 (by rfl) Tryz.underlying22 Tryz.info78 rfl (by omega) (w.heap.size + 3) _ vss.flatten k [.int .i64 pi, .bool true, .int .i64 pl, .slice ea' el ec', .int .i64 pz, .slice fa fl fc] rfl (by simp [Value.oneCell']) W3 (by rfl) HH5.out.2.2.2.1 (by rfl) (by omega) (by omega) HH5.out.2.2.2.2.2 ?_
            intro g cap w6 hO6 hg6 hgr6 hlt6
            have hbx6 := (Box.alloc HH5.out.2.2.1 (.cells #[.int .i64 pi, .bool true, .int .i64 pl, .slice ea' el ec', .int .i64 pz, .slice fa fl fc] 78)).grown hg6 (row_ne HH5.out.2.2.2.1 (by omega))
            have y0 := hbx6.cell 0 rfl
            have y1 := hbx6.frozen 0)
         | (rw [← hV]
            clear hV g3 c0 c1 c2 c3 c4 c5 hix
            refine push_allR (by rfl) _ _ (by rfl) V.heap.size n0 (.slice none 0 0) (.slice ea el ec) [] (en p) V (by rfl) ⟨World.ownsRow_nil _ _ _ _, fun _ h => by cases h⟩ (by rfl) HAE.out (by have := HP.out.2; have := HEQ.out.1; simp; omega) (Nat.le_refl _) ?_
            intro e' w2 hO2 hg2
            rw [List.nil_append] at hO2
            obtain ⟨ea', ec', rfl⟩ := hO2.shape
            have hE0 := HEQ.out.1
            rw [← hE0] at hO2 ⊢
            have hB2 := HV.out.2.grown hg2 (by simp [Value.ownBlock])
            have f3 := hB2.frozen 3
            have g3 := hB2.cell 3 rfl
            have hVs : wr.heap.size < V.heap.size := HV.out.2.lt
            have hbw2 : Below wr.heap.size wr w2 := HV.out.1.grown hg2 (by have := HV.out.1.size; omega) (fun j hj => by simp [Value.ownBlock] at hj)
            obtain ⟨W3, hW3⟩ := exa (w2.setCell ⟨wr.heap.size, 3, none⟩ (.slice ea' el ec'))
            have hB3 : Box W3 wr.heap.size 78 #[.int .i64 pi, .bool true, .int .i64 pl, .slice ea' el ec', .int .i64 pz, .slice fa fl fc] := by rw [hW3]; exact hB2.set 3 _
            have hsz3 : w2.heap.size = W3.heap.size := by rw [hW3]; simp [World.setCell]
            have HB3 : Hid (Box W3 wr.heap.size 78 #[.int .i64 pi, .bool true, .int .i64 pl, .slice ea' el ec', .int .i64 pz, .slice fa fl fc] ∧ Below wr.heap.size wr W3 ∧ OwnE 123 V.heap.size W3 (.slice ea' el ec') (en p) ∧ V.heap.size ≤ W3.heap.size ∧ wr.heap.size < V.heap.size ∧ w2.heap.size = W3.heap.size) :=
              ⟨hB3, by rw [hW3]; exact hbw2.setCell (p := ⟨wr.heap.size, 3, none⟩) (Nat.le_refl _) _, by rw [hW3]; exact hO2.same (.set hVs), by rw [hW3]; simpa [World.setCell] using hg2.size, hVs, hsz3⟩
            obtain ⟨q0, q1, q2, q3, q4, q5⟩ := hB3.six
            rw [hW3] at q0 q1 q2 q3 q4 q5
            clear hO2 hB2 hg2 hbw2 hVs HV HAE hE0 hB3 hsz3
            obtain ⟨hown0, hx0⟩ := HROW.out W3 HB3.out.2.1
            rw [hW3] at hx0))
       have h1 : ∀ g', (Value.slice a' k cap').ownBlock = some g' → g' < wr.heap.size := HVB.out
       have hbA : Below W3.heap.size W3 (W3.alloc (.cells #[.int .i64 pi, .bool true, .int .i64 pl, .slice ea' el ec', .int .i64 pz, .slice fa fl fc] 78)) := (Below.refl _ _).alloc (Nat.le_refl _) _
       have HPR : Hid (PR w0.heap.size (w.heap.size + 3) (Value.slice a' k cap').ownBlock W3 p (.slice ea' el ec') (.slice fa fl fc)) := by
         refine ⟨HEQ.out.2.2.2.1, fun w' ha => ⟨?_, ?_⟩⟩
         · exact ens_agree (base := V.heap.size) HB3.out.2.2.1.arg (by have := HB3.out.2.2.2.2.1; have := HJ.out.2.2.2.2.2; omega) (fun g hg => by have := (hown0.lt g hg).2; have := h1 g hg; have := HB3.out.2.2.2.2.1; omega) ha
         · have h3 := HP.out.1.2.1
           rw [hf0] at h3 ⊢
           exact bks_nil h3 w'
       have hown6 : OR w0.heap.size (w.heap.size + 3) w6 (.slice (some ⟨g, 0, none⟩) (k + 1) cap) (l.take (k + 1)) := by
         rw [HTK.out.1]
         refine OR.push (v := .slice a' k cap') (e := .slice ea' el ec') (b := .slice fa fl fc) (vss := vss) (HEE.out.mono fun us q ⟨e, b, h3, h4⟩ => ⟨e, b, h3, h4.to fun _ hz => (hz.below hbA).below HB3.out.2.1⟩) (HPR.out.to fun _ hz => hz.below hbA) hg6 (fun g' hg' => ?_) (by rw [HTK.out.2, HEQ.out.2.2.1]; exact hO6)
         have e1 : g = g' := by simpa [Value.ownBlock] using hg'
         subst e1
         rcases hgr6 with h | h
         · exact .inl h
         · exact .inr (by rw [h]; simp)
       have hb6 : Below w.heap.size w w6 := below_row HH5.out.2.2.2.2.1 HH5.out.2.2.2.1 hg6 (by omega) (by have := HH5.out.2.2.2.2.2; omega)
       have hx0 := (Box.alloc HH5.out.1 (.cells #[.int .i64 pi, .bool true, .int .i64 pl, .slice ea' el ec', .int .i64 pz, .slice fa fl fc] 78)).grown hg6 (row_ne HH5.out.2.2.2.1 (by omega))
       have hx1 := (Box.alloc HH5.out.2.1 (.cells #[.int .i64 pi, .bool true, .int .i64 pl, .slice ea' el ec', .int .i64 pz, .slice fa fl fc] 78)).grown hg6 (row_ne HH5.out.2.2.2.1 (by omega))
       refine ⟨⟨k + 1, _, by omega, by go_num, hx0.other (by omega), hx1.other (by omega), hbx6.set 0 _, hown6.set ⟨by have := HL.out.2.2.2.2.size; omega, by omega⟩, hb6.setCell (p := ⟨w.heap.size + 2, 0, none⟩) (by simp) _, ?_⟩, by simp [intOf]; omega⟩
       have := hg6.size
       have := HH5.out.2.2.2.2.2
       simp [World.setCell] at *
       omega
     case false =>
       subst hpd
       have HCK : Hid (F.chk (fi p) = true) := HKP.out.2 HEQ.out.2.2.2.2.2.symm
       have HTX : Hid (∀ W, Below wr.heap.size wr W → Calls Tryz.prog 102 #[.agg #[.int .i64 pz, .slice fa fl fc]] W fun e w' => (∃ v, e = .returned v ∧ Own1 W.heap.size w' v (F.rtext (fi p))) ∧ Below W.heap.size W w') := fun W hW => by
         have h1 := (HP.out.1.below hW).file
         rw [← HEQ.out.2.2.2.2.1] at h1
         exact F.rtext_any n0 [_, _] (fi p) W h1 (F.chk_iff.1 HCK.out).1
       go_wp2_with (first
         | (at_builtin
            first
            | (rw [← hW5, HB5.out.2.2.2.2.2.1]
               clear hW5 hx0
               have HH5 : Hid (Box W5 w.heap.size 24 #[.slice a n c, .int .i64 nx] ∧ Box W5 (w.heap.size + 1) 24 #[.slice none 0 0, .int .i64 0] ∧ Box W5 (w.heap.size + 2) 24 #[.slice a' k cap', .int .i64 nx] ∧ W5.ownsRow (w.heap.size + 3) 78 6 (.slice a' k cap') k vss.flatten ∧ Below w.heap.size w W5 ∧ w.heap.size + 3 ≤ W5.heap.size) :=
                 ⟨HJ.out.1.below HB5.out.2.1 (by have := HJ.out.2.2.2.2.2; omega), HJ.out.2.1.below HB5.out.2.1 (by have := HJ.out.2.2.2.2.2; omega), HJ.out.2.2.1.below HB5.out.2.1 (by have := HJ.out.2.2.2.2.2; omega), hown0, below_any HJ.out.2.2.2.2.1 HB5.out.2.1, by have := HB5.out.2.1.size; have := HJ.out.2.2.2.2.2; omega⟩
               refine push_row (by rfl) _ _ 22 78 (by rfl) Tryz.underlying22 Tryz.info78 rfl (by omega) (w.heap.size + 3) _ vss.flatten k [.int .i64 pi, .bool false, .int .i64 pl, .slice ea' el ec', .int .i64 pz, .slice fa' fl fc'] rfl (by simp [Value.oneCell']) W5 (by rfl) HH5.out.2.2.2.1 (by rfl) (by omega) (by omega) HH5.out.2.2.2.2.2 ?_
               intro g cap w6 hO6 hg6 hgr6 hlt6
               have hbx6 := (Box.alloc HH5.out.2.2.1 (.cells #[.int .i64 pi, .bool false, .int .i64 pl, .slice ea' el ec', .int .i64 pz, .slice fa' fl fc'] 78)).grown hg6 (row_ne HH5.out.2.2.2.1 (by omega))
               have y0 := hbx6.cell 0 rfl
               have y1 := hbx6.frozen 0)
            | (rw [← hV]
               clear hV g3 c0 c1 c2 c3 c4 c5 hix
               refine push_allR (by rfl) _ _ (by rfl) V.heap.size n0 (.slice none 0 0) (.slice ea el ec) [] (en p) V (by rfl) ⟨World.ownsRow_nil _ _ _ _, fun _ h => by cases h⟩ (by rfl) HAE.out (by have := HP.out.2; have := HEQ.out.1; simp; omega) (Nat.le_refl _) ?_
               intro e' w2 hO2 hg2
               rw [List.nil_append] at hO2
               obtain ⟨ea', ec', rfl⟩ := hO2.shape
               have hE0 := HEQ.out.1
               rw [← hE0] at hO2 ⊢
               have hB2 := HV.out.2.grown hg2 (by simp [Value.ownBlock])
               have f3 := hB2.frozen 3
               have g3 := hB2.cell 3 rfl
               have hVs : wr.heap.size < V.heap.size := HV.out.2.lt
               have hbw2 : Below wr.heap.size wr w2 := HV.out.1.grown hg2 (by have := HV.out.1.size; omega) (fun j hj => by simp [Value.ownBlock] at hj)
               obtain ⟨W3, hW3⟩ := exa (w2.setCell ⟨wr.heap.size, 3, none⟩ (.slice ea' el ec'))
               have hB3 : Box W3 wr.heap.size 78 #[.int .i64 pi, .bool false, .int .i64 pl, .slice ea' el ec', .int .i64 pz, .slice fa fl fc] := by rw [hW3]; exact hB2.set 3 _
               have hsz3 : w2.heap.size = W3.heap.size := by rw [hW3]; simp [World.setCell]
               have HB3 : Hid (Box W3 wr.heap.size 78 #[.int .i64 pi, .bool false, .int .i64 pl, .slice ea' el ec', .int .i64 pz, .slice fa fl fc] ∧ Below wr.heap.size wr W3 ∧ OwnE 123 V.heap.size W3 (.slice ea' el ec') (en p) ∧ V.heap.size ≤ W3.heap.size ∧ wr.heap.size < V.heap.size ∧ w2.heap.size = W3.heap.size) :=
                 ⟨hB3, by rw [hW3]; exact hbw2.setCell (p := ⟨wr.heap.size, 3, none⟩) (Nat.le_refl _) _, by rw [hW3]; exact hO2.same (.set hVs), by rw [hW3]; simpa [World.setCell] using hg2.size, hVs, hsz3⟩
               obtain ⟨q0, q1, q2, q3, q4, q5⟩ := hB3.six
               rw [hW3] at q0 q1 q2 q3 q4 q5
               clear hO2 hB2 hg2 hbw2 hVs HV HAE hE0 hB3 hsz3
               have HCT := HTX.out W3 HB3.out.2.1))
         | (go_at_call 102
            rw [← hW3]
            refine HCT.mono ?_
            rintro e w3 ⟨⟨v3, rfl, hv3⟩, hb3⟩
            have HB4 : Hid (Below W3.heap.size W3 w3 ∧ Arg W3.heap.size w3 v3 (F.rtext (fi p))) := ⟨hb3, hv3.arg⟩
            have hlen3 : (F.rtext (fi p)).length ≤ 2432 := by
              rw [F.rtext_txt HCK.out, F.txt_length]
              have := (F.chk_iff.1 HCK.out).1
              omega
            have HCM := F.made_any _ v3 (F.rtext (fi p)) w3 hv3.arg hlen3
            rw [F.rtext_txt HCK.out, F.mk_txt HCK.out] at HCM
            clear HCT hv3 hb3 hlen3)
         | (go_at_call 101
            refine HCM.mono ?_
            rintro e w4 ⟨⟨us4, rfl, hf4⟩, hb4⟩
            obtain ⟨fa', fc', rfl, hbk4, -, -⟩ := F.fl_viewR hf4
            have hE1 := HEQ.out.2.1
            have hE2 := HEQ.out.2.2.2.2.1
            rw [← hE1] at hbk4 ⊢
            rw [← hE2]
            have hbw4 : Below W3.heap.size W3 w4 := below_any HB4.out.1 hb4
            have hB4 := HB3.out.1.below hbw4 HB3.out.1.lt
            obtain ⟨q0, q1, q2, q3, q4, q5⟩ := hB4.six
            have f4 := hB4.frozen 4
            have f5 := hB4.frozen 5
            obtain ⟨W5, hW5⟩ := exa ((w4.setCell ⟨wr.heap.size, 4, none⟩ (.int .i64 pz)).setCell ⟨wr.heap.size, 5, none⟩ (.slice fa' fl fc'))
            have hB5 : Box W5 wr.heap.size 78 #[.int .i64 pi, .bool false, .int .i64 pl, .slice ea' el ec', .int .i64 pz, .slice fa' fl fc'] := by rw [hW5]; exact (hB4.set 4 _).set 5 _
            have HB5 : Hid (Box W5 wr.heap.size 78 #[.int .i64 pi, .bool false, .int .i64 pl, .slice ea' el ec', .int .i64 pz, .slice fa' fl fc'] ∧ Below wr.heap.size wr W5 ∧ OwnE 123 V.heap.size W5 (.slice ea' el ec') (en p) ∧ bksR.lies w3.heap.size W5 [.slice fa' fl fc'] (fi p).2 ∧ wr.heap.size < V.heap.size ∧ w4.heap.size = W5.heap.size ∧ V.heap.size ≤ w3.heap.size) := by
              have hlt := HB3.out.2.2.2.2.1
              have hlt3 : wr.heap.size < w3.heap.size := by have := HB4.out.1.size; have := HB3.out.1.lt; omega
              refine ⟨hB5, ?_, ?_, ?_, hlt, ?_, ?_⟩
              · rw [hW5]; exact ((below_any HB3.out.2.1 hbw4).setCell (p := ⟨wr.heap.size, 4, none⟩) (Nat.le_refl _) _).setCell (p := ⟨wr.heap.size, 5, none⟩) (Nat.le_refl _) _
              · rw [hW5]; exact ((HB3.out.2.2.1.below hbw4).same (.set hlt)).same (.set hlt)
              · rw [hW5]; exact bksR.keep (bksR.keep hbk4 (.set hlt3)) (.set hlt3)
              · rw [hW5]; simp [World.setCell]
              · have := HB4.out.1.size; have := HB3.out.2.2.2.1; omega
            obtain ⟨d0, d1, d2, d3, d4, d5⟩ := hB5.six
            obtain ⟨hown0, hx0⟩ := HROW.out W5 HB5.out.2.1
            rw [hW5] at hx0 d0 d1 d2 d3 d4 d5
            clear hf4 hb4 hbk4 hE1 hE2 hbw4 hB4 hB5 HCM))
       have h1 : ∀ g', (Value.slice a' k cap').ownBlock = some g' → g' < wr.heap.size := HVB.out
       have hbA : Below W5.heap.size W5 (W5.alloc (.cells #[.int .i64 pi, .bool false, .int .i64 pl, .slice ea' el ec', .int .i64 pz, .slice fa' fl fc'] 78)) := (Below.refl _ _).alloc (Nat.le_refl _) _
       have HPR : Hid (PR w0.heap.size (w.heap.size + 3) (Value.slice a' k cap').ownBlock W5 p (.slice ea' el ec') (.slice fa' fl fc')) := by
         refine ⟨HEQ.out.2.2.2.1, fun w' ha => ⟨?_, ?_⟩⟩
         · exact ens_agree (base := V.heap.size) HB5.out.2.2.1.arg (by have := HB5.out.2.2.2.2.1; have := HJ.out.2.2.2.2.2; omega) (fun g hg => by have := h1 g hg; have := HB5.out.2.2.2.2.1; omega) ha
         · exact bks_agree (base := w3.heap.size) HB5.out.2.2.2.1 (by have := HB5.out.2.2.2.2.1; have := HB5.out.2.2.2.2.2.2; have := HJ.out.2.2.2.2.2; omega) (fun g hg => by have := h1 g hg; have := HB5.out.2.2.2.2.1; have := HB5.out.2.2.2.2.2.2; omega) ha
       have hown6 : OR w0.heap.size (w.heap.size + 3) w6 (.slice (some ⟨g, 0, none⟩) (k + 1) cap) (l.take (k + 1)) := by
         rw [HTK.out.1]
         refine OR.push (v := .slice a' k cap') (e := .slice ea' el ec') (b := .slice fa' fl fc') (vss := vss) (HEE.out.mono fun us q ⟨e, b, h3, h4⟩ => ⟨e, b, h3, h4.to fun _ hz => (hz.below hbA).below HB5.out.2.1⟩) (HPR.out.to fun _ hz => hz.below hbA) hg6 (fun g' hg' => ?_) (by rw [HTK.out.2, HEQ.out.2.2.1]; exact hO6)
         have e1 : g = g' := by simpa [Value.ownBlock] using hg'
         subst e1
         rcases hgr6 with h | h
         · exact .inl h
         · exact .inr (by rw [h]; simp)
       have hb6 : Below w.heap.size w w6 := below_row HH5.out.2.2.2.2.1 HH5.out.2.2.2.1 hg6 (by omega) (by have := HH5.out.2.2.2.2.2; omega)
       have hx0 := (Box.alloc HH5.out.1 (.cells #[.int .i64 pi, .bool false, .int .i64 pl, .slice ea' el ec', .int .i64 pz, .slice fa' fl fc'] 78)).grown hg6 (row_ne HH5.out.2.2.2.1 (by omega))
       have hx1 := (Box.alloc HH5.out.2.1 (.cells #[.int .i64 pi, .bool false, .int .i64 pl, .slice ea' el ec', .int .i64 pz, .slice fa' fl fc'] 78)).grown hg6 (row_ne HH5.out.2.2.2.1 (by omega))
       refine ⟨⟨k + 1, _, by omega, by go_num, hx0.other (by omega), hx1.other (by omega), hbx6.set 0 _, hown6.set ⟨by have := HL.out.2.2.2.2.size; omega, by omega⟩, hb6.setCell (p := ⟨w.heap.size + 2, 0, none⟩) (by simp) _, ?_⟩, by simp [intOf]; omega⟩
       have := hg6.size
       have := HH5.out.2.2.2.2.2
       simp [World.setCell] at *
       omega
   · obtain rfl : k = n := by omega
     have hT : l.take k = l := by rw [HL.out.2.1]; simp
     rw [hT] at HJ
     obtain ⟨a', cap', rfl⟩ := HJ.out.2.2.2.1.shape
     have hE0 := HL.out.2.1
     rw [← hE0] at HJ
     obtain ⟨q0, q1, -, -⟩ := HJ.out.2.2.1.two
     obtain ⟨d0, d1, e0, e1⟩ := HJ.out.2.1.two
     clear hE0 hT
     go_wp2
     refine bodyPost_ret (v := .agg #[.slice a' k cap', .int .i64 nx]) (by simp [results, Tryz.results42, go_sem, *]) rfl (HPo.out _ _ ?_ ?_)
     · have hlo := HL.out.2.2.2.2.size
       exact ((HJ.out.2.2.2.1.set ⟨by omega, by omega⟩).set ⟨by omega, by omega⟩).weaken (by omega)
     · exact below_set2 HJ.out.2.2.2.2.1 (by omega) _ _
end Go.Proofs.YtkcnephbaffmbaaGreatDoor
namespace Go.Proofs.YtkcnephbaffmbaaGreatDoor
open Go.RowKit
open D (En ArgE OwnE evs)
open F (bksR)
def AgX (X : Nat → Prop) (w w' : World) : Prop := ∀ k, ¬ X k → k < w.heap.size → w'.heap[k]? = w.heap[k]?
def PX (X : Nat → Prop) (w : World) (p : Nd) (e b : Value) : Prop := NOk p ∧ ∀ w', AgX X w w' → ArgE 0 w' e (en p) ∧ bksR.lies 0 w' [b] (fi p).2
theorem PX.to {X X' : Nat → Prop} {w w' : World} {p : Nd} {e b : Value} (h : PX X w p e b) (ha : ∀ w'', AgX X' w' w'' → AgX X w w'') : PX X' w' p e b := ⟨h.1, fun w'' h2 => h.2 w'' (ha w'' h2)⟩
theorem PX.lr {X : Nat → Prop} {w : World} {p : Nd} {e b : Value} (h : PX X w p e b) : LR 0 w p e b := ⟨(h.2 w (fun _ _ _ => rfl)).1, (h.2 w (fun _ _ _ => rfl)).2, h.1⟩
def WX (X : Nat → Prop) (v : Value) (k : Nat) : Prop := X k ∨ v.ownBlock = some k
def RX (X : Nat → Prop) (base : Nat) (w : World) (v : Value) (l : List Nd) : Prop := ∃ vss, w.ownsRow base 78 6 v l.length vss.flatten ∧ Each (fun us p => ∃ e b, us = nv p e b ∧ PX (WX X v) w p e b) vss l
theorem RX.of_or {B0 B1 : Nat} {w : World} {v : Value} {l : List Nd} (h : OR B0 B1 w v l) : RX (fun k => B0 ≤ k ∧ k < B1) B1 w v l := by
 obtain ⟨vss, h1, h2⟩ := h
 refine ⟨vss, h1, h2.mono fun _ _ ⟨e, b, h3, h4, h5⟩ => ⟨e, b, h3, h4, fun w' ha => h5 w' fun k k1 k2 k3 => ha k ?_ k2⟩⟩
 rintro (⟨c1, c2⟩ | c)
 · omega
 · exact k1 c.symm
theorem RX.or {X : Nat → Prop} {base B0 B1 : Nat} {w : World} {v : Value} {l : List Nd} (h : RX X base w v l) (hX : ∀ k, B0 ≤ k → k < B1 → X k) (hB : B1 ≤ base) : OR B0 B1 w v l := by
 obtain ⟨vss, h1, h2⟩ := h
 refine ⟨vss, own_weaken h1 hB, h2.mono fun _ _ ⟨e, b, h3, h4, h5⟩ => ⟨e, b, h3, h4, fun w' ha => h5 w' fun k k1 k2 => ha k (fun c => k1 (.inr c.symm)) k2 ?_⟩⟩
 apply Classical.byContradiction
 intro c
 exact k1 (.inl (hX k (by omega) (by omega)))
theorem RX.more {X X' : Nat → Prop} {base : Nat} {w w' : World} {v : Value} {l : List Nd} (h : RX X base w v l) (hb : Below w.heap.size w w') (hX : ∀ k, X' k → X k ∨ w.heap.size ≤ k) : RX X' base w' v l := by
 obtain ⟨vss, h1, h2⟩ := h
 refine ⟨vss, own_below h1 hb, h2.mono fun _ _ ⟨e, b, h3, h4⟩ => ⟨e, b, h3, h4.to fun w'' ha k k1 k2 => ?_⟩⟩
 rw [ha k ?_ (by have := hb.size; omega), hb.block k k2]
 rintro (c | c)
 · rcases hX k c with c | c
   · exact k1 (.inl c)
   · omega
 · exact k1 (.inr c)
theorem RX.below {X : Nat → Prop} {base : Nat} {w w' : World} {v : Value} {l : List Nd} (h : RX X base w v l) (hb : Below w.heap.size w w') : RX X base w' v l := h.more hb fun _ => .inl
theorem RX.set {X : Nat → Prop} {base : Nat} {w : World} {v : Value} {l : List Nd} {B : Nat} (h : RX X base w v l) (hB : X B) (hne : v.ownBlock ≠ some B) (j : Nat) (x : Value) : RX X base (w.setCell ⟨B, j, none⟩ x) v l := by
 obtain ⟨vss, h1, h2⟩ := h
 refine ⟨vss, h1.kept (grown_set w B j x) (.inr hne), h2.mono fun _ _ ⟨e, b, h3, h4⟩ => ⟨e, b, h3, h4.to fun w'' ha k k1 k2 => ?_⟩⟩
 rw [ha k k1 (by simpa [World.setCell] using k2)]
 exact Below.heap_setCell _ _ _ _ fun e => k1 (.inl (by simp only at e; rw [e]; exact hB))
theorem RX.weaken {X : Nat → Prop} {base m : Nat} {w : World} {v : Value} {l : List Nd} (h : RX X base w v l) (hm : m ≤ base) : RX X m w v l := by
 obtain ⟨vss, h1, h2⟩ := h
 exact ⟨vss, own_weaken h1 hm, h2⟩
theorem RX.nil (X : Nat → Prop) (base : Nat) (w : World) : RX X base w (.slice none 0 0) [] := ⟨[], World.ownsRow_nil _ _ _ _, trivial⟩
theorem RX.shape {X : Nat → Prop} {base : Nat} {w : World} {v : Value} {l : List Nd} (h : RX X base w v l) : ∃ a c, v = .slice a l.length c := by
 obtain ⟨_, h1, _⟩ := h
 exact own_shape h1
theorem RX.lt {X : Nat → Prop} {base : Nat} {w : World} {v : Value} {l : List Nd} (h : RX X base w v l) : ∀ g, v.ownBlock = some g → base ≤ g ∧ g < w.heap.size := fun g hg => by
 obtain ⟨_, h1, _⟩ := h
 exact h1.lt g hg
theorem RX.lies {X : Nat → Prop} {base : Nat} {w : World} {v : Value} {l : List Nd} (h : RX X base w v l) : ndsR.lies 0 w [v] l := by
 obtain ⟨vss, h1, h2⟩ := h
 exact ⟨v, vss, rfl, (Cells.own h1).weaken (Nat.zero_le _), h2.mono fun _ _ ⟨e, b, e1, h4⟩ => by rw [e1]; exact nd_mkR h4.lr⟩
theorem RX.at {X : Nat → Prop} {base : Nat} {w : World} {v : Value} {l : List Nd} (h : RX X base w v l) (i : Nat) (p : Nd) (hp : l[i]? = some p) :
   ∃ g cap ea ec fa fc, v = .slice (some ⟨g, 0, none⟩) l.length cap ∧ base ≤ g ∧ g < w.heap.size ∧ (∀ W, (Instr.indexAt 22 v (.int .i64 i)).run Tryz.prog W = .ok (.pointer (some ⟨g, i * 6, none⟩)) W) ∧ PX (WX X v) w p (.slice ea (en p).length ec) (.slice fa (fi p).2.length fc) ∧
     ∀ W, Below w.heap.size w W → (W.cell? ⟨g, i * 6, none⟩ = some (.int .i64 p.1) ∧ W.cell? ⟨g, i * 6 + 1, none⟩ = some (.bool (isD p)) ∧ W.cell? ⟨g, i * 6 + 2, none⟩ = some (.int .i64 (lk p)) ∧ W.cell? ⟨g, i * 6 + 3, none⟩ = some (.slice ea (en p).length ec) ∧ W.cell? ⟨g, i * 6 + 4, none⟩ = some (.int .i64 (fi p).1) ∧ W.cell? ⟨g, i * 6 + 5, none⟩ = some (.slice fa (fi p).2.length fc)) ∧ (∀ j, W.frozen? ⟨g, j, none⟩ = false) ∧
       ∀ (j : Nat) u p' e' f', j < 6 → (nv p (.slice ea (en p).length ec) (.slice fa (fi p).2.length fc)).set j u = nv p' e' f' → PX (WX X v) W p' e' f' → RX X base (W.setCell ⟨g, i * 6 + j, none⟩ u) v (l.set i p') := by
 obtain ⟨i0, hi0, _, hz, _⟩ := info_parts Tryz.info78
 obtain ⟨vss, hC0, hE0⟩ := h
 obtain ⟨us, hu, e, f, rfl, hL0⟩ := hE0.get hp
 have hi : i < l.length := (List.getElem?_eq_some_iff.1 hp).1
 obtain ⟨ea, ec, rfl, -⟩ := hL0.lr.1.shape
 obtain ⟨fa, fc, hfe, -, -⟩ := Shape.list_len (S := F.bkR) (ht := Tryz.underlying74) (hc := F.cells74) hL0.lr.2.1
 obtain rfl : f = _ := by simpa using hfe
 obtain ⟨g, cap, rfl⟩ : ∃ g cap, v = .slice (some ⟨g, 0, none⟩) l.length cap := by
   rcases hC0.2 with ⟨_, h0⟩ | ⟨g, cap, cur, h', _⟩
   · omega
   · exact ⟨g, cap, h'⟩
 have hsz : ∀ us ∈ vss, us.length = 6 := fun us h => by
   obtain ⟨q, _, e, b, rfl, _⟩ := hE0.left h
   exact nv_len _ _ _
 have hob : (Value.slice (some ⟨g, 0, none⟩) l.length cap).ownBlock = some g := rfl
 have hlt := hC0.lt g hob
 refine ⟨g, cap, ea, ec, fa, fc, rfl, hlt.1, hlt.2, fun W => ?_, hL0, fun W hW => ?_⟩
 · have := run_index (size := 6) Tryz.underlying22 hi0 hz g 0 l.length cap i hi W
   simpa using this
 have hC := own_below hC0 hW
 have hcell : ∀ (j : Nat) u, (nv p (.slice ea (en p).length ec) (.slice fa (fi p).2.length fc))[j]? = some u → W.cell? ⟨g, i * 6 + j, none⟩ = some u := fun j u hj => by
   have hc := hC.cells hob (i * 6 + j) u (flat_get hsz hu hj)
   rwa [add_plain, Nat.zero_add] at hc
 refine ⟨⟨hcell 0 _ rfl, hcell 1 _ rfl, hcell 2 _ rfl, hcell 3 _ rfl, hcell 4 _ rfl, hcell 5 _ rfl⟩, fun j => hC.frozenAt j, fun j u p' e' f' hj hset hL' => ?_⟩
 obtain ⟨h1, h2⟩ := hC.stored (i * 6 + j) u
 rw [flat_set hsz hu hj, hset] at h1
 have key : ∀ w'', AgX (WX X (.slice (some ⟨g, 0, none⟩) l.length cap)) (W.setCell ⟨g, i * 6 + j, none⟩ u) w'' → AgX (WX X (.slice (some ⟨g, 0, none⟩) l.length cap)) W w'' := fun w'' ha k k1 k2 => by
   rw [ha k k1 (by simpa [World.setCell] using k2)]
   exact Below.heap_setCell _ _ _ _ fun e => k1 (.inr (by simp only at e; rw [e]; rfl))
 refine ⟨vss.set i (nv p' e' f'), by rw [List.length_set]; exact h1, Each.set i (hE0.mono fun us q ⟨e, b, h3, h4⟩ => ⟨e, b, h3, h4.to fun w'' ha k k1 k2 => ?_⟩) ⟨e', f', rfl, hL'.to key⟩⟩
 rw [key w'' ha k k1 (by have := hW.size; omega)]
 exact hW.block k k2
theorem RX.push {X : Nat → Prop} {base : Nat} {W w3 : World} {v v3 : Value} {l : List Nd} {p : Nd} {e b : Value} {vss : List (List Value)} (h2 : Each (fun us p => ∃ e b, us = nv p e b ∧ PX (WX X v) W p e b) vss l) (hp : PX (WX X v) W p e b) (hg : W.grownBy w3 v.ownBlock)
   (hv : ∀ g, v3.ownBlock = some g → v.ownBlock = some g ∨ W.heap.size ≤ g) (hO : w3.ownsRow base 78 6 v3 (l.length + 1) (vss.flatten ++ nv p e b)) : RX X base w3 v3 (l ++ [p]) := by
 have key : ∀ w'', AgX (WX X v3) w3 w'' → AgX (WX X v) W w'' := fun w'' ha k k1 k2 => by
   rw [ha k ?_ (by have := hg.size; omega)]
   · exact hg.block k k2 fun c => k1 (.inr c.symm)
   · rintro (c | c)
     · exact k1 (.inl c)
     · rcases hv k c with c | c
       · exact k1 (.inr c)
       · omega
 refine ⟨vss ++ [nv p e b], ?_, ?_⟩
 · rw [List.length_append, flat_snoc]; exact hO
 · exact Each.snoc (h2.mono fun us q ⟨e, b, h3, h4⟩ => ⟨e, b, h3, h4.to key⟩) ⟨e, b, rfl, hp.to key⟩
theorem ens_px {X : Nat → Prop} {w w' : World} {e : Value} {es : List En} {base : Nat} (h : ArgE base w e es) (hX : ∀ k, X k → k < base ∨ w.heap.size ≤ k) (ha : AgX X w w') : ArgE 0 w' e es :=
 (h.keep fun k h1 h2 => ha k (fun c => by have := hX k c; omega) h2).weaken (Nat.zero_le _)
def TellsR (B0 : Nat) (T : Int → St → Prop) (w : World) (e : Ending) (w' : World) : Prop := (∃ (v : Value) (k : Int) (S : St), e = .returned (.tuple #[.agg #[v, .int .i64 S.2], .int .i64 k]) ∧ T k S ∧ OR B0 w.heap.size w' v S.1) ∧ Below w.heap.size w w'
end Go.Proofs.YtkcnephbaffmbaaGreatDoor
