/-
  What the document's Own makes of a state that may be: the same one, in a row of its own.
-/
import Derived.Test.YtkcnephbaffmbaaGreatDoorP22
import Derived.Test.YtkcnephbaffmbaaGreatDoorP38
import Derived.Test.YtkcnephbaffmbaaGreatDoorP39
namespace Go.Proofs.YtkcnephbaffmbaaGreatDoor
open Go.RowKit
open D (En ArgE OwnE evs)
open F (Fl bksR flR txt mk)
attribute [local go_sem ↓] Go.wp_at_zero Go.wp_at_succ
theorem push_allR {ops : Array Oper} {rest : List Oper} {o : Oper} {a : Act} {Q : Exit → Act → World → Prop} (hgd : o.guard = none) (s x : Operand) (ho : o.op = .call { callee := .builtin .append, args := #[s, x], argTypes := #[73, 73] })
    (base n1 : Nat) (v u : Value) (l m : List En) (w : World) (hs : a.eval s = v) (hO : OwnE 123 base w v l) (hx : a.eval x = u) (hA : ArgE n1 w u m) (hlen : l.length + m.length ≤ 100000) (hb : base ≤ w.heap.size)
    (h : ∀ v' w', OwnE 123 base w' v' (l ++ m) → w.grownBy w' v.ownBlock → wpList Tryz.prog ops Q rest (a.put o.dst v') w') : wpList Tryz.prog ops Q (o :: rest) a w := by
  obtain ⟨i3, hi3, hz0, hz1, hz2⟩ := info_parts D.Tryz.info123
  obtain ⟨hl, ⟨rfl, h0⟩ | ⟨ad, cap, rfl, hc, hm, _, hcell⟩⟩ := hA.1
  · obtain rfl := List.eq_nil_of_length_eq_zero h0
    refine wpList_append_own_none hgd s x 73 ho base 123 i3 2 Tryz.underlying73 hi3 v l.length (evs l) hs hO.1 hx ?_
    exact h v w (by simpa using hO) ⟨rfl, rfl, rfl, Nat.le_refl _, fun _ _ _ => rfl⟩
  · refine wpList_append_own _ hgd s x 73 ho base 123 i3 _ 2 24 Tryz.underlying73 hi3 hz0 hz1 hz2 rfl (by omega) v l.length (evs l) hs hO.1 ad m.length cap (evs m) hx (by rw [D.evs_length]) hcell (D.evs_one m) (by unfold maxLen; omega) (by omega) hb ?_
    intro v' w' h1 h2 _
    refine h v' w' ⟨?_, hO.2.append hA.2⟩ h2
    rw [List.length_append, D.evs_append]
    exact h1
theorem bks_agree {B0 B1 : Nat} {r : Option Nat} {w w' : World} {b : Value} {bs : List F.Bk} {base : Nat} (h : bksR.lies base w [b] bs) (hb : B1 ≤ base) (hr : ∀ g, r = some g → g < base) (ha : Agree B0 B1 r w w') : bksR.lies 0 w' [b] bs :=
  bksR.weaken (bksR.keep h fun k h1 h2 => ha k (fun e => by have := hr k e.symm; omega) h2 (.inr (by omega))) (Nat.zero_le _)
theorem ens_agree {B0 B1 : Nat} {r : Option Nat} {w w' : World} {e : Value} {es : List En} {base : Nat} (h : ArgE base w e es) (hb : B1 ≤ base) (hr : ∀ g, r = some g → g < base) (ha : Agree B0 B1 r w w') : ArgE 0 w' e es :=
  (h.keep fun k h1 h2 => ha k (fun e => by have := hr k e.symm; omega) h2 (.inr (by omega))).weaken (Nat.zero_le _)
theorem bks_nil {n : Nat} {w : World} {b : Value} (h : bksR.lies n w [b] []) (w' : World) : bksR.lies 0 w' [b] [] := by
  obtain ⟨v, vss, hv, hC, hE⟩ := h
  cases vss with
  | cons _ _ => exact hE.elim
  | nil =>
    refine ⟨v, [], hv, ⟨hC.1, ?_⟩, trivial⟩
    rcases hC.2 with ⟨h1, h2⟩ | ⟨x, cap, h1, h2, h3, _, _⟩
    · exact .inl ⟨h1, h2⟩
    · exact .inr ⟨x, cap, h1, h2, h3, Nat.zero_le _, fun i u hu => by simp at hu⟩
theorem OR.weaken {B0 B1 B2 : Nat} {w : World} {v : Value} {l : List Nd} (h : OR B0 B1 w v l) (hB : B2 ≤ B1) : OR B0 B2 w v l := by
  obtain ⟨vss, h1, h2⟩ := h
  exact ⟨vss, own_weaken h1 hB, h2.mono fun _ _ ⟨e, b, h3, h4⟩ => ⟨e, b, h3, h4.1, fun w' ha => h4.2 w' fun k k1 k2 k3 => ha k k1 k2 (k3.imp id fun h => by omega)⟩⟩
theorem OR.owns {B0 B1 : Nat} {w : World} {v : Value} {l : List Nd} (h : OR B0 B1 w v l) : ∀ g, v.ownBlock = some g → B1 ≤ g ∧ g < w.heap.size := fun g hg => by
  obtain ⟨vss, h1, _⟩ := h
  exact h1.lt g hg
set_option maxRecDepth 100000 in
set_option maxHeartbeats 8000000 in
theorem rown_any (n0 : Nat) (w0 : World) (a : Option Addr) (c : Nat) (s : St) (hK : Wk s) (w : World) (hb0 : Below w0.heap.size w0 w) (hA : ndsR.lies n0 w0 [.slice a s.1.length c] s.1) :
    Calls Tryz.prog 42 #[.agg #[.slice a s.1.length c, .int .i64 s.2]] w fun e w' => (∃ v', e = .returned (.agg #[v', .int .i64 s.2]) ∧ OR w0.heap.size w.heap.size w' v' s.1) ∧ Below w.heap.size w w' := by
  have hS := hK.small
  obtain ⟨i3, hi3, hz30, hz31, hz32⟩ := info_parts Tryz.info78
  have HKK : Hid (∀ p ∈ s.1, (isD p = true → fi p = (0, [])) ∧ (isD p = false → F.chk (fi p) = true)) := fun p hp => ⟨fun hd => (hK.dirs p hp hd).2, fun hd => (hK.files p hp hd).2⟩
  obtain ⟨l, nx⟩ := s
  simp only at hA hS HKK ⊢
  obtain ⟨n, hn⟩ : ∃ n, n = l.length := ⟨_, rfl⟩
  have HL : Hid (ndsR.lies n0 w0 [.slice a n c] l ∧ n = l.length ∧ n ≤ 4096 ∧ Small l ∧ Below w0.heap.size w0 w) := ⟨by rw [hn]; exact hA, hn, by rw [hn]; exact hS.1, hS, hb0⟩
  have hn4 : n ≤ 4096 := HL.out.2.2.1
  have hl1 := run_len Tryz.underlying22 a n c
  obtain ⟨post, hpost⟩ : ∃ post : Ending → World → Prop, post = fun e w' => (∃ v', e = .returned (.agg #[v', .int .i64 nx]) ∧ OR w0.heap.size w.heap.size w' v' l) ∧ Below w.heap.size w w' := ⟨_, rfl⟩
  have HPo : Hid (∀ v' w', OR w0.heap.size w.heap.size w' v' l → Below w.heap.size w w' → post (.returned (.agg #[v', .int .i64 nx])) w') := fun v' w' h1 h2 => by rw [hpost]; exact ⟨⟨v', rfl, h1⟩, h2⟩
  rw [← hpost, ← hn]
  clear hA hS hn hpost hb0 hK
  go_enter Tryz.func42, Tryz.ntmps42
  go_wp2
  go_loopw [4] (fun i wr => ∃ (k : Nat) (v : Value), k ≤ n ∧ i = .int .i64 k ∧ Hid (Box wr w.heap.size 24 #[.slice a n c, .int .i64 nx] ∧ Box wr (w.heap.size + 1) 24 #[.slice none 0 0, .int .i64 0] ∧ Box wr (w.heap.size + 2) 24 #[v, .int .i64 nx] ∧
    OR w0.heap.size (w.heap.size + 3) wr v (l.take k) ∧ Below w.heap.size w wr ∧ w.heap.size + 3 ≤ wr.heap.size)) (fun i _ => n - (intOf i).toNat)
  case atStart =>
    refine ⟨0, _, Nat.zero_le _, rfl, ?_, ?_, ?_, OR.nil _ _ _, ?_, ?_⟩
    · exact ((Box.new w 24 _).alloc _).alloc _
    · have := (Box.new (w.alloc (.cells #[.slice a n c, .int .i64 nx] 24)) 24 #[.slice none 0 0, .int .i64 0]).alloc (.cells #[.slice none 0 0, .int .i64 nx] 24)
      simpa using this
    · have := Box.new ((w.alloc (.cells #[.slice a n c, .int .i64 nx] 24)).alloc (.cells #[.slice none 0 0, .int .i64 0] 24)) 24 #[.slice none 0 0, .int .i64 nx]
      simpa using this
    · exact (((Below.refl _ w).alloc (Nat.le_refl _) _).alloc (by simp) _).alloc (by simp; omega) _
    · simp
  case round =>
    obtain ⟨k, v, hk, rfl, HJ⟩ := hrel
    obtain ⟨r0, r1, -, -⟩ := HJ.out.1.two
    by_cases hlt : k < n
    · obtain ⟨p, hp⟩ := get_lt (l := l) (k := k) (by rw [← HL.out.2.1]; exact hlt)
      have HB0 : Hid (Below w0.heap.size w0 wr) := HL.out.2.2.2.2.trans (HJ.out.2.2.2.2.1.mono HL.out.2.2.2.2.size)
      obtain ⟨b, o, e, f, hix, -, hcs, hLN⟩ := nds_atR (ndsR.below HL.out.1 HB0.out) k p hp
      have HTK : Hid (l.take (k + 1) = l.take k ++ [p] ∧ (l.take k).length = k) := ⟨take_snoc hp, by have := HL.out.2.1; rw [List.length_take]; omega⟩
      obtain ⟨c0, c1, c2, c3, c4, c5⟩ := nv_cells hcs
      obtain ⟨ea, ec, rfl, -, -⟩ := hLN.1.1.shape
      obtain ⟨fa, fc, hfe, -, -⟩ := Shape.list_len (S := F.bkR) (ht := Tryz.underlying74) (hc := F.cells74) hLN.2.1
      obtain rfl : f = _ := by simpa using hfe
      have hpl0 := List.mem_of_getElem? hp
      have HP : Hid (LR n0 wr p (.slice ea (en p).length ec) (.slice fa (fi p).2.length fc) ∧ (en p).length ≤ 4096) := ⟨hLN, (HL.out.2.2.2.1.2 p hpl0).1⟩
      have HKP : Hid ((isD p = true → fi p = (0, [])) ∧ (isD p = false → F.chk (fi p) = true)) := HKK.out p hpl0
      obtain ⟨V, hV⟩ : ∃ V, V = wr.alloc (.cells #[.int .i64 p.1, .bool (isD p), .int .i64 (lk p), .slice ea (en p).length ec, .int .i64 (fi p).1, .slice fa (fi p).2.length fc] 78) := ⟨_, rfl⟩
      have HV : Hid (Below wr.heap.size wr V ∧ Box V wr.heap.size 78 #[.int .i64 p.1, .bool (isD p), .int .i64 (lk p), .slice ea (en p).length ec, .int .i64 (fi p).1, .slice fa (fi p).2.length fc]) := ⟨by rw [hV]; exact (Below.refl _ _).alloc (Nat.le_refl _) _, by rw [hV]; exact Box.new _ _ _⟩
      have HAE : Hid (ArgE n0 V (.slice ea (en p).length ec) (en p)) := HP.out.1.1.below HV.out.1
      have hki : (k : Int) < (n : Int) := by omega
      have g3 := HV.out.2.cell 3 rfl
      rw [hV] at g3
      obtain ⟨el, hel⟩ : ∃ m, m = (en p).length := ⟨_, rfl⟩
      obtain ⟨fl, hfl⟩ : ∃ m, m = (fi p).2.length := ⟨_, rfl⟩
      obtain ⟨pi, hpi⟩ : ∃ m, m = p.1 := ⟨_, rfl⟩
      obtain ⟨pd, hpd⟩ : ∃ m, m = isD p := ⟨_, rfl⟩
      obtain ⟨pl, hpl⟩ : ∃ m, m = lk p := ⟨_, rfl⟩
      obtain ⟨pz, hpz⟩ : ∃ m, m = (fi p).1 := ⟨_, rfl⟩
      have HEQ : Hid (el = (en p).length ∧ fl = (fi p).2.length ∧ (∀ e f, nv p e f = [.int .i64 pi, .bool pd, .int .i64 pl, e, .int .i64 pz, f]) ∧ NOk p ∧ pz = (fi p).1 ∧ pd = isD p) := ⟨hel, hfl, fun e f => by rw [hpi, hpd, hpl, hpz]; rfl, HP.out.1.2.2, hpz, hpd⟩
      rw [← hel] at c3 g3 HV hV HAE HP
      rw [← hfl] at c5 g3 HV hV HP
      rw [← hpi] at c0 g3 HV hV
      rw [← hpd] at c1 g3 HV hV
      rw [← hpl] at c2 g3 HV hV
      rw [← hpz] at c4 g3 HV hV
      clear hcs hLN hp hfe hel hfl hpi hpd hpl hpz hpl0
      obtain ⟨a', cap', rfl⟩ := HJ.out.2.2.2.1.shape
      rw [HTK.out.2] at HJ
      obtain ⟨vss, hown0, hEE⟩ := HJ.out.2.2.2.1
      rw [HTK.out.2] at hown0
      have HEE : Hid (Each (fun us q => ∃ e b, us = nv q e b ∧ PR w0.heap.size (w.heap.size + 3) (Value.slice a' k cap').ownBlock wr q e b) vss (l.take k)) := hEE
      have HVB : Hid (∀ g', (Value.slice a' k cap').ownBlock = some g' → g' < wr.heap.size) := fun g' hg' => (hown0.lt g' hg').2
      have HROW : Hid (∀ W, Below wr.heap.size wr W → W.ownsRow (w.heap.size + 3) 78 6 (.slice a' k cap') k vss.flatten ∧ W.cell? ⟨w.heap.size + 2, 0, none⟩ = some (.slice a' k cap')) := fun W hW => ⟨own_below hown0 hW, (HJ.out.2.2.1.below hW (by have := HJ.out.2.2.2.2.2; omega)).two.1⟩
      clear hown0 hEE
      cases hpd : pd
      case true =>
        subst hpd
        have hf0 : fi p = (0, []) := HKP.out.1 HEQ.out.2.2.2.2.2.symm
        go_wp2_with (at_builtin; first
          | (rw [← hW3, HB3.out.2.2.2.2.2]
             clear hW3 hx0
             have HH5 : Hid (Box W3 w.heap.size 24 #[.slice a n c, .int .i64 nx] ∧ Box W3 (w.heap.size + 1) 24 #[.slice none 0 0, .int .i64 0] ∧ Box W3 (w.heap.size + 2) 24 #[.slice a' k cap', .int .i64 nx] ∧ W3.ownsRow (w.heap.size + 3) 78 6 (.slice a' k cap') k vss.flatten ∧ Below w.heap.size w W3 ∧ w.heap.size + 3 ≤ W3.heap.size) :=
               ⟨HJ.out.1.below HB3.out.2.1 (by have := HJ.out.2.2.2.2.2; omega), HJ.out.2.1.below HB3.out.2.1 (by have := HJ.out.2.2.2.2.2; omega), HJ.out.2.2.1.below HB3.out.2.1 (by have := HJ.out.2.2.2.2.2; omega), hown0, below_any HJ.out.2.2.2.2.1 HB3.out.2.1, by have := HB3.out.2.1.size; have := HJ.out.2.2.2.2.2; omega⟩
             refine push_row (by rfl) _ _ 22 78 (by rfl) Tryz.underlying22 Tryz.info78 rfl (by omega) (w.heap.size + 3) _ vss.flatten k [.int .i64 pi, .bool true, .int .i64 pl, .slice ea' el ec', .int .i64 pz, .slice fa fl fc] rfl (by simp [Value.oneCell']) W3 (by rfl) HH5.out.2.2.2.1 (by rfl) (by omega) (by omega) HH5.out.2.2.2.2.2 ?_
             intro g cap w6 hO6 hg6 hgr6 hlt6
             have hbx6 := (Box.alloc HH5.out.2.2.1 (.cells #[.int .i64 pi, .bool true, .int .i64 pl, .slice ea' el ec', .int .i64 pz, .slice fa fl fc] 78)).grown hg6 (row_ne HH5.out.2.2.2.1 (by omega))
             have y0 := hbx6.cell 0 rfl
             have y1 := hbx6.frozen 0)
          | (rw [← hV]
             clear hV g3 c0 c1 c2 c3 c4 c5 hix
             refine push_allR (by rfl) _ _ (by rfl) V.heap.size n0 (.slice none 0 0) (.slice ea el ec) [] (en p) V (by rfl) ⟨World.ownsRow_nil _ _ _ _, fun _ h => by cases h⟩ (by rfl) HAE.out (by have := HP.out.2; have := HEQ.out.1; simp; omega) (Nat.le_refl _) ?_
             intro e' w2 hO2 hg2
             rw [List.nil_append] at hO2
             obtain ⟨ea', ec', rfl⟩ := hO2.shape
             have hE0 := HEQ.out.1
             rw [← hE0] at hO2 ⊢
             have hB2 := HV.out.2.grown hg2 (by simp [Value.ownBlock])
             have f3 := hB2.frozen 3
             have g3 := hB2.cell 3 rfl
             have hVs : wr.heap.size < V.heap.size := HV.out.2.lt
             have hbw2 : Below wr.heap.size wr w2 := HV.out.1.grown hg2 (by have := HV.out.1.size; omega) (fun j hj => by simp [Value.ownBlock] at hj)
             obtain ⟨W3, hW3⟩ : ∃ W, W = w2.setCell ⟨wr.heap.size, 3, none⟩ (.slice ea' el ec') := ⟨_, rfl⟩
             have hB3 : Box W3 wr.heap.size 78 #[.int .i64 pi, .bool true, .int .i64 pl, .slice ea' el ec', .int .i64 pz, .slice fa fl fc] := by rw [hW3]; exact hB2.set 3 _
             have hsz3 : w2.heap.size = W3.heap.size := by rw [hW3]; simp [World.setCell]
             have HB3 : Hid (Box W3 wr.heap.size 78 #[.int .i64 pi, .bool true, .int .i64 pl, .slice ea' el ec', .int .i64 pz, .slice fa fl fc] ∧ Below wr.heap.size wr W3 ∧ OwnE 123 V.heap.size W3 (.slice ea' el ec') (en p) ∧ V.heap.size ≤ W3.heap.size ∧ wr.heap.size < V.heap.size ∧ w2.heap.size = W3.heap.size) :=
               ⟨hB3, by rw [hW3]; exact hbw2.setCell (p := ⟨wr.heap.size, 3, none⟩) (Nat.le_refl _) _, by rw [hW3]; exact hO2.same (.set hVs), by rw [hW3]; simpa [World.setCell] using hg2.size, hVs, hsz3⟩
             obtain ⟨q0, q1, q2, q3, q4, q5⟩ := hB3.six
             rw [hW3] at q0 q1 q2 q3 q4 q5
             clear hO2 hB2 hg2 hbw2 hVs HV HAE hE0 hB3 hsz3
             obtain ⟨hown0, hx0⟩ := HROW.out W3 HB3.out.2.1
             rw [hW3] at hx0))
        have h1 : ∀ g', (Value.slice a' k cap').ownBlock = some g' → g' < wr.heap.size := HVB.out
        have hbA : Below W3.heap.size W3 (W3.alloc (.cells #[.int .i64 pi, .bool true, .int .i64 pl, .slice ea' el ec', .int .i64 pz, .slice fa fl fc] 78)) := (Below.refl _ _).alloc (Nat.le_refl _) _
        have HPR : Hid (PR w0.heap.size (w.heap.size + 3) (Value.slice a' k cap').ownBlock W3 p (.slice ea' el ec') (.slice fa fl fc)) := by
          refine ⟨HEQ.out.2.2.2.1, fun w' ha => ⟨?_, ?_⟩⟩
          · exact ens_agree (base := V.heap.size) HB3.out.2.2.1.arg (by have := HB3.out.2.2.2.2.1; have := HJ.out.2.2.2.2.2; omega) (fun g hg => by have := (hown0.lt g hg).2; have := h1 g hg; have := HB3.out.2.2.2.2.1; omega) ha
          · have h3 := HP.out.1.2.1
            rw [hf0] at h3 ⊢
            exact bks_nil h3 w'
        have hown6 : OR w0.heap.size (w.heap.size + 3) w6 (.slice (some ⟨g, 0, none⟩) (k + 1) cap) (l.take (k + 1)) := by
          rw [HTK.out.1]
          refine OR.push (v := .slice a' k cap') (e := .slice ea' el ec') (b := .slice fa fl fc) (vss := vss) (HEE.out.mono fun us q ⟨e, b, h3, h4⟩ => ⟨e, b, h3, h4.to fun _ hz => (hz.below hbA).below HB3.out.2.1⟩) (HPR.out.to fun _ hz => hz.below hbA) hg6 (fun g' hg' => ?_) (by rw [HTK.out.2, HEQ.out.2.2.1]; exact hO6)
          have e1 : g = g' := by simpa [Value.ownBlock] using hg'
          subst e1
          rcases hgr6 with h | h
          · exact .inl h
          · exact .inr (by rw [h]; simp)
        have hb6 : Below w.heap.size w w6 := below_row HH5.out.2.2.2.2.1 HH5.out.2.2.2.1 hg6 (by omega) (by have := HH5.out.2.2.2.2.2; omega)
        have hx0 := (Box.alloc HH5.out.1 (.cells #[.int .i64 pi, .bool true, .int .i64 pl, .slice ea' el ec', .int .i64 pz, .slice fa fl fc] 78)).grown hg6 (row_ne HH5.out.2.2.2.1 (by omega))
        have hx1 := (Box.alloc HH5.out.2.1 (.cells #[.int .i64 pi, .bool true, .int .i64 pl, .slice ea' el ec', .int .i64 pz, .slice fa fl fc] 78)).grown hg6 (row_ne HH5.out.2.2.2.1 (by omega))
        refine ⟨⟨k + 1, _, by omega, by go_num, hx0.other (by omega), hx1.other (by omega), hbx6.set 0 _, hown6.set ⟨by have := HL.out.2.2.2.2.size; omega, by omega⟩, hb6.setCell (p := ⟨w.heap.size + 2, 0, none⟩) (by simp) _, ?_⟩, by simp [intOf]; omega⟩
        have := hg6.size
        have := HH5.out.2.2.2.2.2
        simp [World.setCell] at *
        omega
      case false =>
        subst hpd
        have HCK : Hid (F.chk (fi p) = true) := HKP.out.2 HEQ.out.2.2.2.2.2.symm
        have HTX : Hid (∀ W, Below wr.heap.size wr W → Calls Tryz.prog 102 #[.agg #[.int .i64 pz, .slice fa fl fc]] W fun e w' => (∃ v, e = .returned v ∧ Own1 W.heap.size w' v (F.rtext (fi p))) ∧ Below W.heap.size W w') := fun W hW => by
          have h1 := (HP.out.1.below hW).file
          rw [← HEQ.out.2.2.2.2.1] at h1
          exact F.rtext_any n0 [_, _] (fi p) W h1 (F.chk_iff.1 HCK.out).1
        go_wp2_with (first
          | (at_builtin
             first
             | (rw [← hW5, HB5.out.2.2.2.2.2.1]
                clear hW5 hx0
                have HH5 : Hid (Box W5 w.heap.size 24 #[.slice a n c, .int .i64 nx] ∧ Box W5 (w.heap.size + 1) 24 #[.slice none 0 0, .int .i64 0] ∧ Box W5 (w.heap.size + 2) 24 #[.slice a' k cap', .int .i64 nx] ∧ W5.ownsRow (w.heap.size + 3) 78 6 (.slice a' k cap') k vss.flatten ∧ Below w.heap.size w W5 ∧ w.heap.size + 3 ≤ W5.heap.size) :=
                  ⟨HJ.out.1.below HB5.out.2.1 (by have := HJ.out.2.2.2.2.2; omega), HJ.out.2.1.below HB5.out.2.1 (by have := HJ.out.2.2.2.2.2; omega), HJ.out.2.2.1.below HB5.out.2.1 (by have := HJ.out.2.2.2.2.2; omega), hown0, below_any HJ.out.2.2.2.2.1 HB5.out.2.1, by have := HB5.out.2.1.size; have := HJ.out.2.2.2.2.2; omega⟩
                refine push_row (by rfl) _ _ 22 78 (by rfl) Tryz.underlying22 Tryz.info78 rfl (by omega) (w.heap.size + 3) _ vss.flatten k [.int .i64 pi, .bool false, .int .i64 pl, .slice ea' el ec', .int .i64 pz, .slice fa' fl fc'] rfl (by simp [Value.oneCell']) W5 (by rfl) HH5.out.2.2.2.1 (by rfl) (by omega) (by omega) HH5.out.2.2.2.2.2 ?_
                intro g cap w6 hO6 hg6 hgr6 hlt6
                have hbx6 := (Box.alloc HH5.out.2.2.1 (.cells #[.int .i64 pi, .bool false, .int .i64 pl, .slice ea' el ec', .int .i64 pz, .slice fa' fl fc'] 78)).grown hg6 (row_ne HH5.out.2.2.2.1 (by omega))
                have y0 := hbx6.cell 0 rfl
                have y1 := hbx6.frozen 0)
             | (rw [← hV]
                clear hV g3 c0 c1 c2 c3 c4 c5 hix
                refine push_allR (by rfl) _ _ (by rfl) V.heap.size n0 (.slice none 0 0) (.slice ea el ec) [] (en p) V (by rfl) ⟨World.ownsRow_nil _ _ _ _, fun _ h => by cases h⟩ (by rfl) HAE.out (by have := HP.out.2; have := HEQ.out.1; simp; omega) (Nat.le_refl _) ?_
                intro e' w2 hO2 hg2
                rw [List.nil_append] at hO2
                obtain ⟨ea', ec', rfl⟩ := hO2.shape
                have hE0 := HEQ.out.1
                rw [← hE0] at hO2 ⊢
                have hB2 := HV.out.2.grown hg2 (by simp [Value.ownBlock])
                have f3 := hB2.frozen 3
                have g3 := hB2.cell 3 rfl
                have hVs : wr.heap.size < V.heap.size := HV.out.2.lt
                have hbw2 : Below wr.heap.size wr w2 := HV.out.1.grown hg2 (by have := HV.out.1.size; omega) (fun j hj => by simp [Value.ownBlock] at hj)
                obtain ⟨W3, hW3⟩ : ∃ W, W = w2.setCell ⟨wr.heap.size, 3, none⟩ (.slice ea' el ec') := ⟨_, rfl⟩
                have hB3 : Box W3 wr.heap.size 78 #[.int .i64 pi, .bool false, .int .i64 pl, .slice ea' el ec', .int .i64 pz, .slice fa fl fc] := by rw [hW3]; exact hB2.set 3 _
                have hsz3 : w2.heap.size = W3.heap.size := by rw [hW3]; simp [World.setCell]
                have HB3 : Hid (Box W3 wr.heap.size 78 #[.int .i64 pi, .bool false, .int .i64 pl, .slice ea' el ec', .int .i64 pz, .slice fa fl fc] ∧ Below wr.heap.size wr W3 ∧ OwnE 123 V.heap.size W3 (.slice ea' el ec') (en p) ∧ V.heap.size ≤ W3.heap.size ∧ wr.heap.size < V.heap.size ∧ w2.heap.size = W3.heap.size) :=
                  ⟨hB3, by rw [hW3]; exact hbw2.setCell (p := ⟨wr.heap.size, 3, none⟩) (Nat.le_refl _) _, by rw [hW3]; exact hO2.same (.set hVs), by rw [hW3]; simpa [World.setCell] using hg2.size, hVs, hsz3⟩
                obtain ⟨q0, q1, q2, q3, q4, q5⟩ := hB3.six
                rw [hW3] at q0 q1 q2 q3 q4 q5
                clear hO2 hB2 hg2 hbw2 hVs HV HAE hE0 hB3 hsz3
                have HCT := HTX.out W3 HB3.out.2.1))
          | (go_at_call 102
             rw [← hW3]
             refine HCT.mono ?_
             rintro e w3 ⟨⟨v3, rfl, hv3⟩, hb3⟩
             have HB4 : Hid (Below W3.heap.size W3 w3 ∧ Arg W3.heap.size w3 v3 (F.rtext (fi p))) := ⟨hb3, hv3.arg⟩
             have hlen3 : (F.rtext (fi p)).length ≤ 2432 := by
               rw [F.rtext_txt HCK.out, F.txt_length]
               have := (F.chk_iff.1 HCK.out).1
               omega
             have HCM := F.made_any _ v3 (F.rtext (fi p)) w3 hv3.arg hlen3
             rw [F.rtext_txt HCK.out, F.mk_txt HCK.out] at HCM
             clear HCT hv3 hb3 hlen3)
          | (go_at_call 101
             refine HCM.mono ?_
             rintro e w4 ⟨⟨us4, rfl, hf4⟩, hb4⟩
             obtain ⟨fa', fc', rfl, hbk4, -, -⟩ := F.fl_viewR hf4
             have hE1 := HEQ.out.2.1
             have hE2 := HEQ.out.2.2.2.2.1
             rw [← hE1] at hbk4 ⊢
             rw [← hE2]
             have hbw4 : Below W3.heap.size W3 w4 := below_any HB4.out.1 hb4
             have hB4 := HB3.out.1.below hbw4 HB3.out.1.lt
             obtain ⟨q0, q1, q2, q3, q4, q5⟩ := hB4.six
             have f4 := hB4.frozen 4
             have f5 := hB4.frozen 5
             obtain ⟨W5, hW5⟩ : ∃ W, W = (w4.setCell ⟨wr.heap.size, 4, none⟩ (.int .i64 pz)).setCell ⟨wr.heap.size, 5, none⟩ (.slice fa' fl fc') := ⟨_, rfl⟩
             have hB5 : Box W5 wr.heap.size 78 #[.int .i64 pi, .bool false, .int .i64 pl, .slice ea' el ec', .int .i64 pz, .slice fa' fl fc'] := by rw [hW5]; exact (hB4.set 4 _).set 5 _
             have HB5 : Hid (Box W5 wr.heap.size 78 #[.int .i64 pi, .bool false, .int .i64 pl, .slice ea' el ec', .int .i64 pz, .slice fa' fl fc'] ∧ Below wr.heap.size wr W5 ∧ OwnE 123 V.heap.size W5 (.slice ea' el ec') (en p) ∧ bksR.lies w3.heap.size W5 [.slice fa' fl fc'] (fi p).2 ∧ wr.heap.size < V.heap.size ∧ w4.heap.size = W5.heap.size ∧ V.heap.size ≤ w3.heap.size) := by
               have hlt := HB3.out.2.2.2.2.1
               have hlt3 : wr.heap.size < w3.heap.size := by have := HB4.out.1.size; have := HB3.out.1.lt; omega
               refine ⟨hB5, ?_, ?_, ?_, hlt, ?_, ?_⟩
               · rw [hW5]; exact ((below_any HB3.out.2.1 hbw4).setCell (p := ⟨wr.heap.size, 4, none⟩) (Nat.le_refl _) _).setCell (p := ⟨wr.heap.size, 5, none⟩) (Nat.le_refl _) _
               · rw [hW5]; exact ((HB3.out.2.2.1.below hbw4).same (.set hlt)).same (.set hlt)
               · rw [hW5]; exact bksR.keep (bksR.keep hbk4 (.set hlt3)) (.set hlt3)
               · rw [hW5]; simp [World.setCell]
               · have := HB4.out.1.size; have := HB3.out.2.2.2.1; omega
             obtain ⟨d0, d1, d2, d3, d4, d5⟩ := hB5.six
             obtain ⟨hown0, hx0⟩ := HROW.out W5 HB5.out.2.1
             rw [hW5] at hx0 d0 d1 d2 d3 d4 d5
             clear hf4 hb4 hbk4 hE1 hE2 hbw4 hB4 hB5 HCM))
        have h1 : ∀ g', (Value.slice a' k cap').ownBlock = some g' → g' < wr.heap.size := HVB.out
        have hbA : Below W5.heap.size W5 (W5.alloc (.cells #[.int .i64 pi, .bool false, .int .i64 pl, .slice ea' el ec', .int .i64 pz, .slice fa' fl fc'] 78)) := (Below.refl _ _).alloc (Nat.le_refl _) _
        have HPR : Hid (PR w0.heap.size (w.heap.size + 3) (Value.slice a' k cap').ownBlock W5 p (.slice ea' el ec') (.slice fa' fl fc')) := by
          refine ⟨HEQ.out.2.2.2.1, fun w' ha => ⟨?_, ?_⟩⟩
          · exact ens_agree (base := V.heap.size) HB5.out.2.2.1.arg (by have := HB5.out.2.2.2.2.1; have := HJ.out.2.2.2.2.2; omega) (fun g hg => by have := h1 g hg; have := HB5.out.2.2.2.2.1; omega) ha
          · exact bks_agree (base := w3.heap.size) HB5.out.2.2.2.1 (by have := HB5.out.2.2.2.2.1; have := HB5.out.2.2.2.2.2.2; have := HJ.out.2.2.2.2.2; omega) (fun g hg => by have := h1 g hg; have := HB5.out.2.2.2.2.1; have := HB5.out.2.2.2.2.2.2; omega) ha
        have hown6 : OR w0.heap.size (w.heap.size + 3) w6 (.slice (some ⟨g, 0, none⟩) (k + 1) cap) (l.take (k + 1)) := by
          rw [HTK.out.1]
          refine OR.push (v := .slice a' k cap') (e := .slice ea' el ec') (b := .slice fa' fl fc') (vss := vss) (HEE.out.mono fun us q ⟨e, b, h3, h4⟩ => ⟨e, b, h3, h4.to fun _ hz => (hz.below hbA).below HB5.out.2.1⟩) (HPR.out.to fun _ hz => hz.below hbA) hg6 (fun g' hg' => ?_) (by rw [HTK.out.2, HEQ.out.2.2.1]; exact hO6)
          have e1 : g = g' := by simpa [Value.ownBlock] using hg'
          subst e1
          rcases hgr6 with h | h
          · exact .inl h
          · exact .inr (by rw [h]; simp)
        have hb6 : Below w.heap.size w w6 := below_row HH5.out.2.2.2.2.1 HH5.out.2.2.2.1 hg6 (by omega) (by have := HH5.out.2.2.2.2.2; omega)
        have hx0 := (Box.alloc HH5.out.1 (.cells #[.int .i64 pi, .bool false, .int .i64 pl, .slice ea' el ec', .int .i64 pz, .slice fa' fl fc'] 78)).grown hg6 (row_ne HH5.out.2.2.2.1 (by omega))
        have hx1 := (Box.alloc HH5.out.2.1 (.cells #[.int .i64 pi, .bool false, .int .i64 pl, .slice ea' el ec', .int .i64 pz, .slice fa' fl fc'] 78)).grown hg6 (row_ne HH5.out.2.2.2.1 (by omega))
        refine ⟨⟨k + 1, _, by omega, by go_num, hx0.other (by omega), hx1.other (by omega), hbx6.set 0 _, hown6.set ⟨by have := HL.out.2.2.2.2.size; omega, by omega⟩, hb6.setCell (p := ⟨w.heap.size + 2, 0, none⟩) (by simp) _, ?_⟩, by simp [intOf]; omega⟩
        have := hg6.size
        have := HH5.out.2.2.2.2.2
        simp [World.setCell] at *
        omega
    · obtain rfl : k = n := by omega
      have hT : l.take k = l := by rw [HL.out.2.1]; simp
      rw [hT] at HJ
      obtain ⟨a', cap', rfl⟩ := HJ.out.2.2.2.1.shape
      have hE0 := HL.out.2.1
      rw [← hE0] at HJ
      obtain ⟨q0, q1, -, -⟩ := HJ.out.2.2.1.two
      obtain ⟨d0, d1, e0, e1⟩ := HJ.out.2.1.two
      clear hE0 hT
      go_wp2
      refine bodyPost_ret (v := .agg #[.slice a' k cap', .int .i64 nx]) (by simp [results, Tryz.results42, go_sem, *]) rfl (HPo.out _ _ ?_ ?_)
      · have hlo := HL.out.2.2.2.2.size
        exact ((HJ.out.2.2.2.1.set ⟨by omega, by omega⟩).set ⟨by omega, by omega⟩).weaken (by omega)
      · exact below_set2 HJ.out.2.2.2.2.1 (by omega) _ _
end Go.Proofs.YtkcnephbaffmbaaGreatDoor
