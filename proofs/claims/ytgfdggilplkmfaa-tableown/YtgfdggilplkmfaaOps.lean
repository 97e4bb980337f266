/-
  What the program's Alloc, Kill, Free, Room and New answer, for every table.
-/
import Derived.Test.YtgfdggilplkmfaaChange
namespace Go.Proofs.Ytgfdggilplkmfaa
open Go.RowKit

theorem hold_wf {q x : Int} (h : holdB q x = true) : EOk (q, x) := by
  have h1 := of_decide_eq_true h
  exact ⟨⟨by simp only; omega, by simp only; omega⟩, ⟨by simp only; omega, by simp only; omega⟩⟩

/-- What a call that changes a table tells: the number of an error, or the table that follows in memory of its own. -/
def Gives (t : TypeId) (w : World) (l' : List Sl) (mk : Value → Value) (e : Ending) (w' : World) : Prop := (∃ v, e = .returned (mk v) ∧ OwnE t w.heap.size w' v l') ∧ Below w.heap.size w w'

set_option maxRecDepth 100000 in
set_option maxHeartbeats 4000000 in
theorem alloc_any (n0 : Nat) (v : Value) (l : List Sl) (q x : Int) (hq : I64 q) (w : World) (h : ArgE n0 w v l) :
    Calls Try.prog 8 #[v, .int .i64 q, .int .i64 x] w (Gives 57 w (aV l q x) fun v => .tuple #[v, .int .i64 (aP l q x), .int .i64 (aE l q x)]) := by
  obtain ⟨W, hW⟩ : ∃ W, W = (w.alloc (.cells #[.int .i64 q] 3)).alloc (.cells #[.int .i64 x] 3) := ⟨_, rfl⟩
  have hbW : Below w.heap.size w W := by rw [hW]; exact ((Below.refl _ w).alloc (Nat.le_refl _) _).alloc (by simp) _
  have hB1 : Box W w.heap.size 3 #[.int .i64 q] := by rw [hW]; exact (Box.new _ _ _).alloc _
  have hB2 : Box W (w.heap.size + 1) 3 #[.int .i64 x] := by
    rw [hW]
    have := Box.new (w.alloc (.cells #[.int .i64 q] 3)) 3 #[.int .i64 x]
    rwa [World.size_alloc] at this
  have HW : Hid (Below w.heap.size w W ∧ Box W w.heap.size 3 #[.int .i64 q] ∧ Box W (w.heap.size + 1) 3 #[.int .i64 x]) := ⟨hbW, hB1, hB2⟩
  have HA : Hid (ArgE n0 w v l ∧ I64 q) := ⟨h, hq⟩
  have HC := check_any n0 v l W (h.below hbW)
  obtain ⟨post, hpost⟩ : ∃ post : Ending → World → Prop, post = Gives 57 w (aV l q x) fun v => .tuple #[v, .int .i64 (aP l q x), .int .i64 (aE l q x)] := ⟨_, rfl⟩
  have HNO : Hid (∀ k w', aE l q x = k → k ≠ 0 → Below w.heap.size w w' → post (.returned (.tuple #[.slice none 0 0, .int .i64 0, .int .i64 k])) w') := fun k w' h1 h2 h3 => by
    rw [hpost]
    refine ⟨⟨.slice none 0 0, by rw [aP_no h1 h2, h1], ?_⟩, h3⟩
    rw [aV_no h1 h2]
    exact OwnE.nil _ _ _
  have HOK : Hid (∀ v' w', aE l q x = 0 → OwnE 57 w.heap.size w' v' (l.set (freeAt l) (q, x)) → Below w.heap.size w w' → post (.returned (.tuple #[v', .int .i64 (freeAt l), .int .i64 0])) w') := fun v' w' h1 h2 h3 => by
    rw [hpost]
    refine ⟨⟨v', by rw [aP_ok h1, h1], ?_⟩, h3⟩
    rw [aV_ok h1]
    exact h2
  rw [← hpost]
  clear hpost h hq hbW hB1 hB2
  rcases cerr_two l with ⟨hck, hce⟩ | ⟨hck, hce⟩
  case inr =>
    have HE : Hid (aE l q x = 9) := aE_state hck
    rw [hce] at HC
    clear hck hce
    go_enter Try.func8, Try.ntmps8
    go_wp2_with fail
    rw [← hW]
    clear hW
    refine HC.mono ?_
    rintro e w2 ⟨rfl, hb2⟩
    have HB2 : Hid (Below w.heap.size w w2) := below_any HW.out.1 hb2
    clear hb2
    go_wp2
    go_ret3
    exact HNO.out 9 _ HE.out (by decide) HB2.out
  have HCK : Hid (Chk l) := hck
  rw [hce] at HC
  clear hck hce
  cases hh : holdB q x
  · have HE : Hid (aE l q x = 4) := aE_range HCK.out hh
    go_enter Try.func8, Try.ntmps8
    go_wp2_with fail
    rw [← hW]
    clear hW
    refine HC.mono ?_
    rintro e w2 ⟨rfl, hb2⟩
    have g0 := (HW.out.2.1.below hb2 HW.out.2.1.lt).cell 0 rfl
    have g1 := (HW.out.2.2.below hb2 HW.out.2.2.lt).cell 0 rfl
    have HB2 : Hid (Below w.heap.size w w2) := below_any HW.out.1 hb2
    have HD := mayHold_any q x w2
    rw [hh] at HD
    clear hb2 hh
    go_wp2_with fail
    refine HD.mono ?_
    rintro e w3 ⟨rfl, rfl⟩
    go_wp2
    go_ret3
    exact HNO.out 4 _ HE.out (by decide) HB2.out
  have HH : Hid (holdB q x = true) := hh
  clear hh
  go_enter Try.func8, Try.ntmps8
  go_wp2_with fail
  rw [← hW]
  clear hW
  refine HC.mono ?_
  rintro e w2 ⟨rfl, hb2⟩
  have g0 := (HW.out.2.1.below hb2 HW.out.2.1.lt).cell 0 rfl
  have g1 := (HW.out.2.2.below hb2 HW.out.2.2.lt).cell 0 rfl
  have HB2 : Hid (Below w.heap.size w w2 ∧ Below W.heap.size W w2) := ⟨below_any HW.out.1 hb2, hb2⟩
  have HD := mayHold_any q x w2
  rw [HH.out] at HD
  clear hb2
  go_wp2_with fail
  refine HD.mono ?_
  rintro e w3 ⟨rfl, rfl⟩
  have HE := numbers_any n0 v l w2 (HA.out.1.below HB2.out.1) HCK.out.2.1
  clear g0 g1
  go_wp2_with fail
  refine HE.mono ?_
  rintro e w4 ⟨⟨b, ks, rfl, hI, -⟩, hb4⟩
  have hb5 : Below W.heap.size W w4 := below_any HB2.out.2 hb4
  have g0 := (HW.out.2.1.below hb5 HW.out.2.1.lt).cell 0 rfl
  obtain ⟨hlook, -⟩ := hI.look HA.out.2
  obtain ⟨hlook0, -⟩ := hI.look (k := 0) ⟨by omega, by omega⟩
  have HB4 : Hid (Below w.heap.size w w4 ∧ Below W.heap.size W w4) := ⟨below_any HB2.out.1 hb4, hb5⟩
  obtain ⟨cq, hcq⟩ : ∃ c : Nat, c = cnt l q := ⟨_, rfl⟩
  obtain ⟨cz, hcz⟩ : ∃ c : Nat, c = cnt l 0 := ⟨_, rfl⟩
  have HN : Hid (cq = cnt l q ∧ cz = cnt l 0) := ⟨hcq, hcz⟩
  rw [← hcq] at hlook
  rw [← hcz] at hlook0
  clear hI hb4 hb5 hcq hcz
  by_cases h1 : 0 < cq
  · have h1i : (0 : Int) < (cq : Int) := by omega
    have HEE : Hid (aE l q x = 6) := aE_twice HCK.out HH.out (by rw [← HN.out.1]; exact h1)
    clear hlook0
    go_wp2
    go_ret3
    exact HNO.out 6 _ HEE.out (by decide) HB4.out.1
  obtain rfl : cq = 0 := by omega
  clear h1
  by_cases h2 : cz = 0
  · subst h2
    have HEE : Hid (aE l q x = 51) := aE_full HCK.out HH.out HN.out.1.symm HN.out.2.symm
    go_wp2
    go_ret3
    exact HNO.out 51 _ HEE.out (by decide) HB4.out.1
  have h2i : ((cz : Int) == 0) = false := by simpa using h2
  have HEE : Hid (aE l q x = 0 ∧ 0 < cnt l 0) := ⟨aE_ok HCK.out HH.out HN.out.1.symm (by rw [← HN.out.2]; omega), by rw [← HN.out.2]; omega⟩
  clear h2
  have HF := indexFree_any n0 v l w4 (HA.out.1.below HB4.out.1) HEE.out.2
  go_wp2_with fail
  refine HF.mono ?_
  rintro e w5 ⟨rfl, hb5⟩
  have hb6 : Below W.heap.size W w5 := below_any HB4.out.2 hb5
  have hb7 : Below w.heap.size w w5 := below_any HB4.out.1 hb5
  obtain ⟨p, hp, -⟩ := freeAt_is HEE.out.2
  have HG := changedAlloc_any n0 w.heap.size (w.heap.size + 1) v l (freeAt l) p (q, x) hp HCK.out.2.1 w5 (HA.out.1.below hb7) (fun V v2 g o hV hO hg hPU => by
    have hP := hPU V (Below.refl _ _)
    have hb8 : Below W.heap.size W V := below_any hb6 hV
    have hx1 := (HW.out.2.1.below hb8 HW.out.2.1.lt).cell 0 rfl
    have hx2 := (HW.out.2.2.below hb8 HW.out.2.2.lt).cell 0 rfl
    refine (doAlloc_any g o w.heap.size (w.heap.size + 1) q x V hx1 hx2 _ _ hP.1 hP.2.1 hP.2.2.1 hP.2.2.2.1).mono ?_
    rintro e w' ⟨hu, rfl⟩
    exact ⟨hu, hP.2.2.2.2.1 q x (hold_wf HH.out), (hV.setCell (p := ⟨g, o, none⟩) hg _).setCell (p := ⟨g, o + 1, none⟩) hg _⟩)
  have HB7 : Hid (Below w.heap.size w w5) := hb7
  obtain ⟨f, hf⟩ : ∃ f, f = freeAt l := ⟨_, rfl⟩
  rw [← hf] at HG HOK ⊢
  clear hb5 hb6 hb7 hp hf HF
  go_wp2_with fail
  refine HG.mono ?_
  rintro e w6 ⟨⟨v6, rfl, hO6⟩, hb6⟩
  have H6 : Hid (OwnE 57 w.heap.size w6 v6 (l.set f (q, x)) ∧ Below w.heap.size w w6) := ⟨hO6.weaken HB7.out.size, below_any HB7.out hb6⟩
  clear hO6 hb6
  go_wp2
  go_ret3
  exact HOK.out _ _ HEE.out.1 H6.out.1 H6.out.2

set_option maxRecDepth 100000 in
set_option maxHeartbeats 4000000 in
theorem inUse_any (n0 : Nat) (v : Value) (l : List Sl) (s : Int) (w : World) (h : ArgE n0 w v l) :
    Calls Try.prog 30 #[v, .int .i64 s] w fun e w' => e = .returned (.int .i64 (uE l s)) ∧ Below w.heap.size w w' := by
  have HC := check_any n0 v l w h
  have HA : Hid (ArgE n0 w v l) := h
  obtain ⟨r, hr⟩ : ∃ r, r = uE l s := ⟨_, rfl⟩
  have HR : Hid (r = uE l s) := hr
  rw [← hr]
  obtain ⟨a, c, rfl, -, hm, -⟩ := h.shape
  unfold maxLen at hm
  have hl1 := run_len Try.underlying23 a l.length c
  obtain ⟨n, hn⟩ : ∃ n, n = l.length := ⟨_, rfl⟩
  rw [← hn] at hl1 hm HA HC ⊢
  have HN : Hid (n = l.length) := hn
  clear h hr hn
  rcases cerr_two l with ⟨hck, hce⟩ | ⟨hck, hce⟩
  case inr =>
    obtain rfl : r = 9 := by rw [HR.out]; exact uE_state hck
    rw [hce] at HC
    clear hck hce
    go_enter Try.func30, Try.ntmps30
    go_wp2_with fail
    refine HC.mono ?_
    rintro e w2 ⟨rfl, hb2⟩
    go_wp2
    go_ret
    exact ⟨rfl, hb2⟩
  have HCK : Hid (Chk l) := hck
  rw [hce] at HC
  clear hck hce
  by_cases h1 : s < 0
  · obtain rfl : r = 71 := by rw [HR.out]; exact uE_none HCK.out (by have : ¬ 0 ≤ s := by omega
                                                                     simp [inB, this])
    go_enter Try.func30, Try.ntmps30
    go_wp2_with fail
    refine HC.mono ?_
    rintro e w2 ⟨rfl, hb2⟩
    go_wp2
    go_ret
    exact ⟨rfl, hb2⟩
  by_cases h2 : (n : Int) ≤ s
  · obtain rfl : r = 71 := by rw [HR.out]; exact uE_none HCK.out (by have : ¬ s < l.length := by have := HN.out; omega
                                                                     simp [inB, this])
    go_enter Try.func30, Try.ntmps30
    go_wp2_with fail
    refine HC.mono ?_
    rintro e w2 ⟨rfl, hb2⟩
    go_wp2
    go_ret
    exact ⟨rfl, hb2⟩
  obtain ⟨k, rfl⟩ : ∃ k : Nat, s = k := ⟨s.toNat, by omega⟩
  obtain ⟨p, hp⟩ := get_lt (l := l) (k := k) (by have := HN.out; omega)
  have HP : Hid (l[k]? = some p) := hp
  have HSA : Hid (slotAt l k = p) := by show slotAt l k = p; simp [slotAt, hp]
  clear hp
  go_enter Try.func30, Try.ntmps30
  go_wp2_with fail
  refine HC.mono ?_
  rintro e w2 ⟨rfl, hb2⟩
  obtain ⟨pb, po, hix, -, c0, c1⟩ := (HA.out.below hb2).atN k p HP.out
  have HB2 : Hid (Below w.heap.size w w2) := hb2
  have HD := isFree_any p.1 p.2 w2
  clear hb2
  by_cases h0 : p.1 = 0
  · obtain rfl : r = 71 := by rw [HR.out]; exact uE_none HCK.out (by have := HSA.out; simp [inB, this, h0])
    rw [decide_eq_true h0] at HD
    clear h0
    go_wp2_with fail
    refine HD.mono ?_
    rintro e w3 ⟨rfl, hb3⟩
    have HB3 : Hid (Below w.heap.size w w3) := below_any HB2.out hb3
    clear hb3
    go_wp2
    go_ret
    exact ⟨rfl, HB3.out⟩
  · obtain rfl : r = 0 := by rw [HR.out]; exact uE_ok HCK.out (by have := HSA.out; have := HN.out; simp [inB, *]; omega)
    rw [decide_eq_false h0] at HD
    clear h0
    go_wp2_with fail
    refine HD.mono ?_
    rintro e w3 ⟨rfl, hb3⟩
    have HB3 : Hid (Below w.heap.size w w3) := below_any HB2.out hb3
    clear hb3
    go_wp2
    go_ret
    exact ⟨rfl, HB3.out⟩

set_option maxRecDepth 100000 in
set_option maxHeartbeats 4000000 in
theorem kill_any (n0 : Nat) (v : Value) (l : List Sl) (s x : Int) (w : World) (h : ArgE n0 w v l) :
    Calls Try.prog 10 #[v, .int .i64 s, .int .i64 x] w (Gives 57 w (kV l s x) fun v => .tuple #[v, .int .i64 (kE l s x)]) := by
  obtain ⟨W, hW⟩ : ∃ W, W = w.alloc (.cells #[.int .i64 x] 3) := ⟨_, rfl⟩
  have hbW : Below w.heap.size w W := by rw [hW]; exact (Below.refl _ w).alloc (Nat.le_refl _) _
  have hB1 : Box W w.heap.size 3 #[.int .i64 x] := by rw [hW]; exact Box.new _ _ _
  have HW : Hid (Below w.heap.size w W ∧ Box W w.heap.size 3 #[.int .i64 x]) := ⟨hbW, hB1⟩
  have HA : Hid (ArgE n0 w v l) := h
  have HC := inUse_any n0 v l s W (h.below hbW)
  obtain ⟨post, hpost⟩ : ∃ post : Ending → World → Prop, post = Gives 57 w (kV l s x) fun v => .tuple #[v, .int .i64 (kE l s x)] := ⟨_, rfl⟩
  have HNO : Hid (∀ k w', kE l s x = k → k ≠ 0 → Below w.heap.size w w' → post (.returned (.tuple #[.slice none 0 0, .int .i64 k])) w') := fun k w' h1 h2 h3 => by
    rw [hpost]
    refine ⟨⟨.slice none 0 0, by rw [h1], ?_⟩, h3⟩
    rw [kV_no h1 h2]
    exact OwnE.nil _ _ _
  have HOK : Hid (∀ v' w', kE l s x = 0 → OwnE 57 w.heap.size w' v' (l.set s.toNat ((slotAt l s).1, (slotAt l s).2 - x)) → Below w.heap.size w w' → post (.returned (.tuple #[v', .int .i64 0])) w') := fun v' w' h1 h2 h3 => by
    rw [hpost]
    refine ⟨⟨v', by rw [h1], ?_⟩, h3⟩
    rw [kV_ok h1]
    exact h2
  rw [← hpost]
  clear hpost h hbW hB1
  have HBAD : Hid (∀ k, uE l s = k → k ≠ 0 → kE l s x = k) := fun k h1 h2 => kE_no h1 h2
  rcases uE_three l s with ⟨hu, -⟩ | ⟨hu, -⟩ | ⟨hu, hck, hin⟩
  · have HE := HBAD.out 9 hu (by decide)
    rw [hu] at HC
    have HEE : Hid (kE l s x = 9) := HE
    clear hu HE
    go_enter Try.func10, Try.ntmps10
    go_wp2_with fail
    rw [← hW]
    clear hW
    refine HC.mono ?_
    rintro e w2 ⟨rfl, hb2⟩
    have HB2 : Hid (Below w.heap.size w w2) := below_any HW.out.1 hb2
    clear hb2
    go_wp2
    exact HNO.out 9 _ HEE.out (by decide) HB2.out
  · have HE := HBAD.out 71 hu (by decide)
    rw [hu] at HC
    have HEE : Hid (kE l s x = 71) := HE
    clear hu HE
    go_enter Try.func10, Try.ntmps10
    go_wp2_with fail
    rw [← hW]
    clear hW
    refine HC.mono ?_
    rintro e w2 ⟨rfl, hb2⟩
    have HB2 : Hid (Below w.heap.size w w2) := below_any HW.out.1 hb2
    clear hb2
    go_wp2
    exact HNO.out 71 _ HEE.out (by decide) HB2.out
  obtain ⟨k, rfl, hkl, hp, h0⟩ := in_is hin
  obtain ⟨p, hpd⟩ : ∃ p, p = slotAt l k := ⟨_, rfl⟩
  have HP : Hid (l[k]? = some p ∧ p = slotAt l k ∧ uE l k = 0 ∧ Chk l) := ⟨by rw [hpd]; exact hp, hpd, hu, hck⟩
  have hlv := hck.live (List.mem_of_getElem? HP.out.1)
  rw [hu] at HC
  rw [← hpd] at HOK
  clear hu hck hin hkl hp h0 hpd HBAD
  obtain ⟨q, y⟩ := p
  simp only at HOK hlv
  have HLV : Hid (0 ≤ y ∧ y ≤ 8) := hlv
  clear hlv
  go_enter Try.func10, Try.ntmps10
  go_wp2_with fail
  rw [← hW]
  clear hW
  refine HC.mono ?_
  rintro e w2 ⟨rfl, hb2⟩
  have g0 := (HW.out.2.below hb2 HW.out.2.lt).cell 0 rfl
  have hb3 : Below w.heap.size w w2 := below_any HW.out.1 hb2
  obtain ⟨pb, po, hix, -, c0, c1⟩ := (HA.out.below hb3).atN k (q, y) HP.out.1
  simp only at c0 c1
  have HB2 : Hid (Below w.heap.size w w2 ∧ Below W.heap.size W w2) := ⟨hb3, hb2⟩
  clear hb2 hb3
  by_cases h1 : x < 0
  · have h1d : decide (x < 0) = true := decide_eq_true h1
    have HEE : Hid (kE l k x = 4) := kE_range HP.out.2.2.1 (.inl h1)
    go_wp2
    go_quiet (fail)
    go_wp2
    exact HNO.out 4 _ HEE.out (by decide) (below_drewN HB2.out.1 _)
  have h1d : decide (x < 0) = false := decide_eq_false h1
  by_cases h2 : y < x
  · have h2d : decide (y < x) = true := decide_eq_true h2
    have HEE : Hid (kE l k x = 4) := kE_range HP.out.2.2.1 (.inr (by rw [← HP.out.2.1]; exact h2))
    go_wp2
    go_quiet (fail)
    go_wp2
    exact HNO.out 4 _ HEE.out (by decide) (below_drewN HB2.out.1 _)
  have h2d : decide (y < x) = false := decide_eq_false h2
  have HEE : Hid (kE l k x = 0) := kE_ok HP.out.2.2.1 (by rw [← HP.out.2.1]; simp only; omega)
  have HX : Hid (0 ≤ x ∧ x ≤ y) := ⟨by omega, by omega⟩
  go_wp2
  go_quiet (fail)
  obtain ⟨w3, hw3⟩ : ∃ w3, w3 = w2.drewN nq := ⟨_, rfl⟩
  rw [← hw3]
  have hbd : Below w2.heap.size w2 w3 := by rw [hw3]; exact below_drewN (Below.refl _ _) _
  have hb4 : Below w.heap.size w w3 := below_any HB2.out.1 hbd
  have hb5 : Below W.heap.size W w3 := below_any HB2.out.2 hbd
  have HG := changedKill_any n0 w.heap.size v l k (q, y) (q, y - x) HP.out.1 HP.out.2.2.2.2.1 w3 (HA.out.below hb4) (fun V v2 g o hV hO hg hPU => by
    have hP := hPU V (Below.refl _ _)
    have hb8 : Below W.heap.size W V := below_any hb5 hV
    have hx1 := (HW.out.2.below hb8 HW.out.2.lt).cell 0 rfl
    refine (doKill_any g o w.heap.size y x HLV.out HX.out V hx1 hP.2.1 hP.2.2.2.1).mono ?_
    rintro e w' ⟨hu, U, hU, rfl⟩
    exact ⟨hu, (hPU U hU).2.2.2.2.2.2 (y - x) ⟨by have := HLV.out; have := HX.out; omega, by have := HLV.out; have := HX.out; omega⟩, (below_any hV hU).setCell (p := ⟨g, o + 1, none⟩) hg _⟩)
  have HB7 : Hid (Below w.heap.size w w3) := hb4
  have HEND : Hid (∀ v' w', OwnE 57 w3.heap.size w' v' (l.set k (q, y - x)) → Below w3.heap.size w3 w' → post (.returned (.tuple #[v', .int .i64 0])) w') := fun v' w' h1 h2 => HOK.out v' w' HEE.out (h1.weaken HB7.out.size) (below_any HB7.out h2)
  clear hw3 hbd hb4 hb5 HOK HNO c0 c1 hix g0
  go_wp2_with fail
  refine HG.mono ?_
  rintro e w6 ⟨⟨v6, rfl, hO6⟩, hb6⟩
  have H6 : Hid (OwnE 57 w3.heap.size w6 v6 (l.set k (q, y - x)) ∧ Below w3.heap.size w3 w6) := ⟨hO6, hb6⟩
  clear hO6 hb6
  go_wp2
  exact HEND.out _ _ H6.out.1 H6.out.2

set_option maxRecDepth 100000 in
set_option maxHeartbeats 4000000 in
theorem free_any (n0 : Nat) (v : Value) (l : List Sl) (s : Int) (w : World) (h : ArgE n0 w v l) :
    Calls Try.prog 12 #[v, .int .i64 s] w (Gives 57 w (fV l s) fun v => .tuple #[v, .int .i64 (fE l s)]) := by
  have HA : Hid (ArgE n0 w v l) := h
  have HC := inUse_any n0 v l s w h
  obtain ⟨post, hpost⟩ : ∃ post : Ending → World → Prop, post = Gives 57 w (fV l s) fun v => .tuple #[v, .int .i64 (fE l s)] := ⟨_, rfl⟩
  have HNO : Hid (∀ k w', fE l s = k → k ≠ 0 → Below w.heap.size w w' → post (.returned (.tuple #[.slice none 0 0, .int .i64 k])) w') := fun k w' h1 h2 h3 => by
    rw [hpost]
    refine ⟨⟨.slice none 0 0, by rw [h1], ?_⟩, h3⟩
    rw [fV_no h1 h2]
    exact OwnE.nil _ _ _
  have HOK : Hid (∀ v' w', fE l s = 0 → OwnE 57 w.heap.size w' v' (l.set s.toNat (0, 0)) → Below w.heap.size w w' → post (.returned (.tuple #[v', .int .i64 0])) w') := fun v' w' h1 h2 h3 => by
    rw [hpost]
    refine ⟨⟨v', by rw [h1], ?_⟩, h3⟩
    rw [fV_ok h1]
    exact h2
  rw [← hpost]
  clear hpost h
  have HBAD : Hid (∀ k, uE l s = k → k ≠ 0 → fE l s = k) := fun k h1 h2 => fE_no h1 h2
  rcases uE_three l s with ⟨hu, -⟩ | ⟨hu, -⟩ | ⟨hu, hck, hin⟩
  · have HEE : Hid (fE l s = 9) := HBAD.out 9 hu (by decide)
    rw [hu] at HC
    clear hu
    go_enter Try.func12, Try.ntmps12
    go_wp2_with fail
    refine HC.mono ?_
    rintro e w2 ⟨rfl, hb2⟩
    go_wp2
    exact HNO.out 9 _ HEE.out (by decide) hb2
  · have HEE : Hid (fE l s = 71) := HBAD.out 71 hu (by decide)
    rw [hu] at HC
    clear hu
    go_enter Try.func12, Try.ntmps12
    go_wp2_with fail
    refine HC.mono ?_
    rintro e w2 ⟨rfl, hb2⟩
    go_wp2
    exact HNO.out 71 _ HEE.out (by decide) hb2
  obtain ⟨k, rfl, hkl, hp, h0⟩ := in_is hin
  obtain ⟨p, hpd⟩ : ∃ p, p = slotAt l k := ⟨_, rfl⟩
  have HP : Hid (l[k]? = some p ∧ p = slotAt l k ∧ uE l k = 0 ∧ Chk l) := ⟨by rw [hpd]; exact hp, hpd, hu, hck⟩
  have hlv := hck.live (List.mem_of_getElem? HP.out.1)
  rw [hu] at HC
  clear hu hck hin hkl hp h0 hpd HBAD
  obtain ⟨q, y⟩ := p
  simp only at hlv
  have HLV : Hid (0 ≤ y ∧ y ≤ 8) := hlv
  clear hlv
  go_enter Try.func12, Try.ntmps12
  go_wp2_with fail
  refine HC.mono ?_
  rintro e w2 ⟨rfl, hb2⟩
  obtain ⟨pb, po, hix, -, c0, c1⟩ := (HA.out.below hb2).atN k (q, y) HP.out.1
  simp only at c0 c1
  have HB2 : Hid (Below w.heap.size w w2) := hb2
  clear hb2
  by_cases h1 : 0 < y
  · have HEE : Hid (fE l k = 91) := fE_live HP.out.2.2.1 (by rw [← HP.out.2.1]; exact h1)
    go_wp2
    exact HNO.out 91 _ HEE.out (by decide) HB2.out
  obtain rfl : y = 0 := by have := HLV.out; omega
  have HEE : Hid (fE l k = 0) := fE_ok HP.out.2.2.1 (by rw [← HP.out.2.1]; exact h1)
  clear h1
  have HG := changedFree_any n0 v l k (q, 0) (0, 0) HP.out.1 HP.out.2.2.2.2.1 w2 (HA.out.below HB2.out) (fun V v2 g o hV hO hg hPU => by
    have hP := hPU V (Below.refl _ _)
    refine (doFree_any g o _ V hP.1 hP.2.2.1).mono ?_
    rintro e w' ⟨hu, rfl⟩
    exact ⟨hu, hP.2.2.2.2.2.1 0 ⟨by omega, by omega⟩, hV.setCell (p := ⟨g, o, none⟩) hg _⟩)
  have HEND : Hid (∀ v' w', OwnE 57 w2.heap.size w' v' (l.set k (0, 0)) → Below w2.heap.size w2 w' → post (.returned (.tuple #[v', .int .i64 0])) w') := fun v' w' h1 h2 => HOK.out v' w' HEE.out (h1.weaken HB2.out.size) (below_any HB2.out h2)
  clear HOK HNO
  go_wp2_with fail
  refine HG.mono ?_
  rintro e w6 ⟨⟨v6, rfl, hO6⟩, hb6⟩
  have H6 : Hid (OwnE 57 w2.heap.size w6 v6 (l.set k (0, 0)) ∧ Below w2.heap.size w2 w6) := ⟨hO6, hb6⟩
  clear hO6 hb6
  go_wp2
  exact HEND.out _ _ H6.out.1 H6.out.2

set_option maxRecDepth 100000 in
set_option maxHeartbeats 4000000 in
theorem room_any (n0 : Nat) (v : Value) (l : List Sl) (w : World) (h : ArgE n0 w v l) :
    Calls Try.prog 14 #[v] w fun e w' => e = .returned (.tuple #[.int .i64 (rF l), .int .i64 (rL l), .int .i64 (cerr l)]) ∧ Below w.heap.size w w' := by
  have HC := check_any n0 v l w h
  have HA : Hid (ArgE n0 w v l) := h
  obtain ⟨rf, hrf⟩ : ∃ r, r = rF l := ⟨_, rfl⟩
  obtain ⟨rl, hrl⟩ : ∃ r, r = rL l := ⟨_, rfl⟩
  rw [← hrf, ← hrl]
  have HR : Hid (rf = rF l ∧ rl = rL l) := ⟨hrf, hrl⟩
  clear hrf hrl
  obtain ⟨a, c, rfl, -, hm, -⟩ := h.shape
  unfold maxLen at hm
  have hl1 := run_len Try.underlying23 a l.length c
  obtain ⟨n, hn⟩ : ∃ n, n = l.length := ⟨_, rfl⟩
  rw [← hn] at hl1 hm HA HC ⊢
  have HN : Hid (n = l.length) := hn
  clear h hn
  rcases cerr_two l with ⟨hck, hce⟩ | ⟨hck, hce⟩
  case inr =>
    rw [hce] at HC ⊢
    obtain rfl : rf = 0 := by rw [HR.out.1]; exact if_neg (by rw [hce]; decide)
    obtain rfl : rl = 0 := by rw [HR.out.2]; exact if_neg (by rw [hce]; decide)
    clear hck hce
    go_enter Try.func14, Try.ntmps14
    go_wp2_with fail
    refine HC.mono ?_
    rintro e w2 ⟨rfl, hb2⟩
    go_wp2
    go_ret3
    exact ⟨rfl, hb2⟩
  have HCK : Hid (Chk l ∧ rf = cnt l 0 ∧ rl = lives l) := ⟨hck, by rw [HR.out.1]; exact if_pos hce, by rw [HR.out.2]; exact if_pos hce⟩
  rw [hce] at HC ⊢
  have h64 : n ≤ 64 := by have := HN.out; have := hck.2.1; omega
  clear hck hce
  go_enter Try.func14, Try.ntmps14
  go_wp2_with fail
  refine HC.mono ?_
  rintro e w2 ⟨rfl, hb2⟩
  have HB2 : Hid (Below w.heap.size w w2) := hb2
  clear hb2
  go_wp2
  go_loopw [6, 16] (fun t i wr => ∃ k : Nat, k ≤ n ∧ i = .int .i64 k ∧ t = .int .i64 (lives (l.take k)) ∧ Hid (Below w.heap.size w wr)) (fun _ i _ => n - (intOf i).toNat)
  case atStart => exact ⟨0, Nat.zero_le _, rfl, rfl, HB2⟩
  case round =>
    obtain ⟨k, hk, rfl, rfl, HB⟩ := hrel
    have hlb : 0 ≤ lives (l.take k) ∧ lives (l.take k) ≤ 512 := by
      have h1 := lives_le (l := l.take k) fun p hp => HCK.out.1.live (List.mem_of_mem_take hp)
      rw [List.length_take] at h1
      omega
    by_cases hlt : k < n
    · obtain ⟨p, hp⟩ := get_lt (l := l) (k := k) (by rw [← HN.out]; exact hlt)
      obtain ⟨b, o, hix, -, c0, c1⟩ := (HA.out.below HB.out).atN k p hp
      have hki : (k : Int) < (n : Int) := by omega
      have hpl := HCK.out.1.live (List.mem_of_getElem? hp)
      have HT : Hid (lives (l.take (k + 1)) = lives (l.take k) + p.2) := by show _ = _; rw [take_snoc hp, lives_snoc]
      obtain ⟨q, x⟩ := p
      simp only at c0 c1 hpl HT
      have HBV : Hid (Below w.heap.size w (wr.alloc (.cells #[.int .i64 q, .int .i64 x] 57))) := HB.out.alloc HB.out.size _
      obtain ⟨lv, hlv⟩ : ∃ t, t = lives (l.take k) := ⟨_, rfl⟩
      rw [← hlv] at hlb HT ⊢
      clear hp hlv HB
      go_wp2
      go_roundw
      case rel => exact ⟨k + 1, by omega, by go_num, by rw [HT.out], HBV⟩
      case measure => simp [intOf]; omega
    · obtain rfl : k = n := by omega
      have HT : Hid (lives (l.take k) = rl) := by show _ = _; rw [HCK.out.2.2, HN.out, List.take_length]
      rw [HT.out] at hlb ⊢
      have HD := numbers_any n0 (.slice a k c) l wr (HA.out.below HB.out) HCK.out.1.2.1
      clear hlb
      go_wp2_with fail
      refine HD.mono ?_
      rintro e w4 ⟨⟨b, ks, rfl, hI, -⟩, hb4⟩
      obtain ⟨hlook, -⟩ := hI.look (k := 0) ⟨by omega, by omega⟩
      rw [← HCK.out.2.1] at hlook
      have HB4 : Hid (Below w.heap.size w w4) := below_any HB.out hb4
      clear hI hb4
      go_wp2
      go_ret3
      exact ⟨rfl, HB4.out⟩

end Go.Proofs.Ytgfdggilplkmfaa
