/-
  What the document's Alloc, Kill, Free and Room answer.
-/
import Derived.Test.YtgfdggilplkmfaaRCheck
import Derived.Test.YtgfdggilplkmfaaNew
namespace Go.Proofs.Ytgfdggilplkmfaa
open Go.RowKit

set_option maxRecDepth 100000 in
set_option maxHeartbeats 1000000 in
theorem rown_any (n0 : Nat) (v : Value) (l : List Sl) (w : World) (h : ArgE n0 w v l) (hs : l.length ≤ 4096) :
    Calls Try.prog 29 #[v] w fun e w' => (∃ v', e = .returned v' ∧ OwnE 55 w.heap.size w' v' l) ∧ Below w.heap.size w w' := by
  obtain ⟨i0, hi, hz0, hz1, hz2⟩ := info_parts Try.info55
  have ho := h.2
  obtain ⟨hl, h | ⟨x, cap, rfl, hcap, hm, _, hc⟩⟩ := h.1
  · obtain ⟨rfl, h0⟩ := h
    obtain rfl := List.eq_nil_of_length_eq_zero h0
    go_enter Try.func29, Try.ntmps29
    go_wp2_with (at_builtin; refine wpList_append_own_none rfl _ _ 22 rfl w.heap.size 55 i0 2 Try.underlying22 hi (.slice none 0 0) 0 [] rfl (World.ownsRow_nil _ _ _ _) rfl ?_)
    go_ret
    exact ⟨⟨_, rfl, World.ownsRow_nil _ _ _ _, ho⟩, Below.refl _ _⟩
  · have hone := evs_one l
    go_enter Try.func29, Try.ntmps29
    go_wp2_with (at_builtin; refine wpList_append_own _ rfl _ _ 22 rfl w.heap.size 55 i0 (.agg #[.int .i64 0, .int .i64 0]) 2 16 Try.underlying22 hi hz0 hz1 hz2 rfl (by decide) (.slice none 0 0) 0 [] rfl (World.ownsRow_nil _ _ _ _) x l.length cap (evs l) rfl hl hc hone (by omega) (by omega) (Nat.le_refl _) ?_)
    intro v' w1 hown hgrow _
    have hb : Below w.heap.size w w1 := (Below.refl _ _).grown hgrow (Nat.le_refl _) (fun _ h => by cases h)
    clear hgrow hc hone
    go_wp2
    go_ret
    exact ⟨⟨v', rfl, by simpa using hown, ho⟩, hb⟩

set_option maxRecDepth 100000 in
set_option maxHeartbeats 4000000 in
theorem rused_any (n0 : Nat) (v : Value) (l : List Sl) (s : Int) (w : World) (h : ArgE n0 w v l) :
    Calls Try.prog 32 #[v, .int .i64 s] w fun e w' => e = .returned (.int .i64 (uE l s)) ∧ Below w.heap.size w w' := by
  have HC := rcheck_any n0 v l w h
  have HA : Hid (ArgE n0 w v l) := h
  obtain ⟨r, hr⟩ : ∃ r, r = uE l s := ⟨_, rfl⟩
  have HR : Hid (r = uE l s) := hr
  rw [← hr]
  obtain ⟨a, c, rfl, -, hm, -⟩ := h.shape
  unfold maxLen at hm
  have hl1 := run_len Try.underlying22 a l.length c
  obtain ⟨n, hn⟩ : ∃ n, n = l.length := ⟨_, rfl⟩
  rw [← hn] at hl1 hm HA HC ⊢
  have HN : Hid (n = l.length) := hn
  clear h hr hn
  rcases cerr_two l with ⟨hck, hce⟩ | ⟨hck, hce⟩
  case inr =>
    obtain rfl : r = 9 := by rw [HR.out]; exact uE_state hck
    rw [hce] at HC
    clear hck hce
    go_enter Try.func32, Try.ntmps32
    go_wp2_with fail
    refine HC.mono ?_
    rintro e w2 ⟨rfl, hb2⟩
    go_wp2
    go_ret
    exact ⟨rfl, hb2⟩
  have HCK : Hid (Chk l) := hck
  rw [hce] at HC
  clear hck hce
  by_cases h1 : s < 0
  · obtain rfl : r = 71 := by rw [HR.out]; exact uE_none HCK.out (by have : ¬ 0 ≤ s := by omega
                                                                     simp [inB, this])
    go_enter Try.func32, Try.ntmps32
    go_wp2_with fail
    refine HC.mono ?_
    rintro e w2 ⟨rfl, hb2⟩
    go_wp2
    go_ret
    exact ⟨rfl, hb2⟩
  by_cases h2 : (n : Int) ≤ s
  · obtain rfl : r = 71 := by rw [HR.out]; exact uE_none HCK.out (by have : ¬ s < l.length := by have := HN.out; omega
                                                                     simp [inB, this])
    go_enter Try.func32, Try.ntmps32
    go_wp2_with fail
    refine HC.mono ?_
    rintro e w2 ⟨rfl, hb2⟩
    go_wp2
    go_ret
    exact ⟨rfl, hb2⟩
  obtain ⟨k, rfl⟩ : ∃ k : Nat, s = k := ⟨s.toNat, by omega⟩
  obtain ⟨p, hp⟩ := get_lt (l := l) (k := k) (by have := HN.out; omega)
  have HP : Hid (l[k]? = some p) := hp
  have HSA : Hid (slotAt l k = p) := by show slotAt l k = p; simp [slotAt, hp]
  clear hp
  go_enter Try.func32, Try.ntmps32
  go_wp2_with fail
  refine HC.mono ?_
  rintro e w2 ⟨rfl, hb2⟩
  obtain ⟨pb, po, hix, -, c0, c1⟩ := (HA.out.below hb2).atR k p HP.out
  have HB2 : Hid (Below w.heap.size w w2) := hb2
  clear hb2
  by_cases h0 : p.1 = 0
  · obtain rfl : r = 71 := by rw [HR.out]; exact uE_none HCK.out (by have := HSA.out; simp [inB, this, h0])
    rw [h0] at c0
    clear h0
    go_wp2
    go_ret
    exact ⟨rfl, HB2.out⟩
  · obtain rfl : r = 0 := by rw [HR.out]; exact uE_ok HCK.out (by have := HSA.out; have := HN.out; simp [inB, *]; omega)
    have h0b : (p.1 == 0) = false := by simpa using h0
    go_wp2
    go_ret
    exact ⟨rfl, HB2.out⟩

set_option maxRecDepth 100000 in
set_option maxHeartbeats 4000000 in
theorem rkill_any (n0 : Nat) (v : Value) (l : List Sl) (s x : Int) (w : World) (h : ArgE n0 w v l) :
    Calls Try.prog 11 #[v, .int .i64 s, .int .i64 x] w (Gives 55 w (kV l s x) fun v => .tuple #[v, .int .i64 (kE l s x)]) := by
  have HA : Hid (ArgE n0 w v l) := h
  have HC := rused_any n0 v l s w h
  obtain ⟨post, hpost⟩ : ∃ post : Ending → World → Prop, post = Gives 55 w (kV l s x) fun v => .tuple #[v, .int .i64 (kE l s x)] := ⟨_, rfl⟩
  have HNO : Hid (∀ k w', kE l s x = k → k ≠ 0 → Below w.heap.size w w' → post (.returned (.tuple #[.slice none 0 0, .int .i64 k])) w') := fun k w' h1 h2 h3 => by
    rw [hpost]
    refine ⟨⟨.slice none 0 0, by rw [h1], ?_⟩, h3⟩
    rw [kV_no h1 h2]
    exact OwnE.nil _ _ _
  have HOK : Hid (∀ v' w', kE l s x = 0 → OwnE 55 w.heap.size w' v' (l.set s.toNat ((slotAt l s).1, (slotAt l s).2 - x)) → Below w.heap.size w w' → post (.returned (.tuple #[v', .int .i64 0])) w') := fun v' w' h1 h2 h3 => by
    rw [hpost]
    refine ⟨⟨v', by rw [h1], ?_⟩, h3⟩
    rw [kV_ok h1]
    exact h2
  rw [← hpost]
  clear hpost h
  have HBAD : Hid (∀ k, uE l s = k → k ≠ 0 → kE l s x = k) := fun k h1 h2 => kE_no h1 h2
  rcases uE_three l s with ⟨hu, -⟩ | ⟨hu, -⟩ | ⟨hu, hck, hin⟩
  · have HEE : Hid (kE l s x = 9) := HBAD.out 9 hu (by decide)
    rw [hu] at HC
    clear hu
    go_enter Try.func11, Try.ntmps11
    go_wp2_with fail
    refine HC.mono ?_
    rintro e w2 ⟨rfl, hb2⟩
    go_wp2
    exact HNO.out 9 _ HEE.out (by decide) hb2
  · have HEE : Hid (kE l s x = 71) := HBAD.out 71 hu (by decide)
    rw [hu] at HC
    clear hu
    go_enter Try.func11, Try.ntmps11
    go_wp2_with fail
    refine HC.mono ?_
    rintro e w2 ⟨rfl, hb2⟩
    go_wp2
    exact HNO.out 71 _ HEE.out (by decide) hb2
  obtain ⟨k, rfl, hkl, hp, h0⟩ := in_is hin
  obtain ⟨p, hpd⟩ : ∃ p, p = slotAt l k := ⟨_, rfl⟩
  have HP : Hid (l[k]? = some p ∧ p = slotAt l k ∧ uE l k = 0 ∧ Chk l) := ⟨by rw [hpd]; exact hp, hpd, hu, hck⟩
  have hlv := hck.live (List.mem_of_getElem? HP.out.1)
  rw [hu] at HC
  rw [← hpd] at HOK
  clear hu hck hin hkl hp h0 hpd HBAD
  obtain ⟨q, y⟩ := p
  simp only at HOK hlv
  have HLV : Hid (0 ≤ y ∧ y ≤ 8) := hlv
  clear hlv
  go_enter Try.func11, Try.ntmps11
  go_wp2_with fail
  refine HC.mono ?_
  rintro e w2 ⟨rfl, hb2⟩
  obtain ⟨pb, po, hix, -, c0, c1⟩ := (HA.out.below hb2).atR k (q, y) HP.out.1
  simp only at c0 c1
  have HB2 : Hid (Below w.heap.size w w2) := hb2
  clear hb2
  by_cases h1 : x < 0
  · have HEE : Hid (kE l k x = 4) := kE_range HP.out.2.2.1 (.inl h1)
    go_wp2
    exact HNO.out 4 _ HEE.out (by decide) HB2.out
  by_cases h2 : y < x
  · have HEE : Hid (kE l k x = 4) := kE_range HP.out.2.2.1 (.inr (by rw [← HP.out.2.1]; exact h2))
    go_wp2
    exact HNO.out 4 _ HEE.out (by decide) HB2.out
  have HEE : Hid (kE l k x = 0) := kE_ok HP.out.2.2.1 (by rw [← HP.out.2.1]; simp only; omega)
  have hx : 0 ≤ x ∧ x ≤ y ∧ y ≤ 8 := ⟨by omega, by omega, HLV.out.2⟩
  have HD := rown_any n0 v l w2 (HA.out.below HB2.out) (by have := HP.out.2.2.2.2.1; omega)
  go_wp2_with fail
  refine HD.mono ?_
  rintro e w3 ⟨⟨v3, rfl, hO⟩, hb3⟩
  obtain ⟨g, o, cap, hv, hg, -, hjx, hput⟩ := own_at Try.underlying22 Try.info55 hO k (q, y) HP.out.1
  obtain ⟨d0, d1, f0, f1, -, -, hst⟩ := hput w3 (Below.refl _ _)
  simp only at d0 d1
  have HE3 : Hid (OwnE 55 w.heap.size (w3.setCell ⟨g, o + 1, none⟩ (.int .i64 (y - x))) v3 (l.set k (q, y - x)) ∧ Below w.heap.size w (w3.setCell ⟨g, o + 1, none⟩ (.int .i64 (y - x)))) :=
    ⟨(hst (y - x) ⟨by omega, by omega⟩).weaken HB2.out.size, (below_any HB2.out hb3).setCell (p := ⟨g, o + 1, none⟩) (by have := HB2.out.size; simp only; omega) _⟩
  clear hO hb3 hput hst hv hg hix c0 c1
  go_wp2
  exact HOK.out _ _ HEE.out HE3.out.1 HE3.out.2

set_option maxRecDepth 100000 in
set_option maxHeartbeats 4000000 in
theorem rfree_any (n0 : Nat) (v : Value) (l : List Sl) (s : Int) (w : World) (h : ArgE n0 w v l) :
    Calls Try.prog 13 #[v, .int .i64 s] w (Gives 55 w (fV l s) fun v => .tuple #[v, .int .i64 (fE l s)]) := by
  have HA : Hid (ArgE n0 w v l) := h
  have HC := rused_any n0 v l s w h
  obtain ⟨post, hpost⟩ : ∃ post : Ending → World → Prop, post = Gives 55 w (fV l s) fun v => .tuple #[v, .int .i64 (fE l s)] := ⟨_, rfl⟩
  have HNO : Hid (∀ k w', fE l s = k → k ≠ 0 → Below w.heap.size w w' → post (.returned (.tuple #[.slice none 0 0, .int .i64 k])) w') := fun k w' h1 h2 h3 => by
    rw [hpost]
    refine ⟨⟨.slice none 0 0, by rw [h1], ?_⟩, h3⟩
    rw [fV_no h1 h2]
    exact OwnE.nil _ _ _
  have HOK : Hid (∀ v' w', fE l s = 0 → OwnE 55 w.heap.size w' v' (l.set s.toNat (0, 0)) → Below w.heap.size w w' → post (.returned (.tuple #[v', .int .i64 0])) w') := fun v' w' h1 h2 h3 => by
    rw [hpost]
    refine ⟨⟨v', by rw [h1], ?_⟩, h3⟩
    rw [fV_ok h1]
    exact h2
  rw [← hpost]
  clear hpost h
  have HBAD : Hid (∀ k, uE l s = k → k ≠ 0 → fE l s = k) := fun k h1 h2 => fE_no h1 h2
  rcases uE_three l s with ⟨hu, -⟩ | ⟨hu, -⟩ | ⟨hu, hck, hin⟩
  · have HEE : Hid (fE l s = 9) := HBAD.out 9 hu (by decide)
    rw [hu] at HC
    clear hu
    go_enter Try.func13, Try.ntmps13
    go_wp2_with fail
    refine HC.mono ?_
    rintro e w2 ⟨rfl, hb2⟩
    go_wp2
    exact HNO.out 9 _ HEE.out (by decide) hb2
  · have HEE : Hid (fE l s = 71) := HBAD.out 71 hu (by decide)
    rw [hu] at HC
    clear hu
    go_enter Try.func13, Try.ntmps13
    go_wp2_with fail
    refine HC.mono ?_
    rintro e w2 ⟨rfl, hb2⟩
    go_wp2
    exact HNO.out 71 _ HEE.out (by decide) hb2
  obtain ⟨k, rfl, hkl, hp, h0⟩ := in_is hin
  obtain ⟨p, hpd⟩ : ∃ p, p = slotAt l k := ⟨_, rfl⟩
  have HP : Hid (l[k]? = some p ∧ p = slotAt l k ∧ uE l k = 0 ∧ Chk l) := ⟨by rw [hpd]; exact hp, hpd, hu, hck⟩
  rw [hu] at HC
  clear hu hck hin hkl hp h0 hpd HBAD
  obtain ⟨q, y⟩ := p
  go_enter Try.func13, Try.ntmps13
  go_wp2_with fail
  refine HC.mono ?_
  rintro e w2 ⟨rfl, hb2⟩
  obtain ⟨pb, po, hix, -, c0, c1⟩ := (HA.out.below hb2).atR k (q, y) HP.out.1
  simp only at c0 c1
  have HB2 : Hid (Below w.heap.size w w2) := hb2
  clear hb2
  by_cases h1 : 0 < y
  · have HEE : Hid (fE l k = 91) := fE_live HP.out.2.2.1 (by rw [← HP.out.2.1]; exact h1)
    go_wp2
    exact HNO.out 91 _ HEE.out (by decide) HB2.out
  have HEE : Hid (fE l k = 0) := fE_ok HP.out.2.2.1 (by rw [← HP.out.2.1]; exact h1)
  have HD := rown_any n0 v l w2 (HA.out.below HB2.out) (by have := HP.out.2.2.2.2.1; omega)
  go_wp2_with fail
  refine HD.mono ?_
  rintro e w3 ⟨⟨v3, rfl, hO⟩, hb3⟩
  obtain ⟨g, o, cap, hv, hg, -, hjx, hput⟩ := own_at Try.underlying22 Try.info55 hO k (q, y) HP.out.1
  obtain ⟨d0, d1, f0, f1, hst, -, -⟩ := hput w3 (Below.refl _ _)
  simp only at d0 d1
  have HE3 : Hid (OwnE 55 w.heap.size ((w3.setCell ⟨g, o, none⟩ (.int .i64 0)).setCell ⟨g, o + 1, none⟩ (.int .i64 0)) v3 (l.set k (0, 0)) ∧ Below w.heap.size w ((w3.setCell ⟨g, o, none⟩ (.int .i64 0)).setCell ⟨g, o + 1, none⟩ (.int .i64 0))) :=
    ⟨(hst 0 0 ⟨⟨by simp, by simp⟩, ⟨by simp, by simp⟩⟩).weaken HB2.out.size, ((below_any HB2.out hb3).setCell (p := ⟨g, o, none⟩) (by have := HB2.out.size; simp only; omega) _).setCell (p := ⟨g, o + 1, none⟩) (by have := HB2.out.size; simp only; omega) _⟩
  clear hO hb3 hput hst hv hg hix c0 c1
  go_wp2
  exact HOK.out _ _ HEE.out HE3.out.1 HE3.out.2

set_option maxRecDepth 100000 in
set_option maxHeartbeats 4000000 in
theorem rroom_any (n0 : Nat) (v : Value) (l : List Sl) (w : World) (h : ArgE n0 w v l) :
    Calls Try.prog 15 #[v] w fun e w' => e = .returned (.tuple #[.int .i64 (rF l), .int .i64 (rL l), .int .i64 (cerr l)]) ∧ Below w.heap.size w w' := by
  have HC := rcheck_any n0 v l w h
  have HA : Hid (ArgE n0 w v l) := h
  obtain ⟨rf, hrf⟩ : ∃ r, r = rF l := ⟨_, rfl⟩
  obtain ⟨rl, hrl⟩ : ∃ r, r = rL l := ⟨_, rfl⟩
  rw [← hrf, ← hrl]
  have HR : Hid (rf = rF l ∧ rl = rL l) := ⟨hrf, hrl⟩
  clear hrf hrl
  obtain ⟨a, c, rfl, -, hm, -⟩ := h.shape
  unfold maxLen at hm
  have hl1 := run_len Try.underlying22 a l.length c
  obtain ⟨n, hn⟩ : ∃ n, n = l.length := ⟨_, rfl⟩
  rw [← hn] at hl1 hm HA HC ⊢
  have HN : Hid (n = l.length) := hn
  clear h hn
  rcases cerr_two l with ⟨hck, hce⟩ | ⟨hck, hce⟩
  case inr =>
    rw [hce] at HC ⊢
    obtain rfl : rf = 0 := by rw [HR.out.1]; exact if_neg (by rw [hce]; decide)
    obtain rfl : rl = 0 := by rw [HR.out.2]; exact if_neg (by rw [hce]; decide)
    clear hck hce
    go_enter Try.func15, Try.ntmps15
    go_wp2_with fail
    refine HC.mono ?_
    rintro e w2 ⟨rfl, hb2⟩
    go_wp2
    go_ret3
    exact ⟨rfl, hb2⟩
  have HCK : Hid (Chk l ∧ rf = cnt l 0 ∧ rl = lives l) := ⟨hck, by rw [HR.out.1]; exact if_pos hce, by rw [HR.out.2]; exact if_pos hce⟩
  rw [hce] at HC ⊢
  have h64 : n ≤ 64 := by have := HN.out; have := hck.2.1; omega
  clear hck hce
  go_enter Try.func15, Try.ntmps15
  go_wp2_with fail
  refine HC.mono ?_
  rintro e w2 ⟨rfl, hb2⟩
  have HB2 : Hid (Below w.heap.size w w2) := hb2
  clear hb2
  go_wp2
  go_loopw [5, 6, 7] (fun f t i wr => ∃ k : Nat, k ≤ n ∧ i = .int .i64 k ∧ t = .int .i64 (lives (l.take k)) ∧ f = .int .i64 (cnt (l.take k) 0) ∧ Hid (Below w.heap.size w wr)) (fun _ _ i _ => n - (intOf i).toNat)
  case atStart => exact ⟨0, Nat.zero_le _, rfl, rfl, rfl, HB2⟩
  case round =>
    obtain ⟨k, hk, rfl, rfl, rfl, HB⟩ := hrel
    have hlb : 0 ≤ lives (l.take k) ∧ lives (l.take k) ≤ 512 := by
      have h1 := lives_le (l := l.take k) fun p hp => HCK.out.1.live (List.mem_of_mem_take hp)
      rw [List.length_take] at h1
      omega
    have hcb : cnt (l.take k) 0 ≤ 64 := by
      have h1 := cnt_le (l.take k) 0
      rw [List.length_take] at h1
      omega
    by_cases hlt : k < n
    · obtain ⟨p, hp⟩ := get_lt (l := l) (k := k) (by rw [← HN.out]; exact hlt)
      obtain ⟨b, o, hix, -, c0, c1⟩ := (HA.out.below HB.out).atR k p hp
      have hki : (k : Int) < (n : Int) := by omega
      have hpl := HCK.out.1.live (List.mem_of_getElem? hp)
      have HT : Hid (lives (l.take (k + 1)) = lives (l.take k) + p.2 ∧ cnt (l.take (k + 1)) 0 = cnt (l.take k) 0 + if p.1 = 0 then 1 else 0) := by rw [take_snoc hp]; exact ⟨lives_snoc _ _, cnt_snoc _ _ _⟩
      obtain ⟨q, x⟩ := p
      simp only at c0 c1 hpl HT
      obtain ⟨lv, hlv⟩ : ∃ t, t = lives (l.take k) := ⟨_, rfl⟩
      obtain ⟨cv, hcv⟩ : ∃ t, t = cnt (l.take k) 0 := ⟨_, rfl⟩
      rw [← hlv] at hlb HT ⊢
      rw [← hcv] at hcb HT ⊢
      clear hp hlv hcv
      by_cases e : q = 0
      · subst e
        have HT2 : Hid (lives (l.take (k + 1)) = lv + x ∧ cnt (l.take (k + 1)) 0 = cv + 1) := ⟨HT.out.1, by rw [HT.out.2, if_pos rfl]⟩
        clear HT
        go_wp2
        go_roundw
        case rel => exact ⟨k + 1, by omega, by go_num, by rw [HT2.out.1], by rw [HT2.out.2]; go_num, HB⟩
        case measure => simp [intOf]; omega
      · have eb : (q == 0) = false := by simpa using e
        have HT2 : Hid (lives (l.take (k + 1)) = lv + x ∧ cnt (l.take (k + 1)) 0 = cv) := ⟨HT.out.1, by rw [HT.out.2, if_neg e]; rfl⟩
        clear HT
        go_wp2
        go_roundw
        case rel => exact ⟨k + 1, by omega, by go_num, by rw [HT2.out.1], by rw [HT2.out.2], HB⟩
        case measure => simp [intOf]; omega
    · obtain rfl : k = n := by omega
      have HT : Hid (lives (l.take k) = rl ∧ (cnt (l.take k) 0 : Int) = rf) := by rw [HN.out, List.take_length]; exact ⟨HCK.out.2.2.symm, HCK.out.2.1.symm⟩
      rw [HT.out.1] at hlb ⊢
      rw [HT.out.2] at ⊢
      clear hlb hcb HT
      go_wp2
      go_ret3
      exact ⟨rfl, HB.out⟩

set_option maxRecDepth 100000 in
set_option maxHeartbeats 4000000 in
theorem ralloc_any (n0 : Nat) (v : Value) (l : List Sl) (q x : Int) (w : World) (h : ArgE n0 w v l) :
    Calls Try.prog 9 #[v, .int .i64 q, .int .i64 x] w (Gives 55 w (aV l q x) fun v => .tuple #[v, .int .i64 (aP l q x), .int .i64 (aE l q x)]) := by
  have HA : Hid (ArgE n0 w v l) := h
  have HC := rcheck_any n0 v l w h
  obtain ⟨post, hpost⟩ : ∃ post : Ending → World → Prop, post = Gives 55 w (aV l q x) fun v => .tuple #[v, .int .i64 (aP l q x), .int .i64 (aE l q x)] := ⟨_, rfl⟩
  have HNO : Hid (∀ k w', aE l q x = k → k ≠ 0 → Below w.heap.size w w' → post (.returned (.tuple #[.slice none 0 0, .int .i64 0, .int .i64 k])) w') := fun k w' h1 h2 h3 => by
    rw [hpost]
    refine ⟨⟨.slice none 0 0, by rw [aP_no h1 h2, h1], ?_⟩, h3⟩
    rw [aV_no h1 h2]
    exact OwnE.nil _ _ _
  have HOK : Hid (∀ v' w', aE l q x = 0 → OwnE 55 w.heap.size w' v' (l.set (freeAt l) (q, x)) → Below w.heap.size w w' → post (.returned (.tuple #[v', .int .i64 (freeAt l), .int .i64 0])) w') := fun v' w' h1 h2 h3 => by
    rw [hpost]
    refine ⟨⟨v', by rw [aP_ok h1, h1], ?_⟩, h3⟩
    rw [aV_ok h1]
    exact h2
  rw [← hpost]
  obtain ⟨a, c, rfl, -, hm, -⟩ := h.shape
  unfold maxLen at hm
  have hl1 := run_len Try.underlying22 a l.length c
  obtain ⟨n, hn⟩ : ∃ n, n = l.length := ⟨_, rfl⟩
  rw [← hn] at hl1 hm HA HC ⊢
  have HN : Hid (n = l.length) := hn
  clear hpost h hn
  rcases cerr_two l with ⟨hck, hce⟩ | ⟨hck, hce⟩
  case inr =>
    have HE : Hid (aE l q x = 9) := aE_state hck
    rw [hce] at HC
    clear hck hce
    go_enter Try.func9, Try.ntmps9
    go_wp2_with fail
    refine HC.mono ?_
    rintro e w2 ⟨rfl, hb2⟩
    go_wp2
    go_ret3
    exact HNO.out 9 _ HE.out (by decide) hb2
  have HCK : Hid (Chk l) := hck
  rw [hce] at HC
  clear hck hce
  by_cases h1 : q < 1
  · have HE : Hid (aE l q x = 4) := aE_range HCK.out (by simp [holdB]; omega)
    go_enter Try.func9, Try.ntmps9
    go_wp2_with fail
    refine HC.mono ?_
    rintro e w2 ⟨rfl, hb2⟩
    go_wp2
    go_ret3
    exact HNO.out 4 _ HE.out (by decide) hb2
  by_cases h2 : 1099511627776 < q
  · have HE : Hid (aE l q x = 4) := aE_range HCK.out (by simp [holdB]; omega)
    go_enter Try.func9, Try.ntmps9
    go_wp2_with fail
    refine HC.mono ?_
    rintro e w2 ⟨rfl, hb2⟩
    go_wp2
    go_ret3
    exact HNO.out 4 _ HE.out (by decide) hb2
  by_cases h3 : x < 0
  · have HE : Hid (aE l q x = 4) := aE_range HCK.out (by simp [holdB]; omega)
    go_enter Try.func9, Try.ntmps9
    go_wp2_with fail
    refine HC.mono ?_
    rintro e w2 ⟨rfl, hb2⟩
    go_wp2
    go_ret3
    exact HNO.out 4 _ HE.out (by decide) hb2
  by_cases h4 : 8 < x
  · have HE : Hid (aE l q x = 4) := aE_range HCK.out (by simp [holdB]; omega)
    go_enter Try.func9, Try.ntmps9
    go_wp2_with fail
    refine HC.mono ?_
    rintro e w2 ⟨rfl, hb2⟩
    go_wp2
    go_ret3
    exact HNO.out 4 _ HE.out (by decide) hb2
  have HH : Hid (holdB q x = true ∧ q ≠ 0) := ⟨by simp [holdB]; omega, by omega⟩
  go_enter Try.func9, Try.ntmps9
  go_wp2_with fail
  refine HC.mono ?_
  rintro e w2 ⟨rfl, hb2⟩
  have HB2 : Hid (Below w.heap.size w w2) := hb2
  clear hb2
  go_wp2
  clear h1 h2 h3 h4
  go_loopw [9] (fun i wr => ∃ k : Nat, k ≤ n ∧ i = .int .i64 k ∧ Hid (∀ p ∈ l.take k, p.1 ≠ q) ∧ Hid (Below w.heap.size w wr)) (fun i _ => n - (intOf i).toNat)
  case atStart => exact ⟨0, Nat.zero_le _, rfl, fun p hp => by simp at hp, HB2⟩
  case round =>
    obtain ⟨k, hk, rfl, HK, HB⟩ := hrel
    by_cases hlt : k < n
    · obtain ⟨p, hp⟩ := get_lt (l := l) (k := k) (by rw [← HN.out]; exact hlt)
      obtain ⟨b, o, hix, -, c0, c1⟩ := (HA.out.below HB.out).atR k p hp
      have hki : (k : Int) < (n : Int) := by omega
      have HP : Hid (l[k]? = some p) := hp
      obtain ⟨p1, p2⟩ := p
      simp only at c0 c1
      clear hp
      by_cases e : p1 = q
      · subst e
        have HE : Hid (aE l p1 x = 6) := aE_twice HCK.out HH.out.1 (cnt_pos.2 ⟨_, List.mem_of_getElem? HP.out, rfl⟩)
        go_wp2
        go_ret3
        exact HNO.out 6 _ HE.out (by decide) HB.out
      · have eb : (p1 == q) = false := by simpa using e
        have HK2 : Hid (∀ p ∈ l.take (k + 1), p.1 ≠ q) := fun p hp => by
          rw [take_snoc HP.out] at hp
          rcases List.mem_append.1 hp with hp | hp
          · exact HK.out p hp
          · rw [List.mem_singleton.1 hp]; exact e
        go_wp2
        go_roundw
        case rel => exact ⟨k + 1, by omega, by go_num, HK2, HB⟩
        case measure => simp [intOf]; omega
    · obtain rfl : k = n := by omega
      have HZ : Hid (cnt l q = 0) := cnt_zero.2 (by have := HK.out; rwa [HN.out, List.take_length] at this)
      obtain ⟨wo, hwo⟩ : ∃ wo, wo = wr := ⟨_, rfl⟩
      rw [← hwo] at HB
      clear HK
      go_wp2
      rw [← hwo]
      clear hwo
      go_loopw [10] (fun i wr => ∃ j : Nat, j ≤ k ∧ i = .int .i64 j ∧ Hid (∀ i p, i < j → l[i]? = some p → p.1 ≠ 0) ∧ Hid (Below w.heap.size w wr)) (fun i _ => k - (intOf i).toNat)
      case atStart => exact ⟨0, Nat.zero_le _, rfl, fun i p hi => by omega, HB⟩
      case round =>
        obtain ⟨j, hj, rfl, HK, HB⟩ := hrel
        by_cases hlt : j < k
        · obtain ⟨p, hp⟩ := get_lt (l := l) (k := j) (by rw [← HN.out]; exact hlt)
          obtain ⟨b, o, hix, -, c0, c1⟩ := (HA.out.below HB.out).atR j p hp
          have hki : (j : Int) < (k : Int) := by omega
          have HP : Hid (l[j]? = some p) := hp
          obtain ⟨p1, p2⟩ := p
          simp only at c0 c1
          clear hp
          by_cases e : p1 = 0
          · subst e
            have HE : Hid (aE l q x = 0 ∧ freeAt l = j) := ⟨aE_ok HCK.out HH.out.1 HZ.out (cnt_pos.2 ⟨_, List.mem_of_getElem? HP.out, rfl⟩), freeAt_eq HP.out rfl HK.out⟩
            have HD := rown_any n0 (.slice a k c) l wr (HA.out.below HB.out) (by have := HCK.out.2.1; omega)
            go_wp2_with fail
            refine HD.mono ?_
            rintro e w3 ⟨⟨v3, rfl, hO⟩, hb3⟩
            obtain ⟨g, oo, cap, hv, hg, -, hjx, hput⟩ := own_at Try.underlying22 Try.info55 hO j (0, p2) HP.out
            obtain ⟨d0, d1, f0, f1, hst, -, -⟩ := hput w3 (Below.refl _ _)
            simp only at d0 d1
            have HE3 : Hid (OwnE 55 w.heap.size ((w3.setCell ⟨g, oo, none⟩ (.int .i64 q)).setCell ⟨g, oo + 1, none⟩ (.int .i64 x)) v3 (l.set (freeAt l) (q, x)) ∧ Below w.heap.size w ((w3.setCell ⟨g, oo, none⟩ (.int .i64 q)).setCell ⟨g, oo + 1, none⟩ (.int .i64 x))) :=
              ⟨by rw [HE.out.2]; exact (hst q x (hold_wf HH.out.1)).weaken HB.out.size, ((below_any HB.out hb3).setCell (p := ⟨g, oo, none⟩) (by have := HB.out.size; simp only; omega) _).setCell (p := ⟨g, oo + 1, none⟩) (by have := HB.out.size; simp only; omega) _⟩
            have HEND : Hid (post (.returned (.tuple #[v3, .int .i64 j, .int .i64 0])) ((w3.setCell ⟨g, oo, none⟩ (.int .i64 q)).setCell ⟨g, oo + 1, none⟩ (.int .i64 x))) := by
              have := HOK.out _ _ HE.out.1 HE3.out.1 HE3.out.2
              rwa [HE.out.2] at this
            clear hO hb3 hput hst hv hg hix c0 c1 HE HE3 HOK
            go_wp2
            go_ret3
            exact HEND.out
          · have eb : (p1 == 0) = false := by simpa using e
            have HK2 : Hid (∀ i p, i < j + 1 → l[i]? = some p → p.1 ≠ 0) := fun i p hi hp => by
              by_cases e' : i < j
              · exact HK.out i p e' hp
              · obtain rfl : i = j := by omega
                rw [HP.out] at hp
                rw [← Option.some.inj hp]
                exact e
            go_wp2
            go_roundw
            case rel => exact ⟨j + 1, by omega, by go_num, HK2, HB⟩
            case measure => simp [intOf]; omega
        · obtain rfl : j = k := by omega
          have HE : Hid (aE l q x = 51) := aE_full HCK.out HH.out.1 HZ.out (cnt_zero.2 fun p hp => by
            obtain ⟨i, hi⟩ := List.mem_iff_getElem?.1 hp
            exact HK.out i p (by rw [HN.out]; exact (List.getElem?_eq_some_iff.1 hi).1) hi)
          clear HK
          go_wp2
          go_ret3
          exact HNO.out 51 _ HE.out (by decide) HB.out

end Go.Proofs.Ytgfdggilplkmfaa
