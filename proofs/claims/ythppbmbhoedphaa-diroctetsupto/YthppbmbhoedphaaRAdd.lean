/-
  What the document's Add and Remove answer, for every entries, every entry and every name.
-/
import Derived.Test.YthppbmbhoedphaaRemove
namespace Go.Proofs.Ythppbmbhoedphaa
open Go.RowKit

/-- A variable that holds an entry, and a row of entries that grows behind it. -/
def RA (w : World) (s : ByteArray) (x : Int) (wr : World) (v : Value) (out : List En) : Prop :=
  Box wr w.heap.size 24 #[.string s, .int .i64 x] ∧ OwnE 24 (w.heap.size + 1) wr v out ∧ Below w.heap.size w wr ∧ w.heap.size + 1 ≤ wr.heap.size
theorem RA.push {w : World} {s : ByteArray} {x : Int} {wr w3 : World} {v v3 : Value} {out out3 : List En} {o : Obj} (h : RA w s x wr v out) (hg : (wr.alloc o).grownBy w3 v.ownBlock) (hO : OwnE 24 (w.heap.size + 1) w3 v3 out3) : RA w s x w3 v3 out3 :=
  ⟨(h.1.alloc _).grown hg (row_ne h.2.1.1 (by omega)), hO, below_push h.2.2.1 h.2.1 hg (by omega) (by have := h.2.2.2; omega), by have := hg.size; have := h.2.2.2; simp at *; omega⟩
theorem RA.drewN {w : World} {s : ByteArray} {x : Int} {wr : World} {v : Value} {out : List En} (h : RA w s x wr v out) (q : Nat) : RA w s x (wr.drewN q) v out :=
  ⟨h.1.below (below_drewN (Below.refl _ _) q) h.1.lt, h.2.1.below (below_drewN (Below.refl _ _) q), below_drewN h.2.2.1 q, by simpa using h.2.2.2⟩

theorem gtr_true {a b : ByteArray} (h : ltB a b = false) (hne : a ≠ b) : Op.bytesLess a.toList b.toList = false ∧ (a.toList == b.toList) = false := ⟨h, by rw [ba_eq]; exact decide_eq_false hne⟩

set_option maxRecDepth 100000 in
set_option maxHeartbeats 4000000 in
theorem radd_any (n0 : Nat) (v : Value) (l : List En) (e : En) (w : World) (h : ArgE n0 w v l) (hok : EOk e) :
    Calls Try.prog 13 #[v, .agg #[.string e.1, .int .i64 e.2]] w fun r w' => (∃ v', r = .returned (.tuple #[v', .int .i64 (aerr l e)]) ∧ OwnE 24 w.heap.size w' v' (aval l e)) ∧ Below w.heap.size w w' := by
  obtain ⟨s, x⟩ := e
  simp only
  obtain ⟨W, hW⟩ : ∃ W, W = w.alloc (.cells #[.string s, .int .i64 x] 24) := ⟨_, rfl⟩
  have hbW : Below w.heap.size w W := by rw [hW]; exact (Below.refl _ w).alloc (Nat.le_refl _) _
  have hBx : Box W w.heap.size 24 #[.string s, .int .i64 x] := by rw [hW]; exact Box.new _ _ _
  have HW : Hid (∀ q, RA w s x (W.drewN q) (.slice none 0 0) [] ∧ ArgE n0 (W.drewN q) v l) := fun q => ⟨RA.drewN ⟨hBx, OwnE.nil _ _ _, hbW, by rw [hW]; simp⟩ q, (h.below hbW).below (below_drewN (Below.refl _ _) q)⟩
  have HC := rcheck_any n0 v l W (h.below hbW)
  have hln := h.lenR
  obtain ⟨E, hE⟩ : ∃ E, E = aerr l (s, x) := ⟨_, rfl⟩
  obtain ⟨R, hR⟩ : ∃ R, R = aval l (s, x) := ⟨_, rfl⟩
  rw [← hE, ← hR]
  have HE : Hid (E = aerr l (s, x) ∧ R = aval l (s, x) ∧ EOk (s, x)) := ⟨hE, hR, hok⟩
  have HA : Hid (ArgE n0 w v l) := h
  have HZ : Hid (E ≠ 0 → R = []) := fun h0 => by rw [hR]; unfold aval; rw [if_neg (by rw [← hE]; exact h0)]
  clear h hbW hBx hok hE hR
  by_cases hck : Chk l
  case neg =>
    obtain rfl : E = 9 := by rw [HE.out.1]; exact if_neg hck
    obtain rfl := HZ.out (by omega)
    rw [cerr_bad hck] at HC
    clear hck
    go_enter Try.func13, Try.ntmps13
    go_wp2_with fail
    rw [← hW]
    clear hW
    refine HC.mono ?_
    rintro r w1 ⟨rfl, q1, rfl⟩
    go_wp2
    go_ret2
    exact ⟨⟨_, rfl, OwnE.nil _ _ _⟩, (HW.out q1).1.2.2.1⟩
  rw [cerr_ok hck] at HC
  have HCK : Hid (Chk l) := hck
  obtain ⟨n, hn⟩ : ∃ n, n = l.length := ⟨_, rfl⟩
  obtain ⟨m, hm⟩ : ∃ m, m = pos l s := ⟨_, rfl⟩
  have hpl := pos_le l s
  have HNM : Hid (n = l.length ∧ m = pos l s) := ⟨hn, hm⟩
  have h63 : n ≤ 63 := by rw [hn]; exact hck.1
  rw [← hn] at hln hpl
  rw [← hm] at hpl
  obtain ⟨tz, htz⟩ : ∃ t, t = there l s := ⟨_, rfl⟩
  obtain ⟨yz, hyz⟩ : ∃ t, t = fnd l s := ⟨_, rfl⟩
  have HT : Hid (tz = there l s) := htz
  have HF : Hid (fis l s = tz ∧ fno l s = yz) := ⟨by rw [htz]; exact if_pos hck, by rw [hyz]; exact if_pos hck⟩
  clear hn hm hck htz hyz
  go_enter Try.func13, Try.ntmps13
  go_wp2_with fail
  rw [← hW]
  clear hW
  refine HC.mono ?_
  rintro r w1 ⟨rfl, q1, rfl⟩
  have HFD := rfind_any n0 v l s (W.drewN q1) (HW.out q1).2
  rw [HF.out.1, HF.out.2, cerr_ok HCK.out] at HFD
  obtain ⟨g0, g1, _, _⟩ := (HW.out q1).1.1.two
  clear HC
  go_wp2_with fail
  clear g0 g1
  refine HFD.mono ?_
  rintro r w2 ⟨rfl, q2, hq2⟩
  have hq : w2 = W.drewN (q1 + q2) := by rw [hq2, World.drewN_drewN]
  have H2 : Hid (RA w s x w2 (.slice none 0 0) [] ∧ ArgE n0 w2 v l) := by rw [hq]; exact HW.out _
  obtain ⟨g0, g1, _, _⟩ := H2.out.1.1.two
  have HN := rname_any s w2
  have HI := rino_any x w2
  clear hq hq2 HFD
  by_cases hnm : nameOk s = true
  case neg =>
    obtain rfl : E = 106 := by rw [HE.out.1]; unfold aerr; rw [if_pos HCK.out]; exact if_neg hnm
    obtain rfl := HZ.out (by omega)
    rw [show nerr s = 106 from if_neg hnm] at HN
    clear hnm HI
    go_wp2_with (go_at_call 21; refine HN.mono ?_; rintro r w3 ⟨rfl, rfl⟩)
    go_ret2
    exact ⟨⟨_, rfl, OwnE.nil _ _ _⟩, H2.out.1.2.2.1⟩
  rw [show nerr s = 0 from if_pos hnm] at HN
  cases hino : inoOk x
  case false =>
    obtain rfl : E = 4 := by rw [HE.out.1]; unfold aerr; rw [if_pos HCK.out, if_pos hnm, if_neg (by rw [hino]; decide)]
    obtain rfl := HZ.out (by omega)
    rw [hino] at HI
    clear hnm hino
    go_wp2_with (first | (go_at_call 21; refine HN.mono ?_; rintro r w3 ⟨rfl, rfl⟩) | (go_at_call 32; refine HI.mono ?_; rintro r w3 ⟨rfl, rfl⟩))
    go_ret2
    exact ⟨⟨_, rfl, OwnE.nil _ _ _⟩, H2.out.1.2.2.1⟩
  rw [hino] at HI
  have HE2 : Hid (E = if tz = true then 102 else if l.length = 63 then 51 else 0) := by
    show _ = _
    rw [HE.out.1, HT.out]; unfold aerr; rw [if_pos HCK.out, if_pos hnm, if_pos hino]
  clear hnm hino
  cases tz
  case true =>
    obtain rfl : E = 102 := by rw [HE2.out, if_pos rfl]
    obtain rfl := HZ.out (by omega)
    go_wp2_with (first | (go_at_call 21; refine HN.mono ?_; rintro r w3 ⟨rfl, rfl⟩) | (go_at_call 32; refine HI.mono ?_; rintro r w3 ⟨rfl, rfl⟩))
    go_ret2
    exact ⟨⟨_, rfl, OwnE.nil _ _ _⟩, H2.out.1.2.2.1⟩
  by_cases hfull : n = 63
  · obtain rfl : E = 51 := by rw [HE2.out, if_neg (by decide), if_pos (by rw [← HNM.out.1]; exact hfull)]
    obtain rfl := HZ.out (by omega)
    subst hfull
    go_wp2_with (first | (go_at_call 21; refine HN.mono ?_; rintro r w3 ⟨rfl, rfl⟩) | (go_at_call 32; refine HI.mono ?_; rintro r w3 ⟨rfl, rfl⟩))
    go_ret2
    exact ⟨⟨_, rfl, OwnE.nil _ _ _⟩, H2.out.1.2.2.1⟩
  have hE0 : E = 0 := by rw [HE2.out, if_neg (by decide), if_neg (by rw [← HNM.out.1]; exact hfull)]
  have HR : Hid (R = l.take m ++ (s, x) :: l.drop m) := by
    show _ = _
    rw [HE.out.2.1]; unfold aval
    rw [if_pos (by rw [← HE.out.1]; exact hE0), HNM.out.2]
    rfl
  have HLT : Hid (∀ (k : Nat) (p : En), l[k]? = some p → (k < m → ltB p.1 s = true) ∧ (m ≤ k → ltB p.1 s = false ∧ p.1 ≠ s)) := fun k p hp => by
    have h1 := pos_at HCK.out.2.2 s hp
    rw [← HNM.out.2] at h1
    refine ⟨fun hk => h1.2 hk, fun hk => ⟨?_, fun he => ?_⟩⟩
    · rw [Bool.eq_false_iff]
      intro hc
      have := h1.1 hc
      omega
    · have := (there_iff l s).2 ⟨k, p, hp, he⟩
      rw [← HT.out] at this
      cases this
  subst hE0
  have hfi : ¬ (63 : Int) ≤ (n : Int) := by omega
  go_wp2_with (first | (go_at_call 21; refine HN.mono ?_; rintro r w3 ⟨rfl, rfl⟩) | (go_at_call 32; refine HI.mono ?_; rintro r w3 ⟨rfl, rfl⟩))
  clear g0 g1 HN HI
  go_loopw [9, 10, 11] (fun o b i wr => ∃ k : Nat, k ≤ n ∧ i = .int .i64 k ∧ b = .bool (decide (m < k)) ∧ RA w s x wr o (if m < k then l.take m ++ (s, x) :: (l.take k).drop m else l.take k)) (fun _ _ i _ => n - (intOf i).toNat)
  case atStart => exact ⟨0, Nat.zero_le _, rfl, by simp, by simpa using H2.out.1⟩
  case round =>
    obtain ⟨k, hk, rfl, rfl, hRA⟩ := hrel
    by_cases hlt : k < n
    · obtain ⟨p, hp⟩ := get_lt (l := l) (k := k) (by rw [← HNM.out.1]; exact hlt)
      have hpo := HLT.out k p hp
      have HP : Hid (l[k]? = some p ∧ l.take (k + 1) = l.take k ++ [p] ∧ (l.take k).length = k ∧ EOk p) := ⟨hp, take_snoc hp, by have := HNM.out.1; rw [List.length_take]; omega, HA.out.2.get hp⟩
      have hki : (k : Int) < (n : Int) := by omega
      have HCE : Hid (∀ V, Below w.heap.size w V → ∃ b o, (∀ W, (Instr.indexAt 22 v (.int .i64 k)).run Try.prog W = .ok (.pointer (some ⟨b, o, none⟩)) W) ∧ V.cell? ⟨b, o, none⟩ = some (.string p.1) ∧ V.cell? ⟨b, o + 1, none⟩ = some (.int .i64 p.2)) := fun V hV => by
        obtain ⟨b, o, h1, _, h2, h3⟩ := (HA.out.below hV).atR k p hp
        exact ⟨b, o, h1, h2, h3⟩
      obtain ⟨t, y⟩ := p
      simp only at hpo HCE
      obtain ⟨b, o, hix, hc0, hc1⟩ := HCE.out wr hRA.2.2.1
      obtain ⟨g0, g1, _, _⟩ := hRA.1.two
      obtain ⟨a', c', rfl⟩ := hRA.2.1.shape
      by_cases hkm : k < m
      · have hz1 : Op.bytesLess t.toList s.toList = true := hpo.1 hkm
        rw [if_neg (by omega)] at hRA ⊢
        rw [show decide (m < k) = false from decide_eq_false (by omega)]
        have HR1 : Hid (RA w s x wr (.slice a' (l.take k).length c') (l.take k)) := hRA
        rw [HP.out.2.2.1] at HR1 ⊢
        clear hp hpo hRA
        go_wp2
        go_quiet (fail)
        obtain ⟨W2, hW2⟩ : ∃ W2, W2 = wr.drewN nq := ⟨_, rfl⟩
        have HR2 : Hid (RA w s x W2 (.slice a' k c') (l.take k)) := by rw [hW2]; exact HR1.out.drewN nq
        rw [← hW2]
        clear hW2 hc0 hc1 g0 g1
        obtain ⟨b2, o2, hix2, hd0, hd1⟩ := HCE.out W2 HR2.out.2.2.1
        clear hix
        go_wp2_with (at_builtin; refine push_entry (by rfl) _ _ 22 24 (by rfl) Try.underlying22 Try.info24 (w.heap.size + 1) _ (l.take k) k HP.out.2.2.1 (t, y) W2 (by rfl) HR2.out.2.1 (by rfl) HP.out.2.2.2 (by omega) HR2.out.2.2.2 ?_; intro g capg w3 hOw3 hgw3 hlw3)
        have HR3 : Hid (RA w s x w3 (.slice (some ⟨g, 0, none⟩) (k + 1) capg) (l.take (k + 1))) := HR2.out.push hgw3 (by rw [HP.out.2.1]; exact hOw3)
        clear hOw3 hgw3 hlw3 hd0 hd1
        go_wp2
        go_roundw
        case rel => exact ⟨k + 1, by omega, by go_num, by rw [decide_eq_false (by omega)], by rw [if_neg (by omega)]; exact HR3.out⟩
        case measure => simp [intOf]; omega
      · have hz := hpo.2 (by omega)
        obtain ⟨hz1, hz2⟩ := gtr_true hz.1 hz.2
        by_cases hkm2 : k = m
        · subst hkm2
          rw [if_neg (by omega)] at hRA ⊢
          rw [show decide (k < k) = false from decide_eq_false (by omega)]
          have HR1 : Hid (RA w s x wr (.slice a' (l.take k).length c') (l.take k)) := hRA
          rw [HP.out.2.2.1] at HR1 ⊢
          clear hp hpo hRA hz
          go_wp2
          go_quiet (fail)
          obtain ⟨W2, hW2⟩ : ∃ W2, W2 = wr.drewN nq := ⟨_, rfl⟩
          have HR2 : Hid (RA w s x W2 (.slice a' k c') (l.take k)) := by rw [hW2]; exact HR1.out.drewN nq
          rw [← hW2]
          clear hW2 hc0 hc1 g0 g1 hix
          obtain ⟨g0, g1, _, _⟩ := HR2.out.1.two
          go_wp2_with (at_builtin; first | (refine push_entry (by rfl) _ _ 22 24 (by rfl) Try.underlying22 Try.info24 (w.heap.size + 1) _ (l.take k ++ [(s, x)]) (k + 1) (by rw [List.length_append, HP.out.2.2.1]; rfl) (t, y) w3 (by rfl) HR3.out.2.1 (by rfl) HP.out.2.2.2 (by omega) HR3.out.2.2.2 ?_; intro gg capgg w4 hOw4 hgw4 hlw4) | (refine push_entry (by rfl) _ _ 22 24 (by rfl) Try.underlying22 Try.info24 (w.heap.size + 1) _ (l.take k) k HP.out.2.2.1 (s, x) W2 (by rfl) HR2.out.2.1 (by rfl) HE.out.2.2 (by omega) HR2.out.2.2.2 ?_; intro g capg w3 hOw3 hgw3 hlw3; have HR3 : Hid (RA w s x w3 (.slice (some ⟨g, 0, none⟩) (k + 1) capg) (l.take k ++ [(s, x)])) := HR2.out.push hgw3 hOw3; clear hOw3 hgw3 hlw3 g0 g1; obtain ⟨b2, o2, hix2, hd0, hd1⟩ := HCE.out w3 HR3.out.2.2.1))
          have HR4 : Hid (RA w s x w4 (.slice (some ⟨gg, 0, none⟩) (k + 1 + 1) capgg) (l.take k ++ (s, x) :: (l.take (k + 1)).drop k)) := HR3.out.push hgw4 (by rw [HP.out.2.1, List.drop_append_of_le_length (by rw [HP.out.2.2.1]; exact Nat.le_refl _), List.drop_of_length_le (by rw [HP.out.2.2.1]; exact Nat.le_refl _)]; simpa using hOw4)
          clear hOw4 hgw4 hlw4 hd0 hd1
          go_wp2
          go_roundw
          case rel => exact ⟨k + 1, by omega, by go_num, by rw [decide_eq_true (by omega)], by rw [if_pos (by omega)]; exact HR4.out⟩
          case measure => simp [intOf]; omega
        · rw [if_pos (by omega)] at hRA ⊢
          rw [show decide (m < k) = true from decide_eq_true (by omega)]
          obtain ⟨O, hO⟩ : ∃ O, O = l.take m ++ (s, x) :: (l.take k).drop m := ⟨_, rfl⟩
          have HOO : Hid (O = l.take m ++ (s, x) :: (l.take k).drop m ∧ O.length = k + 1) := ⟨hO, by rw [hO]; simp; have := HNM.out.1; omega⟩
          rw [← hO] at hRA ⊢
          have HR1 : Hid (RA w s x wr (.slice a' O.length c') O) := hRA
          rw [HOO.out.2] at HR1 ⊢
          clear hp hpo hRA hz hO
          go_wp2
          go_quiet (fail)
          obtain ⟨W2, hW2⟩ : ∃ W2, W2 = wr.drewN nq := ⟨_, rfl⟩
          have HR2 : Hid (RA w s x W2 (.slice a' (k + 1) c') O) := by rw [hW2]; exact HR1.out.drewN nq
          rw [← hW2]
          clear hW2 hc0 hc1 g0 g1 hix
          obtain ⟨b2, o2, hix2, hd0, hd1⟩ := HCE.out W2 HR2.out.2.2.1
          go_wp2_with (at_builtin; refine push_entry (by rfl) _ _ 22 24 (by rfl) Try.underlying22 Try.info24 (w.heap.size + 1) _ O (k + 1) HOO.out.2 (t, y) W2 (by rfl) HR2.out.2.1 (by rfl) HP.out.2.2.2 (by omega) HR2.out.2.2.2 ?_; intro g capg w3 hOw3 hgw3 hlw3)
          have HR3 : Hid (RA w s x w3 (.slice (some ⟨g, 0, none⟩) (k + 1 + 1) capg) (l.take m ++ (s, x) :: (l.take (k + 1)).drop m)) := HR2.out.push hgw3 (by rw [HP.out.2.1, List.drop_append_of_le_length (by rw [HP.out.2.2.1]; omega)]; have := hOw3; rw [HOO.out.1] at this; simpa using this)
          clear hOw3 hgw3 hlw3 hd0 hd1
          go_wp2
          go_roundw
          case rel => exact ⟨k + 1, by omega, by go_num, by rw [decide_eq_true (by omega)], by rw [if_pos (by omega)]; exact HR3.out⟩
          case measure => simp [intOf]; omega
    · obtain rfl : k = n := by omega
      have hT : l.take k = l := by rw [HNM.out.1]; simp
      obtain ⟨g0, g1, _, _⟩ := hRA.1.two
      obtain ⟨a', c', rfl⟩ := hRA.2.1.shape
      by_cases hmk : m < k
      · rw [if_pos hmk] at hRA ⊢
        rw [show decide (m < k) = true from decide_eq_true hmk]
        have HR1 : Hid (OwnE 24 (w.heap.size + 1) wr (.slice a' (l.take m ++ (s, x) :: (l.take k).drop m).length c') R ∧ Below w.heap.size w wr) := ⟨by rw [HR.out]; have := hRA.2.1; rw [hT] at this ⊢; exact this, hRA.2.2.1⟩
        obtain ⟨zl, hzl⟩ : ∃ z, z = (l.take m ++ (s, x) :: (l.take k).drop m).length := ⟨_, rfl⟩
        rw [← hzl] at HR1 ⊢
        clear hRA hT hzl
        go_wp2
        go_ret2
        exact ⟨⟨_, rfl, HR1.out.1.weaken (by omega)⟩, HR1.out.2⟩
      · rw [if_neg hmk] at hRA ⊢
        rw [show decide (m < k) = false from decide_eq_false hmk]
        have HR1 : Hid (RA w s x wr (.slice a' (l.take k).length c') (l.take k)) := hRA
        have HRR : Hid (R = l.take k ++ [(s, x)] ∧ (l.take k).length = k) := ⟨by rw [HR.out, show m = k by omega, List.drop_of_length_le (by rw [← HNM.out.1]; exact Nat.le_refl _)], by have := HNM.out.1; rw [List.length_take]; omega⟩
        rw [HRR.out.2] at HR1 ⊢
        clear hRA hT
        go_wp2_with (at_builtin; refine push_entry (by rfl) _ _ 22 24 (by rfl) Try.underlying22 Try.info24 (w.heap.size + 1) _ (l.take k) k HRR.out.2 (s, x) wr (by rfl) HR1.out.2.1 (by rfl) HE.out.2.2 (by omega) HR1.out.2.2.2 ?_; intro g capg w3 hOw3 hgw3 hlw3)
        have HR3 : Hid (OwnE 24 (w.heap.size + 1) w3 (.slice (some ⟨g, 0, none⟩) (k + 1) capg) R ∧ Below w.heap.size w w3) := ⟨by rw [HRR.out.1]; exact hOw3, (HR1.out.push hgw3 hOw3).2.2.1⟩
        clear hOw3 hgw3 hlw3 g0 g1
        go_wp2
        go_ret2
        exact ⟨⟨_, rfl, HR3.out.1.weaken (by omega)⟩, HR3.out.2⟩

end Go.Proofs.Ythppbmbhoedphaa
