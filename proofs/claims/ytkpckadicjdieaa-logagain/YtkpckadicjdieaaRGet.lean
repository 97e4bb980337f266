/-
  What the document's Get answers, for every store and kind.
-/
import Derived.Test.YtkpckadicjdieaaRLast
import Derived.Test.YtkpckadicjdieaaROwnB
namespace Go.Proofs.Ytkpckadicjdieaa
open Go.RowKit

theorem KX.none {w : World} {L : List Ver} {o x sq : Int} {pl : Nat} {v : Value} (h : KX w L o x sq pl 0 v) : (kn L o x).1.2.2 = [] := by
  obtain ⟨kb, h1, _⟩ := h
  have h2 := kn_count L o x
  rw [h1] at h2
  have h3 : L.filter (isK o x) = [] := List.eq_nil_of_length_eq_zero h2.symm
  unfold kn
  rw [h3]
  rfl

set_option maxRecDepth 100000 in
set_option maxHeartbeats 4000000 in
theorem rget_any (n0 : Nat) (us : List Value) (s : St) (o i : Int) (w : World) (h : stR.lies n0 w us s) (ho : I64 o) (hi : I64 i) :
    Calls Try.prog 14 #[.agg us.toArray, .int .i64 o, .int .i64 i] w fun e w' => (∃ v', e = .returned (.tuple #[v', .bool (!decide ((gB s o i).length = 0)), .int .i64 (okE s)]) ∧ Own1 w.heap.size w' v' (gB s o i)) ∧ Below w.heap.size w w' := by
  obtain ⟨a, c, b, d, e, f, rfl, hS, hH, hO, hN, m1, m2, m3⟩ := st_viewR h
  obtain ⟨post, hpost⟩ : ∃ post : Ending → World → Prop, post = fun e w' => (∃ v', e = .returned (.tuple #[v', .bool (!decide ((gB s o i).length = 0)), .int .i64 (okE s)]) ∧ Own1 w.heap.size w' v' (gB s o i)) ∧ Below w.heap.size w w' := ⟨_, rfl⟩
  have HNO : Hid (∀ w', ¬ Ok s → Below w.heap.size w w' → post (.returned (.tuple #[.slice none 0 0, .bool false, .int .i64 9])) w') := fun w' h1 h3 => by
    have hb : gB s o i = [] := by unfold gB; rw [if_neg (fun c => h1 (ok_iff.1 c))]
    rw [hpost]
    refine ⟨⟨_, by rw [okE_bad h1, hb]; rfl, ?_⟩, h3⟩
    rw [hb]
    exact .mk (World.ownsRow_nil _ _ _ _) (fun _ h => by cases h)
  have HYES : Hid (∀ v' w', Ok s → Own1 w.heap.size w' v' (last s o i).1.2.2 → Below w.heap.size w w' → post (.returned (.tuple #[v', .bool (!decide ((last s o i).1.2.2.length = 0)), .int .i64 0])) w') := fun v' w' h1 h2 h3 => by
    have hb : gB s o i = (last s o i).1.2.2 := by unfold gB; rw [if_pos (ok_iff.2 h1)]
    rw [hpost]
    exact ⟨⟨v', by rw [okE_ok h1, hb], by rw [hb]; exact h2⟩, h3⟩
  rw [← hpost]
  clear hpost
  obtain ⟨n, hn⟩ : ∃ n, n = s.1.length := ⟨_, rfl⟩
  obtain ⟨nh, hnh⟩ : ∃ n, n = s.2.1.length := ⟨_, rfl⟩
  obtain ⟨no, hno⟩ : ∃ n, n = s.2.2.1.length := ⟨_, rfl⟩
  obtain ⟨nx, hnx⟩ : ∃ n, n = s.2.2.2 := ⟨_, rfl⟩
  rw [← hn, ← hnh, ← hno, ← hnx] at h ⊢
  obtain ⟨W, hW⟩ : ∃ W, W = w.alloc (.cells #[.slice a n c, .slice b nh d, .slice e no f, .int .i64 nx] 26) := ⟨_, rfl⟩
  have hbW : Below w.heap.size w W := by rw [hW]; exact (Below.refl _ w).alloc (Nat.le_refl _) _
  have hB1 : Box W w.heap.size 26 #[.slice a n c, .slice b nh d, .slice e no f, .int .i64 nx] := by rw [hW]; exact Box.new _ _ _
  have HC := rcheckL_any n0 [.slice a n c, .slice b nh d, .slice e no f, .int .i64 nx] s W (stR.below h hbW)
  have HW : Hid (Below w.heap.size w W ∧ Box W w.heap.size 26 #[.slice a n c, .slice b nh d, .slice e no f, .int .i64 nx] ∧ stR.lies n0 w [.slice a n c, .slice b nh d, .slice e no f, .int .i64 nx] s ∧ I64 o ∧ I64 i) := ⟨hbW, hB1, h, ho, hi⟩
  obtain ⟨g0, g1, g2, g3, -⟩ := hB1.four
  rw [hW] at g0 g1 g2 g3
  clear h hS hH hO hN m1 m2 m3 hbW hB1 hn hnh hno hnx ho hi
  go_enter Try.func14, Try.ntmps14
  go_wp2_with fail
  rw [← hW]
  clear hW g0 g1 g2 g3
  refine HC.mono ?_
  rintro e1 w1 ⟨rfl, hb1⟩
  have HB1 : Hid (Below w.heap.size w w1) := below_any HW.out.1 hb1
  obtain ⟨q0, q1, q2, q3, -⟩ := (HW.out.2.1.below hb1 HW.out.2.1.lt).four
  clear hb1 HC
  rcases okE_cases s with ⟨hk, hok⟩ | ⟨hk, hok⟩
  case inr =>
    rw [hk]
    have HE : Hid (post (.returned (.tuple #[.slice none 0 0, .bool false, .int .i64 9])) w1) := HNO.out w1 hok HB1.out
    clear hk hok
    go_wp2
    go_ret3
    exact HE.out
  case inl =>
    rw [hk]
    have HOK : Hid (Ok s) := hok
    have HCL := rlast_any n0 [.slice a n c, .slice b nh d, .slice e no f, .int .i64 nx] s o i w1 (stR.below HW.out.2.2.1 HB1.out) hok
    clear hk hok
    go_wp2_with fail
    refine HCL.mono ?_
    rintro e2 w2 ⟨⟨sq, pl, ct, v2, rfl, hkx⟩, hb2⟩
    have HK0 : Hid (ct = 0 → (last s o i).1.2.2 = []) := fun h0 => by subst h0; exact hkx.none
    obtain ⟨kb, hkn, hka, -, -⟩ := hkx
    have HLA : Hid (∀ v' w', Own1 w.heap.size w' v' kb.2.2 → Below w.heap.size w w' → post (.returned (.tuple #[v', .bool (!decide (kb.2.2.length = 0)), .int .i64 0])) w') := fun v' w' h1 h2 => by
      have h9 := HYES.out v' w' HOK.out
      unfold last at h9
      rw [hkn] at h9
      exact h9 h1 h2
    have HLM : Hid (kb.2.2.length ≤ 32 ∧ (ct = 0 → kb.2.2.length = 0)) := by
      have h1 := last_may HOK.out o i
      have h2 := HK0.out
      unfold last at h1 h2
      rw [hkn] at h1 h2
      exact ⟨h1, fun h => by have := h2 h; simp only at this; rw [this]; rfl⟩
    obtain ⟨ka, kc, rfl, -⟩ := hka.shape
    have HKA : Hid (Arg 0 w2 (.slice ka kb.2.2.length kc) kb.2.2 ∧ Below w.heap.size w w2) := ⟨hka.below hb2, below_any HB1.out hb2⟩
    have hl5 := run_len Try.underlying27 ka kb.2.2.length kc
    obtain ⟨m, hm⟩ : ∃ m, m = kb.2.2.length := ⟨_, rfl⟩
    rw [← hm] at HLA HLM HKA hl5 ⊢
    have HM : Hid (m = kb.2.2.length) := hm
    clear hkn hka hb2 HCL hm HK0
    by_cases h0 : m = 0
    · have HE : Hid (post (.returned (.tuple #[.slice none 0 0, .bool false, .int .i64 0])) w2) := by
        have h9 := HLA.out (.slice none 0 0) w2 (by
          have h8 : kb.2.2 = [] := List.eq_nil_of_length_eq_zero (by rw [← HM.out]; exact h0)
          rw [h8]
          exact .mk (World.ownsRow_nil _ _ _ _) (fun _ h => by cases h)) HKA.out.2
        rw [h0] at h9
        exact h9
      subst h0
      by_cases hc : ct = 0
      · subst hc
        go_wp2
        go_ret3
        exact HE.out
      · have hci : ((ct : Int) == 0) = false := by simp; omega
        go_wp2
        go_ret3
        exact HE.out
    · have hc : ct ≠ 0 := fun h => h0 (HLM.out.2 h)
      have hci : ((ct : Int) == 0) = false := by simp; omega
      have h0i : ((m : Int) == 0) = false := by simp; omega
      have h0d : decide (m = 0) = false := decide_eq_false h0
      have HC2 := rcopied_any 0 (.slice ka m kc) kb.2.2 w2 HKA.out.1 (by have := HLM.out.1; have := HM.out; omega)
      rw [h0d] at HLA
      clear h0d
      go_wp2_with fail
      refine HC2.mono ?_
      rintro e3 w3 ⟨⟨v3, rfl, ho3⟩, hb3⟩
      have HE : Hid (post (.returned (.tuple #[v3, .bool true, .int .i64 0])) w3) := HLA.out v3 w3 (bytesS.oweaken ho3 HKA.out.2.size) (below_any HKA.out.2 hb3)
      clear HC2 ho3 hb3
      go_wp2
      go_ret3
      exact HE.out

end Go.Proofs.Ytkpckadicjdieaa
