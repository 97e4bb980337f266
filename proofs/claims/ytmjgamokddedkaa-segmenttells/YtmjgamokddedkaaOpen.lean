/-
  What Open answers, for all octets.
-/
import Derived.Test.YtmjgamokddedkaaRead
namespace Go.Proofs.Ytmjgamokddedkaa
open Go.RowKit
open O (nv)

theorem read_any (n0 : Nat) (v : Value) (L : List Int) (w : World) (h : Arg n0 w v L) (hl : L.length = 380) :
    Calls Try.prog 34 #[v] w fun e w' => (∃ us v', e = .returned (.tuple #[.agg us.toArray, v', .int .i64 (rdE L)]) ∧ sgN.lies w.heap.size w' us (rdS L) ∧ Arg 0 w' v' (rdB L)) ∧ Below w.heap.size w w' := by
  by_cases hc : cn L ≤ 8
  · exact read_good n0 v L w h hl hc
  · refine (read_many n0 v L w h hl (by omega)).mono ?_
    rintro e w' ⟨rfl, hb⟩
    have hno : rdOk L = false := by simp [rdOk, hc]
    refine ⟨⟨[.int .i64 0, .slice none 0 0], .slice none 0 0, ?_, ?_, ?_⟩, hb⟩
    · rw [rdE, if_neg (by simp [hno])]
    · rw [rdS, if_neg (by simp [hno])]
      exact sg_nilN _ _
    · rw [rdB, if_neg (by simp [hno])]
      exact .mk ⟨rfl, .inl ⟨rfl, rfl⟩⟩ (fun _ h => by cases h)

def mrk : List Int := [115, 101, 103, 49]
def oE (b : List Int) : Int := if b.length ≠ 384 then 3 else if C.sum (b.take 380) ≠ nv (b.drop 380) then 21 else if (b.take 380).take 4 ≠ mrk then 22 else if rdE (b.take 380) ≠ 0 then rdE (b.take 380) else if (rdB (b.take 380)).all (fun x => decide (x = 0)) = false then 23 else 0
def oS (b : List Int) : Sg := if oE b = 0 then rdS (b.take 380) else (0, [])
theorem oE_count {b : List Int} (h : b.length ≠ 384) : oE b = 3 := if_pos h
theorem oE_sum {b : List Int} (h : b.length = 384) (h1 : C.sum (b.take 380) ≠ nv (b.drop 380)) : oE b = 21 := by unfold oE; rw [if_neg (by simp [h]), if_pos h1]
theorem oE_kind {b : List Int} (h : b.length = 384) (h1 : C.sum (b.take 380) = nv (b.drop 380)) (h2 : (b.take 380).take 4 ≠ mrk) : oE b = 22 := by unfold oE; rw [if_neg (by simp [h]), if_neg (by simp [h1]), if_pos h2]
theorem oE_state {b : List Int} (h : b.length = 384) (h1 : C.sum (b.take 380) = nv (b.drop 380)) (h2 : (b.take 380).take 4 = mrk) (h3 : rdE (b.take 380) ≠ 0) : oE b = rdE (b.take 380) := by unfold oE; rw [if_neg (by simp [h]), if_neg (by simp [h1]), if_neg (by simp [h2]), if_pos h3]
theorem oE_tail {b : List Int} (h : b.length = 384) (h1 : C.sum (b.take 380) = nv (b.drop 380)) (h2 : (b.take 380).take 4 = mrk) (h3 : rdE (b.take 380) = 0) (h4 : (rdB (b.take 380)).all (fun x => decide (x = 0)) = false) : oE b = 23 := by unfold oE; rw [if_neg (by simp [h]), if_neg (by simp [h1]), if_neg (by simp [h2]), if_neg (by simp [h3]), if_pos h4]
theorem oE_ok {b : List Int} (h : b.length = 384) (h1 : C.sum (b.take 380) = nv (b.drop 380)) (h2 : (b.take 380).take 4 = mrk) (h3 : rdE (b.take 380) = 0) (h4 : (rdB (b.take 380)).all (fun x => decide (x = 0)) = true) : oE b = 0 := by unfold oE; rw [if_neg (by simp [h]), if_neg (by simp [h1]), if_neg (by simp [h2]), if_neg (by simp [h3]), if_neg (by simp [h4])]
theorem oS_no {b : List Int} {k : Int} (h : oE b = k) (hk : k ≠ 0) : oS b = (0, []) := if_neg (by rw [h]; exact hk)
theorem oS_ok {b : List Int} (h : oE b = 0) : oS b = rdS (b.take 380) := if_pos h

/-- What Open tells: the error, and the segment in memory of its own. -/
def Opens (w : World) (k : Int) (s : Sg) (e : Ending) (w' : World) : Prop := (∃ us, e = .returned (.tuple #[.agg us.toArray, .int .i64 k]) ∧ sgN.lies w.heap.size w' us s) ∧ Below w.heap.size w w'

theorem nv_four {l : List Int} (h : Oct l) (hl : l.length = 4) : nv l < 4294967296 := by
  have h1 := O.nv_lt l (octs h)
  rw [hl] at h1
  simpa using h1

set_option maxRecDepth 100000 in
set_option maxHeartbeats 4000000 in
theorem open_any (n0 : Nat) (v : Value) (b : List Int) (w : World) (h : Arg n0 w v b) : Calls Try.prog 13 #[v] w (Opens w (oE b) (oS b)) := by
  obtain ⟨post, hpost⟩ : ∃ post : Ending → World → Prop, post = Opens w (oE b) (oS b) := ⟨_, rfl⟩
  have HNO : Hid (∀ k w', oE b = k → k ≠ 0 → Below w.heap.size w w' → post (.returned (.tuple #[.agg #[.int .i64 0, .slice none 0 0], .int .i64 k])) w') := fun k w' h1 h2 h3 => by
    rw [hpost]
    refine ⟨⟨[.int .i64 0, .slice none 0 0], by rw [h1], ?_⟩, h3⟩
    rw [oS_no h1 h2]
    exact sg_nilN _ _
  have HOK : Hid (∀ us w', oE b = 0 → sgN.lies w.heap.size w' us (rdS (b.take 380)) → Below w.heap.size w w' → post (.returned (.tuple #[.agg us.toArray, .int .i64 0])) w') := fun us w' h1 h2 h3 => by
    rw [hpost]
    refine ⟨⟨us, by rw [h1], ?_⟩, h3⟩
    rw [oS_ok h1]
    exact h2
  rw [← hpost]
  clear hpost
  have h0 := h.weaken (Nat.zero_le n0)
  have hl1 := h0.len
  obtain ⟨W, hW⟩ : ∃ W, W = w.alloc (.cells #[.int .i64 0, .slice none 0 0] 28) := ⟨_, rfl⟩
  have HW : Hid (Below w.heap.size w W ∧ Box W w.heap.size 28 #[.int .i64 0, .slice none 0 0]) := by rw [hW]; exact ⟨(Below.refl _ _).alloc (Nat.le_refl _) _, Box.new _ _ _⟩
  have HST : Hid (∀ (X : World) (x y u u' : Value), Below w.heap.size w X → Box X w.heap.size 28 #[x, y] → ((X.setCell ⟨w.heap.size, 0, none⟩ u).setCell ⟨w.heap.size, 1, none⟩ u').cell? ⟨w.heap.size, 0, none⟩ = some u ∧ ((X.setCell ⟨w.heap.size, 0, none⟩ u).setCell ⟨w.heap.size, 1, none⟩ u').cell? ⟨w.heap.size, 1, none⟩ = some u' ∧ Below w.heap.size w ((X.setCell ⟨w.heap.size, 0, none⟩ u).setCell ⟨w.heap.size, 1, none⟩ u')) := fun X x y u u' hb hB => by
    obtain ⟨g0, g1, -, -⟩ := ((hB.set 0 u).set 1 u').two
    exact ⟨g0, g1, below_set2 hb (Nat.le_refl _) _ _⟩
  by_cases hlen : b.length = 384
  case neg =>
    have HE : Hid (oE b = 3) := oE_count hlen
    have hli : ((b.length : Int) == 384) = false := by simp; omega
    obtain ⟨g0, g1, f0, f1⟩ := HW.out.2.two
    rw [hW] at g0 g1 f0 f1
    have HB := HW.out.1
    rw [hW] at HB
    clear h h0 hW HW HST HOK hlen
    go_enter Try.func13, Try.ntmps13
    go_wp2
    exact bodyPost_ret (v := .tuple #[.agg #[.int .i64 0, .slice none 0 0], .int .i64 3]) (by simp [results, Try.results13, go_sem, g0, g1]) rfl (HNO.out 3 _ HE.out (by decide) HB)
  obtain ⟨v1, hA1, s1⟩ := h0.ahead 380 (by omega)
  replace s1 : ∀ X, (Instr.slice 25 v none (some (.int .i64 380)) none).run Try.prog X = .ok v1 X := s1
  obtain ⟨v2, hA2, s2⟩ := h0.behind 380 (by omega)
  replace s2 : ∀ X, (Instr.slice 25 v (some (.int .i64 380)) none none).run Try.prog X = .ok v2 X := s2
  obtain ⟨L, hL⟩ : ∃ L, L = b.take 380 := ⟨_, rfl⟩
  obtain ⟨tl, htl⟩ : ∃ tl, tl = b.drop 380 := ⟨_, rfl⟩
  rw [← hL] at hA1 HOK
  rw [← htl] at hA2
  have hLl : L.length = 380 := by rw [hL]; simp; omega
  have htll : tl.length = 4 := by rw [htl]; simp; omega
  have hsl : C.sum L < 4294967296 := C.ext_lt 0 L (by decide) (octs hA1.oct)
  have hnl : nv tl < 4294967296 := nv_four hA2.oct htll
  obtain ⟨sm, hsm⟩ : ∃ sm, sm = C.sum L := ⟨_, rfl⟩
  obtain ⟨nt, hnt⟩ : ∃ nt, nt = nv tl := ⟨_, rfl⟩
  have HSUM : Hid (∀ X, Below w.heap.size w X → Calls Try.prog 29 #[v1] X fun e w' => e = .returned (.int .u32 sm) ∧ Below X.heap.size X w') := fun X hX => by
    rw [hsm]
    exact C.sum_any v1 L X (hA1.below hX).toC
  have HNUM : Hid (∀ X, Below w.heap.size w X → Calls Try.prog 32 #[v2] X fun e w' => e = .returned (.int .i64 nt) ∧ X = w') := fun X hX => by
    have := number_any v2 tl X (hA2.below hX) (by omega)
    rwa [show wrap64 (nv tl : Nat) = (nt : Int) by rw [← hnt]; unfold wrap64; omega] at this
  have HPRE : Hid (∀ X (u : Value), Below w.heap.size w X → Arg 0 X u mrk → Calls Try.prog 33 #[v1, u] X fun e w' => e = .returned (.bool (decide (L.take 4 = mrk))) ∧ X = w') := fun X u hX hu => prefix_any 0 0 v1 u L mrk X (hA1.below hX) hu (by rw [hLl]; decide)
  have HREAD : Hid (∀ X, Below w.heap.size w X → Calls Try.prog 34 #[v1] X fun e w' => (∃ us v', e = .returned (.tuple #[.agg us.toArray, v', .int .i64 (rdE L)]) ∧ sgN.lies X.heap.size w' us (rdS L) ∧ Arg 0 w' v' (rdB L)) ∧ Below X.heap.size X w') := fun X hX => read_any 0 v1 L X (hA1.below hX) hLl
  have HEQ : Hid (L = b.take 380 ∧ tl = b.drop 380 ∧ sm = C.sum L ∧ nt = nv tl ∧ b.length = 384) := ⟨hL, htl, hsm, hnt, hlen⟩
  rw [hlen] at hl1
  have hsm32 : sm < 4294967296 := by rw [hsm]; exact hsl
  clear h h0 hA1 hA2 hL htl hLl htll hsl hsm hnt hlen hnl
  go_enter Try.func13, Try.ntmps13
  go_wp2
  rw [← hW]
  clear hW
  go_quiet (fail)
  obtain ⟨X, hX⟩ : ∃ X, X = W.drewN nq := ⟨_, rfl⟩
  rw [← hX]
  have HX : Hid (Below w.heap.size w X ∧ Box X w.heap.size 28 #[.int .i64 0, .slice none 0 0]) := by
    have hb : Below W.heap.size W X := by rw [hX]; exact below_drewN (Below.refl _ _) _
    exact ⟨below_any HW.out.1 hb, HW.out.2.below hb HW.out.2.lt⟩
  clear hX HW hl1 s1 s2
  go_wp2_with fail
  refine (HSUM.out X HX.out.1).mono ?_
  rintro e w4 ⟨rfl, hb4⟩
  have H4 : Hid (Below w.heap.size w w4 ∧ Box w4 w.heap.size 28 #[.int .i64 0, .slice none 0 0]) := ⟨below_any HX.out.1 hb4, HX.out.2.below hb4 HX.out.2.lt⟩
  have hcv : IntKind.i64.wrap (sm : Int) = (sm : Int) := by unfold IntKind.wrap; simp [IntKind.signed, IntKind.bits]; omega
  clear hb4 HX HSUM
  go_wp2_with fail
  refine (HNUM.out w4 H4.out.1).mono ?_
  rintro e wn ⟨rfl, rfl⟩
  clear HNUM
  by_cases hne : sm = nt
  case neg =>
    have hneb : ((sm : Int) == (nt : Int)) = false := by simp; omega
    have HE : Hid (oE b = 21) := oE_sum HEQ.out.2.2.2.2 (by rw [← HEQ.out.1, ← HEQ.out.2.1, ← HEQ.out.2.2.1, ← HEQ.out.2.2.2.1]; exact hne)
    obtain ⟨g0, g1, f0, f1⟩ := H4.out.2.two
    obtain ⟨k0, k1, k2⟩ := HST.out w4 _ _ (.int .i64 0) (.slice none 0 0) H4.out.1 H4.out.2
    clear hne
    go_wp2
    exact bodyPost_ret (v := .tuple #[.agg #[.int .i64 0, .slice none 0 0], .int .i64 21]) (by simp [results, Try.results13, go_sem, k0, k1]) rfl (HNO.out 21 _ HE.out (by decide) k2)
  subst hne
  obtain ⟨Y, hY⟩ : ∃ Y, Y = w4.alloc (.cells #[.int .u8 115, .int .u8 101, .int .u8 103, .int .u8 49] 5) := ⟨_, rfl⟩
  have hbY : Below w4.heap.size w4 Y := by rw [hY]; exact (Below.refl _ _).alloc (Nat.le_refl _) _
  have hxY : Box Y w4.heap.size 5 #[.int .u8 115, .int .u8 101, .int .u8 103, .int .u8 49] := by rw [hY]; exact Box.new _ _ _
  have hAY : Arg w4.heap.size Y (.slice (some ⟨w4.heap.size, 0, none⟩) 4 4) mrk := by rw [hY]; exact mark_arg w4
  obtain ⟨Z, hcvt, hbZ, hcel⟩ := conv_mark Y w4.heap.size 4 4 _ hxY
  have H5 : Hid (Below w.heap.size w Z ∧ Box Z w.heap.size 28 #[.int .i64 0, .slice none 0 0] ∧ Arg 0 Z (.slice (some ⟨w4.heap.size, 0, none⟩) 4 4) mrk) := by
    have hw := H4.out.1.size
    have hlt := H4.out.2.lt
    exact ⟨(H4.out.1.trans (hbY.mono hw)).trans (hbZ.mono hw), (H4.out.2.below hbY H4.out.2.lt).below hbZ hlt, (hAY.same hcel).weaken (Nat.zero_le _)⟩
  rw [hY] at hcvt
  clear hY hbY hxY hAY hbZ hcel H4 hcv
  have HC := HPRE.out Z _ H5.out.1 H5.out.2.2
  cases hpm : decide (L.take 4 = mrk)
  · rw [hpm] at HC
    have HE : Hid (oE b = 22) := oE_kind HEQ.out.2.2.2.2 (by rw [← HEQ.out.1, ← HEQ.out.2.1, ← HEQ.out.2.2.1, ← HEQ.out.2.2.2.1]) (by rw [← HEQ.out.1]; exact of_decide_eq_false hpm)
    obtain ⟨g0, g1, f0, f1⟩ := H5.out.2.1.two
    obtain ⟨k0, k1, k2⟩ := HST.out Z _ _ (.int .i64 0) (.slice none 0 0) H5.out.1 H5.out.2.1
    clear hpm
    go_wp2_with fail
    refine HC.mono ?_
    rintro e wn ⟨rfl, rfl⟩
    go_wp2
    exact bodyPost_ret (v := .tuple #[.agg #[.int .i64 0, .slice none 0 0], .int .i64 22]) (by simp [results, Try.results13, go_sem, k0, k1]) rfl (HNO.out 22 _ HE.out (by decide) k2)
  rw [hpm] at HC
  have HMK : Hid (L.take 4 = mrk) := by show L.take 4 = mrk; exact of_decide_eq_true hpm
  clear hpm
  go_wp2_with fail
  refine HC.mono ?_
  rintro e wn ⟨rfl, rfl⟩
  clear hcvt HC
  have HC := HREAD.out Z H5.out.1
  go_wp2_with fail
  refine HC.mono ?_
  rintro e V ⟨⟨us, vl, rfl, hS, hAl⟩, hbV⟩
  obtain ⟨sa, sc, rfl, -⟩ := sg_viewN hS
  obtain ⟨la, lc, rfl, -⟩ := hAl.shape
  have H6 : Hid (sgN.lies (w.heap.size + 1) V [.int .i64 (rdS L).1, .slice sa (rdS L).2.length sc] (rdS L) ∧ Arg 0 V (.slice la (rdB L).length lc) (rdB L) ∧ Below w.heap.size w V ∧ Box V w.heap.size 28 #[.int .i64 0, .slice none 0 0]) := ⟨sgN.weaken hS H5.out.2.1.lt, hAl, below_any H5.out.1 hbV, H5.out.2.1.below hbV H5.out.2.1.lt⟩
  obtain ⟨q, hq⟩ : ∃ q, q = (rdS L).1 := ⟨_, rfl⟩
  obtain ⟨ns, hns⟩ : ∃ q, q = (rdS L).2.length := ⟨_, rfl⟩
  obtain ⟨nl, hnl⟩ : ∃ q, q = (rdB L).length := ⟨_, rfl⟩
  obtain ⟨er, her⟩ : ∃ q, q = rdE L := ⟨_, rfl⟩
  rw [← hq, ← hns, ← hnl] at H6
  rw [← hq, ← hns, ← hnl, ← her]
  have HER : Hid (er = rdE L) := her
  obtain ⟨V2, hV2⟩ : ∃ V2, V2 = V.alloc (.cells #[.int .i64 q, .slice sa ns sc] 28) := ⟨_, rfl⟩
  have hb2 : Below V.heap.size V V2 := by rw [hV2]; exact (Below.refl _ _).alloc (Nat.le_refl _) _
  have H7 : Hid (Below w.heap.size w V2 ∧ Box V2 w.heap.size 28 #[.int .i64 0, .slice none 0 0] ∧ Box V2 V.heap.size 28 #[.int .i64 q, .slice sa ns sc] ∧ Arg 0 V2 (.slice la nl lc) (rdB L) ∧ sgN.lies (w.heap.size + 1) V2 [.int .i64 q, .slice sa ns sc] (rdS L)) := ⟨below_any H6.out.2.2.1 hb2, H6.out.2.2.2.below hb2 H6.out.2.2.2.lt, by rw [hV2]; exact Box.new _ _ _, H6.out.2.1.below hb2, sgN.below H6.out.1 hb2⟩
  clear hS hAl hbV hq hns hnl her HC H5 H6 hb2
  by_cases h0 : er = 0
  case neg =>
    have h0b : (er == 0) = false := by simpa using h0
    have HE : Hid (oE b = er) := by rw [HER.out, HEQ.out.1]; exact oE_state HEQ.out.2.2.2.2 (by rw [← HEQ.out.1, ← HEQ.out.2.1, ← HEQ.out.2.2.1, ← HEQ.out.2.2.2.1]) (by rw [← HEQ.out.1]; exact HMK.out) (by rw [← HEQ.out.1, ← HER.out]; exact h0)
    have H0 : Hid (er ≠ 0) := h0
    obtain ⟨g0, g1, f0, f1⟩ := H7.out.2.1.two
    obtain ⟨k0, k1, k2⟩ := HST.out V2 _ _ (.int .i64 0) (.slice none 0 0) H7.out.1 H7.out.2.1
    rw [hV2] at g0 g1 f0 f1 k0 k1 k2
    clear hV2
    go_wp2
    exact bodyPost_ret (v := .tuple #[.agg #[.int .i64 0, .slice none 0 0], .int .i64 er]) (by simp [results, Try.results13, go_sem, k0, k1]) rfl (HNO.out er _ HE.out H0.out k2)
  subst h0
  have HC := zcontains_any 0 (.slice la nl lc) (rdB L) V2 H7.out.2.2.2.1
  cases hall : (rdB L).all (fun x => decide (x = 0))
  · rw [hall] at HC
    have HE : Hid (oE b = 23) := oE_tail HEQ.out.2.2.2.2 (by rw [← HEQ.out.1, ← HEQ.out.2.1, ← HEQ.out.2.2.1, ← HEQ.out.2.2.2.1]) (by rw [← HEQ.out.1]; exact HMK.out) (by rw [← HEQ.out.1, ← HER.out]) (by rw [← HEQ.out.1]; exact hall)
    obtain ⟨g0, g1, f0, f1⟩ := H7.out.2.1.two
    obtain ⟨k0, k1, k2⟩ := HST.out V2 _ _ (.int .i64 0) (.slice none 0 0) H7.out.1 H7.out.2.1
    clear hall
    go_wp2_with fail
    rw [← hV2]
    clear hV2
    refine HC.mono ?_
    rintro e wn ⟨rfl, rfl⟩
    go_wp2
    exact bodyPost_ret (v := .tuple #[.agg #[.int .i64 0, .slice none 0 0], .int .i64 23]) (by simp [results, Try.results13, go_sem, k0, k1]) rfl (HNO.out 23 _ HE.out (by decide) k2)
  rw [hall] at HC
  have HE : Hid (oE b = 0) := oE_ok HEQ.out.2.2.2.2 (by rw [← HEQ.out.1, ← HEQ.out.2.1, ← HEQ.out.2.2.1, ← HEQ.out.2.2.2.1]) (by rw [← HEQ.out.1]; exact HMK.out) (by rw [← HEQ.out.1, ← HER.out]) (by rw [← HEQ.out.1]; exact hall)
  clear hall
  go_wp2_with fail
  rw [← hV2]
  clear hV2
  refine HC.mono ?_
  rintro e wn ⟨rfl, rfl⟩
  obtain ⟨g0, g1, f0, f1⟩ := H7.out.2.1.two
  obtain ⟨m0, m1, -, -⟩ := H7.out.2.2.1.two
  obtain ⟨k0, k1, k2⟩ := HST.out V2 _ _ (.int .i64 q) (.slice sa ns sc) H7.out.1 H7.out.2.1
  go_wp2
  refine bodyPost_ret (v := .tuple #[.agg #[.int .i64 q, .slice sa ns sc], .int .i64 0]) (by simp [results, Try.results13, go_sem, k0, k1]) rfl (HOK.out [.int .i64 q, .slice sa ns sc] _ HE.out ?_ k2)
  exact sgN.weaken (sgN.keep H7.out.2.2.2.2 (.set2 (Nat.lt_succ_self _))) (Nat.le_succ _)

end Go.Proofs.Ytmjgamokddedkaa
