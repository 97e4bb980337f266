/-
  What dir.Decode answers, for every octets.
-/
import Derived.Test.YthppbmbhoedphaaReadE
namespace Go.Proofs.Ythppbmbhoedphaa
open Go.RowKit

theorem chk_take (l : List En) : Chk (l.take 64) ↔ Chk l := by
  by_cases h : l.length ≤ 64
  · rw [List.take_of_length_le h]
  · refine ⟨fun hc => ?_, fun hc => ?_⟩
    · have := hc.1
      rw [List.length_take] at this
      omega
    · have := hc.1
      omega
theorem cerr_take (l : List En) : cerr (l.take 64) = cerr l := by
  unfold cerr
  by_cases h : Chk l
  · rw [if_pos h, if_pos ((chk_take l).2 h)]
  · rw [if_neg h, if_neg (fun hc => h ((chk_take l).1 hc))]
theorem take_more {l : List En} {p : En} (h : l.length ≤ 63) : (l ++ [p]).take 64 = l.take 64 ++ [p] := by
  rw [List.take_of_length_le (by simp; omega), List.take_of_length_le (by omega)]
theorem take_full {l : List En} {p : En} (h : 64 ≤ l.length) : (l ++ [p]).take 64 = l.take 64 := List.take_append_of_le_length h

theorem one_some {n : Int} {r : List Int} (h : ¬ r.length < n.toNat + 4) : one (n :: r) = some ((strOfNums (r.take n.toNat), (O.nv ((r.drop n.toNat).take 4) : Int)), r.drop (n.toNat + 4)) := by rw [one_cons, if_neg h]
theorem one_none {n : Int} {r : List Int} (h : r.length < n.toNat + 4) : one (n :: r) = none := by rw [one_cons, if_pos h]
theorem one_ok {b r : List Int} {e : En} (ho : Oct b) (h : one b = some (e, r)) : EOk e := by
  obtain ⟨_, h1, h2, h3, _⟩ := enc_one ho h
  exact ⟨by unfold maxLen; omega, by unfold I64; omega⟩
/-- So far, and what is left. -/
def SoFar (b : List Int) (acc : List En) (r : List Int) : Prop := decL b = (decL r).map (acc ++ ·)
theorem SoFar.start (b : List Int) : SoFar b [] b := by
  unfold SoFar
  cases decL b <;> rfl
theorem SoFar.step {b r t : List Int} {acc : List En} {e : En} (h : SoFar b acc r) (h1 : one r = some (e, t)) : SoFar b (acc ++ [e]) t := by
  unfold SoFar at h ⊢
  rw [h, decL_step h1]
  cases decL t <;> simp
theorem SoFar.short {b r : List Int} {acc : List En} (h : SoFar b acc r) (hr : r ≠ []) (h1 : one r = none) : decL b = none := by
  unfold SoFar at h
  rw [h, decL_short hr h1]
  rfl
theorem SoFar.done {b : List Int} {acc : List En} (h : SoFar b acc []) : decL b = some acc := by
  unfold SoFar at h
  rw [h, decL_nil]
  simp

set_option maxRecDepth 100000 in
set_option maxHeartbeats 4000000 in
theorem decode_any (n0 : Nat) (v : Value) (b : List Int) (w : World) (h : Arg n0 w v b) :
    Calls Try.prog 26 #[v] w fun e w' => (∃ v', e = .returned (.tuple #[v', .int .i64 (derr b)]) ∧ OwnE 34 w.heap.size w' v' (dval b)) ∧ Below w.heap.size w w' := by
  obtain ⟨E, hE⟩ : ∃ E, E = derr b := ⟨_, rfl⟩
  obtain ⟨R, hR⟩ : ∃ E, E = dval b := ⟨_, rfl⟩
  rw [← hE, ← hR]
  have HE : Hid (E = derr b ∧ R = dval b) := ⟨hE, hR⟩
  have HA : Hid (Arg n0 w v b) := h
  clear h hE hR
  go_enter Try.func26, Try.ntmps26
  go_wp2
  go_loopg [0, 4] b.length (fun g u u4 wr => ∃ (acc : List En) (r : List Int), r.length ≤ g ∧ SoFar b acc r ∧ Arg n0 w u r ∧ OwnE 34 w.heap.size wr u4 (acc.take 64) ∧ Below w.heap.size w wr)
  case atStart => exact ⟨[], b, Nat.le_refl _, SoFar.start b, HA.out, OwnE.nil _ _ _, Below.refl _ _⟩
  case round =>
    obtain ⟨acc, r, hrg, hsf, hA, hO, hbel⟩ := hrel
    cases r with
    | nil =>
      have hln := hA.len
      have hd := hsf.done
      have HC := check_any _ u4 (acc.take 64) wr hO.arg
      rw [cerr_take] at HC
      have HO : Hid (OwnE 34 w.heap.size wr u4 (acc.take 64) ∧ Below w.heap.size w wr) := ⟨hO, hbel⟩
      by_cases hck : Chk acc
      · obtain ⟨h1, h2⟩ := derr_ok hd hck
        obtain rfl : E = 0 := by rw [HE.out.1]; exact h1
        obtain rfl : R = acc := by rw [HE.out.2]; exact h2
        rw [cerr_ok hck] at HC
        have HT : Hid (R.take 64 = R) := List.take_of_length_le (by have := hck.1; omega)
        clear hck h1 h2 hd hsf hA hO hbel
        go_wp2_with fail
        refine HC.mono ?_
        rintro e w1 ⟨rfl, hb1⟩
        have HF : Hid (OwnE 34 w.heap.size w1 u4 R ∧ Below w.heap.size w w1) := ⟨by have := HO.out.1.below hb1; rw [HT.out] at this; exact this, below_any HO.out.2 hb1⟩
        clear hb1
        go_wp2
        go_ret2
        exact ⟨⟨_, rfl, HF.out.1⟩, HF.out.2⟩
      · obtain ⟨h1, h2⟩ := derr_bad hd hck
        obtain rfl : E = 9 := by rw [HE.out.1]; exact h1
        obtain rfl : R = [] := by rw [HE.out.2]; exact h2
        rw [cerr_bad hck] at HC
        clear hck h1 h2 hd hsf hA hO hbel
        go_wp2_with fail
        refine HC.mono ?_
        rintro e w1 ⟨rfl, hb1⟩
        have HF : Hid (Below w.heap.size w w1) := below_any HO.out.2 hb1
        clear hb1
        go_wp2
        go_ret2
        exact ⟨⟨_, rfl, OwnE.nil _ _ _⟩, HF.out⟩
    | cons n r =>
      have hln := hA.len
      have hpos : (0 : Int) < ((n :: r).length : Int) := by rw [List.length_cons]; omega
      by_cases hs : r.length < n.toNat + 4
      · obtain ⟨h1, h2⟩ := derr_short (hsf.short (by simp) (one_none hs))
        obtain rfl : E = 8 := by rw [HE.out.1]; exact h1
        obtain rfl : R = [] := by rw [HE.out.2]; exact h2
        have HC := read_short n0 u0 n r wr (hA.below hbel) hs
        obtain ⟨L, hL⟩ : ∃ L, L = (n :: r).length := ⟨_, rfl⟩
        rw [← hL] at hln hpos
        have HB : Hid (Below w.heap.size w wr) := hbel
        clear h1 h2 hsf hA hO hbel hs hL hrg
        go_wp2_with fail
        refine HC.mono ?_
        rintro e w1 ⟨rfl, hb1⟩
        have HF : Hid (∀ o, Below w.heap.size w (w1.alloc o)) := fun o => (below_any HB.out hb1).alloc (below_any HB.out hb1).size o
        clear hb1
        go_wp2
        go_ret2
        exact ⟨⟨_, rfl, OwnE.nil _ _ _⟩, HF.out _⟩
      · have hon := one_some hs
        have hok := one_ok hA.oct hon
        have hlt := one_lt hon
        have HC := read_ok n0 u0 n r w wr hA hbel hs
        have HSF : Hid (SoFar b (acc ++ [(strOfNums (r.take n.toNat), (O.nv ((r.drop n.toNat).take 4) : Int))]) (r.drop (n.toNat + 4))) := hsf.step hon
        have HAC : Hid (EOks (acc.take 64)) := hO.2
        obtain ⟨S, hS⟩ : ∃ S, S = strOfNums (r.take n.toNat) := ⟨_, rfl⟩
        obtain ⟨I, hI⟩ : ∃ S, S = O.nv ((r.drop n.toNat).take 4) := ⟨_, rfl⟩
        obtain ⟨t, ht⟩ : ∃ t, t = r.drop (n.toNat + 4) := ⟨_, rfl⟩
        rw [← hS, ← hI, ← ht] at HC HSF
        rw [← hS, ← hI] at hok
        rw [← ht] at hlt
        obtain ⟨L, hL⟩ : ∃ L, L = (n :: r).length := ⟨_, rfl⟩
        rw [← hL] at hln hpos hrg hlt
        have HT : Hid (t.length + 5 ≤ L ∧ L ≤ gk ∧ EOk (S, (I : Int))) := ⟨hlt, hrg, hok⟩
        have HB : Hid (Below w.heap.size w wr ∧ OwnE 34 w.heap.size wr u4 (acc.take 64)) := ⟨hbel, hO⟩
        have hl4 := hO.arg.len
        have hAl : (acc.take 64).length = min 64 acc.length := List.length_take
        obtain ⟨M, hM⟩ : ∃ M, M = (acc.take 64).length := ⟨_, rfl⟩
        rw [← hM] at hl4 hAl
        have HM : Hid ((acc.take 64).length = M) := hM.symm
        obtain ⟨a4, c4, hv4⟩ := hO.shape
        rw [← hM] at hv4
        subst hv4
        clear hS hI ht hlt hrg hok hsf hA hO hbel hon hs hL hM
        by_cases h63 : M ≤ 63
        · have HQ : Hid ((acc ++ [(S, (I : Int))]).take 64 = acc.take 64 ++ [(S, (I : Int))]) := take_more (by omega)
          have h63i : (M : Int) ≤ 63 := by omega
          clear hAl
          go_wp2_with fail
          refine HC.mono ?_
          rintro e w1 ⟨⟨v1, rfl, hA1⟩, hb1⟩
          obtain ⟨W, hW⟩ : ∃ W, W = w1.alloc (.cells #[.string S, .int .i64 (I : Int)] 34) := ⟨_, rfl⟩
          have hbW : Below w1.heap.size w1 W := by rw [hW]; exact (Below.refl _ w1).alloc (Nat.le_refl _) _
          have hBx : Box W w1.heap.size 34 #[.string S, .int .i64 (I : Int)] := by rw [hW]; exact Box.new _ _ _
          have hbb := below_any hb1 hbW
          have H1 : Hid (Arg n0 w v1 t ∧ OwnE 34 w.heap.size (w1.alloc (.cells #[.string S, .int .i64 (I : Int)] 34)) (.slice a4 M c4) (acc.take 64) ∧ Below w.heap.size w (w1.alloc (.cells #[.string S, .int .i64 (I : Int)] 34))) := by rw [← hW]; exact ⟨hA1, HB.out.2.below hbb, below_any HB.out.1 hbb⟩
          obtain ⟨g0, g1, _, _⟩ := hBx.two
          clear hA1 hb1 hbW hBx hbb
          rw [hW] at g0 g1
          clear hW
          go_wp2_with (at_builtin; refine push_entry (by rfl) _ _ 25 34 (by rfl) Try.underlying25 Try.info34 w.heap.size _ (acc.take 64) M HM.out (S, (I : Int)) (w1.alloc (.cells #[.string S, .int .i64 (I : Int)] 34)) (by rfl) H1.out.2.1 (by show Value.slice (some ⟨w1.heap.size + 1, 0, none⟩) 1 1 = _; rw [World.size_alloc]) HT.out.2.2 (by omega) H1.out.2.2.size ?_; intro g cap w3 hO3 hg3 hl3)
          have H3 : Hid (OwnE 34 w.heap.size w3 (.slice (some ⟨g, 0, none⟩) (M + 1) cap) ((acc ++ [(S, (I : Int))]).take 64) ∧ Below w.heap.size w w3) := ⟨by rw [HQ.out]; exact hO3, below_push H1.out.2.2 H1.out.2.1 hg3 (Nat.le_refl _) H1.out.2.2.size⟩
          clear hO3 hg3 hl3 g0 g1
          go_wp2
          go_roundg (gk - 1)
          case measure => have := HT.out; omega
          case rel => exact ⟨_, t, by have := HT.out; omega, HSF.out, H1.out.1, H3.out.1, H3.out.2⟩
        · have HQ : Hid ((acc ++ [(S, (I : Int))]).take 64 = acc.take 64) := take_full (by omega)
          have h63i : ¬ (M : Int) ≤ 63 := by omega
          clear hAl
          go_wp2_with fail
          refine HC.mono ?_
          rintro e w1 ⟨⟨v1, rfl, hA1⟩, hb1⟩
          have H1 : Hid (Arg n0 w v1 t ∧ ∀ o, OwnE 34 w.heap.size (w1.alloc o) (.slice a4 M c4) (acc.take 64) ∧ Below w.heap.size w (w1.alloc o)) := ⟨hA1, fun o => ⟨HB.out.2.below ((below_any (Below.refl _ wr) hb1).alloc hb1.size o), (below_any HB.out.1 hb1).alloc (below_any HB.out.1 hb1).size o⟩⟩
          clear hA1 hb1
          go_wp2
          go_roundg (gk - 1)
          case measure => have := HT.out; omega
          case rel => exact ⟨_, t, by have := HT.out; omega, HSF.out, H1.out.1, by rw [HQ.out]; exact (H1.out.2 _).1, (H1.out.2 _).2⟩

end Go.Proofs.Ythppbmbhoedphaa
