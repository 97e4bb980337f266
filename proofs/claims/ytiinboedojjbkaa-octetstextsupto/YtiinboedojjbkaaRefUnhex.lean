/-
  What the document's answer for Unhex is, as a contract: the same error and octets as the program's, for every text (up to 2^47 letters); and what Spoil does.
-/
import Derived.Test.YtiinboedojjbkaaUnhex
import Derived.Deep.RegionHeld3
import Derived.Deep.AppendLies
import Derived.Deep.DrawnRows
namespace Go.Proofs.Ytiinboedojjbkaa
open Go.RowKit

set_option maxHeartbeats 400000 in
theorem worth_any (c : Int) (w : World) (h0 : 0 ≤ c) (h1 : c ≤ 255) :
    Calls Try.prog 31 #[.int .u8 c] w fun e w' => e = .returned (.int .i64 (worth c)) ∧ w = w' := by
  unfold worth
  by_cases c1 : 48 ≤ c ∧ c ≤ 57
  · rw [if_pos c1]
    obtain ⟨g1, g2⟩ := c1
    go_enter Try.func31, Try.ntmps31
    go_wp2
    go_ret
    exact ⟨rfl, rfl⟩
  · rw [if_neg c1]
    by_cases c2 : 97 ≤ c ∧ c ≤ 102
    · rw [if_pos c2, show c - 87 = c - 97 + 10 by omega]
      obtain ⟨g1, g2⟩ := c2
      clear c1
      go_enter Try.func31, Try.ntmps31
      go_wp2
      go_ret
      exact ⟨rfl, rfl⟩
    · rw [if_neg c2]
      by_cases c3 : 65 ≤ c ∧ c ≤ 70
      · rw [if_pos c3, show c - 55 = c - 65 + 10 by omega]
        obtain ⟨g1, g2⟩ := c3
        clear c1 c2
        go_enter Try.func31, Try.ntmps31
        go_wp2
        go_ret
        exact ⟨rfl, rfl⟩
      · rw [if_neg c3]
        have hr : c < 48 ∨ (58 ≤ c ∧ c < 65) ∨ (71 ≤ c ∧ c < 97) ∨ 103 ≤ c := by omega
        clear c1 c2 c3
        rcases hr with h | ⟨h, h'⟩ | ⟨h, h'⟩ | h
        all_goals
          go_enter Try.func31, Try.ntmps31
          go_wp2
          go_ret
          exact ⟨rfl, rfl⟩

theorem index_at (w : World) (s : ByteArray) (p : Nat) (h : p < s.size) : (Instr.index 9 (.string s) (.int .i64 (p : Int))).run Try.prog w = .ok (.int .u8 ((s[p]'h).toNat : Int)) w := by
  rw [run_index_string w 9 s .i64 (p : Int) Try.underlying9, dif_pos ⟨by omega, by omega⟩]
  simp

attribute [local go_sem ↓] Go.wp_at_zero Go.wp_at_succ

set_option maxRecDepth 100000 in
set_option maxHeartbeats 1600000 in
theorem runhex_any (s : ByteArray) (w : World) (hs : s.size ≤ 140737488355328) :
    Calls Try.prog 20 #[.string s] w fun e w' => ∃ v, e = .returned (.tuple #[v, .int .i64 (uerr (lets s))]) ∧
      w'.ownsRow w.heap.size 5 1 v (uout (lets s)).length ((uout (lets s)).map (Value.int .u8)) ∧ Below w.heap.size w w' := by
  obtain ⟨i0, hi, hz0, hz1, hz2⟩ := info_parts Try.info5
  go_enter Try.func20, Try.ntmps20
  go_wp2
  go_loop [4] (fun i => ∃ p : Nat, p ≤ s.size ∧ i = .int .i64 p ∧ (∀ i, i < p → 0 ≤ worth ((lets s).getD i 0))) (fun i => s.size - (intOf i).toNat)
  case atStart => exact ⟨0, Nat.zero_le _, rfl, fun i h => by omega⟩
  case round =>
    obtain ⟨p, hp, rfl, hall⟩ := hrel
    have HA : Hid (∀ i, i < p → 0 ≤ worth ((lets s).getD i 0)) := hall
    clear hall
    by_cases hlt : p < s.size
    · have hg := lets_get s p hlt
      have hc0 : (0 : Int) ≤ ((s[p]'hlt).toNat : Int) := by omega
      have hc1 : ((s[p]'hlt).toNat : Int) ≤ 255 := by have := (s[p]'hlt).toNat_lt; omega
      have HC : Hid (∀ w, Calls Try.prog 31 #[.int .u8 ((s[p]'hlt).toNat : Int)] w fun e w' => e = .returned (.int .i64 (worth ((lets s).getD p 0))) ∧ w = w') := fun w => by
        rw [hg]; exact worth_any _ w hc0 hc1
      obtain ⟨d, hd⟩ : ∃ d, d = worth ((lets s).getD p 0) := ⟨_, rfl⟩
      rw [← hd] at HC
      have HD : Hid (d = worth ((lets s).getD p 0)) := hd
      clear hd hg hc0 hc1
      by_cases hd0 : d < 0
      · have herr := uerr_bad (L := lets s) (i := p) (by simpa using hlt) (by rw [← HD.out]; exact hd0)
        have HE : Hid (uerr (lets s) = 11 ∧ uout (lets s) = []) := herr
        clear herr
        go_wp2_with (go_at_call 31; refine (HC.out _).mono ?_; rintro e w' ⟨rfl, rfl⟩)
        go_ret2
        exact ⟨.slice none 0 0, by rw [HE.out.1]; rfl, by rw [HE.out.2]; exact World.ownsRow_nil _ _ _ _, Below.refl _ _⟩
      · go_wp2_with (go_at_call 31; refine (HC.out _).mono ?_; rintro e w' ⟨rfl, rfl⟩)
        go_round
        case rel =>
          refine ⟨p + 1, by omega, by go_num, fun i hi => ?_⟩
          rcases Nat.lt_succ_iff_lt_or_eq.1 hi with c | c
          · exact HA.out i c
          · rw [c, ← HD.out]; omega
        case measure => simp [intOf]; omega
    · have hpe : p = s.size := by omega
      have HALL : Hid (∀ i, i < (lets s).length → 0 ≤ worth ((lets s).getD i 0)) := fun i hi => HA.out i (by rw [lets_length] at hi; omega)
      rcases Nat.mod_two_eq_zero_or_one s.size with hpar | hpar
      · have HE : Hid (uerr (lets s) = 0 ∧ uout (lets s) = pairs (lets s) (s.size / 2)) := by
          have := uerr_ok (L := lets s) HALL.out (by simpa using hpar)
          rw [lets_length] at this; exact this
        have hpb : ((s.size : Int) % 2 == 1) = false := by simp; omega
        clear hpe HA
        go_wp2
        go_loopw [5, 6] (fun v i wr => ∃ k : Nat, 2 * k ≤ s.size ∧ i = .int .i64 (2 * (k : Int)) ∧ wr.ownsRow w.heap.size 5 1 v k ((pairs (lets s) k).map (Value.int .u8)) ∧ Below w.heap.size w wr) (fun _ i _ => s.size - (intOf i).toNat)
        case atStart => exact ⟨0, Nat.zero_le _, rfl, World.ownsRow_nil _ _ _ _, Below.refl _ _⟩
        case round =>
          obtain ⟨k, hk, rfl, hown, hbel⟩ := hrel
          by_cases hlt2 : 2 * k < s.size
          · have g1 : 2 * k < s.size := hlt2
            have g2 : 2 * k + 1 < s.size := by omega
            obtain ⟨c1, hc1⟩ : ∃ c1, c1 = (lets s).getD (2 * k) 0 := ⟨_, rfl⟩
            obtain ⟨c2, hc2⟩ : ∃ c2, c2 = (lets s).getD (2 * k + 1) 0 := ⟨_, rfl⟩
            have e1 := lets_get s (2 * k) g1
            have e2 := lets_get s (2 * k + 1) g2
            rw [← hc1] at e1
            rw [← hc2] at e2
            have b1 := (s[2 * k]'g1).toNat_lt
            have b2 := (s[2 * k + 1]'g2).toNat_lt
            have hix1 : ∀ w, (Instr.index 9 (.string s) (.int .i64 (2 * (k : Int)))).run Try.prog w = .ok (.int .u8 c1) w := fun w => by
              have := index_at w s (2 * k) g1
              rw [← e1] at this
              exact this
            have hix2 : ∀ w, (Instr.index 9 (.string s) (.int .i64 (2 * (k : Int) + 1))).run Try.prog w = .ok (.int .u8 c2) w := fun w => by
              have := index_at w s (2 * k + 1) g2
              rw [← e2] at this
              exact this
            have hd1 := HALL.out (2 * k) (by rw [lets_length]; exact g1)
            have hd2 := HALL.out (2 * k + 1) (by rw [lets_length]; exact g2)
            have hps := pairs_succ (lets s) k
            rw [← hc1] at hd1 hps
            rw [← hc2] at hd2 hps
            have ht1 := worth_le c1
            have ht2 := worth_le c2
            have p1 : 0 ≤ c1 := by omega
            have p2 : c1 ≤ 255 := by omega
            have p3 : 0 ≤ c2 := by omega
            have p4 : c2 ≤ 255 := by omega
            have HPS : Hid (pairs (lets s) (k + 1) = pairs (lets s) k ++ [16 * worth c1 + worth c2]) := hps
            have hlt3 : (2 * (k : Int)) < (s.size : Int) := by omega
            clear hps e1 e2 hc1 hc2 b1 b2
            have hbs := hbel.size
            have hw1 : IntKind.i64.wrap (2 * (k : Int) + 1) = 2 * (k : Int) + 1 := by rw [IntKind.wrap_i64]; omega
            have hw2 : IntKind.i64.wrap (16 * worth c1) = 16 * worth c1 := by rw [IntKind.wrap_i64]; omega
            have hw3 : IntKind.i64.wrap (16 * worth c1 + worth c2) = 16 * worth c1 + worth c2 := by rw [IntKind.wrap_i64]; omega
            have hw4 : IntKind.u8.wrap (16 * worth c1 + worth c2) = 16 * worth c1 + worth c2 := by rw [IntKind.wrap_u8]; omega
            go_wp2
            go_region_held3 (fun _ => True) (trivial)
              (first
                | (go_at_call 31; refine (worth_any _ _ (by assumption) (by assumption)).mono ?_; rintro e w' ⟨rfl, rfl⟩)
                | (refine step_append_lies _ (by rfl) _ _ _ (by rfl) w.heap.size 5 i0 _ 1 1 Try.underlying23 hi hz0 hz1 hz2 rfl (by omega) _ k _ (by rfl) ((hown.alloc _).drew)
                    ⟨wr.heap.size, 0, none⟩ 1 1 [.int .u8 (16 * worth c1 + worth c2)] (by rfl) (by rfl) (World.news_of_block (cs := #[.int .u8 (16 * worth c1 + worth c2)]) (t := 5) (fr := (0, 0)) (heap_alloc_new wr _)) (by simp [Value.oneCell'])
                    (by omega) (by unfold maxLen; omega) (by omega) (by simp; omega) (wr.heap.size + 1) (by simp) ?_; intro gg cap w3 hown3 hgrow3 hat hltg))
            all_goals
              have hb3 : Below w.heap.size w w3 := ((hbel.alloc hbs _).drew).grown hgrow3 (by simp; omega) (fun k h => (hown.lt k h).1)
              have ho3 : w3.ownsRow w.heap.size 5 1 (.slice (some ⟨gg, 0, none⟩) (k + 1) cap) (k + 1) ((pairs (lets s) (k + 1)).map (Value.int .u8)) := by
                rw [HPS.out, List.map_append]; exact hown3
              clear hown3 hgrow3 hown hbel hix1 hix2 hat
              go_wp2
              go_roundw
              case rel => exact ⟨k + 1, by omega, by congr 1, ho3, hb3⟩
              case measure => simp [intOf]; omega
          · have ek : k = s.size / 2 := by omega
            have HO : Hid (wr.ownsRow w.heap.size 5 1 u5 (uout (lets s)).length ((uout (lets s)).map (Value.int .u8))) := by
              rw [HE.out.2, pairs_length, ← ek]; exact hown
            clear hown ek
            go_wp2
            go_ret2
            exact ⟨u5, by rw [HE.out.1]; rfl, HO.out, hbel⟩
      · have HE : Hid (uerr (lets s) = 8 ∧ uout (lets s) = []) := uerr_odd (L := lets s) HALL.out (by simpa using hpar)
        have hpb : ((s.size : Int) % 2 == 1) = true := by simp; omega
        clear hpe HA
        go_wp2
        go_ret2
        exact ⟨.slice none 0 0, by rw [HE.out.1]; rfl, by rw [HE.out.2]; exact World.ownsRow_nil _ _ _ _, Below.refl _ _⟩

set_option maxHeartbeats 400000 in
theorem spoil_none (a : Option Addr) (cap : Nat) (w : World) :
    Calls Try.prog 25 #[.slice a 0 cap] w fun e w' => e = .returned (.tuple #[]) ∧ w = w' := by
  go_enter Try.func25, Try.ntmps25
  go_wp2
  refine wp_loop_rounds 1 ?_
  rw [rounds_succ]
  go_wp2
  go_end0
  exact ⟨rfl, rfl⟩

set_option maxHeartbeats 400000 in
theorem spoil_some (base g n cap : Nat) (l : List Int) (w : World) (hn : n ≤ maxLen) (hl : l.length = n) (hown : w.ownsRow base 5 1 (.slice (some ⟨g, 0, none⟩) n cap) n (l.map (Value.int .u8))) :
    Calls Try.prog 25 #[.slice (some ⟨g, 0, none⟩) n cap] w fun e w' => e = .returned (.tuple #[]) ∧ w.grownBy w' (some g) := by
  unfold maxLen at hn
  have HL : Hid (l.length = n) := hl
  clear hl
  go_enter Try.func25, Try.ntmps25
  go_wp2
  go_loopw [2] (fun i wr => ∃ (k : Nat) (l : List Int), k ≤ n ∧ i = .int .i64 k ∧ Hid (l.length = n) ∧ wr.ownsRow base 5 1 (.slice (some ⟨g, 0, none⟩) n cap) n (l.map (Value.int .u8)) ∧ w.grownBy wr (some g)) (fun i _ => n - (intOf i).toNat)
  case atStart => exact ⟨0, l, Nat.zero_le _, rfl, HL, hown, ⟨rfl, rfl, rfl, Nat.le_refl _, fun _ _ _ => rfl⟩⟩
  case round =>
    obtain ⟨k, l, hk, rfl, HL, hown, hbel⟩ := hrel
    by_cases hlt : k < n
    · have hc : wr.cell? ⟨g, k, none⟩ = some (.int .u8 (l.getD k 0)) := by
        have hkl : k < l.length := by rw [HL.out]; exact hlt
        rw [hown.cellAt k (by omega), List.getElem?_map, List.getElem?_eq_getElem hkl]
        simp [List.getElem?_eq_getElem hkl]
      have hf := hown.frozenAt k
      obtain ⟨x, hx⟩ : ∃ x, x = l.getD k 0 := ⟨_, rfl⟩
      rw [← hx] at hc
      have hb2 := hbel.trans (hown.stored k (.int .u8 (bits .xor .u8 x 85))).2
      have hS := (hown.stored k (.int .u8 (bits .xor .u8 x 85))).1
      rw [← List.map_set] at hS
      have HL2 : Hid ((l.set k (bits .xor .u8 x 85)).length = n) := by
        show _ = _
        rw [List.length_set]; exact HL.out
      have hki : (k : Int) < (n : Int) := by omega
      clear hx hown hbel
      go_wp2
      go_roundw
      case rel => exact ⟨k + 1, _, by omega, by go_num, HL2, hS, hb2⟩
      case measure => simp [intOf]; omega
    · go_wp2
      go_end0
      exact ⟨rfl, hbel⟩

theorem spoil_any (base : Nat) (v : Value) (l : List Int) (w : World) (hown : w.ownsRow base 5 1 v l.length (l.map (Value.int .u8))) :
    Calls Try.prog 25 #[v] w fun e w' => e = .returned (.tuple #[]) ∧ w.grownBy w' v.ownBlock := by
  have h0 := hown
  rcases hown.2 with ⟨rfl, h⟩ | ⟨g, cap, cur, rfl, _, _, h1, h2, _⟩
  · exact (spoil_none none 0 w).mono fun e w' ⟨he, hw⟩ => ⟨he, by subst hw; exact ⟨rfl, rfl, rfl, Nat.le_refl _, fun _ _ _ => rfl⟩⟩
  · exact spoil_some base g l.length cap l w (by omega) rfl h0

end Go.Proofs.Ytiinboedojjbkaa
