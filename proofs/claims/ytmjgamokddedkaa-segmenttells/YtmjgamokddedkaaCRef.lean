/-
  What the document's own answers are for Extend, Sum, Seal and Open: the same as the program's; for every octets, in every memory, which stays.
-/
import Derived.Test.YtmjgamokddedkaaCExtend
import Derived.Test.YtmjgamokddedkaaCCut
import Derived.OwnWalk
import Derived.Lib.SlBytesConst
import Derived.Deep.Onto
import Derived.Deep.QuietTactic
import Derived.BigQuiet
namespace Go.Proofs.Ytmjgamokddedkaa.C
open Go.RowKit

set_option maxRecDepth 100000 in
set_option maxHeartbeats 400000 in
theorem rext_none (c : Nat) (hc : c < 4294967296) (a : Option Addr) (cap : Nat) (w : World) :
    Calls Try.prog 48 #[.int .u32 c, .slice a 0 cap] w fun e w' => e = .returned (.int .u32 (ext c [] : Nat)) ∧ w = w' := by
  have hn := not32 c hc
  have hn2 := not32 (turned c) (turned_lt c hc)
  rw [turned_turned] at hn2
  have HE : Hid (ext c [] = c) := ext_nil c
  go_enter Try.func48, Try.ntmps48
  go_wp2
  refine wp_loop_rounds 1 ?_
  rw [rounds_succ]
  go_wp2
  go_ret
  exact ⟨by rw [HE.out]; rfl, rfl⟩

set_option maxRecDepth 100000 in
set_option maxHeartbeats 2000000 in
theorem rext_some (c : Nat) (hc : c < 4294967296) (b off n cap : Nat) (l : List Int) (hl : l.length = n) (w : World) (hm : n ≤ maxLen) (hat : At w b off l) (hr : Oct l) :
    Calls Try.prog 48 #[.int .u32 c, .slice (some ⟨b, off, none⟩) n cap] w fun e w' => e = .returned (.int .u32 (ext c l : Nat)) ∧ w = w' := by
  unfold maxLen at hm
  have hn := not32 c hc
  have HL : Hid (l.length = n) := hl
  have HC : Hid (At w b off l) := hat
  have HR : Hid (Oct l) := hr
  clear hl hat hr
  go_enter Try.func48, Try.ntmps48
  go_wp2
  go_loop [0, 5] (fun r i => ∃ j : Nat, j ≤ n ∧ i = .int .i64 j ∧ r = .int .u32 ((upd (turned c) (l.take j) : Nat) : Int)) (fun _ i => n - (intOf i).toNat)
  case atStart => exact ⟨0, Nat.zero_le _, rfl, rfl⟩
  case round =>
    obtain ⟨j, hj, rfl, rfl⟩ := hrel
    have hR : upd (turned c) (l.take j) < 4294967296 := upd_lt _ _ (turned_lt c hc) fun x hx => HR.out x (List.mem_of_mem_take hx)
    by_cases hlt : j < n
    · have hcell : w.cell? ⟨b, off + j, none⟩ = some (.int .u8 (l.getD j 0)) := HC.out j (by rw [HL.out]; exact hlt)
      have hx := HR.out (l.getD j 0) (by
        have : j < l.length := by rw [HL.out]; exact hlt
        simp [List.getD, List.getElem?_eq_getElem this])
      have ht := upd_take (turned c) l j (by rw [HL.out]; exact hlt)
      obtain ⟨x, hxd⟩ : ∃ x, x = l.getD j 0 := ⟨_, rfl⟩
      rw [← hxd] at hcell hx ht
      obtain ⟨hx0, hx1⟩ := hx
      obtain ⟨R, hRd⟩ : ∃ R, R = upd (turned c) (l.take j) := ⟨_, rfl⟩
      rw [← hRd] at hR ht ⊢
      have hxo := xor_oct R x hR hx0 hx1
      have hS : R ^^^ x.toNat < 4294967296 := Nat.xor_lt_two_pow (n := 32) hR (by omega)
      obtain ⟨S, hSd⟩ : ∃ S, S = R ^^^ x.toNat := ⟨_, rfl⟩
      rw [← hSd] at hxo hS ht
      have HN : Hid (upd (turned c) (l.take (j + 1)) = steps 8 S) := ht
      clear ht hxd hRd hSd hn
      go_wp2
      go_loop [0, 6] (fun r i => ∃ k : Nat, k ≤ 8 ∧ i = .int .i64 k ∧ r = .int .u32 ((steps k S : Nat) : Int)) (fun _ i => 8 - (intOf i).toNat)
      case atStart => exact ⟨0, by omega, rfl, rfl⟩
      case round =>
        obtain ⟨k, hk, rfl, rfl⟩ := hrel
        by_cases hlk : k < 8
        · have hQ : steps k S < 4294967296 := steps_lt _ _ hS
          have HQ : Hid (step (steps k S) = steps (k + 1) S) := steps_end k S
          obtain ⟨Q, hQd⟩ : ∃ Q, Q = steps k S := ⟨_, rfl⟩
          rw [← hQd] at hQ HQ ⊢
          obtain ⟨m, hm2⟩ : ∃ m, m = Q / 2 := ⟨_, rfl⟩
          have h2 : (Q : Int) / 2 = (m : Int) := by omega
          have h1 := and1 Q hQ
          obtain ⟨y, hy⟩ : ∃ y, y = m ^^^ 3988292384 := ⟨_, rfl⟩
          have h3 : bits .xor .u32 (m : Int) 3988292384 = (y : Int) := by rw [hy]; exact xorp m (by omega)
          have hki : (k : Int) < 8 := by omega
          rcases Nat.mod_two_eq_zero_or_one Q with e | e
          · have HS : Hid (m = steps (k + 1) S) := by show _ = _; rw [← HQ.out]; unfold step; rw [if_neg (by omega), hm2]
            have h1' : bits .and .u32 (Q : Int) 1 = 0 := by rw [h1, e]; rfl
            clear h1 h3 e hm2 hy hQd
            go_wp2
            go_round
            case rel => exact ⟨k + 1, by omega, by go_num, by rw [← HS.out]⟩
            case measure => simp [intOf]; omega
          · have HS : Hid (y = steps (k + 1) S) := by show _ = _; rw [← HQ.out]; unfold step; rw [if_pos e, hy, hm2]
            have h1' : bits .and .u32 (Q : Int) 1 = 1 := by rw [h1, e]; rfl
            clear h1 e hm2 hy hQd
            go_wp2
            go_round
            case rel => exact ⟨k + 1, by omega, by go_num, by rw [← HS.out]⟩
            case measure => simp [intOf]; omega
        · obtain rfl : k = 8 := by omega
          go_wp2
          go_round
          case rel => exact ⟨j + 1, by omega, by go_num, by rw [HN.out]⟩
          case measure => simp [intOf]; omega
    · have hn2 := not32 _ hR
      have HX : Hid (upd (turned c) (l.take j) = upd (turned c) l) := by
        show _ = _
        rw [List.take_of_length_le (by rw [HL.out]; omega)]
      have HE : Hid (turned (upd (turned c) (l.take j)) = ext c l) := by
        show _ = _
        rw [HX.out]; rfl
      obtain ⟨E, hEd⟩ : ∃ E, E = turned (upd (turned c) (l.take j)) := ⟨_, rfl⟩
      rw [← hEd] at hn2 HE
      clear hEd HX
      go_wp2
      go_ret
      exact ⟨by rw [← HE.out]; rfl, rfl⟩

theorem rext_any (c : Nat) (hc : c < 4294967296) (v : Value) (l : List Int) (w : World) (h : Arg w v l) :
    Calls Try.prog 48 #[.int .u32 c, v] w fun e w' => e = .returned (.int .u32 (ext c l : Nat)) ∧ w = w' := by
  rcases h.split with ⟨rfl, a, cap, rfl⟩ | ⟨b, off, cap, rfl, hcap, hm, hat, hr⟩
  · exact rext_none c hc a cap w
  · exact rext_some c hc b off l.length cap l rfl w hm hat hr

set_option maxRecDepth 100000 in
set_option maxHeartbeats 400000 in
theorem rsum_any (v : Value) (l : List Int) (w : World) (h : Arg w v l) :
    Calls Try.prog 31 #[v] w fun e w' => e = .returned (.int .u32 (sum l : Nat)) ∧ w = w' := by
  have HH : Hid (Calls Try.prog 48 #[.int .u32 0, v] w fun e w' => e = .returned (.int .u32 (sum l : Nat)) ∧ w = w') := rext_any 0 (by decide) v l w h
  clear h
  go_enter Try.func31, Try.ntmps31
  go_wp2_with fail
  refine HH.out.mono ?_
  rintro e w1 ⟨rfl, rfl⟩
  go_wp2
  go_ret
  exact ⟨rfl, rfl⟩

set_option maxRecDepth 100000 in
set_option maxHeartbeats 400000 in
theorem copied_any (v : Value) (l : List Int) (w : World) (h : Arg w v l) (hs : l.length ≤ 140737488355328) :
    Calls Try.prog 38 #[v] w fun e w' => (∃ v', e = .returned v' ∧ w'.ownsRow w.heap.size 5 1 v' l.length (l.map (Value.int .u8))) ∧ Below w.heap.size w w' := by
  obtain ⟨i0, hi, hz0, hz1, hz2⟩ := info_parts Try.info5
  rcases h with ⟨rfl, rfl⟩ | ⟨x, cap, rfl, hcap, hm, hc, hr⟩
  · go_enter Try.func38, Try.ntmps38
    go_wp2_with (at_builtin; refine wpList_append_own_none rfl _ _ 25 rfl w.heap.size 5 i0 1 Try.underlying25 hi (.slice none 0 0) 0 [] rfl (World.ownsRow_nil _ _ _ _) rfl ?_)
    go_ret
    exact ⟨⟨_, rfl, World.ownsRow_nil _ _ _ _⟩, Below.refl _ _⟩
  · have hnews : ∀ j u, (l.map (Value.int .u8))[j]? = some u → w.cell? (x.add j) = some u := fun j u hj => by
      have hjl : j < l.length := by
        rcases Nat.lt_or_ge j l.length with c | c
        · exact c
        · rw [List.getElem?_eq_none (by simpa using c)] at hj; cases hj
      rw [hc j hjl]
      rw [List.getElem?_map, List.getElem?_eq_getElem hjl] at hj
      simpa [List.getElem?_eq_getElem hjl] using hj
    clear hc hr
    go_enter Try.func38, Try.ntmps38
    go_wp2_with (at_builtin; refine wpList_append_own _ rfl _ _ 25 rfl w.heap.size 5 i0 (.int .u8 0) 1 1 Try.underlying25 hi hz0 hz1 hz2 rfl (by decide) (.slice none 0 0) 0 [] rfl (World.ownsRow_nil _ _ _ _) x l.length cap (l.map (Value.int .u8)) rfl (by simp) hnews (one_cells l) (by omega) (by omega) (Nat.le_refl _) ?_)
    intro v' w1 hown hgrow _
    have hb : Below w.heap.size w w1 := (Below.refl _ _).grown hgrow (Nat.le_refl _) (fun _ h => by cases h)
    clear hgrow hnews
    go_wp2
    go_ret
    exact ⟨⟨v', rfl, by simpa using hown⟩, hb⟩


end Go.Proofs.Ytmjgamokddedkaa.C
