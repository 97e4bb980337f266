/-
  What the document's answers for Hex and Decimal are, as contracts: the same texts as the program's, for every int and all octets (up to 2^46); what was in memory stays.
-/
import Derived.Test.YtiinboedojjbkaaHexRun
import Derived.Test.YtiinboedojjbkaaAlive
import Derived.Laws.Concat
namespace Go.Proofs.Ytiinboedojjbkaa
open Go.RowKit

attribute [local go_sem ↓] Go.wp_at_zero Go.wp_at_succ

set_option maxRecDepth 100000 in
set_option maxHeartbeats 1600000 in
theorem rhex_some (b off n cap : Nat) (l : List Int) (hl : l.length = n) (w : World) (hn : n ≤ 70368744177664) (hc : At w b off l) (hr : ∀ x ∈ l, 0 ≤ x ∧ x ≤ 255) (hbW : b < w.heap.size) :
    Calls Try.prog 24 #[.slice (some ⟨b, off, none⟩) n cap] w fun e w' => e = .returned (.string (strOfNums (hexs l))) ∧ Below w.heap.size w w' := by
  obtain ⟨i0, hi, hz0, hz1, hz2⟩ := info_parts Try.info5
  have HL : Hid (l.length = n) := hl
  have HC : Hid (At w b off l) := hc
  have HR : Hid (∀ x ∈ l, 0 ≤ x ∧ x ≤ 255) := hr
  clear hl hc hr
  go_enter Try.func24, Try.ntmps24
  go_wp2
  go_loopw [3, 4] (fun v i wr => ∃ j : Nat, j ≤ n ∧ i = .int .i64 j ∧ wr.ownsRow w.heap.size 5 1 v (2 * j) ((hexs (l.take j)).map (Value.int .u8)) ∧ Below w.heap.size w wr) (fun _ i _ => n - (intOf i).toNat)
  case atStart => exact ⟨0, Nat.zero_le _, rfl, World.ownsRow_nil _ _ _ _, Below.refl _ _⟩
  case round =>
    obtain ⟨j, hj, rfl, hown, hbel⟩ := hrel
    by_cases hlt : j < n
    · have hcell : wr.cell? ⟨b, off + j, none⟩ = some (.int .u8 (l.getD j 0)) := by
        rw [hbel.cell (p := ⟨b, off + j, none⟩) hbW]; exact HC.out j (by rw [HL.out]; exact hlt)
      have hx := HR.out (l.getD j 0) (by
        have : j < l.length := by rw [HL.out]; exact hlt
        simp [List.getD, List.getElem?_eq_getElem this])
      have ht := hexs_take l j (by rw [HL.out]; exact hlt)
      obtain ⟨x, hxd⟩ : ∃ x, x = l.getD j 0 := ⟨_, rfl⟩
      rw [← hxd] at hcell hx ht
      obtain ⟨hx0, hx1⟩ := hx
      have hi1 := fun w => index16 w (x / 16) (by omega) (by omega)
      have hi2 := fun w => index16 w (x % 16) (by omega) (by omega)
      have HT : Hid (hexs (l.take (j + 1)) = hexs (l.take j) ++ [hexc (x / 16), hexc (x % 16)]) := ht
      have hbs := hbel.size
      have hbw2 : b < wr.heap.size := by omega
      have hnb : some b ≠ u3.ownBlock := fun h => by have := (hown.lt b h.symm).1; omega
      have hji : (j : Int) < (n : Int) := by omega
      have hj0 : (0 : Int) ≤ (j : Int) := by omega
      have t1 : x.tdiv 16 = x / 16 := Int.tdiv_eq_ediv_of_nonneg hx0
      have t2 : x.tmod 16 = x % 16 := Int.tmod_eq_emod_of_nonneg hx0
      have t3 : IntKind.u8.wrap (x / 16) = x / 16 := by rw [IntKind.wrap_u8]; omega
      have t4 : IntKind.u8.wrap (x % 16) = x % 16 := by rw [IntKind.wrap_u8]; omega
      clear ht hxd
      go_wp2
      go_region_held3 (fun w' => w'.cell? ⟨b, off + j, none⟩ = some (.int .u8 x))
        (first | go_keep | (rw [hgrow3.cell_far _ (by simp; omega) hnb]; go_keep))
        ((refine step_append_lies _ (by rfl) _ _ _ (by rfl) w.heap.size 5 i0 _ 1 1 Try.underlying23 hi hz0 hz1 hz2 rfl (by omega) _ (2 * j) _ (by rfl) ((hown.alloc _).drew)
            ⟨wr.heap.size, 0, none⟩ 2 2 [.int .u8 (hexc (x / 16)), .int .u8 (hexc (x % 16))] (by rfl) (by rfl) (World.news_of_block (cs := #[.int .u8 (hexc (x / 16)), .int .u8 (hexc (x % 16))]) (t := 5) (fr := (0, 0)) (heap_alloc_new wr _)) (by simp [Value.oneCell'])
            (by omega) (by unfold maxLen; omega) (by omega) (by simp; omega) (wr.heap.size + 1) (by simp) ?_; intro gg cap w3 hown3 hgrow3 hat hltg))
      all_goals
        have hb3 : Below w.heap.size w w3 := ((hbel.alloc hbs _).drew).grown hgrow3 (by simp; omega) (fun k h => (hown.lt k h).1)
        have ho3 : w3.ownsRow w.heap.size 5 1 (.slice (some ⟨gg, 0, none⟩) (2 * (j + 1)) cap) (2 * (j + 1)) ((hexs (l.take (j + 1))).map (Value.int .u8)) := by
          rw [HT.out, List.map_append]; exact hown3
        clear hown3 hgrow3 hown hbel hi1 hi2 hat hcell
        go_wp2
        go_roundw
        case rel => exact ⟨j + 1, by omega, by go_num, ho3, hb3⟩
        case measure => simp [intOf]; omega
    · have e : j = n := by omega
      have hcv := conv_bytes (Bytes.own (l := hexs (l.take j)) (base := w.heap.size) (by rw [hexs_length, List.length_take, HL.out, Nat.min_eq_left (by omega)]; exact hown) (fun y hy => by
        have := hexs_range (l.take j) (fun x hx => HR.out x (List.mem_of_mem_take hx)) y hy
        omega))
      rw [List.take_of_length_le (by rw [HL.out]; omega)] at hcv
      clear e hown
      go_wp2
      go_ret
      exact ⟨rfl, hbel⟩

set_option maxHeartbeats 400000 in
theorem rhex_none (a : Option Addr) (cap : Nat) (w : World) :
    Calls Try.prog 24 #[.slice a 0 cap] w fun e w' => e = .returned (.string (strOfNums [])) ∧ Below w.heap.size w w' := by
  have hcv := conv_bytes (w := w) (v := .slice none 0 0) (l := []) ⟨⟨none, 0, rfl, fun h => absurd rfl h⟩, by simp [maxLen], by simp⟩
  go_enter Try.func24, Try.ntmps24
  go_wp2
  refine wp_loop_rounds 1 ?_
  rw [rounds_succ]
  go_wp2
  go_ret
  exact ⟨rfl, Below.refl _ _⟩

theorem rhex_any (v : Value) (l : List Int) (w : World) (h : Arg w v l) (hn : l.length ≤ 70368744177664) :
    Calls Try.prog 24 #[v] w fun e w' => e = .returned (.string (strOfNums (hexs l))) ∧ Below w.heap.size w w' := by
  rcases h.split with ⟨rfl, a, cap, rfl⟩ | ⟨b, off, cap, rfl, hcap, hm, hc, hr⟩
  · exact rhex_none a cap w
  · by_cases h0 : l.length = 0
    · obtain rfl := List.eq_nil_of_length_eq_zero h0
      exact rhex_none _ cap w
    · exact rhex_some b off l.length cap l rfl w hn hc hr (hc.lt (by omega))

theorem decN_cons (m j : Nat) : decN m (j + 1) = (48 + ((m / 10 ^ j % 10 : Nat) : Int)) :: decN m j := by
  unfold decN
  rw [List.range_succ_eq_map, List.map_cons, List.map_map]
  congr 1
  apply List.map_congr_left
  intro i _
  simp only [Function.comp]
  rw [show j + 1 - 1 - i.succ = j - 1 - i by omega]

theorem str_append (y : Int) (L : List Int) : strOfNums [y] ++ strOfNums L = strOfNums (y :: L) := by
  unfold strOfNums
  rw [ByteArray.mk_append_mk]
  rfl

/-- '[]byte{y}' as a text, in the world that it was just laid in. -/
theorem conv_one (W : World) (y : Int) (h0 : 0 ≤ y) (h1 : y ≤ 255) : (convert 23 9 (.slice (some ⟨W.heap.size, 0, none⟩) 1 1)).run Try.prog (W.alloc (.cells #[.int .u8 y] 5)) = .ok (.string (strOfNums [y])) (W.alloc (.cells #[.int .u8 y] 5)) :=
  conv_bytes (bytes_lit W [y] (by simp [maxLen]) (by simp; exact ⟨h0, h1⟩))

set_option maxHeartbeats 1000000 in
theorem rdigits_any (m : Nat) (w : World) (hm : m ≤ 9223372036854775808) :
    Calls Try.prog 33 #[.int .u64 m] w fun e w' => e = .returned (.string (strOfNums (dec m))) ∧ Below w.heap.size w w' := by
  have hc0 := fun W => conv_one W (48 + (m : Int) % 10) (by omega) (by omega)
  have HD0 : Hid (strOfNums [48 + (m : Int) % 10] = strOfNums (decN m 1)) := by
    show _ = _
    rw [decN_cons]
    simp [decN]
  go_enter Try.func33, Try.ntmps33
  go_wp2
  clear hc0
  go_loopw [0, 3] (fun x v wr => ∃ (j : Nat) (S : ByteArray), j < 20 ∧ Hid (j = 0 ∨ m / 10 ^ j ≠ 0) ∧ x = .int .u64 ((m / 10 ^ j : Nat) : Int) ∧ v = .string S ∧ Hid (S = strOfNums (decN m (j + 1))) ∧ Below w.heap.size w wr) (fun x _ _ => (intOf x).toNat)
  case atStart => exact ⟨0, _, by omega, .inl rfl, by simp, rfl, HD0, (Below.refl _ _).alloc (Nat.le_refl _) _⟩
  case round =>
    obtain ⟨j, S, hj, HOR, rfl, rfl, HS, hbel⟩ := hrel
    have hst := dstep m j
    obtain ⟨r, hr⟩ : ∃ r, r = m / 10 ^ j := ⟨_, rfl⟩
    rw [← hr] at hst ⊢
    have hrm : r ≤ m := by rw [hr]; exact Nat.div_le_self _ _
    have hSz : S.size ≤ 20 := by rw [HS.out, strOfNums_size, decN_length]; omega
    have HST : Hid (m / 10 ^ (j + 1) = r / 10) := hst
    by_cases h10 : 10 ≤ r
    · have hj2 : j + 1 < 20 := div_lt m (j + 1) 20 (by omega) (by rw [hst]; omega)
      have HOR2 : Hid (j + 1 = 0 ∨ m / 10 ^ (j + 1) ≠ 0) := .inr (by rw [hst]; omega)
      have hcv := fun W => conv_one W (48 + (r : Int) / 10 % 10) (by omega) (by omega)
      obtain ⟨Y, hY⟩ : ∃ Y, Y = strOfNums [48 + (r : Int) / 10 % 10] := ⟨_, rfl⟩
      rw [← hY] at hcv
      have hYz : Y.size = 1 := by rw [hY, strOfNums_size]; rfl
      have HN : Hid (Y ++ S = strOfNums (decN m (j + 1 + 1))) := by
        show _ = _
        rw [hY, HS.out, str_append, decN_cons m (j + 1), HST.out]
        congr 2
      have hYz2 : Y.size ≤ 1 := by omega
      have hr10 : (10 : Int) ≤ (r : Int) := by omega
      clear hst hr hY hYz
      go_wp2
      go_roundw
      case rel => exact ⟨j + 1, _, hj2, HOR2, by rw [HST.out]; rfl, rfl, HN, hbel.alloc hbel.size _⟩
      case measure => simp [intOf]; omega
    · have HF : Hid (S = strOfNums (dec m)) := by
        show _ = _
        rw [HS.out, decN_dec j m (by rw [hst]; omega) HOR.out]
      have hr10 : ¬ (10 : Int) ≤ (r : Int) := by omega
      clear hst hr
      go_wp2
      go_ret
      exact ⟨by rw [← HF.out]; rfl, hbel⟩

set_option maxHeartbeats 400000 in
theorem rdec_any (n : Int) (w : World) (h0 : -9223372036854775808 ≤ n) (h1 : n ≤ 9223372036854775807) :
    Calls Try.prog 22 #[.int .i64 n] w fun e w' => e = .returned (.string (strOfNums (decimal n))) ∧ Below w.heap.size w w' := by
  obtain ⟨S, hS⟩ : ∃ S, S = strOfNums (dec n.natAbs) := ⟨_, rfl⟩
  have hd := fun w => rdigits_any n.natAbs w (by omega)
  rw [← hS] at hd
  have hSz : S.size ≤ 30 := by
    rw [hS, strOfNums_size]
    have := dec_le_length 19 n.natAbs (by omega)
    omega
  by_cases h : n < 0
  · have HF : Hid ((⟨#[45]⟩ : ByteArray) ++ S = strOfNums (decimal n)) := by
      show _ = _
      unfold decimal
      rw [if_pos h, hS, ← str_append]
      rfl
    have HD : Hid (∀ w, Calls Try.prog 33 #[.int .u64 (-(n + 1) + 1)] w fun e w' => e = .returned (.string S) ∧ Below w.heap.size w w') := by
      have e : -(n + 1) + 1 = ((n.natAbs : Nat) : Int) := by omega
      rw [e]; exact hd
    clear hd hS
    go_enter Try.func22, Try.ntmps22
    go_wp2_with fail
    refine (HD.out _).mono ?_
    rintro e w1 ⟨rfl, hb⟩
    go_wp2
    go_ret
    exact ⟨by rw [← HF.out]; rfl, hb⟩
  · have HF : Hid (S = strOfNums (decimal n)) := by
      show _ = _
      unfold decimal
      rw [if_neg h, hS]
    have HD : Hid (∀ w, Calls Try.prog 33 #[.int .u64 n] w fun e w' => e = .returned (.string S) ∧ Below w.heap.size w w') := by
      have e : n = ((n.natAbs : Nat) : Int) := by omega
      rw [e]; exact hd
    clear hd hS
    go_enter Try.func22, Try.ntmps22
    go_wp2_with fail
    refine (HD.out _).mono ?_
    rintro e w1 ⟨rfl, hb⟩
    go_wp2
    go_ret
    exact ⟨by rw [← HF.out]; rfl, hb⟩

end Go.Proofs.Ytiinboedojjbkaa
