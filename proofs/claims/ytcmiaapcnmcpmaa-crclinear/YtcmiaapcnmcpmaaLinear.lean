/-
  CrcLinear, proved: for every three lots of octets (as great as the form reads them): the call returns true, and changes nothing that was in memory. No condition of its own.
-/
import Derived.Test.YtcmiaapcnmcpmaaCut
import Derived.Test.YtcmiaapcnmcpmaaArg
import Derived.Deep.RegionHeld3
import Derived.Deep.RegionLaw
import Derived.Deep.AppendLies
import Derived.Deep.DrawnRows
namespace Go.Proofs.Ytcmiaapcnmcpmaa.crcLinear
open Go.ChangeShapes Go.WideShapes Go.ChangeAt Go.RowKit
set_option linter.unusedVariables false

theorem xor3_length (a b c : List Int) (n : Nat) (ha : a.length = n) (hb : b.length = n) (hc : c.length = n) : (xor3 a b c).length = n := by
  simp [xor3, ha, hb, hc]

theorem xor3_take (a b c : List Int) (j : Nat) (ha : j < a.length) (hb : j < b.length) (hc : j < c.length) :
    xor3 (a.take (j + 1)) (b.take (j + 1)) (c.take (j + 1)) = xor3 (a.take j) (b.take j) (c.take j) ++ [(((a.getD j 0).toNat ^^^ ((b.getD j 0).toNat ^^^ (c.getD j 0).toNat) : Nat) : Int)] := by
  rw [List.take_succ_eq_append_getElem ha, List.take_succ_eq_append_getElem hb, List.take_succ_eq_append_getElem hc]
  unfold xor3
  rw [List.zipWith_append (by simp; omega), List.zipWith_append (by simp; omega)]
  simp [List.getD, List.getElem?_eq_getElem ha, List.getElem?_eq_getElem hb, List.getElem?_eq_getElem hc]

theorem xor3_oct (a b c : List Int) (ha : Oct a) (hb : Oct b) (hc : Oct c) : Oct (xor3 a b c) := by
  intro y hy
  unfold xor3 at hy
  obtain ⟨i, hi, rfl⟩ := List.mem_iff_getElem.1 hy
  simp only [List.length_zipWith] at hi
  simp only [List.getElem_zipWith]
  have h1 := ha (a[i]'(by omega)) (List.getElem_mem _)
  have h2 := hb (b[i]'(by omega)) (List.getElem_mem _)
  have h3 := hc (c[i]'(by omega)) (List.getElem_mem _)
  have : (a[i]'(by omega)).toNat ^^^ ((b[i]'(by omega)).toNat ^^^ (c[i]'(by omega)).toNat) < 2 ^ 8 := Nat.xor_lt_two_pow (by omega) (Nat.xor_lt_two_pow (by omega) (by omega))
  omega

theorem xor_three (x y z : Int) (hx : 0 ≤ x ∧ x ≤ 255) (hy : 0 ≤ y ∧ y ≤ 255) (hz : 0 ≤ z ∧ z ≤ 255) : bits .xor .u8 (bits .xor .u8 x y) z = ((x.toNat ^^^ (y.toNat ^^^ z.toNat) : Nat) : Int) := by
  rw [u8_xor x y hx.1 (by omega) hy.1 (by omega)]
  have hl : x.toNat ^^^ y.toNat < 2 ^ 8 := Nat.xor_lt_two_pow (by omega) (by omega)
  rw [u8_xor _ z (Int.natCast_nonneg _) (Int.ofNat_lt.2 hl) hz.1 (by omega), Int.toNat_natCast, Nat.xor_assoc]

theorem run_min3 (w : World) (ts : Array TypeId) (t : TypeId) (x y z : Int) : (Builtin.min_ ts t #[.int .i64 x, .int .i64 y, .int .i64 z]).run Try.prog w = .ok (.int .i64 (if z < (if y < x then y else x) then z else (if y < x then y else x))) w := by
  simp [Builtin.min_, Builtin.min2]

/-- One octet of a slice that came in: where it lies, and what it is. -/
theorem arg_at {w : World} {v : Value} {l : List Int} (h : Arg w v l) (j : Nat) (hj : j < l.length) :
    ∃ ad : Addr, (∀ W, (Instr.indexAt 22 v (.int .i64 j)).run Try.prog W = .ok (.pointer (some ad)) W) ∧ w.cell? ad = some (.int .u8 (l.getD j 0)) := by
  rcases h with ⟨rfl, rfl⟩ | ⟨x, cap, rfl, hcap, hm, hc, hr⟩
  · simp at hj
  · refine ⟨x.add j, fun W => ?_, hc j hj⟩
    rw [run_indexAt_slice (h := elem22), if_pos (by omega), size5]
    simp [Result.andThen]

/-- What the four sums read, and that nothing old has turned. -/
def Good (w : World) (v0 v1 v2 v3 : Value) (l0 l1 l2 l3 : List Int) (W : World) : Prop := Arg W v0 l0 ∧ Arg W v1 l1 ∧ Arg W v2 l2 ∧ Arg W v3 l3 ∧ Below w.heap.size w W
theorem Good.below {w : World} {v0 v1 v2 v3 : Value} {l0 l1 l2 l3 : List Int} {W W' : World} (h : Good w v0 v1 v2 v3 l0 l1 l2 l3 W) (hb : Below W.heap.size W W') : Good w v0 v1 v2 v3 l0 l1 l2 l3 W' :=
  ⟨h.1.below hb, h.2.1.below hb, h.2.2.1.below hb, h.2.2.2.1.below hb, below_any h.2.2.2.2 hb⟩
theorem Good.drew {w : World} {v0 v1 v2 v3 : Value} {l0 l1 l2 l3 : List Int} {W : World} (h : Good w v0 v1 v2 v3 l0 l1 l2 l3 W) : Good w v0 v1 v2 v3 l0 l1 l2 l3 W.drew := h.below (Below.refl _ _).drew

attribute [local go_sem ↓] Go.wp_at_zero Go.wp_at_succ

set_option maxRecDepth 100000 in
set_option maxHeartbeats 4000000 in
theorem walk (va vb vc : Value) (a b c : List Int) (w : World) (ha : Arg w va a) (hb : Arg w vb b) (hc : Arg w vc c) (hs : a.length ≤ 140737488351232) :
    Calls Try.prog 5 #[va, vb, vc] w fun e w' => e = .returned (.bool true) ∧ Below w.heap.size w w' := by
  obtain ⟨i0, hi, hz0, hz1, hz2⟩ := info_parts Try.info5
  have HA : Hid (Arg w va a ∧ Arg w vb b ∧ Arg w vc c) := ⟨ha, hb, hc⟩
  have HO : Hid (Oct a ∧ Oct b ∧ Oct c) := ⟨ha.bytes.2.2, hb.bytes.2.2, hc.bytes.2.2⟩
  have hla := fun W => ha.len W
  have hlb := fun W => hb.len W
  have hlc := fun W => hc.len W
  obtain ⟨la, hka⟩ : ∃ n, n = a.length := ⟨_, rfl⟩
  obtain ⟨lb, hkb⟩ : ∃ n, n = b.length := ⟨_, rfl⟩
  obtain ⟨lc, hkc⟩ : ∃ n, n = c.length := ⟨_, rfl⟩
  rw [← hka] at hla
  rw [← hkb] at hlb
  rw [← hkc] at hlc
  obtain ⟨n, hn⟩ : ∃ n, n = min la (min lb lc) := ⟨_, rfl⟩
  have HN : Hid (n ≤ a.length ∧ n ≤ b.length ∧ n ≤ c.length) := by show _ ∧ _ ∧ _; omega
  have hn1 : n ≤ 140737488351232 := by omega
  have hmin : ∀ (ts : Array TypeId) (t : TypeId) (W : World), (Builtin.min_ ts t #[.int .i64 (la : Int), .int .i64 (lb : Int), .int .i64 (lc : Int)]).run Try.prog W = .ok (.int .i64 (n : Int)) W := fun ts t W => by
    rw [run_min3]
    congr 2
    split <;> split <;> omega
  clear ha hb hc hs hka hkb hkc hn
  go_enter Try.func5, Try.ntmps5
  go_wp2_with fail
  refine (alive_any w).mono ?_
  rintro e w1 ⟨rfl, hb1⟩
  go_wp2
  go_loopw [8, 9] (fun v i wr => ∃ j : Nat, j ≤ n ∧ i = .int .i64 j ∧ wr.ownsRow w.heap.size 5 1 v j ((xor3 (a.take j) (b.take j) (c.take j)).map (Value.int .u8)) ∧ Below w.heap.size w wr) (fun _ i _ => n - (intOf i).toNat)
  case atStart => exact ⟨0, Nat.zero_le _, rfl, World.ownsRow_nil _ _ _ _, hb1⟩
  case round =>
    obtain ⟨j, hj, rfl, hown, hbel⟩ := hrel
    by_cases hlt : j < n
    · obtain ⟨ad1, hx1, hc1⟩ := arg_at HA.out.1 j (by have := HN.out; omega)
      obtain ⟨ad2, hx2, hc2⟩ := arg_at HA.out.2.1 j (by have := HN.out; omega)
      obtain ⟨ad3, hx3, hc3⟩ := arg_at HA.out.2.2 j (by have := HN.out; omega)
      have ht := xor3_take a b c j (by have := HN.out; omega) (by have := HN.out; omega) (by have := HN.out; omega)
      have ho : ∀ (l : List Int), Oct l → j < l.length → 0 ≤ l.getD j 0 ∧ l.getD j 0 ≤ 255 := fun l hl h => hl _ (by simp [List.getD, List.getElem?_eq_getElem h])
      have h3 := xor_three _ _ _ (ho a HO.out.1 (by have := HN.out; omega)) (ho b HO.out.2.1 (by have := HN.out; omega)) (ho c HO.out.2.2 (by have := HN.out; omega))
      rw [← h3] at ht
      obtain ⟨x1, e1⟩ : ∃ x, x = a.getD j 0 := ⟨_, rfl⟩
      obtain ⟨x2, e2⟩ : ∃ x, x = b.getD j 0 := ⟨_, rfl⟩
      obtain ⟨x3, e3⟩ : ∃ x, x = c.getD j 0 := ⟨_, rfl⟩
      rw [← e1] at hc1 ht
      rw [← e2] at hc2 ht
      rw [← e3] at hc3 ht
      have g1 : wr.cell? ad1 = some (.int .u8 x1) := by rw [hbel.cell (cell_lt hc1)]; exact hc1
      have g2 : wr.cell? ad2 = some (.int .u8 x2) := by rw [hbel.cell (cell_lt hc2)]; exact hc2
      have g3 : wr.cell? ad3 = some (.int .u8 x3) := by rw [hbel.cell (cell_lt hc3)]; exact hc3
      have HC : Hid (w.cell? ad1 = some (.int .u8 x1) ∧ w.cell? ad2 = some (.int .u8 x2) ∧ w.cell? ad3 = some (.int .u8 x3)) := ⟨hc1, hc2, hc3⟩
      have HT : Hid (xor3 (a.take (j + 1)) (b.take (j + 1)) (c.take (j + 1)) = xor3 (a.take j) (b.take j) (c.take j) ++ [bits .xor .u8 (bits .xor .u8 x1 x2) x3]) := ht
      have hji : (j : Int) < (n : Int) := by omega
      have hbs := hbel.size
      clear ht ho h3 e1 e2 e3 hc1 hc2 hc3 hmin hla hlb hlc
      go_wp2
      go_region_held3 (fun W => W.cell? ad1 = some (.int .u8 x1) ∧ W.cell? ad2 = some (.int .u8 x2) ∧ W.cell? ad3 = some (.int .u8 x3)) (first | assumption | go_keep)
        ((refine step_append_lies _ (by rfl) _ _ _ (by rfl) w.heap.size 5 i0 _ 1 1 Try.underlying22 hi hz0 hz1 hz2 rfl (by omega) _ j _ (by rfl) ((hown.alloc _).drew)
            ⟨wr.heap.size, 0, none⟩ 1 1 [.int .u8 (bits .xor .u8 (bits .xor .u8 x1 x2) x3)] (by rfl) (by rfl) (World.news_of_block (cs := #[.int .u8 (bits .xor .u8 (bits .xor .u8 x1 x2) x3)]) (t := 5) (fr := (0, 0)) (heap_alloc_new wr _)) (by simp [Value.oneCell'])
            (by omega) (by unfold maxLen; omega) (by omega) (by simp; omega) (wr.heap.size + 1) (by simp) ?_; intro gg cap w3 hown3 hgrow3 hat hltg
          have hb3 : Below w.heap.size w w3 := ((hbel.alloc hbs _).drew).grown hgrow3 (by simp; omega) (fun k h => (hown.lt k h).1)
          have hS3 : w3.cell? ad1 = some (.int .u8 x1) ∧ w3.cell? ad2 = some (.int .u8 x2) ∧ w3.cell? ad3 = some (.int .u8 x3) := ⟨by rw [hb3.cell (cell_lt HC.out.1)]; exact HC.out.1, by rw [hb3.cell (cell_lt HC.out.2.1)]; exact HC.out.2.1, by rw [hb3.cell (cell_lt HC.out.2.2)]; exact HC.out.2.2⟩))
      all_goals
        have ho3 : w3.ownsRow w.heap.size 5 1 (.slice (some ⟨gg, 0, none⟩) (j + 1) cap) (j + 1) ((xor3 (a.take (j + 1)) (b.take (j + 1)) (c.take (j + 1))).map (Value.int .u8)) := by
          rw [HT.out, List.map_append]; exact hown3
        clear hown3 hgrow3 hown hbel hat hS3 g1 g2 g3 hx1 hx2 hx3
        go_wp2
        go_roundw
        case rel => exact ⟨j + 1, by omega, by go_num, ho3, hb3⟩
        case measure => simp [intOf]; omega
    · obtain rfl : j = n := by omega
      obtain ⟨v1, hA1, hs1⟩ := HA.out.1.ahead j HN.out.1
      obtain ⟨v2, hA2, hs2⟩ := HA.out.2.1.ahead j HN.out.2.1
      obtain ⟨v3, hA3, hs3⟩ := HA.out.2.2.ahead j HN.out.2.2
      have la1 : (a.take j).length = j := by rw [List.length_take]; have := HN.out; omega
      have la2 : (b.take j).length = j := by rw [List.length_take]; have := HN.out; omega
      have la3 : (c.take j).length = j := by rw [List.length_take]; have := HN.out; omega
      have hoct := xor3_oct (a.take j) (b.take j) (c.take j) (fun x hx => HO.out.1 x (List.mem_of_mem_take hx)) (fun x hx => HO.out.2.1 x (List.mem_of_mem_take hx)) (fun x hx => HO.out.2.2 x (List.mem_of_mem_take hx))
      have hsum := sum_xor3 (a.take j) (b.take j) (c.take j) (by omega) (by omega)
      have hA0 : Arg wr u8 (xor3 (a.take j) (b.take j) (c.take j)) := Arg.own (base := w.heap.size) (by rw [xor3_length _ _ _ j la1 la2 la3]; exact hown) hoct
      have hG : Good w u8 v1 v2 v3 (xor3 (a.take j) (b.take j) (c.take j)) (a.take j) (b.take j) (c.take j) wr := ⟨hA0, hA1.below hbel, hA2.below hbel, hA3.below hbel, hbel⟩
      have hlt1 : sum (a.take j) < 4294967296 := ext_lt 0 _ (by decide) fun x hx => HO.out.1 x (List.mem_of_mem_take hx)
      have hlt2 : sum (b.take j) < 4294967296 := ext_lt 0 _ (by decide) fun x hx => HO.out.2.1 x (List.mem_of_mem_take hx)
      have hlt3 : sum (c.take j) < 4294967296 := ext_lt 0 _ (by decide) fun x hx => HO.out.2.2 x (List.mem_of_mem_take hx)
      have hq1 := u32_xor_nat _ _ hlt1 hlt2
      have hq2 := u32_xor_nat (sum (a.take j) ^^^ sum (b.take j)) _ (Nat.xor_lt_two_pow (n := 32) hlt1 hlt2) hlt3
      rw [Nat.xor_assoc, ← hsum] at hq2
      obtain ⟨L, hL⟩ : ∃ L, L = xor3 (a.take j) (b.take j) (c.take j) := ⟨_, rfl⟩
      obtain ⟨A, hAA⟩ : ∃ A, A = a.take j := ⟨_, rfl⟩
      obtain ⟨B, hBB⟩ : ∃ B, B = b.take j := ⟨_, rfl⟩
      obtain ⟨C, hCC⟩ : ∃ C, C = c.take j := ⟨_, rfl⟩
      rw [← hL] at hG hq2
      rw [← hAA] at hG hq2 hq1
      rw [← hBB] at hG hq2 hq1
      rw [← hCC] at hG hq2
      obtain ⟨p, hp⟩ : ∃ p, p = sum A ^^^ sum B := ⟨_, rfl⟩
      rw [← hp] at hq1 hq2
      have HC0 : Hid (∀ W, Good w u8 v1 v2 v3 L A B C W → Calls Try.prog 12 #[u8] W fun e w' => e = .returned (.int .u32 (sum L : Nat)) ∧ Good w u8 v1 v2 v3 L A B C w') := fun W h => (sum_any _ _ W h.1).mono fun e w' ⟨g1, g2⟩ => ⟨g1, h.below g2⟩
      have HC1 : Hid (∀ W, Good w u8 v1 v2 v3 L A B C W → Calls Try.prog 12 #[v1] W fun e w' => e = .returned (.int .u32 (sum A : Nat)) ∧ Good w u8 v1 v2 v3 L A B C w') := fun W h => (sum_any _ _ W h.2.1).mono fun e w' ⟨g1, g2⟩ => ⟨g1, h.below g2⟩
      have HC2 : Hid (∀ W, Good w u8 v1 v2 v3 L A B C W → Calls Try.prog 12 #[v2] W fun e w' => e = .returned (.int .u32 (sum B : Nat)) ∧ Good w u8 v1 v2 v3 L A B C w') := fun W h => (sum_any _ _ W h.2.2.1).mono fun e w' ⟨g1, g2⟩ => ⟨g1, h.below g2⟩
      have HC3 : Hid (∀ W, Good w u8 v1 v2 v3 L A B C W → Calls Try.prog 12 #[v3] W fun e w' => e = .returned (.int .u32 (sum C : Nat)) ∧ Good w u8 v1 v2 v3 L A B C w') := fun W h => (sum_any _ _ W h.2.2.2.1).mono fun e w' ⟨g1, g2⟩ => ⟨g1, h.below g2⟩
      clear hown hbel hA0 hA1 hA2 hA3 la1 la2 la3 hoct hsum hlt1 hlt2 hlt3 hL hAA hBB hCC hp hla hlb hlc hmin HA HN HO
      go_wp2
      go_region_held3 (fun W => Good w u8 v1 v2 v3 L A B C W) (first | assumption | exact Good.drew (by assumption))
        (first
          | (go_at_call 12; with_reducible refine Calls.mono (HC0.out _ (by first | assumption | exact Good.drew (by assumption))) ?_; rintro e w' ⟨rfl, hG'⟩)
          | (go_at_call 12; with_reducible refine Calls.mono (HC1.out _ (by first | assumption | exact Good.drew (by assumption))) ?_; rintro e w' ⟨rfl, hG'⟩)
          | (go_at_call 12; with_reducible refine Calls.mono (HC2.out _ (by first | assumption | exact Good.drew (by assumption))) ?_; rintro e w' ⟨rfl, hG'⟩)
          | (go_at_call 12; with_reducible refine Calls.mono (HC3.out _ (by first | assumption | exact Good.drew (by assumption))) ?_; rintro e w' ⟨rfl, hG'⟩))
      all_goals
        have hend := hG'.2.2.2.2
        go_wp2
        go_ret
        exact ⟨rfl, hend⟩

set_option maxRecDepth 100000 in
theorem lifted (os : Os) (started : os.Started) (H : Type) (enc : TypeId × Value → H) :
    ReturnsInHanded {} Try.checked os 5 .any (Rows.crcLinearSpec.pre6 enc Try.prog Try.f5 Rows.crcLinearRow.domain false) (Rows.crcLinearSpec.post enc Try.prog Try.f5 false true false false) := by
  refine returnsInHanded_of_change_sized (C := Try.checked) own started (by kernel_rfl) Try.func5
    (ChangeSpec.witness6 (enc := enc) (C := Try.checked) false ⟨#[], #[.slice none 0 0, .slice none 0 0, .slice none 0 0], []⟩ 8 (by kernel_rfl) (by kernel_rfl) (by kernel_rfl) (by kernel_rfl)) ?_
  intro W base args ds gs before hval0 hW hcnd hsz0 _
  have hval : ∀ (j : Nat) t v, Try.f5.params[j]? = some t → args[j]? = some v → Value.okWide Try.prog W .any base t v := hval0
  have hW' := hW
  obtain ⟨p, q, hA0, hV, rfl, hfz, hnd⟩ := hW
  have hA : DataW.TrodAll enc Try.prog W 0 (fun _ => true) true Try.f5.params.toList args.toList ds p := hA0
  have hsz : (DataW.weightsEach Try.prog (Try.f5.params.toList ++ Rows.crcLinearSpec.plain.varTypes Try.prog) (ds ++ gs)).all (· ≤ reachBytes) = true := hsz0
  clear hsz0
  rw [Try.params5] at hA hval hsz
  obtain ⟨v0, vs0, d0, ds0, p0, q0, hargs, rfl, rfl, h0, r0⟩ := trodAll_cons hA
  obtain ⟨v1, vs1, d1, ds1, p1, q1, rfl, rfl, rfl, h1, r1⟩ := trodAll_cons r0
  obtain ⟨v2, vs2, d2, ds2, p2, q2, rfl, rfl, rfl, h2, r2⟩ := trodAll_cons r1
  obtain ⟨rfl, rfl, rfl⟩ := trodAll_nil r2
  obtain rfl : args = #[v0, v1, v2] := by cases args; simp_all
  obtain ⟨rfl, rfl⟩ := trodVars_none hV
  obtain ⟨a0, len0, cap0, rfl⟩ := okWide_slice Try.underlying22 (hval 0 22 v0 rfl rfl)
  have k0 := h0
  have lt0 : ∀ x ∈ p0, x.block < W.heap.size := by obtain ⟨m, hm⟩ := k0; exact DataW.trod_lt m _ _ _ hm
  obtain ⟨l0, A0, D0⟩ := arg_of h0
  have s0 := arg_len hsz (j := 0) rfl rfl D0
  obtain ⟨a1, len1, cap1, rfl⟩ := okWide_slice Try.underlying22 (hval 1 22 v1 rfl rfl)
  have k1 := h1
  have lt1 : ∀ x ∈ p1, x.block < W.heap.size := by obtain ⟨m, hm⟩ := k1; exact DataW.trod_lt m _ _ _ hm
  obtain ⟨l1, A1, D1⟩ := arg_of h1
  have s1 := arg_len hsz (j := 1) rfl rfl D1
  obtain ⟨a2, len2, cap2, rfl⟩ := okWide_slice Try.underlying22 (hval 2 22 v2 rfl rfl)
  have k2 := h2
  have lt2 : ∀ x ∈ p2, x.block < W.heap.size := by obtain ⟨m, hm⟩ := k2; exact DataW.trod_lt m _ _ _ hm
  obtain ⟨l2, A2, D2⟩ := arg_of h2
  have s2 := arg_len hsz (j := 2) rfl rfl D2
  clear hA0 hval0
  refine (walk _ _ _ l0 l1 l2 W A0 A1 A2 s0).mono fun e W' ⟨he, bel⟩ => ?_
  subst he
  exact ⟨_, rfl, _, _, _, [], _, [], hW', trodAll_mk1 (shut_bool Try.underlying4 _), (trodAll_cons_mk (Below.trod laidOut (by kernel_rfl) (of_decide_eq_true (by kernel_rfl)) k0 bel lt0) (trodAll_cons_mk (Below.trod laidOut (by kernel_rfl) (of_decide_eq_true (by kernel_rfl)) k1 bel lt1) (trodAll_cons_mk (Below.trod laidOut (by kernel_rfl) (of_decide_eq_true (by kernel_rfl)) k2 bel lt2) trodAll_mk0))), rfl, bel.frame _, fun h => by cases h⟩

theorem over : Rows.crcLinearRow.holds Try.pinned (OpenSpec.ofChange Rows.crcLinearSpec) :=
  OpenClaim.holds_of_wide 5 Try.f5 rfl rfl rfl rfl rfl rfl rfl ⟨rfl, rfl, rfl, rfl, rfl⟩ rfl rfl rfl rfl rfl (by kernel_rfl) Try.func5 (by kernel_rfl)
    (of_decide_eq_true (by kernel_rfl)) (by unfold Func.isWrapper; first | (rw [if_pos (by decide +kernel)]; kernel_rfl) | (rw [if_neg (by decide +kernel)]; exact ⟨rfl, rfl⟩))
    (fun os started H enc _ => lifted os started H enc)

end Go.Proofs.Ytcmiaapcnmcpmaa.crcLinear

namespace Go.Proofs.Ytcmiaapcnmcpmaa
theorem crcLinear_holds : Rows.CrcLinearSaid := crcLinear.over
#print axioms crcLinear_holds
end Go.Proofs.Ytcmiaapcnmcpmaa
