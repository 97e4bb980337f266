import Derived.Test.YtkpckadicjdieabGCBits
import Derived.Test.YtkpckadicjdieabZ7
/-
  What crc.Extend and crc.Sum answer: the mathematics' sum; for every octets and every sum to go on from, in every memory; what was in memory stays.
-/
namespace Go.Proofs.Ytkpckadicjdieab.C
open Go.RowKit

theorem not32 (c : Nat) (h : c < 4294967296) : bits .xor .u32 IntKind.u32.max (c : Int) = ((turned c : Nat) : Int) := by
  have := u32_xor_nat 4294967295 c (by decide) h
  unfold turned
  rw [Nat.xor_comm c]
  exact this

theorem and15 (r : Nat) (h : r < 4294967296) : bits .and .u32 (r : Int) 15 = ((r % 16 : Nat) : Int) := by
  have := u32_and_nat r 15 h (by decide)
  rw [show (15 : Nat) = 2 ^ 4 - 1 from rfl, Nat.and_two_pow_sub_one_eq_mod] at this
  exact this

theorem four_xor (r : Nat) (h : r < 4294967296) : bits .xor .u32 ((r / 16 : Nat) : Int) ((steps 4 (r % 16) : Nat) : Int) = ((steps 4 r : Nat) : Int) := by
  rw [u32_xor_nat _ _ (by omega) (steps_lt 4 _ (by omega)), steps_row 4 r]

theorem xor_oct (r : Nat) (x : Int) (h : r < 4294967296) (h0 : 0 ≤ x) (h1 : x ≤ 255) : bits .xor .u32 (r : Int) x = ((r ^^^ x.toNat : Nat) : Int) := by
  have := u32_xor_nat r x.toNat h (by omega)
  rw [Int.toNat_of_nonneg h0] at this
  exact this

theorem cell_tab {w : World} {g : Nat} (h : w.heap[g]? = some (.cells (tab 16) 152 (0, 0))) (i : Nat) (hi : i < 16) : w.cell? ⟨g, i, none⟩ = some (.int .u32 ((steps 4 i : Nat) : Int)) := by
  rw [cell_of_row w g i (tab 16) 152 (0, 0) h, tab_get _ _ hi, if_pos hi]

set_option maxHeartbeats 1000000 in
theorem ext_none (c : Nat) (hc : c < 4294967296) (a : Option Addr) (cap : Nat) (w : World) :
    Calls Try.prog 84 #[.int .u32 c, .slice a 0 cap] w fun e w' => e = .returned (.int .u32 (ext c [] : Nat)) ∧ Below w.heap.size w w' := by
  have hz := zero123.1
  have hn := not32 c hc
  have hn2 := not32 (turned c) (turned_lt c hc)
  rw [turned_turned] at hn2
  have HE : Hid (ext c [] = c) := ext_nil c
  go_enter Try.func84, Try.ntmps84
  go_wp2_with fail
  refine (four_any w).mono ?_
  rintro e w1 ⟨rfl, hb⟩
  go_wp2_with (refine wpList_store_row rfl 152 _ _ rfl w1.heap.size (tab 16) rfl rfl 152 (tab 0) (heap_alloc_new w1 _) (by rw [tab_size]; exact zero123.2) (by rw [tab_size, tab_size]) (tab_one 16) ?_; rw [World.setRow_alloc_new])
  refine wp_loop_rounds 1 ?_
  rw [rounds_succ]
  go_wp2
  go_ret
  exact ⟨by rw [HE.out]; rfl, hb.alloc hb.size _⟩

set_option maxHeartbeats 2000000 in
theorem ext_some (c : Nat) (hc : c < 4294967296) (b off n cap : Nat) (l : List Int) (hl : l.length = n) (w : World) (hm : n ≤ maxLen) (hat : At w b off l) (hr : Oct l) (hbW : b < w.heap.size) :
    Calls Try.prog 84 #[.int .u32 c, .slice (some ⟨b, off, none⟩) n cap] w fun e w' => e = .returned (.int .u32 (ext c l : Nat)) ∧ Below w.heap.size w w' := by
  unfold maxLen at hm
  have hz := zero123.1
  have hn := not32 c hc
  have HL : Hid (l.length = n) := hl
  have HC : Hid (At w b off l) := hat
  have HR : Hid (Oct l) := hr
  clear hl hat hr
  go_enter Try.func84, Try.ntmps84
  go_wp2_with fail
  refine (four_any w).mono ?_
  rintro e w1 ⟨rfl, hb⟩
  go_wp2_with (refine wpList_store_row rfl 152 _ _ rfl w1.heap.size (tab 16) rfl rfl 152 (tab 0) (heap_alloc_new w1 _) (by rw [tab_size]; exact zero123.2) (by rw [tab_size, tab_size]) (tab_one 16) ?_; rw [World.setRow_alloc_new])
  have HT : Hid (∀ i, i < 16 → (w1.alloc (.cells (tab 16) 152)).cell? ⟨w1.heap.size, i, none⟩ = some (.int .u32 ((steps 4 i : Nat) : Int))) := fun i hi => cell_tab (heap_alloc_new w1 _) i hi
  have HB : Hid (Below w.heap.size w (w1.alloc (.cells (tab 16) 152))) := hb.alloc hb.size _
  obtain ⟨g, hg⟩ : ∃ g, g = w1.heap.size := ⟨_, rfl⟩
  obtain ⟨W, hW⟩ : ∃ W, W = w1.alloc (.cells (tab 16) 152) := ⟨_, rfl⟩
  rw [← hW, ← hg] at HT
  rw [← hW] at HB ⊢
  rw [← hg]
  clear hW hg hb hz hn
  go_loopw [6, 14] (fun r i wr => ∃ j : Nat, j ≤ n ∧ i = .int .i64 j ∧ r = .int .u32 ((upd (turned c) (l.take j) : Nat) : Int) ∧ wr = W) (fun _ i _ => n - (intOf i).toNat)
  case atStart => exact ⟨0, Nat.zero_le _, rfl, rfl, rfl⟩
  case round =>
    obtain ⟨j, hj, rfl, rfl, rfl⟩ := hrel
    have hR : upd (turned c) (l.take j) < 4294967296 := upd_lt _ _ (turned_lt c hc) fun x hx => HR.out x (List.mem_of_mem_take hx)
    by_cases hlt : j < n
    · have hcell : wr.cell? ⟨b, off + j, none⟩ = some (.int .u8 (l.getD j 0)) := by
        rw [HB.out.cell (p := ⟨b, off + j, none⟩) hbW]; exact HC.out j (by rw [HL.out]; exact hlt)
      have hx := HR.out (l.getD j 0) (by
        have : j < l.length := by rw [HL.out]; exact hlt
        simp [List.getD, List.getElem?_eq_getElem this])
      have ht := upd_take (turned c) l j (by rw [HL.out]; exact hlt)
      obtain ⟨x, hxd⟩ : ∃ x, x = l.getD j 0 := ⟨_, rfl⟩
      rw [← hxd] at hcell hx ht
      obtain ⟨hx0, hx1⟩ := hx
      obtain ⟨R, hRd⟩ : ∃ R, R = upd (turned c) (l.take j) := ⟨_, rfl⟩
      rw [← hRd] at hR ht ⊢
      have hxo := xor_oct R x hR hx0 hx1
      have hS : R ^^^ x.toNat < 4294967296 := Nat.xor_lt_two_pow (n := 32) hR (by omega)
      obtain ⟨S, hSd⟩ : ∃ S, S = R ^^^ x.toNat := ⟨_, rfl⟩
      rw [← hSd] at hxo hS ht
      have HN : Hid (upd (turned c) (l.take (j + 1)) = steps 8 S) := ht
      clear ht hxd hRd hSd
      go_wp2
      go_loopw [6, 22] (fun r i w2 => ∃ k : Nat, k ≤ 2 ∧ i = .int .i64 k ∧ r = .int .u32 ((steps (4 * k) S : Nat) : Int) ∧ w2 = wr) (fun _ i _ => 2 - (intOf i).toNat)
      case atStart => exact ⟨0, by omega, rfl, rfl, rfl⟩
      case round =>
        obtain ⟨k, hk, rfl, rfl, rfl⟩ := hrel
        by_cases hlk : k < 2
        · have hQ : steps (4 * k) S < 4294967296 := steps_lt _ _ hS
          have HQ : Hid (steps 4 (steps (4 * k) S) = steps (4 * (k + 1)) S) := by
            show _ = _
            rw [← steps_add]
            rfl
          obtain ⟨Q, hQd⟩ : ∃ Q, Q = steps (4 * k) S := ⟨_, rfl⟩
          rw [← hQd] at hQ HQ ⊢
          have ha := and15 Q hQ
          have hf := four_xor Q hQ
          have hc2 := HT.out (Q % 16) (by omega)
          have hd : (Q : Int) / 16 = ((Q / 16 : Nat) : Int) := by omega
          obtain ⟨d, hdd⟩ : ∃ d, d = Q / 16 := ⟨_, rfl⟩
          obtain ⟨m, hmd⟩ : ∃ m, m = Q % 16 := ⟨_, rfl⟩
          obtain ⟨t, htd⟩ : ∃ t, t = steps 4 m := ⟨_, rfl⟩
          obtain ⟨u, hud⟩ : ∃ u, u = steps 4 Q := ⟨_, rfl⟩
          have hm16 : m < 16 := by omega
          have hm16i : (m : Int) < 16 := by omega
          have hki : (k : Int) < 2 := by omega
          rw [← hmd] at ha hc2 hf
          rw [← htd] at hf hc2
          rw [← hdd] at hd hf
          rw [← hud] at hf HQ
          clear hdd hmd htd hud hQd
          go_wp2
          go_roundw
          case rel => exact ⟨k + 1, by omega, by go_num, by rw [← HQ.out], trivial⟩
          case measure => simp [intOf]; omega
        · obtain rfl : k = 2 := by omega
          go_wp2
          go_roundw
          case rel => exact ⟨j + 1, by omega, by go_num, by rw [HN.out]; first | rfl | exact ⟨rfl, trivial⟩ | exact ⟨rfl, rfl⟩⟩
          case measure => simp [intOf]; omega
    · have hn2 := not32 _ hR
      have HX : Hid (upd (turned c) (l.take j) = upd (turned c) l) := by
        show _ = _
        rw [List.take_of_length_le (by rw [HL.out]; omega)]
      have HE : Hid (turned (upd (turned c) (l.take j)) = ext c l) := by
        show _ = _
        rw [HX.out]; rfl
      obtain ⟨E, hEd⟩ : ∃ E, E = turned (upd (turned c) (l.take j)) := ⟨_, rfl⟩
      rw [← hEd] at hn2 HE
      clear hEd HX
      go_wp2
      go_ret
      exact ⟨by rw [← HE.out]; rfl, HB.out⟩

theorem At.lt {w : World} {b off : Nat} {l : List Int} (h : At w b off l) (h0 : 0 < l.length) : b < w.heap.size := cell_lt (a := ⟨b, off + 0, none⟩) (h 0 h0)

theorem ext_any (c : Nat) (hc : c < 4294967296) (v : Value) (l : List Int) (w : World) (h : Arg w v l) :
    Calls Try.prog 84 #[.int .u32 c, v] w fun e w' => e = .returned (.int .u32 (ext c l : Nat)) ∧ Below w.heap.size w w' := by
  rcases h.split with ⟨rfl, a, cap, rfl⟩ | ⟨b, off, cap, rfl, hcap, hm, hat, hr⟩
  · exact ext_none c hc a cap w
  · by_cases h0 : l.length = 0
    · obtain rfl := List.eq_nil_of_length_eq_zero h0
      exact ext_none c hc _ cap w
    · exact ext_some c hc b off l.length cap l rfl w hm hat hr (hat.lt (by omega))

set_option maxHeartbeats 400000 in
theorem sum_any (v : Value) (l : List Int) (w : World) (h : Arg w v l) :
    Calls Try.prog 61 #[v] w fun e w' => e = .returned (.int .u32 (sum l : Nat)) ∧ Below w.heap.size w w' := by
  have HH : Hid (Calls Try.prog 84 #[.int .u32 0, v] w fun e w' => e = .returned (.int .u32 (sum l : Nat)) ∧ Below w.heap.size w w') := ext_any 0 (by decide) v l w h
  clear h
  go_enter Try.func61, Try.ntmps61
  go_wp2_with fail
  refine HH.out.mono ?_
  rintro e w1 ⟨rfl, hb⟩
  go_wp2
  go_ret
  exact ⟨rfl, hb⟩

end Go.Proofs.Ytkpckadicjdieab.C

/-
  A part of a slice that came in, as the walks ask for it: its octets are that part of the octets; how long a slice is.
-/
namespace Go.Proofs.Ytkpckadicjdieab.C
open Go.RowKit

theorem part_length (l : List Int) (i j : Nat) (hj : j ≤ l.length) : ((l.take j).drop i).length = j - i := by
  rw [List.length_drop, List.length_take, Nat.min_eq_left hj]

theorem Arg.sub {w : World} {a : Option Addr} {len cap : Nat} {l : List Int} (h : Arg w (.slice a len cap) l) (i j : Nat) (hij : i ≤ j) (hj : j ≤ l.length) : Arg w (sliced a i j cap 1) ((l.take j).drop i) := by
  rcases h with ⟨hv, rfl⟩ | ⟨x, c, hv, hcap, hm, hc, hr⟩
  · obtain ⟨rfl, rfl, rfl⟩ := Value.slice.inj hv
    obtain rfl : j = 0 := by simpa using hj
    obtain rfl : i = 0 := by omega
    exact .inl ⟨rfl, rfl⟩
  · obtain ⟨rfl, rfl, rfl⟩ := Value.slice.inj hv
    have hr' : ∀ y ∈ (l.take j).drop i, 0 ≤ y ∧ y ≤ 255 := fun y hy => hr y (List.mem_of_mem_take (List.mem_of_mem_drop hy))
    have hl := part_length l i j hj
    by_cases e : cap = i
    · refine .inr ⟨x, cap - i, ?_, by omega, by omega, fun k hk => by omega, hr'⟩
      unfold sliced
      rw [if_pos e, hl]
    · refine .inr ⟨x.add (i * 1), cap - i, ?_, by omega, by omega, fun k hk => ?_, hr'⟩
      · unfold sliced
        rw [if_neg e, hl]
        rfl
      · have h1 := hc (i + k) (by omega)
        obtain ⟨b, off, spot⟩ := x
        have h0 := hc 0 (by omega)
        have hspot : spot = none := by simpa [Addr.add] using World.cell?_spot h0
        subst hspot
        rw [add_plain] at h1
        rw [add_plain, add_plain, Nat.mul_one, Nat.add_assoc, h1]
        congr 2
        have : k < j - i := by omega
        simp only [List.getD_eq_getElem?_getD, List.getElem?_drop, List.getElem?_take]
        rw [if_pos (by omega)]

theorem Arg.shape {w : World} {v : Value} {l : List Int} (h : Arg w v l) : ∃ a cap, v = .slice a l.length cap ∧ l.length ≤ cap ∧ l.length ≤ maxLen := by
  rcases h with ⟨rfl, rfl⟩ | ⟨x, c, rfl, hcap, hm, hc, hr⟩
  · exact ⟨none, 0, rfl, Nat.le_refl _, by simp [maxLen]⟩
  · exact ⟨_, c, rfl, hcap, hm⟩

theorem Arg.len {w : World} {v : Value} {l : List Int} (h : Arg w v l) (W : World) : (Builtin.len_ #[46] 3 #[v]).run Try.prog W = .ok (.int .i64 l.length) W := by
  obtain ⟨a, cap, rfl, _, _⟩ := h.shape
  simp [Builtin.len_, run_underlying Try.underlying46, goInt]

theorem elem22 : Try.prog.underlying 46 = some (.slice (Try.prog.elem 46)) := by kernel_rfl
theorem elem22_is : Try.prog.elem 46 = 5 := by kernel_rfl
theorem size5 (W : World) : (sizeOf (Try.prog.elem 46)).run Try.prog W = .ok 1 W := by
  obtain ⟨i0, hi, hz0, hz1, hz2⟩ := info_parts Try.info5
  rw [elem22_is]
  simp [sizeOf, typeInfo, hi, hz1]

theorem Arg.cut {w : World} {v : Value} {l : List Int} (h : Arg w v l) (i j : Nat) (hij : i ≤ j) (hj : j ≤ l.length) :
    ∃ v', Arg w v' ((l.take j).drop i) ∧ ∀ W, (Instr.slice 46 v (some (.int .i64 i)) (some (.int .i64 j)) none).run Try.prog W = .ok v' W := by
  obtain ⟨a, cap, rfl, hcap, _⟩ := h.shape
  refine ⟨_, h.sub i j hij hj, fun W => ?_⟩
  rw [run_slice_lh W 46 a l.length cap elem22 .i64 .i64 i j (by omega) (by omega) (by omega), size5]
  simp [Result.andThen]

theorem Arg.ahead {w : World} {v : Value} {l : List Int} (h : Arg w v l) (j : Nat) (hj : j ≤ l.length) :
    ∃ v', Arg w v' (l.take j) ∧ ∀ W, (Instr.slice 46 v none (some (.int .i64 j)) none).run Try.prog W = .ok v' W := by
  obtain ⟨a, cap, rfl, hcap, _⟩ := h.shape
  refine ⟨_, by simpa using h.sub 0 j (by omega) hj, fun W => ?_⟩
  rw [run_slice_h W 46 a l.length cap elem22 .i64 j (by omega) (by omega), size5]
  simp [Result.andThen]

theorem Arg.behind {w : World} {v : Value} {l : List Int} (h : Arg w v l) (i : Nat) (hi : i ≤ l.length) :
    ∃ v', Arg w v' (l.drop i) ∧ ∀ W, (Instr.slice 46 v (some (.int .i64 i)) none none).run Try.prog W = .ok v' W := by
  obtain ⟨a, cap, rfl, hcap, _⟩ := h.shape
  refine ⟨_, by simpa using h.sub i l.length hi (Nat.le_refl _), fun W => ?_⟩
  rw [run_slice_l W 46 a l.length cap elem22 .i64 i (by omega) (by omega), size5]
  simp [Result.andThen]

end Go.Proofs.Ytkpckadicjdieab.C
