import Derived.Test.YthlfgpnabcplnaaDoorTf4
import Derived.Test.YthlfgpnabcplnaaDoorTf7
/-
  What crc.Extend and crc.Sum answer: the mathematics' sum; for every octets and every sum to go on from, in every memory; what was in memory stays.
-/
namespace Go.Proofs.YthlfgpnabcplnaaDoor.W.C
open Go.RowKit

theorem not32 (c : Nat) (h : c < 4294967296) : bits .xor .u32 IntKind.u32.max (c : Int) = ((turned c : Nat) : Int) := by
  have := u32_xor_nat 4294967295 c (by decide) h
  unfold turned
  rw [Nat.xor_comm c]
  exact this

theorem and15 (r : Nat) (h : r < 4294967296) : bits .and .u32 (r : Int) 15 = ((r % 16 : Nat) : Int) := by
  have := u32_and_nat r 15 h (by decide)
  rw [show (15 : Nat) = 2 ^ 4 - 1 from rfl, Nat.and_two_pow_sub_one_eq_mod] at this
  exact this

theorem four_xor (r : Nat) (h : r < 4294967296) : bits .xor .u32 ((r / 16 : Nat) : Int) ((steps 4 (r % 16) : Nat) : Int) = ((steps 4 r : Nat) : Int) := by
  rw [u32_xor_nat _ _ (by omega) (steps_lt 4 _ (by omega)), steps_row 4 r]

theorem xor_oct (r : Nat) (x : Int) (h : r < 4294967296) (h0 : 0 ≤ x) (h1 : x ≤ 255) : bits .xor .u32 (r : Int) x = ((r ^^^ x.toNat : Nat) : Int) := by
  have := u32_xor_nat r x.toNat h (by omega)
  rw [Int.toNat_of_nonneg h0] at this
  exact this

theorem cell_tab {w : World} {g : Nat} (h : w.heap[g]? = some (.cells (tab 16) 118 (0, 0))) (i : Nat) (hi : i < 16) : w.cell? ⟨g, i, none⟩ = some (.int .u32 ((steps 4 i : Nat) : Int)) := by
  rw [cell_of_row w g i (tab 16) 118 (0, 0) h, tab_get _ _ hi, if_pos hi]

set_option maxHeartbeats 1000000 in
theorem ext_none (c : Nat) (hc : c < 4294967296) (a : Option Addr) (cap : Nat) (w : World) :
    Calls Tryd.prog 59 #[.int .u32 c, .slice a 0 cap] w fun e w' => e = .returned (.int .u32 (ext c [] : Nat)) ∧ Below w.heap.size w w' := by
  have hz := zero123.1
  have hn := not32 c hc
  have hn2 := not32 (turned c) (turned_lt c hc)
  rw [turned_turned] at hn2
  have HE : Hid (ext c [] = c) := ext_nil c
  go_enter Tryd.func59, Tryd.ntmps59
  go_wp2_with fail
  refine (four_any w).mono ?_
  rintro e w1 ⟨rfl, hb⟩
  go_wp2_with (refine wpList_store_row rfl 118 _ _ rfl w1.heap.size (tab 16) rfl rfl 118 (tab 0) (heap_alloc_new w1 _) (by rw [tab_size]; exact zero123.2) (by rw [tab_size, tab_size]) (tab_one 16) ?_; rw [World.setRow_alloc_new])
  refine wp_loop_rounds 1 ?_
  rw [rounds_succ]
  go_wp2
  go_ret
  exact ⟨by rw [HE.out]; rfl, hb.alloc hb.size _⟩

set_option maxHeartbeats 2000000 in
theorem ext_some (c : Nat) (hc : c < 4294967296) (b off n cap : Nat) (l : List Int) (hl : l.length = n) (w : World) (hm : n ≤ maxLen) (hat : At w b off l) (hr : Oct l) (hbW : b < w.heap.size) :
    Calls Tryd.prog 59 #[.int .u32 c, .slice (some ⟨b, off, none⟩) n cap] w fun e w' => e = .returned (.int .u32 (ext c l : Nat)) ∧ Below w.heap.size w w' := by
  unfold maxLen at hm
  have hz := zero123.1
  have hn := not32 c hc
  have HL : Hid (l.length = n) := hl
  have HC : Hid (At w b off l) := hat
  have HR : Hid (Oct l) := hr
  clear hl hat hr
  go_enter Tryd.func59, Tryd.ntmps59
  go_wp2_with fail
  refine (four_any w).mono ?_
  rintro e w1 ⟨rfl, hb⟩
  go_wp2_with (refine wpList_store_row rfl 118 _ _ rfl w1.heap.size (tab 16) rfl rfl 118 (tab 0) (heap_alloc_new w1 _) (by rw [tab_size]; exact zero123.2) (by rw [tab_size, tab_size]) (tab_one 16) ?_; rw [World.setRow_alloc_new])
  have HT : Hid (∀ i, i < 16 → (w1.alloc (.cells (tab 16) 118)).cell? ⟨w1.heap.size, i, none⟩ = some (.int .u32 ((steps 4 i : Nat) : Int))) := fun i hi => cell_tab (heap_alloc_new w1 _) i hi
  have HB : Hid (Below w.heap.size w (w1.alloc (.cells (tab 16) 118))) := hb.alloc hb.size _
  obtain ⟨g, hg⟩ : ∃ g, g = w1.heap.size := ⟨_, rfl⟩
  obtain ⟨W, hW⟩ : ∃ W, W = w1.alloc (.cells (tab 16) 118) := ⟨_, rfl⟩
  rw [← hW, ← hg] at HT
  rw [← hW] at HB ⊢
  rw [← hg]
  clear hW hg hb hz hn
  go_loopw [6, 14] (fun r i wr => ∃ j : Nat, j ≤ n ∧ i = .int .i64 j ∧ r = .int .u32 ((upd (turned c) (l.take j) : Nat) : Int) ∧ wr = W) (fun _ i _ => n - (intOf i).toNat)
  case atStart => exact ⟨0, Nat.zero_le _, rfl, rfl, rfl⟩
  case round =>
    obtain ⟨j, hj, rfl, rfl, rfl⟩ := hrel
    have hR : upd (turned c) (l.take j) < 4294967296 := upd_lt _ _ (turned_lt c hc) fun x hx => HR.out x (List.mem_of_mem_take hx)
    by_cases hlt : j < n
    · have hcell : wr.cell? ⟨b, off + j, none⟩ = some (.int .u8 (l.getD j 0)) := by
        rw [HB.out.cell (p := ⟨b, off + j, none⟩) hbW]; exact HC.out j (by rw [HL.out]; exact hlt)
      have hx := HR.out (l.getD j 0) (by
        have : j < l.length := by rw [HL.out]; exact hlt
        simp [List.getD, List.getElem?_eq_getElem this])
      have ht := upd_take (turned c) l j (by rw [HL.out]; exact hlt)
      obtain ⟨x, hxd⟩ : ∃ x, x = l.getD j 0 := ⟨_, rfl⟩
      rw [← hxd] at hcell hx ht
      obtain ⟨hx0, hx1⟩ := hx
      obtain ⟨R, hRd⟩ : ∃ R, R = upd (turned c) (l.take j) := ⟨_, rfl⟩
      rw [← hRd] at hR ht ⊢
      have hxo := xor_oct R x hR hx0 hx1
      have hS : R ^^^ x.toNat < 4294967296 := Nat.xor_lt_two_pow (n := 32) hR (by omega)
      obtain ⟨S, hSd⟩ : ∃ S, S = R ^^^ x.toNat := ⟨_, rfl⟩
      rw [← hSd] at hxo hS ht
      have HN : Hid (upd (turned c) (l.take (j + 1)) = steps 8 S) := ht
      clear ht hxd hRd hSd
      go_wp2
      go_loopw [6, 22] (fun r i w2 => ∃ k : Nat, k ≤ 2 ∧ i = .int .i64 k ∧ r = .int .u32 ((steps (4 * k) S : Nat) : Int) ∧ w2 = wr) (fun _ i _ => 2 - (intOf i).toNat)
      case atStart => exact ⟨0, by omega, rfl, rfl, rfl⟩
      case round =>
        obtain ⟨k, hk, rfl, rfl, rfl⟩ := hrel
        by_cases hlk : k < 2
        · have hQ : steps (4 * k) S < 4294967296 := steps_lt _ _ hS
          have HQ : Hid (steps 4 (steps (4 * k) S) = steps (4 * (k + 1)) S) := by
            show _ = _
            rw [← steps_add]
            rfl
          obtain ⟨Q, hQd⟩ : ∃ Q, Q = steps (4 * k) S := ⟨_, rfl⟩
          rw [← hQd] at hQ HQ ⊢
          have ha := and15 Q hQ
          have hf := four_xor Q hQ
          have hc2 := HT.out (Q % 16) (by omega)
          have hd : (Q : Int) / 16 = ((Q / 16 : Nat) : Int) := by omega
          obtain ⟨d, hdd⟩ : ∃ d, d = Q / 16 := ⟨_, rfl⟩
          obtain ⟨m, hmd⟩ : ∃ m, m = Q % 16 := ⟨_, rfl⟩
          obtain ⟨t, htd⟩ : ∃ t, t = steps 4 m := ⟨_, rfl⟩
          obtain ⟨u, hud⟩ : ∃ u, u = steps 4 Q := ⟨_, rfl⟩
          have hm16 : m < 16 := by omega
          have hm16i : (m : Int) < 16 := by omega
          have hki : (k : Int) < 2 := by omega
          rw [← hmd] at ha hc2 hf
          rw [← htd] at hf hc2
          rw [← hdd] at hd hf
          rw [← hud] at hf HQ
          clear hdd hmd htd hud hQd
          go_wp2
          go_roundw
          case rel => exact ⟨k + 1, by omega, by go_num, by rw [← HQ.out], trivial⟩
          case measure => simp [intOf]; omega
        · obtain rfl : k = 2 := by omega
          go_wp2
          go_roundw
          case rel => exact ⟨j + 1, by omega, by go_num, by rw [HN.out]; first | rfl | exact ⟨rfl, trivial⟩ | exact ⟨rfl, rfl⟩⟩
          case measure => simp [intOf]; omega
    · have hn2 := not32 _ hR
      have HX : Hid (upd (turned c) (l.take j) = upd (turned c) l) := by
        show _ = _
        rw [List.take_of_length_le (by rw [HL.out]; omega)]
      have HE : Hid (turned (upd (turned c) (l.take j)) = ext c l) := by
        show _ = _
        rw [HX.out]; rfl
      obtain ⟨E, hEd⟩ : ∃ E, E = turned (upd (turned c) (l.take j)) := ⟨_, rfl⟩
      rw [← hEd] at hn2 HE
      clear hEd HX
      go_wp2
      go_ret
      exact ⟨by rw [← HE.out]; rfl, HB.out⟩

theorem At.lt {w : World} {b off : Nat} {l : List Int} (h : At w b off l) (h0 : 0 < l.length) : b < w.heap.size := cell_lt (a := ⟨b, off + 0, none⟩) (h 0 h0)

theorem ext_any (c : Nat) (hc : c < 4294967296) (v : Value) (l : List Int) (w : World) (h : Arg w v l) :
    Calls Tryd.prog 59 #[.int .u32 c, v] w fun e w' => e = .returned (.int .u32 (ext c l : Nat)) ∧ Below w.heap.size w w' := by
  rcases h.split with ⟨rfl, a, cap, rfl⟩ | ⟨b, off, cap, rfl, hcap, hm, hat, hr⟩
  · exact ext_none c hc a cap w
  · by_cases h0 : l.length = 0
    · obtain rfl := List.eq_nil_of_length_eq_zero h0
      exact ext_none c hc _ cap w
    · exact ext_some c hc b off l.length cap l rfl w hm hat hr (hat.lt (by omega))

set_option maxHeartbeats 400000 in
theorem sum_any (v : Value) (l : List Int) (w : World) (h : Arg w v l) :
    Calls Tryd.prog 50 #[v] w fun e w' => e = .returned (.int .u32 (sum l : Nat)) ∧ Below w.heap.size w w' := by
  have HH : Hid (Calls Tryd.prog 59 #[.int .u32 0, v] w fun e w' => e = .returned (.int .u32 (sum l : Nat)) ∧ Below w.heap.size w w') := ext_any 0 (by decide) v l w h
  clear h
  go_enter Tryd.func50, Tryd.ntmps50
  go_wp2_with fail
  refine HH.out.mono ?_
  rintro e w1 ⟨rfl, hb⟩
  go_wp2
  go_ret
  exact ⟨rfl, hb⟩

end Go.Proofs.YthlfgpnabcplnaaDoor.W.C

/-
  What laid answers: a sum's four octets, the lowest first, in a block of its own; what was in memory stays.
-/
namespace Go.Proofs.YthlfgpnabcplnaaDoor.W.C
open Go.RowKit

/-- The first k octets of a sum, the rest 0. -/
def lowp (s k : Nat) : List Int := (List.range 4).map fun i => if i < k then ((s / 256 ^ i % 256 : Nat) : Int) else 0
theorem lowp_full (s : Nat) : lowp s 4 = low s := by
  simp [lowp, low, List.range, List.range.loop]

set_option maxRecDepth 100000 in
set_option maxHeartbeats 1000000 in
theorem laid_any (s : Nat) (w : World) :
    Calls Tryd.prog 49 #[.int .u32 s] w fun e w' => e = .returned (.slice (some ⟨w.heap.size, 0, none⟩) 4 4) ∧ w'.ownsRow w.heap.size 5 1 (.slice (some ⟨w.heap.size, 0, none⟩) 4 4) 4 ((low s).map (Value.int .u8)) ∧ Below w.heap.size w w' := by
  obtain ⟨i0, hi, hz0, hz1, hz2⟩ := info_parts Tryd.info5
  go_enter Tryd.func49, Tryd.ntmps49
  go_wp2_with (at_make; refine wpList_make_full _ rfl _ _ 22 rfl w.heap.size 5 i0 (.int .u8 0) 1 Tryd.underlying22 hi hz0 hz1 _ _ _ _ 4 rfl rfl rfl rfl (by rw [hz2]; omega) (by unfold maxLen; omega) (Nat.le_refl _) ?_; intro w1 hown hgrow)
  have hb0 : Below w.heap.size w w1 := (Below.refl _ _).grown hgrow (Nat.le_refl _) (fun _ h => by cases h)
  have hown0 : w1.ownsRow w.heap.size 5 1 (.slice (some ⟨w.heap.size, 0, none⟩) 4 4) 4 ((lowp s 0).map (Value.int .u8)) := by
    have := toList_madeCells_one (.int .u8 0) 4
    rw [show (lowp s 0).map (Value.int .u8) = (madeCells (Value.int .u8 0).cells 4).toList from by rw [show (Value.int .u8 0).cells = #[.int .u8 0] from rfl, this]; rfl]
    exact hown
  clear hown hgrow
  go_loopw [6] (fun i wr => ∃ j : Nat, j ≤ 4 ∧ i = .int .i64 j ∧ wr.ownsRow w.heap.size 5 1 (.slice (some ⟨w.heap.size, 0, none⟩) 4 4) 4 ((lowp s j).map (Value.int .u8)) ∧ Below w.heap.size w wr) (fun i _ => 4 - (intOf i).toNat)
  case atStart => exact ⟨0, by omega, rfl, hown0, hb0⟩
  case round =>
    obtain ⟨j, hj, rfl, hown, hbel⟩ := hrel
    by_cases hlt : j < 4
    · have hf := hown.frozenAt j
      obtain ⟨old, hc⟩ : ∃ old, wr.cell? ⟨w.heap.size, j, none⟩ = some (.int .u8 old) := ⟨_, by
        rw [hown.cellAt j (by omega), List.getElem?_map, List.getElem?_eq_getElem (by simp [lowp]; omega)]; rfl⟩
      have hS := (hown.stored j (.int .u8 ((s : Int) / 2 ^ (8 * j) % 256))).1
      have HV : Hid ((s : Int) / 2 ^ (8 * j) % 256 = ((s / 256 ^ j % 256 : Nat) : Int)) := by
        show _ = _
        rw [show 256 ^ j = 2 ^ (8 * j) from by rw [Nat.pow_mul]]
        simp
      have HL : Hid (((lowp s j).map (Value.int .u8)).set j (.int .u8 ((s : Int) / 2 ^ (8 * j) % 256)) = (lowp s (j + 1)).map (Value.int .u8)) := by
        show _ = _
        rw [HV.out, ← List.map_set]
        congr 1
        rcases (by omega : j = 0 ∨ j = 1 ∨ j = 2 ∨ j = 3) with rfl | rfl | rfl | rfl <;> simp [lowp, List.range, List.range.loop]
      rw [HL.out] at hS
      have hji : (j : Int) < 4 := by omega
      clear hown HL HV
      go_wp2
      go_roundw
      case rel => exact ⟨j + 1, by omega, by go_num, hS, hbel.setCell (Nat.le_refl _) _⟩
      case measure => simp [intOf]; omega
    · obtain rfl : j = 4 := by omega
      rw [lowp_full] at hown
      go_wp2
      go_ret
      exact ⟨rfl, hown, hbel⟩

end Go.Proofs.YthlfgpnabcplnaaDoor.W.C
