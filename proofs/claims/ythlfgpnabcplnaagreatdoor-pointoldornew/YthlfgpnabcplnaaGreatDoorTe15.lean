import Derived.Test.YthlfgpnabcplnaaGreatDoorTe12
import Derived.Deep.QuietTactic
import Derived.BigQuiet
import Derived.Deep.Onto
/-
  What crc.Open answers: the octets that were sealed, or ErrShort, or ErrCorrupt; for every octets, in every memory, which stays; and that it is told by the register alone.
-/
namespace Go.Proofs.YthlfgpnabcplnaaGreatDoor.W.C
open Go.RowKit

/-- Which error Open tells, and which octets. -/
def oerr (l : List Int) : Int := if l.length < 4 then 8 else if low (sum (l.take (l.length - 4))) = l.drop (l.length - 4) then 0 else 21
def oout (l : List Int) : List Int := if l.length < 4 then [] else if low (sum (l.take (l.length - 4))) = l.drop (l.length - 4) then l.take (l.length - 4) else []

theorem take_oct {l : List Int} (h : Oct l) (k : Nat) : Oct (l.take k) := fun x hx => h x (List.mem_of_mem_take hx)
theorem drop_oct {l : List Int} (h : Oct l) (k : Nat) : Oct (l.drop k) := fun x hx => h x (List.mem_of_mem_drop hx)
theorem oout_oct {l : List Int} (h : Oct l) : Oct (oout l) := by
  unfold oout
  split
  · intro x hx; cases hx
  · split
    · exact take_oct h _
    · intro x hx; cases hx

theorem fits_rest (l : List Int) (h : Oct l) (h4 : 4 ≤ l.length) : low (sum (l.take (l.length - 4))) = l.drop (l.length - 4) ↔ upd full l = rest := by
  have := rest_of (l.take (l.length - 4)) (l.drop (l.length - 4)) (take_oct h _) (by rw [List.length_drop]; omega) (drop_oct h _)
  rw [List.take_append_drop] at this
  rw [this]
  exact ⟨fun h => h.symm, fun h => h.symm⟩

theorem sealed_rest (l : List Int) (h : Oct l) : upd full (sealed l) = rest := (rest_of l (low (sum l)) h (low_length _) (low_oct _)).2 rfl

theorem open_sealed (l : List Int) (h : Oct l) : oerr (sealed l) = 0 ∧ oout (sealed l) = l := by
  have hl := sealed_length l
  have hf := (fits_rest (sealed l) (sealed_oct l h) (by omega)).2 (sealed_rest l h)
  unfold oerr oout
  have hn4 : ¬ (sealed l).length < 4 := by omega
  rw [if_neg hn4, if_neg hn4, if_pos hf, if_pos hf]
  refine ⟨rfl, ?_⟩
  rw [hl, Nat.add_sub_cancel]
  unfold sealed
  rw [List.take_left]

theorem Arg.drewN {w : World} {v : Value} {l : List Int} (h : Arg w v l) (q : Nat) : Arg (w.drewN q) v l := by
  rcases h with h | ⟨x, cap, hv, hcap, hm, hc, hr⟩
  · exact .inl h
  · exact .inr ⟨x, cap, hv, hcap, hm, fun i hi => by simpa using hc i hi, hr⟩

set_option maxRecDepth 100000 in
set_option maxHeartbeats 1000000 in
theorem open_any (v : Value) (l : List Int) (w : World) (h : Arg w v l) (hs : l.length ≤ 140737488355328) :
    Calls Tryz.prog 89 #[v] w fun e w' => ∃ a cap, e = .returned (.tuple #[.slice a (oout l).length cap, .int .i64 (oerr l)]) ∧
      w'.ownsRow w.heap.size 5 1 (.slice a (oout l).length cap) (oout l).length ((oout l).map (Value.int .u8)) ∧ Below w.heap.size w w' := by
  have HV : Hid (Arg w v l) := h
  have HO : Hid (Oct l) := h.bytes.2.2
  have hlen := fun W => h.len W
  obtain ⟨n, hn⟩ : ∃ n, n = l.length := ⟨_, rfl⟩
  rw [← hn] at hlen
  by_cases h4 : n < 4
  · have HE : Hid (oerr l = 8 ∧ oout l = []) := by
      show _ ∧ _
      unfold oerr oout
      rw [← hn, if_pos h4, if_pos h4]
      exact ⟨rfl, rfl⟩
    have h4i : (n : Int) < 4 := by omega
    clear h hn hs
    go_enter Tryz.func89, Tryz.ntmps89
    go_wp2
    go_ret2
    refine ⟨none, 0, by rw [HE.out.1, HE.out.2]; rfl, ?_, Below.refl _ _⟩
    rw [HE.out.2]
    exact World.ownsRow_nil _ _ _ _
  · obtain ⟨v1, hA1, hcut1⟩ := h.ahead (l.length - 4) (by omega)
    obtain ⟨v2, hA2, hcut2⟩ := h.behind (l.length - 4) (by omega)
    obtain ⟨m, hm⟩ : ∃ m, m = l.length - 4 := ⟨_, rfl⟩
    rw [← hm] at hcut1 hcut2 hA1 hA2
    have hmn : (m : Int) = (n : Int) - 4 := by omega
    rw [hmn] at hcut1 hcut2
    have HA1 : Hid (Arg w v1 (l.take m)) := hA1
    have HA2 : Hid (Arg w v2 (l.drop m)) := hA2
    have HE : Hid (oerr l = (if low (sum (l.take m)) = l.drop m then 0 else 21) ∧ oout l = if low (sum (l.take m)) = l.drop m then l.take m else []) := by
      show _ ∧ _
      unfold oerr oout
      have hn4 : ¬ l.length < 4 := by omega
      rw [if_neg hn4, if_neg hn4, ← hm]
      exact ⟨rfl, rfl⟩
    have HM : Hid ((l.take m).length ≤ 140737488355328) := by
      show _ ≤ _
      rw [List.length_take]; omega
    have h4i : ¬ (n : Int) < 4 := by omega
    have hn0 : (0 : Int) ≤ (n : Int) - 4 := by omega
    have hn1 : (n : Int) ≤ 140737488355328 := by omega
    clear h hn hs hA1 hA2 hm hmn
    go_enter Tryz.func89, Tryz.ntmps89
    go_wp2
    go_quiet (fail)
    go_wp2_with fail
    obtain ⟨W, hW⟩ : ∃ W, W = w.drewN nq := ⟨_, rfl⟩
    have HW1 : Hid (Arg W v1 (l.take m)) := by show Arg W v1 _; rw [hW]; exact HA1.out.drewN nq
    have HW2 : Hid (Arg W v2 (l.drop m)) := by show Arg W v2 _; rw [hW]; exact HA2.out.drewN nq
    have hbW : Below w.heap.size w W := by rw [hW]; exact below_drewN (Below.refl _ _) nq
    have HWs : Hid (W.heap.size = w.heap.size) := by show _ = _; rw [hW]; simp
    rw [← hW]
    clear hW
    refine (sum_any v1 _ W HW1.out).mono ?_
    rintro e w1 ⟨rfl, hb1⟩
    go_wp2_with fail
    refine (laid_any _ w1).mono ?_
    rintro e w2 ⟨rfl, hown2, hb2⟩
    have hbW2 := below_any hb1 hb2
    have HX : Hid (Bytes w2 (.slice (some ⟨w1.heap.size, 0, none⟩) 4 4) (low (sum (l.take m)))) := Bytes.own (base := w1.heap.size) hown2 (low_oct _)
    have HY : Hid (Bytes w2 v2 (l.drop m)) := (HW2.out.below hbW2).bytes
    have HZ : Hid (Arg w2 v1 (l.take m)) := HW1.out.below hbW2
    have hb02 := below_any hbW hbW2
    clear hown2 hb1 hb2 hbW2
    go_wp2_with fail
    refine (equal_any _ _ _ _ w2 HX.out HY.out).mono ?_
    by_cases hq : low (sum (l.take m)) = l.drop m
    · have hE := HE.out
      rw [if_pos hq, if_pos hq] at hE
      have HE2 : Hid (oerr l = 0 ∧ oout l = l.take m) := hE
      rw [decide_eq_true hq]
      rintro e w3 ⟨rfl, rfl⟩
      clear hE HE hq
      go_wp2_with fail
      refine (clone_any v1 _ w2 HZ.out HM.out).mono ?_
      rintro e w3 ⟨⟨v3, rfl, hown3⟩, hb3⟩
      obtain ⟨a3, c3, rfl⟩ := own_shape hown3
      have hb03 := below_any hb02 hb3
      have hown3' := hown3.mono hb02.size
      clear hown3
      go_wp2
      go_ret2
      refine ⟨a3, c3, by rw [HE2.out.1, HE2.out.2, List.length_take]; rfl, ?_, hb03⟩
      rw [HE2.out.2]
      exact hown3'
    · have hE := HE.out
      rw [if_neg hq, if_neg hq] at hE
      have HE2 : Hid (oerr l = 21 ∧ oout l = []) := hE
      rw [decide_eq_false hq]
      rintro e w3 ⟨rfl, rfl⟩
      clear hE HE hq
      go_wp2
      go_ret2
      refine ⟨none, 0, by rw [HE2.out.1, HE2.out.2]; rfl, ?_, hb02⟩
      rw [HE2.out.2]
      exact World.ownsRow_nil _ _ _ _

end Go.Proofs.YthlfgpnabcplnaaGreatDoor.W.C

/-
  What the document's own answers are for Extend, Sum, Seal and Open: the same as the program's; for every octets, in every memory, which stays.
-/
namespace Go.Proofs.YthlfgpnabcplnaaGreatDoor.W.C
open Go.RowKit

set_option maxRecDepth 100000 in
set_option maxHeartbeats 400000 in
theorem rext_none (c : Nat) (hc : c < 4294967296) (a : Option Addr) (cap : Nat) (w : World) :
    Calls Tryz.prog 96 #[.int .u32 c, .slice a 0 cap] w fun e w' => e = .returned (.int .u32 (ext c [] : Nat)) ∧ w = w' := by
  have hn := not32 c hc
  have hn2 := not32 (turned c) (turned_lt c hc)
  rw [turned_turned] at hn2
  have HE : Hid (ext c [] = c) := ext_nil c
  go_enter Tryz.func96, Tryz.ntmps96
  go_wp2
  refine wp_loop_rounds 1 ?_
  rw [rounds_succ]
  go_wp2
  go_ret
  exact ⟨by rw [HE.out]; rfl, rfl⟩

set_option maxRecDepth 100000 in
set_option maxHeartbeats 2000000 in
theorem rext_some (c : Nat) (hc : c < 4294967296) (b off n cap : Nat) (l : List Int) (hl : l.length = n) (w : World) (hm : n ≤ maxLen) (hat : At w b off l) (hr : Oct l) :
    Calls Tryz.prog 96 #[.int .u32 c, .slice (some ⟨b, off, none⟩) n cap] w fun e w' => e = .returned (.int .u32 (ext c l : Nat)) ∧ w = w' := by
  unfold maxLen at hm
  have hn := not32 c hc
  have HL : Hid (l.length = n) := hl
  have HC : Hid (At w b off l) := hat
  have HR : Hid (Oct l) := hr
  clear hl hat hr
  go_enter Tryz.func96, Tryz.ntmps96
  go_wp2
  go_loop [0, 5] (fun r i => ∃ j : Nat, j ≤ n ∧ i = .int .i64 j ∧ r = .int .u32 ((upd (turned c) (l.take j) : Nat) : Int)) (fun _ i => n - (intOf i).toNat)
  case atStart => exact ⟨0, Nat.zero_le _, rfl, rfl⟩
  case round =>
    obtain ⟨j, hj, rfl, rfl⟩ := hrel
    have hR : upd (turned c) (l.take j) < 4294967296 := upd_lt _ _ (turned_lt c hc) fun x hx => HR.out x (List.mem_of_mem_take hx)
    by_cases hlt : j < n
    · have hcell : w.cell? ⟨b, off + j, none⟩ = some (.int .u8 (l.getD j 0)) := HC.out j (by rw [HL.out]; exact hlt)
      have hx := HR.out (l.getD j 0) (by
        have : j < l.length := by rw [HL.out]; exact hlt
        simp [List.getD, List.getElem?_eq_getElem this])
      have ht := upd_take (turned c) l j (by rw [HL.out]; exact hlt)
      obtain ⟨x, hxd⟩ : ∃ x, x = l.getD j 0 := ⟨_, rfl⟩
      rw [← hxd] at hcell hx ht
      obtain ⟨hx0, hx1⟩ := hx
      obtain ⟨R, hRd⟩ : ∃ R, R = upd (turned c) (l.take j) := ⟨_, rfl⟩
      rw [← hRd] at hR ht ⊢
      have hxo := xor_oct R x hR hx0 hx1
      have hS : R ^^^ x.toNat < 4294967296 := Nat.xor_lt_two_pow (n := 32) hR (by omega)
      obtain ⟨S, hSd⟩ : ∃ S, S = R ^^^ x.toNat := ⟨_, rfl⟩
      rw [← hSd] at hxo hS ht
      have HN : Hid (upd (turned c) (l.take (j + 1)) = steps 8 S) := ht
      clear ht hxd hRd hSd hn
      go_wp2
      go_loop [0, 6] (fun r i => ∃ k : Nat, k ≤ 8 ∧ i = .int .i64 k ∧ r = .int .u32 ((steps k S : Nat) : Int)) (fun _ i => 8 - (intOf i).toNat)
      case atStart => exact ⟨0, by omega, rfl, rfl⟩
      case round =>
        obtain ⟨k, hk, rfl, rfl⟩ := hrel
        by_cases hlk : k < 8
        · have hQ : steps k S < 4294967296 := steps_lt _ _ hS
          have HQ : Hid (step (steps k S) = steps (k + 1) S) := steps_end k S
          obtain ⟨Q, hQd⟩ : ∃ Q, Q = steps k S := ⟨_, rfl⟩
          rw [← hQd] at hQ HQ ⊢
          obtain ⟨m, hm2⟩ : ∃ m, m = Q / 2 := ⟨_, rfl⟩
          have h2 : (Q : Int) / 2 = (m : Int) := by omega
          have h1 := and1 Q hQ
          obtain ⟨y, hy⟩ : ∃ y, y = m ^^^ 3988292384 := ⟨_, rfl⟩
          have h3 : bits .xor .u32 (m : Int) 3988292384 = (y : Int) := by rw [hy]; exact xorp m (by omega)
          have hki : (k : Int) < 8 := by omega
          rcases Nat.mod_two_eq_zero_or_one Q with e | e
          · have HS : Hid (m = steps (k + 1) S) := by show _ = _; rw [← HQ.out]; unfold step; rw [if_neg (by omega), hm2]
            have h1' : bits .and .u32 (Q : Int) 1 = 0 := by rw [h1, e]; rfl
            clear h1 h3 e hm2 hy hQd
            go_wp2
            go_round
            case rel => exact ⟨k + 1, by omega, by go_num, by rw [← HS.out]⟩
            case measure => simp [intOf]; omega
          · have HS : Hid (y = steps (k + 1) S) := by show _ = _; rw [← HQ.out]; unfold step; rw [if_pos e, hy, hm2]
            have h1' : bits .and .u32 (Q : Int) 1 = 1 := by rw [h1, e]; rfl
            clear h1 e hm2 hy hQd
            go_wp2
            go_round
            case rel => exact ⟨k + 1, by omega, by go_num, by rw [← HS.out]⟩
            case measure => simp [intOf]; omega
        · obtain rfl : k = 8 := by omega
          go_wp2
          go_round
          case rel => exact ⟨j + 1, by omega, by go_num, by rw [HN.out]⟩
          case measure => simp [intOf]; omega
    · have hn2 := not32 _ hR
      have HX : Hid (upd (turned c) (l.take j) = upd (turned c) l) := by
        show _ = _
        rw [List.take_of_length_le (by rw [HL.out]; omega)]
      have HE : Hid (turned (upd (turned c) (l.take j)) = ext c l) := by
        show _ = _
        rw [HX.out]; rfl
      obtain ⟨E, hEd⟩ : ∃ E, E = turned (upd (turned c) (l.take j)) := ⟨_, rfl⟩
      rw [← hEd] at hn2 HE
      clear hEd HX
      go_wp2
      go_ret
      exact ⟨by rw [← HE.out]; rfl, rfl⟩

theorem rext_any (c : Nat) (hc : c < 4294967296) (v : Value) (l : List Int) (w : World) (h : Arg w v l) :
    Calls Tryz.prog 96 #[.int .u32 c, v] w fun e w' => e = .returned (.int .u32 (ext c l : Nat)) ∧ w = w' := by
  rcases h.split with ⟨rfl, a, cap, rfl⟩ | ⟨b, off, cap, rfl, hcap, hm, hat, hr⟩
  · exact rext_none c hc a cap w
  · exact rext_some c hc b off l.length cap l rfl w hm hat hr

set_option maxRecDepth 100000 in
set_option maxHeartbeats 400000 in
theorem rsum_any (v : Value) (l : List Int) (w : World) (h : Arg w v l) :
    Calls Tryz.prog 88 #[v] w fun e w' => e = .returned (.int .u32 (sum l : Nat)) ∧ w = w' := by
  have HH : Hid (Calls Tryz.prog 96 #[.int .u32 0, v] w fun e w' => e = .returned (.int .u32 (sum l : Nat)) ∧ w = w') := rext_any 0 (by decide) v l w h
  clear h
  go_enter Tryz.func88, Tryz.ntmps88
  go_wp2_with fail
  refine HH.out.mono ?_
  rintro e w1 ⟨rfl, rfl⟩
  go_wp2
  go_ret
  exact ⟨rfl, rfl⟩

set_option maxRecDepth 100000 in
set_option maxHeartbeats 400000 in
theorem rlow_any (s : Nat) (w : World) :
    Calls Tryz.prog 87 #[.int .u32 s] w fun e w' => e = .returned (.slice (some ⟨w.heap.size, 0, none⟩) 4 4) ∧ w'.ownsRow w.heap.size 5 1 (.slice (some ⟨w.heap.size, 0, none⟩) 4 4) 4 ((low s).map (Value.int .u8)) ∧ Below w.heap.size w w' := by
  go_enter Tryz.func87, Tryz.ntmps87
  go_wp2
  go_ret
  refine ⟨rfl, ?_, (Below.refl _ _).alloc (Nat.le_refl _) _⟩
  have := World.ownsRow_lit w (base := w.heap.size) (e := 5) (size := 1) ((low s).map (Value.int .u8)).toArray 4 (Nat.le_refl _) (by unfold maxLen; omega) (by simp [low_length])
  simpa [low] using this

set_option maxRecDepth 100000 in
set_option maxHeartbeats 400000 in
theorem copied_any (v : Value) (l : List Int) (w : World) (h : Arg w v l) (hs : l.length ≤ 140737488355328) :
    Calls Tryz.prog 59 #[v] w fun e w' => (∃ v', e = .returned v' ∧ w'.ownsRow w.heap.size 5 1 v' l.length (l.map (Value.int .u8))) ∧ Below w.heap.size w w' := by
  obtain ⟨i0, hi, hz0, hz1, hz2⟩ := info_parts Tryz.info5
  rcases h with ⟨rfl, rfl⟩ | ⟨x, cap, rfl, hcap, hm, hc, hr⟩
  · go_enter Tryz.func59, Tryz.ntmps59
    go_wp2_with (at_builtin; refine wpList_append_own_none rfl _ _ 22 rfl w.heap.size 5 i0 1 Tryz.underlying22 hi (.slice none 0 0) 0 [] rfl (World.ownsRow_nil _ _ _ _) rfl ?_)
    go_ret
    exact ⟨⟨_, rfl, World.ownsRow_nil _ _ _ _⟩, Below.refl _ _⟩
  · have hnews : ∀ j u, (l.map (Value.int .u8))[j]? = some u → w.cell? (x.add j) = some u := fun j u hj => by
      have hjl : j < l.length := by
        rcases Nat.lt_or_ge j l.length with c | c
        · exact c
        · rw [List.getElem?_eq_none (by simpa using c)] at hj; cases hj
      rw [hc j hjl]
      rw [List.getElem?_map, List.getElem?_eq_getElem hjl] at hj
      simpa [List.getElem?_eq_getElem hjl] using hj
    clear hc hr
    go_enter Tryz.func59, Tryz.ntmps59
    go_wp2_with (at_builtin; refine wpList_append_own _ rfl _ _ 22 rfl w.heap.size 5 i0 (.int .u8 0) 1 1 Tryz.underlying22 hi hz0 hz1 hz2 rfl (by decide) (.slice none 0 0) 0 [] rfl (World.ownsRow_nil _ _ _ _) x l.length cap (l.map (Value.int .u8)) rfl (by simp) hnews (one_cells l) (by omega) (by omega) (Nat.le_refl _) ?_)
    intro v' w1 hown hgrow _
    have hb : Below w.heap.size w w1 := (Below.refl _ _).grown hgrow (Nat.le_refl _) (fun _ h => by cases h)
    clear hgrow hnews
    go_wp2
    go_ret
    exact ⟨⟨v', rfl, by simpa using hown⟩, hb⟩

set_option maxRecDepth 100000 in
set_option maxHeartbeats 1000000 in
theorem rseal_any (v : Value) (l : List Int) (w : World) (h : Arg w v l) (hs : l.length ≤ 140737488351232) :
    Calls Tryz.prog 69 #[v] w fun e w' => (∃ v', e = .returned v' ∧ w'.ownsRow w.heap.size 5 1 v' (l.length + 4) ((sealed l).map (Value.int .u8))) ∧ Below w.heap.size w w' := by
  obtain ⟨i0, hi, hz0, hz1, hz2⟩ := info_parts Tryz.info5
  have HV : Hid (Arg w v l) := h
  obtain ⟨n, hn⟩ : ∃ n, n = l.length := ⟨_, rfl⟩
  have HL : Hid (n = l.length) := hn
  have hn1 : n ≤ 140737488351232 := by omega
  clear h hn hs
  go_enter Tryz.func69, Tryz.ntmps69
  go_wp2_with fail
  refine (copied_any v l w HV.out (by have := HL.out; omega)).mono ?_
  rintro e w1 ⟨⟨v1, rfl, hown1⟩, hb1⟩
  rw [← HL.out] at hown1
  have HO1 : Hid (w1.ownsRow w.heap.size 5 1 v1 n (l.map (Value.int .u8))) := hown1
  clear hown1
  go_wp2_with fail
  refine (rsum_any v l w1 (HV.out.below hb1)).mono ?_
  rintro e w2 ⟨rfl, rfl⟩
  go_wp2_with fail
  refine (rlow_any _ w1).mono ?_
  rintro e w3 ⟨rfl, hown3, hb3⟩
  have hb03 := below_any hb1 hb3
  have hown13 := own_below HO1.out hb3
  have hcells : ∀ j u, ((low (sum l)).map (Value.int .u8))[j]? = some u → w3.cell? ((⟨w1.heap.size, 0, none⟩ : Addr).add j) = some u := hown3.cells rfl
  clear hown3 HO1
  go_wp2_with (at_builtin; refine wpList_append_own _ rfl _ _ 22 rfl w.heap.size 5 i0 (.int .u8 0) 1 1 Tryz.underlying22 hi hz0 hz1 hz2 rfl (by decide) v1 n (l.map (Value.int .u8)) rfl hown13 ⟨w1.heap.size, 0, none⟩ 4 4 ((low (sum l)).map (Value.int .u8)) rfl (by simp [low_length]) hcells (one_cells _) (by unfold maxLen; omega) (by omega) hb03.size ?_; intro v' w4 hown4 hgrow4 _)
  have hb04 : Below w.heap.size w w4 := hb03.grown hgrow4 hb03.size (fun k h => (hown13.lt k h).1)
  rw [← List.map_append] at hown4
  rw [← HL.out]
  clear hgrow4 hcells hown13
  go_wp2
  go_ret
  exact ⟨⟨v', rfl, hown4⟩, hb04⟩

end Go.Proofs.YthlfgpnabcplnaaGreatDoor.W.C

/-
  What the document's own answer for Open is: the same as the program's; for every octets, in every memory, which stays.
-/
namespace Go.Proofs.YthlfgpnabcplnaaGreatDoor.W.C
open Go.RowKit

set_option maxRecDepth 100000 in
set_option maxHeartbeats 1000000 in
theorem ropen_short (v : Value) (l : List Int) (w : World) (h : Arg w v l) (h4 : l.length < 4) :
    Calls Tryz.prog 73 #[v] w fun e w' => e = .returned (.tuple #[.slice none 0 0, .int .i64 8]) ∧ w = w' := by
  have hlen := fun W => h.len W
  obtain ⟨n, hn⟩ : ∃ n, n = l.length := ⟨_, rfl⟩
  rw [← hn] at hlen h4
  have h4i : (n : Int) < 4 := by omega
  clear h hn
  go_enter Tryz.func73, Tryz.ntmps73
  go_wp2
  go_ret2
  exact ⟨rfl, rfl⟩

theorem four_same (s m : Nat) (l : List Int) (hl : l.length = m + 4) : low s = l.drop m ↔ ∀ k, k < 4 → l.getD (m + k) 0 = (low s).getD k 0 := by
  constructor
  · intro h k hk
    rw [h]
    simp [List.getD]
  · intro h
    refine List.ext_getElem (by rw [low_length, List.length_drop]; omega) fun k h1 h2 => ?_
    have hk : k < 4 := by rw [low_length] at h1; exact h1
    have := h k hk
    have h3 : m + k < l.length := by omega
    simp only [List.getD, List.getElem?_eq_getElem h1, List.getElem?_eq_getElem h3, Option.getD_some] at this
    rw [List.getElem_drop]
    exact this.symm

set_option maxRecDepth 100000 in
set_option maxHeartbeats 1000000 in
theorem ropen_some (b off m cap : Nat) (l : List Int) (hl : l.length = m + 4) (w : World) (hs : l.length ≤ 140737488351232) (hcap : l.length ≤ cap) (hat : At w b off l) (hr : Oct l) :
    Calls Tryz.prog 73 #[.slice (some ⟨b, off, none⟩) (m + 4) cap] w fun e w' => ∃ a c, e = .returned (.tuple #[.slice a (oout l).length c, .int .i64 (oerr l)]) ∧
      w'.ownsRow w.heap.size 5 1 (.slice a (oout l).length c) (oout l).length ((oout l).map (Value.int .u8)) ∧ Below w.heap.size w w' := by
  have HL : Hid (l.length = m + 4) := hl
  have HC : Hid (At w b off l) := hat
  have HR : Hid (Oct l) := hr
  have hbW : b < w.heap.size := hat.lt (by omega)
  have HA : Hid (Arg w (.slice (some ⟨b, off, none⟩) m cap) (l.take m)) := by
    have : (l.take m).length = m := by rw [List.length_take]; omega
    refine .inr ⟨_, cap, by rw [this], by omega, by unfold maxLen; omega, fun i hi => ?_, take_oct hr m⟩
    rw [add_plain, hat i (by omega)]
    have : i < m := by omega
    simp [this]
  have HE : Hid (oerr l = (if low (sum (l.take m)) = l.drop m then 0 else 21) ∧ oout l = if low (sum (l.take m)) = l.drop m then l.take m else []) := by
    show _ ∧ _
    unfold oerr oout
    have hn4 : ¬ l.length < 4 := by omega
    rw [if_neg hn4, if_neg hn4, show l.length - 4 = m from by omega]
    exact ⟨rfl, rfl⟩
  have hm1 : m ≤ 140737488351232 := by omega
  have hcm : m + 4 ≤ cap := by omega
  clear hl hs hcap hat hr
  go_enter Tryz.func73, Tryz.ntmps73
  go_wp2_with fail
  refine (rsum_any _ _ w HA.out).mono ?_
  rintro e w0 ⟨rfl, rfl⟩
  obtain ⟨S, hS⟩ : ∃ S, S = sum (l.take m) := ⟨_, rfl⟩
  rw [← hS] at HE ⊢
  clear hS
  go_wp2_with fail
  refine (rlow_any S w).mono ?_
  rintro e w1 ⟨rfl, hown1, hb1⟩
  have HF : Hid (low S = l.drop m ↔ ∀ k, k < 4 → l.getD (m + k) 0 = (low S).getD k 0) := four_same S m l HL.out
  have HC1 : Hid (∀ k, k < 4 → w1.cell? ⟨w.heap.size, k, none⟩ = some (.int .u8 ((low S).getD k 0))) := fun k hk => by
    rw [hown1.cellAt k (by omega), List.getElem?_map, List.getElem?_eq_getElem (by rw [low_length]; exact hk)]
    simp [List.getD, List.getElem?_eq_getElem (show k < (low S).length by rw [low_length]; exact hk)]
  have HC2 : Hid (∀ k, k < 4 → w1.cell? ⟨b, off + (m + k), none⟩ = some (.int .u8 (l.getD (m + k) 0))) := fun k hk => by
    rw [hb1.cell (p := ⟨b, off + (m + k), none⟩) hbW]; exact HC.out (m + k) (by rw [HL.out]; omega)
  clear hown1
  go_wp2
  go_loopw [6] (fun i wr => ∃ j : Nat, j ≤ 4 ∧ i = .int .i64 j ∧ Hid (∀ k, k < j → l.getD (m + k) 0 = (low S).getD k 0) ∧ ∃ q, wr = w1.drewN q) (fun i _ => 4 - (intOf i).toNat)
  case atStart => exact ⟨0, by omega, rfl, fun k h => by omega, 0, rfl⟩
  case round =>
    obtain ⟨j, hj, rfl, HJ, q, rfl⟩ := hrel
    by_cases hlt : j < 4
    · have hc1 : (w1.drewN q).cell? ⟨w.heap.size, j, none⟩ = some (.int .u8 ((low S).getD j 0)) := by simpa using HC1.out j hlt
      have hc2 : (w1.drewN q).cell? ⟨b, off + (m + j), none⟩ = some (.int .u8 (l.getD (m + j) 0)) := by simpa using HC2.out j hlt
      obtain ⟨x, hx⟩ : ∃ x, x = l.getD (m + j) 0 := ⟨_, rfl⟩
      obtain ⟨y, hy⟩ : ∃ y, y = (low S).getD j 0 := ⟨_, rfl⟩
      rw [← hx] at hc2
      rw [← hy] at hc1
      have HX : Hid (x = l.getD (m + j) 0) := hx
      have HY : Hid (y = (low S).getD j 0) := hy
      have hji : (j : Int) < 4 := by omega
      have hmji : (m : Int) + (j : Int) < (m : Int) + 4 := by omega
      have hw1 : IntKind.i64.wrap ((m : Int) + (j : Int)) = (m : Int) + (j : Int) := by rw [IntKind.wrap_i64]; omega
      have hbq : Below w.heap.size w (w1.drewN q) := below_drewN hb1 q
      obtain ⟨Wq, hWq⟩ : ∃ Wq, Wq = w1.drewN q := ⟨_, rfl⟩
      have HWQ : Hid (∀ r, Wq.drewN r = w1.drewN (q + r)) := fun r => by rw [hWq]; simp [World.drewN, Nat.add_assoc]
      rw [← hWq] at hc1 hc2 hbq ⊢
      clear hx hy hWq
      go_wp2
      go_quiet (fail)
      by_cases hxy : x = y
      · have hne : (x != y) = false := by simp [hxy]
        have HJ2 : Hid (∀ k, k < j + 1 → l.getD (m + k) 0 = (low S).getD k 0) := fun k hk => by
          rcases Nat.lt_succ_iff_lt_or_eq.1 hk with g | g
          · exact HJ.out k g
          · rw [g, ← HX.out, ← HY.out, hxy]
        clear hc1 hc2 hw1 hmji hxy
        go_wp2
        go_roundw
        case rel => exact ⟨j + 1, by omega, by go_num, HJ2, q + nq, HWQ.out nq⟩
        case measure => simp [intOf]; omega
      · have hne : (x != y) = true := by simp [hxy]
        have hq : ¬ low S = l.drop m := fun h => hxy (by rw [HX.out, HY.out]; exact HF.out.1 h j hlt)
        have hE := HE.out
        rw [if_neg hq, if_neg hq] at hE
        have HE2 : Hid (oerr l = 21 ∧ oout l = []) := hE
        have hbq2 : Below w.heap.size w (Wq.drewN nq) := below_drewN hbq nq
        clear hc1 hc2 hw1 hmji hxy hE hq
        go_wp2
        go_ret2
        refine ⟨none, 0, by rw [HE2.out.1, HE2.out.2]; rfl, ?_, hbq2⟩
        rw [HE2.out.2]
        exact World.ownsRow_nil _ _ _ _
    · obtain rfl : j = 4 := by omega
      have hq : low S = l.drop m := HF.out.2 HJ.out
      have hE := HE.out
      rw [if_pos hq, if_pos hq] at hE
      have HE2 : Hid (oerr l = 0 ∧ oout l = l.take m) := hE
      obtain ⟨Wq, hWq⟩ : ∃ Wq, Wq = w1.drewN q := ⟨_, rfl⟩
      have hbq : Below w.heap.size w Wq := by rw [hWq]; exact below_drewN hb1 q
      have HAq : Hid (Arg Wq (.slice (some ⟨b, off, none⟩) m cap) (l.take m)) := HA.out.below hbq
      have HM : Hid ((l.take m).length ≤ 140737488355328) := by show _ ≤ _; rw [List.length_take]; omega
      rw [← hWq]
      clear hq hE HE hWq hb1 HC1 HC2
      go_wp2_with fail
      refine (copied_any _ _ Wq HAq.out HM.out).mono ?_
      rintro e w3 ⟨⟨v3, rfl, hown3⟩, hb3⟩
      obtain ⟨a3, c3, rfl⟩ := own_shape hown3
      have hb03 := below_any hbq hb3
      have hown3' := hown3.mono hbq.size
      clear hown3
      go_wp2
      go_ret2
      refine ⟨a3, c3, by rw [HE2.out.1, HE2.out.2, List.length_take]; rfl, ?_, hb03⟩
      rw [HE2.out.2]
      exact hown3'

theorem ropen_any (v : Value) (l : List Int) (w : World) (h : Arg w v l) (hs : l.length ≤ 140737488351232) :
    Calls Tryz.prog 73 #[v] w fun e w' => ∃ a c, e = .returned (.tuple #[.slice a (oout l).length c, .int .i64 (oerr l)]) ∧
      w'.ownsRow w.heap.size 5 1 (.slice a (oout l).length c) (oout l).length ((oout l).map (Value.int .u8)) ∧ Below w.heap.size w w' := by
  by_cases h4 : l.length < 4
  · have e1 : oerr l = 8 := by unfold oerr; rw [if_pos h4]
    have e2 : oout l = [] := by unfold oout; rw [if_pos h4]
    rw [e1, e2]
    refine (ropen_short v l w h h4).mono ?_
    rintro e w' ⟨rfl, rfl⟩
    exact ⟨none, 0, rfl, World.ownsRow_nil _ _ _ _, Below.refl _ _⟩
  · rcases h.split with ⟨rfl, _⟩ | ⟨b, off, cap, rfl, hcap, hm, hat, hr⟩
    · exact absurd (by simp) h4
    · obtain ⟨m, hm4⟩ : ∃ m, l.length = m + 4 := ⟨l.length - 4, by omega⟩
      have := ropen_some b off m cap l hm4 w hs hcap hat hr
      rw [← hm4] at this
      exact this

end Go.Proofs.YthlfgpnabcplnaaGreatDoor.W.C
