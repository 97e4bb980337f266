import Derived.Test.YthlfgpnabcplnaaGreatDoorTe28
import Derived.Lib.AppendZerosOnto
import Derived.Lib.AppendZeros
import Derived.Test.YthlfgpnabcplnaaGreatDoorTe7
/-
  What an append of zeros makes of octets that the call owns; and what stands in a sector behind writes: the last one's.
-/
namespace Go.Proofs.YthlfgpnabcplnaaGreatDoor.Dk
open Go.RowKit
set_option maxRecDepth 100000

theorem zeroCells_toList (k : Nat) : (Builtin.zeroCells #[Value.int .u8 0] k).toList = List.replicate k (Value.int .u8 0) := by
  have : (Builtin.zeroCells #[Value.int .u8 0] k) = madeCells #[Value.int .u8 0] k := by
    simp [Builtin.zeroCells, madeCells]
  rw [this, toList_madeCells_one]

theorem zeroCells_size (k : Nat) : (Builtin.zeroCells #[Value.int .u8 0] k).size = k := by
  rw [← Array.length_toList, zeroCells_toList, List.length_replicate]

theorem new_own {base n k c : Nat} (w : World) (olds : List Value) (hn : olds.length = n) (hb : base ≤ w.heap.size) (h1 : n + k ≤ c) (h2 : c ≤ maxLen) :
    (w.drew.alloc (.cells (olds.toArray ++ Builtin.zeroCells #[Value.int .u8 0] k ++ Builtin.zeroCells #[Value.int .u8 0] (c - (n + k))) 5)).ownsRow base 5 1 (.slice (some ⟨w.heap.size, 0, none⟩) (n + k) c) (n + k) (olds ++ List.replicate k (Value.int .u8 0)) ∧
    w.grownBy (w.drew.alloc (.cells (olds.toArray ++ Builtin.zeroCells #[Value.int .u8 0] k ++ Builtin.zeroCells #[Value.int .u8 0] (c - (n + k))) 5)) none := by
  refine ⟨⟨by simp [hn], .inr ⟨w.heap.size, c, _, rfl, hb, heap_alloc_new w.drew _, h1, h2, ?_, ?_⟩⟩, ⟨rfl, rfl, rfl, by simp, fun j hj _ => Below.heap_alloc w.drew _ j hj⟩⟩
  · simp only [Array.size_append, zeroCells_size, List.size_toArray, hn]; omega
  · simp only [Array.toList_append, zeroCells_toList]
    rw [List.take_append_of_le_length (by simp [hn]), List.take_of_length_le (by simp [hn])]

theorem append_zeros {base : Nat} (w : World) (v : Value) (n k : Nat) (xs : List Value) (hown : w.ownsRow base 5 1 v n xs) (hb : base ≤ w.heap.size) (hk : n + k ≤ 100000) :
    ∃ v' w', (Builtin.append_ #[22, 3] 22 #[v, .int .i64 (k : Int)]).run Tryz.prog w = .ok v' w' ∧ w'.ownsRow base 5 1 v' (n + k) (xs ++ List.replicate k (Value.int .u8 0)) ∧ w.grownBy w' v.ownBlock := by
  obtain ⟨i0, hi, hz0, hz1, hz2⟩ := info_parts Tryz.info5
  by_cases h0 : k = 0
  · subst h0
    obtain ⟨a, cap, rfl⟩ := own_shape hown
    refine ⟨.slice a n cap, w, ?_, by simpa using hown, ⟨rfl, rfl, rfl, Nat.le_refl _, fun _ _ _ => rfl⟩⟩
    have hcap : n ≤ cap := by
      rcases hown.2 with ⟨hv, rfl⟩ | ⟨g, c, cur, hv, _, _, h, _⟩
      · omega
      · cases hv; exact h
    have hw : IntKind.i64.wrap 0 = 0 := by decide
    cases a with
    | none => simp [Builtin.append_, run_underlying Tryz.underlying22, run_underlying Tryz.underlying3, sizeOf, typeInfo, hi, asInt, asIntOf, hw, hcap]
    | some x => simp [Builtin.append_, run_underlying Tryz.underlying22, run_underlying Tryz.underlying3, sizeOf, typeInfo, hi, asInt, asIntOf, hw, hcap, storeCells]
  · rcases hown.2 with ⟨rfl, rfl⟩ | ⟨g, cap, cur, rfl, hgb, hg, hcap, hcm, hcs, htake⟩
    · obtain rfl : xs = [] := List.eq_nil_of_length_eq_zero (by simpa using hown.1)
      have hr := Lib.run_append_nil_zeros (P := Tryz.prog) w 22 3 22 5 i0 (.int .u8 0) .i64 .i64 Tryz.underlying22 Tryz.underlying3 hi hz0 k (by omega) (by omega) (by omega) (by rw [hz2]; omega)
      rw [show (Value.int .u8 0).cells = #[Value.int .u8 0] from rfl] at hr
      have hge := grownCap_ge w k 0 5
      have hle := grownCap_le_maxLen w k 0 5 (by unfold maxLen; omega)
      have hno := new_own (base := base) (n := 0) (k := k) (c := grownCap w k 0 5) w [] rfl hb (by omega) hle
      refine ⟨_, _, hr, ?_, ?_⟩
      · simpa using hno.1
      · have := hno.2
        simpa [Value.ownBlock] using this
    · by_cases hroom : n + k ≤ cap
      · have hst := run_storeCells_at Tryz.prog g (n * i0.size) 5 (List.replicate k (Value.int .u8 0)) 0 cur w hg (by rw [hcs, hz1]; simp; omega) (fun v hv => by rw [(List.mem_replicate.1 hv).2]; rfl)
        rw [hz1, Nat.mul_one, Nat.add_zero, List.length_replicate] at hst
        have hzc : (Builtin.zeroCells #[Value.int .u8 0] k).toList = List.replicate k (Value.int .u8 0) := zeroCells_toList k
        have hw : IntKind.i64.wrap (k : Int) = k := by rw [IntKind.wrap_i64]; omega
        have hneg : ¬ ((k : Int) < 0) := by omega
        have h48i : ¬ (281474976710656 < (k : Int)) := by omega
        have hadd : (⟨g, 0, none⟩ : Addr).add n = ⟨g, n, none⟩ := by rw [add_plain, Nat.zero_add]
        have hr : (Builtin.append_ #[22, 3] 22 #[.slice (some ⟨g, 0, none⟩) n cap, .int .i64 (k : Int)]).run Tryz.prog w = .ok (.slice (some ⟨g, 0, none⟩) (n + k) cap) (w.setRow g (cur.toList.take n ++ List.replicate k (Value.int .u8 0) ++ cur.toList.drop (n + k)).toArray) := by
          simp [Builtin.append_, run_underlying Tryz.underlying22, run_underlying Tryz.underlying3, sizeOf, typeInfo, zeroValue, hi, hz0, hz1, hz2, asInt, asIntOf, hw, hneg, h48i, hroom, h0, Value.cells, hzc, hadd, hst]
        refine ⟨_, _, hr, ⟨by rw [List.length_append, hown.1, List.length_replicate]; omega, .inr ⟨g, cap, _, rfl, hgb, setRow_heap w g _ _ 5 _ hg, hroom, hcm, ?_, ?_⟩⟩, ⟨rfl, rfl, rfl, by simp [World.setRow], fun j _ hj => setRow_other w g j _ (fun e => hj (by rw [e]; rfl))⟩⟩
        · rw [Nat.mul_one] at hcs
          simp [hcs]
          omega
        · rw [Nat.mul_one] at htake ⊢
          rw [htake]
          have hxl : xs.length = n := by simpa using hown.1
          rw [List.toList_toArray, List.take_append_of_le_length (by simp [hxl]), List.take_of_length_le (by simp [hxl])]
      · have hold : (Builtin.firstCells i0.size n (.slice (some ⟨g, 0, none⟩) n cap)).run Tryz.prog w.drew = .ok xs.toArray w.drew := by
          have := run_firstCells_some (P := Tryz.prog) w.drew i0.size n ⟨g, 0, none⟩ n cap xs (by rw [hown.1, hz1]) (fun j u hu => hown.cells (g := g) rfl j u hu)
          exact this
        have hr := Lib.run_append_grow_zeros (P := Tryz.prog) w 22 3 22 5 i0 (.int .u8 0) .i64 .i64 Tryz.underlying22 Tryz.underlying3 hi hz0 (some ⟨g, 0, none⟩) n cap xs hold k (by omega) (by omega) (by omega) (by omega) (by rw [hz2]; omega) (by
          rw [hz2]
          have := nextslicecap_le (need := n + k) (old := cap) (by omega)
          omega)
        have hge := grownCap_ge w (n + k) cap 5
        have hle := grownCap_le_maxLen w (n + k) cap 5 (by unfold maxLen; omega)
        have hno := new_own (base := base) (n := n) (k := k) (c := grownCap w (n + k) cap 5) w xs (by simpa using hown.1) hb hge hle
        exact ⟨_, _, hr, hno.1, ⟨hno.2.os, hno.2.tape, hno.2.output, hno.2.size, fun j hj _ => hno.2.block j hj (by simp)⟩⟩

/-- What the last write of a sector has, or what is given. -/
def lw (ws : List (Int × List Int)) (k : Nat) (d : List Int) : List Int := ws.foldl (fun acc q => if q.1 = (k : Int) then q.2 else acc) d

theorem lw_snoc (ws : List (Int × List Int)) (q : Int × List Int) (k : Nat) (d : List Int) : lw (ws ++ [q]) k d = if q.1 = (k : Int) then q.2 else lw ws k d := by
  unfold lw; rw [List.foldl_append]; rfl

theorem row_last (S : St) (hp : ∀ q ∈ S.cache, 0 ≤ q.1) (k : Nat) (hk : k < S.secs.length) : ∀ m, m ≤ S.cache.length → (fill S.secs ((List.range m).map (write S)))[k]? = some (lw (S.cache.take m) k (S.secs.getD k []))
  | 0, _ => by simp [fill, lw, hk]
  | m + 1, hm => by
    have ih := row_last S hp k hk m (by omega)
    have hlt : m < S.cache.length := hm
    have hw : write S m = (S.cache[m].1.toNat, S.cache[m].2) := by simp [write, hlt]
    have h0 := hp _ (List.getElem_mem hlt)
    rw [List.range_succ, List.map_append, List.map_cons, List.map_nil, fill_snoc, hw, take_snoc (List.getElem?_eq_getElem hlt), lw_snoc]
    by_cases e : S.cache[m].1 = (k : Int)
    · rw [if_pos e, show S.cache[m].1.toNat = k by omega, List.getElem?_set_self (by rw [fill_length]; exact hk)]
    · rw [if_neg e, List.getElem?_set_ne (show S.cache[m].1.toNat ≠ k by omega), ih]

theorem full_row (S : St) (hS : chk S = true) (k : Nat) (hk : k < S.secs.length) : (full S)[k]? = some (lw S.cache k (S.secs.getD k [])) := by
  obtain ⟨_, _, _, _, _, k6⟩ := chk_facts hS
  rw [full, fill_all, landed_all, row_last S (fun q hq => (k6 q hq).1) k hk _ (Nat.le_refl _), List.take_length]

theorem window_one (rows : List (List Int)) (k : Nat) (l : List Int) (h : rows[k]? = some l) : window rows k 1 = l := by
  have hlt := (List.getElem?_eq_some_iff.1 h).1
  unfold window
  rw [List.drop_eq_getElem_cons hlt, (List.getElem?_eq_some_iff.1 h).2]
  simp

end Go.Proofs.YthlfgpnabcplnaaGreatDoor.Dk

/-
  What the document's last answers: the octets of a sector as it was put last, in a block of its own.
-/
namespace Go.Proofs.YthlfgpnabcplnaaGreatDoor.Dk
open Go.RowKit
set_option maxRecDepth 100000

theorem lw_mem (k : Nat) : ∀ (ws : List (Int × List Int)) (d : List Int), lw ws k d = d ∨ ∃ q ∈ ws, lw ws k d = q.2
  | [], _ => .inl rfl
  | q :: ws, d => by
    rcases lw_mem k ws (if q.1 = (k : Int) then q.2 else d) with h | ⟨x, hx, h⟩
    · by_cases e : q.1 = (k : Int)
      · refine .inr ⟨q, List.mem_cons_self .., ?_⟩
        show lw ws k _ = _
        rw [h, if_pos e]
      · refine .inl ?_
        show lw ws k _ = _
        rw [h, if_neg e]
    · exact .inr ⟨x, List.mem_cons_of_mem _ hx, h⟩

set_option maxHeartbeats 2000000 in
theorem last_any (n0 : Nat) (v : Value) (S : St) (k : Nat) (w : World) (h : Disk n0 w v S) (hk : k < S.secs.length) (hf : ∀ l ∈ S.secs, l.length ≤ 140737488355328) (hg : ∀ q ∈ S.cache, q.2.length ≤ 140737488355328) :
    Calls Tryz.prog 80 #[v, .int .i64 (k : Int)] w fun e w' => ∃ v', e = .returned v' ∧ w'.ownsRow w.heap.size 5 1 v' (lw S.cache k (S.secs.getD k [])).length ((lw S.cache k (S.secs.getD k [])).map (Value.int .u8)) ∧ Below w.heap.size w w' := by
  obtain ⟨a1, c1, a2, c2, rfl, hL, hW⟩ := h.shape
  obtain ⟨i0, hi0, _, hz0, _⟩ := info_parts Tryz.info87
  obtain ⟨_, _, _, _, hm2, _⟩ := hW.shape
  obtain ⟨W, hW'⟩ : ∃ W, W = w.alloc (.cells #[.slice a1 S.secs.length c1, .slice a2 S.cache.length c2] 47) := ⟨_, rfl⟩
  have hbW : Below w.heap.size w W := by rw [hW']; exact (Below.refl _ _).alloc (Nat.le_refl _) _
  have hBx : Box W w.heap.size 47 (.slice a1 S.secs.length c1) (.slice a2 S.cache.length c2) := by rw [hW']; exact Box.new _ _ _ _
  obtain ⟨d, hd⟩ := get_lt (l := S.secs) (k := k) hk
  obtain ⟨b, o, a, cap, hix, _, hc, hA⟩ := (hL.below hbW).at k d hd
  have hdd : S.secs.getD k [] = d := by simp [List.getD, hd]
  rw [hdd]
  have HW : Hid (Writes n0 W (.slice a2 S.cache.length c2) S.cache) := hW.below hbW
  have HG : Hid (d.length ≤ 140737488355328 ∧ ∀ q ∈ S.cache, q.2.length ≤ 140737488355328) := ⟨hf d (List.mem_of_getElem? hd), hg⟩
  have g0 := hBx.cell0
  have g1 := hBx.cell1
  obtain ⟨n, hn⟩ : ∃ n, n = S.secs.length := ⟨_, rfl⟩
  obtain ⟨m, hm⟩ : ∃ n, n = S.cache.length := ⟨_, rfl⟩
  have HM : Hid (m = S.cache.length) := hm
  rw [← hn] at g0 hix hk hW' ⊢
  rw [← hm] at g1 HW hm2 hW' ⊢
  unfold maxLen at hm2
  have hl2 := run_len Tryz.underlying45 a2 m c2
  have HBW : Hid (Below w.heap.size w W) := hbW
  have HA : Hid (Arg n0 W (.slice a d.length cap) d) := hA
  have g2 := g0
  have g3 := g1
  have hc' := hc
  rw [hW'] at g2 g3 hc'
  clear h hL hW hbW hBx hd hA hn hm hdd hf hg
  go_enter Tryz.func80, Tryz.ntmps80
  go_wp2
  rw [← hW']
  clear hW' g2 g3 hc'
  go_loopw [5, 6] (fun x i wr => ∃ j : Nat, j ≤ m ∧ i = .int .i64 j ∧ Arg n0 W x (lw (S.cache.take j) k d) ∧ wr = W) (fun _ i _ => m - (intOf i).toNat)
  case atStart => exact ⟨0, Nat.zero_le _, rfl, by simpa [lw] using HA.out, rfl⟩
  case round =>
    obtain ⟨j, hj, rfl, hx, rfl⟩ := hrel
    obtain ⟨xa, xc, rfl, _, _, _⟩ := hx.shape
    have HX : Hid (Arg n0 wr (.slice xa (lw (S.cache.take j) k d).length xc) (lw (S.cache.take j) k d)) := hx
    clear hx
    by_cases hlt : j < m
    · obtain ⟨q, hq⟩ := get_lt (l := S.cache) (k := j) (by rw [← HM.out]; exact hlt)
      obtain ⟨b1, o1, x1, cp1, hix1, _, hs1, hc1, hA1, hr⟩ := HW.out.at Tryz.underlying45 hi0 hz0 j q hq
      have HT : Hid (lw (S.cache.take (j + 1)) k d = if q.1 = (k : Int) then q.2 else lw (S.cache.take j) k d) := by show _ = _; rw [take_snoc hq, lw_snoc]
      obtain ⟨s, l⟩ := q
      simp only at hs1 hc1 hA1 HT
      have HA1 : Hid (Arg n0 wr (.slice x1 l.length cp1) l) := hA1
      obtain ⟨ln, hln⟩ : ∃ x, x = l.length := ⟨_, rfl⟩
      obtain ⟨xn, hxn⟩ : ∃ x, x = (lw (S.cache.take j) k d).length := ⟨_, rfl⟩
      rw [← hln] at hc1 HA1
      rw [← hxn] at HX ⊢
      have hji : (j : Int) < (m : Int) := by omega
      clear hq hA1 hln hxn
      by_cases e : s = (k : Int)
      · go_wp2
        go_roundw
        case rel => exact ⟨j + 1, by omega, by go_num, by rw [HT.out, if_pos e]; exact HA1.out, trivial⟩
        case measure => simp [intOf]; omega
      · go_wp2
        go_roundw
        case rel => exact ⟨j + 1, by omega, by go_num, by rw [HT.out, if_neg e]; exact HX.out, trivial⟩
        case measure => simp [intOf]; omega
    · obtain rfl : j = m := by omega
      have hT : S.cache.take j = S.cache := by rw [HM.out]; simp
      rw [hT] at HX ⊢
      have hlen : (lw S.cache k d).length ≤ 140737488355328 := by
        rcases lw_mem k S.cache d with e | ⟨q, hq, e⟩
        · rw [e]; exact HG.out.1
        · rw [e]; exact HG.out.2 q hq
      have HC := copied_any n0 _ (lw S.cache k d) wr HX.out hlen
      obtain ⟨xn, hxn⟩ : ∃ x, x = (lw S.cache k d).length := ⟨_, rfl⟩
      rw [← hxn] at HC ⊢
      have HXN : Hid (xn = (lw S.cache k d).length) := hxn
      clear HX hxn hT hlen
      go_wp2_with fail
      refine HC.mono ?_
      rintro e w2 ⟨⟨v', rfl, hown⟩, hb2⟩
      have HF : Hid (w2.ownsRow w.heap.size 5 1 v' (lw S.cache k d).length ((lw S.cache k d).map (Value.int .u8)) ∧ Below w.heap.size w w2) := ⟨by rw [← HXN.out]; exact own_weaken hown HBW.out.size, below_any HBW.out hb2⟩
      clear hown hb2 HC
      go_wp2
      go_ret
      exact ⟨v', rfl, HF.out⟩

end Go.Proofs.YthlfgpnabcplnaaGreatDoor.Dk

/-
  What the document's GetAll and Get answer: the same as the program's.
-/
namespace Go.Proofs.YthlfgpnabcplnaaGreatDoor.Dk
open Go.RowKit
set_option maxRecDepth 100000

theorem window_zero (rows : List (List Int)) (s : Nat) : window rows s 0 = [] := by simp [window]
theorem window_succ (rows : List (List Int)) (s j : Nat) (r : List Int) (h : rows[s + j]? = some r) : window rows s (j + 1) = window rows s j ++ r := by
  unfold window
  rw [List.take_add_one, List.getElem?_drop, h]
  simp

theorem box_apart'' {w : World} {base : Nat} {e t : TypeId} {size : Nat} {v u x : Value} {n B : Nat} {xs : List Value} (h : w.ownsRow base e size v n xs) (hB : Box w B t u x) (ht : t ≠ e) : some B ≠ v.ownBlock := by
  rcases h.2 with ⟨rfl, _⟩ | ⟨g, cap, cur, rfl, _, hg, _⟩
  · simp [Value.ownBlock]
  · intro e'
    have : g = B := by simpa [Value.ownBlock] using e'.symm
    subst this
    rw [show w.heap[g]? = _ from hB] at hg
    simp at hg
    exact ht hg.2

set_option maxHeartbeats 2000000 in
theorem rgetAll_any (n0 : Nat) (v : Value) (S : St) (s k : Int) (w : World) (h : Disk n0 w v S) (hs : -9223372036854775808 ≤ s ∧ s ≤ 9223372036854775807) :
    Calls Tryz.prog 47 #[v, .int .i64 s, .int .i64 k] w fun e w' => ∃ v', e = .returned (.tuple #[v', .int .i64 (gerr S s k)]) ∧ w'.ownsRow w.heap.size 5 1 v' (gout S s k).length ((gout S s k).map (Value.int .u8)) ∧ Below w.heap.size w w' := by
  obtain ⟨a1, c1, a2, c2, rfl, hL, hW⟩ := h.shape
  obtain ⟨_, _, _, _, hm1, _⟩ := hL.shape
  obtain ⟨i5, hi5, hz50, hz51, hz52⟩ := info_parts Tryz.info5
  have HD : Hid (Disk n0 w (.agg #[.slice a1 S.secs.length c1, .slice a2 S.cache.length c2]) S) := h
  obtain ⟨n, hn⟩ : ∃ n, n = S.secs.length := ⟨_, rfl⟩
  obtain ⟨m, hm⟩ : ∃ n, n = S.cache.length := ⟨_, rfl⟩
  obtain ⟨ge, hge⟩ : ∃ x, x = gerr S s k := ⟨_, rfl⟩
  obtain ⟨go, hgo⟩ : ∃ x, x = gout S s k := ⟨_, rfl⟩
  have HG : Hid (ge = (if chk S = false then 9 else if reach n s k = false then 41 else 0) ∧ go = if ge = 0 then window (full S) s.toNat k.toNat else []) := by
    refine ⟨by rw [hge, hn]; rfl, by rw [hgo, hge]; rfl⟩
  have HN : Hid (n = S.secs.length) := hn
  rw [← hn, ← hm] at HD ⊢
  rw [← hge, ← hgo]
  rw [← hn] at hm1
  unfold maxLen at hm1
  have hl1 := run_len Tryz.underlying44 a1 n c1
  clear h hL hW hn hm hge hgo
  go_enter Tryz.func47, Tryz.ntmps47
  go_wp2_with fail
  have hb0 : Below w.heap.size w (w.alloc (.cells #[.slice a1 n c1, .slice a2 m c2] 47)) := (Below.refl _ w).alloc (Nat.le_refl _) _
  refine (rcheck_any n0 _ S _ (HD.out.below hb0)).mono ?_
  rintro e w1 ⟨rfl, hb1⟩
  have hP1 : Box w1 w.heap.size 47 (.slice a1 n c1) (.slice a2 m c2) := (Box.new w 47 _ _).below hb1 (by simp)
  have HB1 : Hid (Box w1 w.heap.size 47 (.slice a1 n c1) (.slice a2 m c2) ∧ Below w.heap.size w w1) := ⟨hP1, below_any hb0 hb1⟩
  have g0 := hP1.cell0
  have g1 := hP1.cell1
  unfold cerr
  clear hb0 hb1 hP1
  cases hchk : chk S
  · have e1 : ge = 9 := by rw [HG.out.1, if_pos hchk]
    have e2 : go = [] := by rw [HG.out.2, if_neg (by omega)]
    subst e1 e2
    go_wp2
    go_ret2
    exact ⟨_, rfl, World.ownsRow_nil _ _ _ _, HB1.out.2⟩
  by_cases r1 : s < 0
  · have e1 : ge = 41 := by rw [HG.out.1, if_neg (by simp [hchk]), if_pos (by simp [reach]; omega)]
    have e2 : go = [] := by rw [HG.out.2, if_neg (by omega)]
    subst e1 e2
    go_wp2
    go_ret2
    exact ⟨_, rfl, World.ownsRow_nil _ _ _ _, HB1.out.2⟩
  by_cases r2 : k < 0
  · have e1 : ge = 41 := by rw [HG.out.1, if_neg (by simp [hchk]), if_pos (by simp [reach]; omega)]
    have e2 : go = [] := by rw [HG.out.2, if_neg (by omega)]
    subst e1 e2
    go_wp2
    go_ret2
    exact ⟨_, rfl, World.ownsRow_nil _ _ _ _, HB1.out.2⟩
  by_cases r3 : (n : Int) < s
  · have e1 : ge = 41 := by rw [HG.out.1, if_neg (by simp [hchk]), if_pos (by simp [reach]; omega)]
    have e2 : go = [] := by rw [HG.out.2, if_neg (by omega)]
    subst e1 e2
    go_wp2
    go_ret2
    exact ⟨_, rfl, World.ownsRow_nil _ _ _ _, HB1.out.2⟩
  obtain ⟨sn, rfl⟩ : ∃ sn : Nat, s = (sn : Int) := ⟨s.toNat, by omega⟩
  obtain ⟨kn, rfl⟩ : ∃ kn : Nat, k = (kn : Int) := ⟨k.toNat, by omega⟩
  have HSB : Hid (IntKind.i64.wrap ((n : Int) - (sn : Int)) = (n : Int) - (sn : Int)) := wrap_in _ (by omega)
  by_cases r4 : (n : Int) - (sn : Int) < (kn : Int)
  · have e1 : ge = 41 := by rw [HG.out.1, if_neg (by simp [hchk]), if_pos (by simp [reach]; omega)]
    have e2 : go = [] := by rw [HG.out.2, if_neg (by omega)]
    subst e1 e2
    have hsb := HSB.out
    go_wp2
    go_ret2
    exact ⟨_, rfl, World.ownsRow_nil _ _ _ _, HB1.out.2⟩
  have e1 : ge = 0 := by rw [HG.out.1, if_neg (by simp [hchk]), if_neg (by simp [reach]; omega)]
  have e2 : go = window (full S) sn kn := by rw [HG.out.2, if_pos e1]; simp
  subst e1 e2
  obtain ⟨k1, k2, k3, k4, k5, k6⟩ := chk_facts hchk
  have HK : Hid (chk S = true ∧ n ≤ 2048 ∧ sn + kn ≤ n) := ⟨hchk, by rw [HN.out]; exact k2, by omega⟩
  have HF : Hid ((∀ l ∈ S.secs, l.length ≤ 140737488355328) ∧ ∀ q ∈ S.cache, q.2.length ≤ 140737488355328) := ⟨fun l hl => by rw [k4 l hl]; omega, fun q hq => by rw [k5 q hq]; omega⟩
  clear k1 k2 k3 k4 k5 k6
  have hsb := HSB.out
  go_wp2
  clear hsb
  have hkb : kn ≤ 2048 := by have := HK.out; omega
  have d1 : decide ((sn : Int) < 0) = false := decide_eq_false (by omega)
  have d2 : decide ((kn : Int) < 0) = false := decide_eq_false (by omega)
  have d3 : decide (n < sn) = false := decide_eq_false (by omega)
  have d4 : decide ((n : Int) - (sn : Int) < (kn : Int)) = false := decide_eq_false (by omega)
  simp only [d1, d2, d3, d4, Bool.or_false]
  clear g0 g1 r1 r2 r3 r4 hchk hl1 hm1 d1 d2 d3 d4
  go_loopw [8, 9] (fun x i wr => ∃ j : Nat, j ≤ kn ∧ i = .int .i64 j ∧ wr.ownsRow w.heap.size 5 1 x (64 * j) ((window (full S) sn j).map (Value.int .u8)) ∧ Below w.heap.size w wr ∧ Box wr w.heap.size 47 (.slice a1 n c1) (.slice a2 m c2)) (fun _ i _ => kn - (intOf i).toNat)
  case atStart =>
    refine ⟨0, Nat.zero_le _, rfl, ?_, HB1.out.2, HB1.out.1⟩
    rw [window_zero]
    exact World.ownsRow_nil _ _ _ _
  case round =>
    obtain ⟨j, hj, rfl, hown, hbel, hBx⟩ := hrel
    have g0 := hBx.cell0
    have g1 := hBx.cell1
    by_cases hlt : j < kn
    · obtain ⟨K, hK⟩ : ∃ K, K = sn + j := ⟨_, rfl⟩
      have hKn : K < S.secs.length := by rw [← HN.out]; have := HK.out; omega
      have hrow := full_row S HK.out.1 K hKn
      obtain ⟨r, hr⟩ : ∃ r, r = lw S.cache K (S.secs.getD K []) := ⟨_, rfl⟩
      have hrl : r.length = 64 := by
        have h64 : all64 (full S) := full_64 HK.out.1 _
        rw [hr]; exact h64 _ (List.mem_of_getElem? hrow)
      have hla := last_any n0 _ S K wr (HD.out.below hbel) hKn HF.out.1 HF.out.2
      rw [← hr, hrl] at hla
      rw [← hr, hK] at hrow
      have HWS : Hid (window (full S) sn (j + 1) = window (full S) sn j ++ r) := window_succ _ _ _ _ hrow
      obtain ⟨ox, oc, rfl⟩ := own_shape hown
      have HO : Hid (wr.ownsRow w.heap.size 5 1 (.slice ox (64 * j) oc) (64 * j) ((window (full S) sn j).map (Value.int .u8)) ∧ Below w.heap.size w wr ∧ Box wr w.heap.size 47 (.slice a1 n c1) (.slice a2 m c2)) := ⟨hown, hbel, hBx⟩
      have HLA : Hid (Calls Tryz.prog 80 #[.agg #[.slice a1 n c1, .slice a2 m c2], .int .i64 (K : Int)] wr fun e w' => ∃ v', e = .returned v' ∧ w'.ownsRow wr.heap.size 5 1 v' 64 (r.map (Value.int .u8)) ∧ Below wr.heap.size wr w') := hla
      have hadd : IntKind.i64.wrap ((sn : Int) + (j : Int)) = (K : Int) := wrap_to _ _ (by omega) (by have := HK.out; omega)
      have hji : (j : Int) < (kn : Int) := by omega
      have HRL : Hid (r.length = 64) := hrl
      clear hown hbel hBx hKn hrow hr hrl hla hK
      go_wp2_with (first
        | (go_at_call 80; refine HLA.out.mono ?_; rintro e w2 ⟨v2, rfl, hO2, hb2⟩; obtain ⟨g2, p2, rfl, _, _⟩ := hO2.form (by omega)
           have hro : w2.ownsRow w.heap.size 5 1 (.slice ox (64 * j) oc) (64 * j) ((window (full S) sn j).map (Value.int .u8)) := own_below HO.out.1 hb2
           have hcl : ∀ i u, (r.map (Value.int .u8))[i]? = some u → w2.cell? ((⟨g2, 0, none⟩ : Addr).add i) = some u := fun i u hu => hO2.cells (g := g2) rfl i u hu)
        | (at_builtin; refine wpList_append_own _ rfl _ _ 22 rfl w.heap.size 5 i5 (.int .u8 0) 1 1 Tryz.underlying22 hi5 hz50 hz51 hz52 rfl (by decide) _ (64 * j) _ rfl hro ⟨g2, 0, none⟩ 64 p2 (r.map (Value.int .u8)) rfl (by rw [List.length_map, HRL.out]) hcl (one_cells r) (by unfold maxLen; omega) (by omega) (by have := hb2.size; have := HO.out.2.1.size; omega) ?_
           intro v3 w3 hown3 hgrow3 _
           have hb3 : Below w.heap.size w w3 := (below_any HO.out.2.1 hb2).grown hgrow3 (by have := hb2.size; have := HO.out.2.1.size; omega) (fun i hi => (hro.lt i hi).1)
           have hB3 : Box w3 w.heap.size 47 (.slice a1 n c1) (.slice a2 m c2) := Box.grown (HO.out.2.2.below hb2 HO.out.2.2.lt) hgrow3 (box_apart'' hro (HO.out.2.2.below hb2 HO.out.2.2.lt) (by decide))
           have hO3 : w3.ownsRow w.heap.size 5 1 v3 (64 * (j + 1)) ((window (full S) sn (j + 1)).map (Value.int .u8)) := by
            rw [HWS.out, List.map_append, show 64 * (j + 1) = 64 * j + 64 by omega]; exact hown3
           have HO3 : Hid (w3.ownsRow w.heap.size 5 1 v3 (64 * (j + 1)) ((window (full S) sn (j + 1)).map (Value.int .u8)) ∧ Below w.heap.size w w3 ∧ Box w3 w.heap.size 47 (.slice a1 n c1) (.slice a2 m c2)) := ⟨hO3, hb3, hB3⟩
           clear hown3 hgrow3 hb3 hB3 hO3 hro hcl hadd))
      go_roundw
      case rel => exact ⟨j + 1, by omega, by go_num, HO3.out⟩
      case measure => simp [intOf]; omega
    · obtain rfl : j = kn := by omega
      have hwl : (window (full S) sn j).length = 64 * j := by
        have h64 : all64 (full S) := full_64 HK.out.1 _
        exact window_length _ sn j h64 (by unfold full; rw [fill_length, List.length_replicate, ← HN.out]; exact HK.out.2.2)
      rw [← hwl] at hown
      obtain ⟨ox, oc, rfl⟩ := own_shape hown
      have HFN : Hid (wr.ownsRow w.heap.size 5 1 (.slice ox (window (full S) sn j).length oc) (window (full S) sn j).length ((window (full S) sn j).map (Value.int .u8)) ∧ Below w.heap.size w wr) := ⟨hown, hbel⟩
      clear hown hbel hBx hwl
      go_wp2
      go_ret2
      exact ⟨_, rfl, HFN.out⟩

end Go.Proofs.YthlfgpnabcplnaaGreatDoor.Dk
