/-
  What an append of zeros makes of octets that the call owns; and what stands in a sector behind writes: the last one's.
-/
import Derived.Test.YthlfgpnabcplnaaDoorTf27
import Derived.Lib.AppendZerosOnto
import Derived.Lib.AppendZeros
namespace Go.Proofs.YthlfgpnabcplnaaDoor.Dk
open Go.RowKit
set_option maxRecDepth 100000

theorem zeroCells_toList (k : Nat) : (Builtin.zeroCells #[Value.int .u8 0] k).toList = List.replicate k (Value.int .u8 0) := by
  have : (Builtin.zeroCells #[Value.int .u8 0] k) = madeCells #[Value.int .u8 0] k := by
    simp [Builtin.zeroCells, madeCells]
  rw [this, toList_madeCells_one]

theorem zeroCells_size (k : Nat) : (Builtin.zeroCells #[Value.int .u8 0] k).size = k := by
  rw [← Array.length_toList, zeroCells_toList, List.length_replicate]

theorem new_own {base n k c : Nat} (w : World) (olds : List Value) (hn : olds.length = n) (hb : base ≤ w.heap.size) (h1 : n + k ≤ c) (h2 : c ≤ maxLen) :
    (w.drew.alloc (.cells (olds.toArray ++ Builtin.zeroCells #[Value.int .u8 0] k ++ Builtin.zeroCells #[Value.int .u8 0] (c - (n + k))) 5)).ownsRow base 5 1 (.slice (some ⟨w.heap.size, 0, none⟩) (n + k) c) (n + k) (olds ++ List.replicate k (Value.int .u8 0)) ∧
    w.grownBy (w.drew.alloc (.cells (olds.toArray ++ Builtin.zeroCells #[Value.int .u8 0] k ++ Builtin.zeroCells #[Value.int .u8 0] (c - (n + k))) 5)) none := by
  refine ⟨⟨by simp [hn], .inr ⟨w.heap.size, c, _, rfl, hb, heap_alloc_new w.drew _, h1, h2, ?_, ?_⟩⟩, ⟨rfl, rfl, rfl, by simp, fun j hj _ => Below.heap_alloc w.drew _ j hj⟩⟩
  · simp only [Array.size_append, zeroCells_size, List.size_toArray, hn]; omega
  · simp only [Array.toList_append, zeroCells_toList]
    rw [List.take_append_of_le_length (by simp [hn]), List.take_of_length_le (by simp [hn])]

theorem append_zeros {base : Nat} (w : World) (v : Value) (n k : Nat) (xs : List Value) (hown : w.ownsRow base 5 1 v n xs) (hb : base ≤ w.heap.size) (hk : n + k ≤ 100000) :
    ∃ v' w', (Builtin.append_ #[22, 3] 22 #[v, .int .i64 (k : Int)]).run Tryd.prog w = .ok v' w' ∧ w'.ownsRow base 5 1 v' (n + k) (xs ++ List.replicate k (Value.int .u8 0)) ∧ w.grownBy w' v.ownBlock := by
  obtain ⟨i0, hi, hz0, hz1, hz2⟩ := info_parts Tryd.info5
  by_cases h0 : k = 0
  · subst h0
    obtain ⟨a, cap, rfl⟩ := own_shape hown
    refine ⟨.slice a n cap, w, ?_, by simpa using hown, ⟨rfl, rfl, rfl, Nat.le_refl _, fun _ _ _ => rfl⟩⟩
    have hcap : n ≤ cap := by
      rcases hown.2 with ⟨hv, rfl⟩ | ⟨g, c, cur, hv, _, _, h, _⟩
      · omega
      · cases hv; exact h
    have hw : IntKind.i64.wrap 0 = 0 := by decide
    cases a with
    | none => simp [Builtin.append_, run_underlying Tryd.underlying22, run_underlying Tryd.underlying3, sizeOf, typeInfo, hi, asInt, asIntOf, hw, hcap]
    | some x => simp [Builtin.append_, run_underlying Tryd.underlying22, run_underlying Tryd.underlying3, sizeOf, typeInfo, hi, asInt, asIntOf, hw, hcap, storeCells]
  · rcases hown.2 with ⟨rfl, rfl⟩ | ⟨g, cap, cur, rfl, hgb, hg, hcap, hcm, hcs, htake⟩
    · obtain rfl : xs = [] := List.eq_nil_of_length_eq_zero (by simpa using hown.1)
      have hr := Lib.run_append_nil_zeros (P := Tryd.prog) w 22 3 22 5 i0 (.int .u8 0) .i64 .i64 Tryd.underlying22 Tryd.underlying3 hi hz0 k (by omega) (by omega) (by omega) (by rw [hz2]; omega)
      rw [show (Value.int .u8 0).cells = #[Value.int .u8 0] from rfl] at hr
      have hge := grownCap_ge w k 0 5
      have hle := grownCap_le_maxLen w k 0 5 (by unfold maxLen; omega)
      have hno := new_own (base := base) (n := 0) (k := k) (c := grownCap w k 0 5) w [] rfl hb (by omega) hle
      refine ⟨_, _, hr, ?_, ?_⟩
      · simpa using hno.1
      · have := hno.2
        simpa [Value.ownBlock] using this
    · by_cases hroom : n + k ≤ cap
      · have hst := run_storeCells_at Tryd.prog g (n * i0.size) 5 (List.replicate k (Value.int .u8 0)) 0 cur w hg (by rw [hcs, hz1]; simp; omega) (fun v hv => by rw [(List.mem_replicate.1 hv).2]; rfl)
        rw [hz1, Nat.mul_one, Nat.add_zero, List.length_replicate] at hst
        have hzc : (Builtin.zeroCells #[Value.int .u8 0] k).toList = List.replicate k (Value.int .u8 0) := zeroCells_toList k
        have hw : IntKind.i64.wrap (k : Int) = k := by rw [IntKind.wrap_i64]; omega
        have hneg : ¬ ((k : Int) < 0) := by omega
        have h48i : ¬ (281474976710656 < (k : Int)) := by omega
        have hadd : (⟨g, 0, none⟩ : Addr).add n = ⟨g, n, none⟩ := by rw [add_plain, Nat.zero_add]
        have hr : (Builtin.append_ #[22, 3] 22 #[.slice (some ⟨g, 0, none⟩) n cap, .int .i64 (k : Int)]).run Tryd.prog w = .ok (.slice (some ⟨g, 0, none⟩) (n + k) cap) (w.setRow g (cur.toList.take n ++ List.replicate k (Value.int .u8 0) ++ cur.toList.drop (n + k)).toArray) := by
          simp [Builtin.append_, run_underlying Tryd.underlying22, run_underlying Tryd.underlying3, sizeOf, typeInfo, zeroValue, hi, hz0, hz1, hz2, asInt, asIntOf, hw, hneg, h48i, hroom, h0, Value.cells, hzc, hadd, hst]
        refine ⟨_, _, hr, ⟨by rw [List.length_append, hown.1, List.length_replicate]; omega, .inr ⟨g, cap, _, rfl, hgb, setRow_heap w g _ _ 5 _ hg, hroom, hcm, ?_, ?_⟩⟩, ⟨rfl, rfl, rfl, by simp [World.setRow], fun j _ hj => setRow_other w g j _ (fun e => hj (by rw [e]; rfl))⟩⟩
        · rw [Nat.mul_one] at hcs
          simp [hcs]
          omega
        · rw [Nat.mul_one] at htake ⊢
          rw [htake]
          have hxl : xs.length = n := by simpa using hown.1
          rw [List.toList_toArray, List.take_append_of_le_length (by simp [hxl]), List.take_of_length_le (by simp [hxl])]
      · have hold : (Builtin.firstCells i0.size n (.slice (some ⟨g, 0, none⟩) n cap)).run Tryd.prog w.drew = .ok xs.toArray w.drew := by
          have := run_firstCells_some (P := Tryd.prog) w.drew i0.size n ⟨g, 0, none⟩ n cap xs (by rw [hown.1, hz1]) (fun j u hu => hown.cells (g := g) rfl j u hu)
          exact this
        have hr := Lib.run_append_grow_zeros (P := Tryd.prog) w 22 3 22 5 i0 (.int .u8 0) .i64 .i64 Tryd.underlying22 Tryd.underlying3 hi hz0 (some ⟨g, 0, none⟩) n cap xs hold k (by omega) (by omega) (by omega) (by omega) (by rw [hz2]; omega) (by
          rw [hz2]
          have := nextslicecap_le (need := n + k) (old := cap) (by omega)
          omega)
        have hge := grownCap_ge w (n + k) cap 5
        have hle := grownCap_le_maxLen w (n + k) cap 5 (by unfold maxLen; omega)
        have hno := new_own (base := base) (n := n) (k := k) (c := grownCap w (n + k) cap 5) w xs (by simpa using hown.1) hb hge hle
        exact ⟨_, _, hr, hno.1, ⟨hno.2.os, hno.2.tape, hno.2.output, hno.2.size, fun j hj _ => hno.2.block j hj (by simp)⟩⟩

/-- What the last write of a sector has, or what is given. -/
def lw (ws : List (Int × List Int)) (k : Nat) (d : List Int) : List Int := ws.foldl (fun acc q => if q.1 = (k : Int) then q.2 else acc) d

theorem lw_snoc (ws : List (Int × List Int)) (q : Int × List Int) (k : Nat) (d : List Int) : lw (ws ++ [q]) k d = if q.1 = (k : Int) then q.2 else lw ws k d := by
  unfold lw; rw [List.foldl_append]; rfl

theorem row_last (S : St) (hp : ∀ q ∈ S.cache, 0 ≤ q.1) (k : Nat) (hk : k < S.secs.length) : ∀ m, m ≤ S.cache.length → (fill S.secs ((List.range m).map (write S)))[k]? = some (lw (S.cache.take m) k (S.secs.getD k []))
  | 0, _ => by simp [fill, lw, hk]
  | m + 1, hm => by
    have ih := row_last S hp k hk m (by omega)
    have hlt : m < S.cache.length := hm
    have hw : write S m = (S.cache[m].1.toNat, S.cache[m].2) := by simp [write, hlt]
    have h0 := hp _ (List.getElem_mem hlt)
    rw [List.range_succ, List.map_append, List.map_cons, List.map_nil, fill_snoc, hw, take_snoc (List.getElem?_eq_getElem hlt), lw_snoc]
    by_cases e : S.cache[m].1 = (k : Int)
    · rw [if_pos e, show S.cache[m].1.toNat = k by omega, List.getElem?_set_self (by rw [fill_length]; exact hk)]
    · rw [if_neg e, List.getElem?_set_ne (show S.cache[m].1.toNat ≠ k by omega), ih]

theorem full_row (S : St) (hS : chk S = true) (k : Nat) (hk : k < S.secs.length) : (full S)[k]? = some (lw S.cache k (S.secs.getD k [])) := by
  obtain ⟨_, _, _, _, _, k6⟩ := chk_facts hS
  rw [full, fill_all, landed_all, row_last S (fun q hq => (k6 q hq).1) k hk _ (Nat.le_refl _), List.take_length]

theorem window_one (rows : List (List Int)) (k : Nat) (l : List Int) (h : rows[k]? = some l) : window rows k 1 = l := by
  have hlt := (List.getElem?_eq_some_iff.1 h).1
  unfold window
  rw [List.drop_eq_getElem_cons hlt, (List.getElem?_eq_some_iff.1 h).2]
  simp

end Go.Proofs.YthlfgpnabcplnaaDoor.Dk
