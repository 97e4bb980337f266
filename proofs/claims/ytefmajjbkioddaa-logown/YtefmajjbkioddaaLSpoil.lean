/-
  What Spoil does; segments and blocks whose octets are whichever, written over one behind the other.
-/
import Derived.Test.YtefmajjbkioddaaLSeal
namespace Go.Proofs.Ytefmajjbkioddaa
open Go.RowKit

set_option maxHeartbeats 400000 in
theorem spoil_none (a : Option Addr) (cap : Nat) (w : World) :
    Calls Try.prog 31 #[.slice a 0 cap] w fun e w' => e = .returned (.tuple #[]) ∧ w = w' := by
  go_enter Try.func31, Try.ntmps31
  go_wp2
  refine wp_loop_rounds 1 ?_
  rw [rounds_succ]
  go_wp2
  go_end0
  exact ⟨rfl, rfl⟩

/-- A slice of octets, whichever, in a block of its own. -/
def Eight (base : Nat) (w : World) (v : Value) (n : Nat) : Prop := ∃ l : List Int, l.length = n ∧ w.ownsRow base 5 1 v n (l.map (Value.int .u8))

theorem Eight.set {base : Nat} {w : World} {v : Value} {n : Nat} (h : Eight base w v n) (g k : Nat) (y : Int) : Eight base (w.setCell ⟨g, k, none⟩ (.int .u8 y)) v n := by
  obtain ⟨l, hl, ho⟩ := h
  rcases ho.2 with ⟨rfl, h0⟩ | ⟨g', cap, cur, rfl, _⟩
  · exact ⟨l, hl, ho.1, .inl ⟨rfl, h0⟩⟩
  · by_cases e : g' = g
    · subst e
      have := (ho.stored k (.int .u8 y)).1
      rw [← List.map_set] at this
      exact ⟨l.set k y, by rw [List.length_set]; exact hl, this⟩
    · exact ⟨l, hl, ho.kept (grown_set w g k _) (.inr (by simp [Value.ownBlock]; exact e))⟩

set_option maxHeartbeats 400000 in
theorem spoil_eight (base : Nat) (v : Value) (n : Nat) (w : World) (h : Eight base w v n) :
    Calls Try.prog 31 #[v] w fun e w' => e = .returned (.tuple #[]) ∧ w.grownBy w' v.ownBlock ∧ ∀ b u m, Eight b w u m → Eight b w' u m := by
  obtain ⟨l, hl, hown⟩ := h
  rcases id hown.2 with ⟨rfl, h0⟩ | ⟨g, cap, cur, rfl, _, _, h1, h2, _⟩
  · exact (spoil_none none 0 w).mono fun e w' ⟨he, hw⟩ => ⟨he, by subst hw; exact ⟨rfl, rfl, rfl, Nat.le_refl _, fun _ _ _ => rfl⟩, by subst hw; exact fun _ _ _ h => h⟩
  · have hn : n ≤ maxLen := by omega
    unfold maxLen at hn
    have HL : Hid (l.length = n) := hl
    have HE0 : Hid (∀ b u m, Eight b w u m → Eight b w u m) := fun _ _ _ h => h
    clear hl h1 h2
    go_enter Try.func31, Try.ntmps31
    go_wp2
    go_loopw [2] (fun i wr => ∃ (k : Nat) (l : List Int), k ≤ n ∧ i = .int .i64 k ∧ Hid (l.length = n) ∧ wr.ownsRow base 5 1 (.slice (some ⟨g, 0, none⟩) n cap) n (l.map (Value.int .u8)) ∧ w.grownBy wr (some g) ∧ Hid (∀ b u m, Eight b w u m → Eight b wr u m)) (fun i _ => n - (intOf i).toNat)
    case atStart => exact ⟨0, l, Nat.zero_le _, rfl, HL, hown, ⟨rfl, rfl, rfl, Nat.le_refl _, fun _ _ _ => rfl⟩, HE0⟩
    case round =>
      obtain ⟨k, l, hk, rfl, HL, hown, hbel, HE⟩ := hrel
      by_cases hlt : k < n
      · have hc : wr.cell? ⟨g, k, none⟩ = some (.int .u8 (l.getD k 0)) := by
          have hkl : k < l.length := by rw [HL.out]; exact hlt
          rw [hown.cellAt k (by omega), List.getElem?_map, List.getElem?_eq_getElem hkl]
          simp [List.getElem?_eq_getElem hkl]
        have hf := hown.frozenAt k
        obtain ⟨x, hx⟩ : ∃ x, x = l.getD k 0 := ⟨_, rfl⟩
        rw [← hx] at hc
        have hb2 := hbel.trans (hown.stored k (.int .u8 (bits .xor .u8 x 85))).2
        have hS := (hown.stored k (.int .u8 (bits .xor .u8 x 85))).1
        rw [← List.map_set] at hS
        have HL2 : Hid ((l.set k (bits .xor .u8 x 85)).length = n) := by
          show _ = _
          rw [List.length_set]; exact HL.out
        have HE2 : Hid (∀ b u m, Eight b w u m → Eight b (wr.setCell ⟨g, k, none⟩ (.int .u8 (bits .xor .u8 x 85))) u m) := fun b u m h => (HE.out b u m h).set g k _
        have hki : (k : Int) < (n : Int) := by omega
        clear hx hown hbel
        go_wp2
        go_roundw
        case rel => exact ⟨k + 1, _, by omega, by go_num, HL2, hS, hb2, HE2⟩
        case measure => simp [intOf]; omega
      · go_wp2
        go_end0
        exact ⟨rfl, hbel, HE.out⟩

theorem Eight.lt {base : Nat} {w : World} {v : Value} {n : Nat} (h : Eight base w v n) : ∀ g, v.ownBlock = some g → base ≤ g ∧ g < w.heap.size := by
  obtain ⟨_, _, h⟩ := h
  exact h.lt
theorem Eight.clear {base : Nat} {w : World} {v : Value} {n : Nat} (h : Eight base w v n) {ids : List TypeId} (hi : 5 ∉ ids) : Clear w v.ownBlock ids := by
  obtain ⟨_, _, h⟩ := h
  exact Clear.own h hi
theorem Eight.box {base : Nat} {w : World} {v : Value} {n : Nat} (h : Eight base w v n) {B : Nat} {t : TypeId} {cs : Array Value} (hB : Box w B t cs) (ht : t ≠ 5) : some B ≠ v.ownBlock := by
  obtain ⟨_, _, h⟩ := h
  exact hB.apart h ht

/-- Blocks whose octets are whichever. -/
def Raw (base N : Nat) (w : World) (v : Value) (n : Nat) : Prop :=
  ∃ vss : List (List Value), vss.length = n ∧ w.ownsRow base 36 3 v n vss.flatten ∧ ∀ us ∈ vss, ∃ p q a m c, us = [.int .i64 p, .int .i64 q, .slice a m c] ∧ Eight base w (.slice a m c) m ∧ ∀ g, (Value.slice a m c).ownBlock = some g → g < N
theorem Raw.of {base : Nat} {w : World} {v : Value} {l : List Bk} (h : bksN.owns base w [v] l) : Raw base w.heap.size w v l.length := by
  obtain ⟨v', vss, hv, h1, h2⟩ := h
  obtain rfl : v = v' := by simpa using hv
  refine ⟨vss, h2.length, h1, fun us hus => ?_⟩
  obtain ⟨t, _, ht⟩ := h2.left hus
  obtain ⟨a, c, rfl, hO, _⟩ := bk_own ht
  exact ⟨_, _, a, _, c, rfl, ⟨t.2.2, rfl, hO.row⟩, fun g hg => (hO.row.lt g hg).2⟩
theorem Raw.at {base N : Nat} {w : World} {v : Value} {n : Nat} (h : Raw base N w v n) (i : Nat) (hi : i < n) :
    ∃ b o a m c, (∀ W, (Instr.indexAt 31 v (.int .i64 i)).run Try.prog W = .ok (.pointer (some ⟨b, o, none⟩)) W) ∧ w.cell? ⟨b, o + 2, none⟩ = some (.slice a m c) ∧ Eight base w (.slice a m c) m ∧ ∀ g, (Value.slice a m c).ownBlock = some g → g < N := by
  obtain ⟨vss, hl, h1, h2⟩ := h
  obtain ⟨i3, hi3, _, hz31, _⟩ := info_parts Try.info36
  obtain ⟨us, hu⟩ := get_lt (l := vss) (k := i) (by omega)
  obtain ⟨p, q, a, m, c, rfl, hE⟩ := h2 us (List.mem_of_getElem? hu)
  obtain ⟨b, o, hix, _, hcell⟩ := (Cells.own h1).index (by omega) Try.underlying31 hi3 hz31 i hi
  refine ⟨b, o, a, m, c, hix, hcell 2 _ (flat_get (size := 3) (fun us hus => ?_) hu rfl), hE⟩
  obtain ⟨_, _, _, _, _, rfl, _⟩ := h2 us hus
  rfl
theorem Raw.spoilt {base N : Nat} {w w' : World} {v u : Value} {n m b : Nat} (h : Raw base N w v n) (hu : Eight b w u m) (hg : w.grownBy w' u.ownBlock) (hE : ∀ b u m, Eight b w u m → Eight b w' u m) : Raw base N w' v n := by
  obtain ⟨us, hl, h1, h2⟩ := h
  obtain ⟨l, _, hu⟩ := hu
  refine ⟨us, hl, h1.kept hg (Clear.apart (Clear.own hu (ids := [36]) (by decide)) h1 (by simp)), fun x hx => ?_⟩
  obtain ⟨p, q, a, m, c, e, hE'⟩ := h2 x hx
  exact ⟨p, q, a, m, c, e, hE _ _ _ hE'.1, hE'.2⟩
theorem Raw.same {base N : Nat} {w w' : World} {v : Value} {n : Nat} (h : Raw base N w v n) (hs : Same base w w') : Raw base N w' v n := by
  obtain ⟨us, hl, h1, h2⟩ := h
  refine ⟨us, hl, own_same h1 hs, fun x hx => ?_⟩
  obtain ⟨p, q, a, m, c, e, ⟨l, hl, hE'⟩, hN⟩ := h2 x hx
  exact ⟨p, q, a, m, c, e, ⟨l, hl, own_same hE' hs⟩, hN⟩

/-- Segments whose octets are whichever. -/
def RawS (base N : Nat) (w : World) (v : Value) (n : Nat) : Prop :=
  ∃ vss : List (List Value), vss.length = n ∧ w.ownsRow base 74 2 v n vss.flatten ∧ ∀ us ∈ vss, ∃ q a m c, us = [.int .i64 q, .slice a m c] ∧ Raw base N w (.slice a m c) m ∧ m ≤ maxLen
theorem RawS.of {base : Nat} {w : World} {v : Value} {l : List Sg} (h : sgsN.owns base w [v] l) : RawS base w.heap.size w v l.length := by
  obtain ⟨v', vss, hv, h1, h2⟩ := h
  obtain rfl : v = v' := by simpa using hv
  refine ⟨vss, h2.length, h1, fun us hus => ?_⟩
  obtain ⟨t, _, ht⟩ := h2.left hus
  obtain ⟨a, c, rfl, hO, _⟩ := sg_ownN ht
  obtain ⟨_, _, _, _, _, hm⟩ := sg_viewN (sgN.olies ht)
  exact ⟨_, a, _, c, rfl, Raw.of hO, hm⟩
theorem RawS.at {base N : Nat} {w : World} {v : Value} {n : Nat} (h : RawS base N w v n) (i : Nat) (hi : i < n) :
    ∃ b o a m c, (∀ W, (Instr.indexAt 30 v (.int .i64 i)).run Try.prog W = .ok (.pointer (some ⟨b, o, none⟩)) W) ∧ w.cell? ⟨b, o + 1, none⟩ = some (.slice a m c) ∧ Raw base N w (.slice a m c) m ∧ m ≤ maxLen := by
  obtain ⟨vss, hl, h1, h2⟩ := h
  obtain ⟨i3, hi3, _, hz31, _⟩ := info_parts Try.info74
  obtain ⟨us, hu⟩ := get_lt (l := vss) (k := i) (by omega)
  obtain ⟨q, a, m, c, rfl, hE⟩ := h2 us (List.mem_of_getElem? hu)
  obtain ⟨b, o, hix, _, hcell⟩ := (Cells.own h1).index (by omega) Try.underlying30 hi3 hz31 i hi
  refine ⟨b, o, a, m, c, hix, hcell 1 _ (flat_get (size := 2) (fun us hus => ?_) hu rfl), hE⟩
  obtain ⟨_, _, _, _, rfl, _⟩ := h2 us hus
  rfl
theorem RawS.hold {base N : Nat} {w : World} {v : Value} {n : Nat} (h : RawS base N w v n) (i : Nat) (hi : i < n) :
    ∃ g a m c cs, (∀ W, (Instr.indexAt 30 v (.int .i64 i)).run Try.prog W = .ok (.pointer (some ⟨g, i * 2, none⟩)) W) ∧ cs[i * 2 + 1]? = some (.slice a m c) ∧ Raw base N w (.slice a m c) m ∧ m ≤ maxLen ∧ Box w g 74 cs := by
  obtain ⟨vss, hl, h1, h2⟩ := h
  obtain ⟨i3, hi3, _, hz31, _⟩ := info_parts Try.info74
  obtain ⟨us, hu⟩ := get_lt (l := vss) (k := i) (by omega)
  obtain ⟨q, a, m, c, rfl, hR, hm⟩ := h2 us (List.mem_of_getElem? hu)
  have hf := flat_get (size := 2) (fun us hus => by obtain ⟨_, _, _, _, rfl, _⟩ := h2 us hus; rfl) hu (j := 1) (u := .slice a m c) rfl
  rcases h1.2 with ⟨_, h0⟩ | ⟨g, cap, cur, rfl, _, hg, _, _, _, htake⟩
  · omega
  · refine ⟨g, a, m, c, cur, fun W => ?_, ?_, hR, hm, hg⟩
    · have := run_index (size := 2) Try.underlying30 hi3 hz31 g 0 n cap i hi W
      simpa using this
    · rw [← htake, List.getElem?_take, if_pos (by omega)] at hf
      simpa using hf
theorem RawS.spoilt {base N : Nat} {w w' : World} {v u : Value} {n m b : Nat} (h : RawS base N w v n) (hu : Eight b w u m) (hg : w.grownBy w' u.ownBlock) (hE : ∀ b u m, Eight b w u m → Eight b w' u m) : RawS base N w' v n := by
  obtain ⟨us, hl, h1, h2⟩ := h
  have hu' := hu
  obtain ⟨l, _, hu⟩ := hu
  refine ⟨us, hl, h1.kept hg (Clear.apart (Clear.own hu (ids := [74]) (by decide)) h1 (by simp)), fun x hx => ?_⟩
  obtain ⟨q, a, m, c, e, hR, hm⟩ := h2 x hx
  exact ⟨q, a, m, c, e, hR.spoilt hu' hg hE, hm⟩
theorem Raw.more {base N M : Nat} {w : World} {v : Value} {n : Nat} (h : Raw base N w v n) (hN : N ≤ M) : Raw base M w v n := by
  obtain ⟨us, hl, h1, h2⟩ := h
  refine ⟨us, hl, h1, fun x hx => ?_⟩
  obtain ⟨p, q, a, m, c, e, hE, hg⟩ := h2 x hx
  exact ⟨p, q, a, m, c, e, hE, fun g hg' => Nat.lt_of_lt_of_le (hg g hg') hN⟩
theorem RawS.more {base N M : Nat} {w : World} {v : Value} {n : Nat} (h : RawS base N w v n) (hN : N ≤ M) : RawS base M w v n := by
  obtain ⟨us, hl, h1, h2⟩ := h
  refine ⟨us, hl, h1, fun x hx => ?_⟩
  obtain ⟨q, a, m, c, e, hR, hm⟩ := h2 x hx
  exact ⟨q, a, m, c, e, hR.more hN, hm⟩
theorem RawS.same {base N : Nat} {w w' : World} {v : Value} {n : Nat} (h : RawS base N w v n) (hs : Same base w w') : RawS base N w' v n := by
  obtain ⟨us, hl, h1, h2⟩ := h
  refine ⟨us, hl, own_same h1 hs, fun x hx => ?_⟩
  obtain ⟨q, a, m, c, e, hR, hm⟩ := h2 x hx
  exact ⟨q, a, m, c, e, hR.same hs, hm⟩

/-- While a store is written over: what was made behind block N on stays, and so does what was there ahead of all. -/
structure SPL (w V : World) (base N T : Nat) (v1 v2 v3 : Value) (n m k : Nat) (q : Int) (wr : World) : Prop where
  same : Same N V wr
  size : V.heap.size ≤ wr.heap.size
  bel : Below w.heap.size w wr
  box : Box wr T 33 #[v1, v2, v3, .int .i64 q]
  segs : RawS base N wr v1 n
  opn : Raw base N wr v3 k
  held : ∃ hd : List Bool, hd.length = m ∧ boolsS.owns base wr [v2] hd ∧ ∀ g, v2.ownBlock = some g → g < N
theorem SPL.step {w V : World} {base N T : Nat} {v1 v2 v3 u : Value} {n m k j : Nat} {q : Int} {wr wr' : World} (h : SPL w V base N T v1 v2 v3 n m k q wr) (hb : w.heap.size ≤ base) (hu : Eight base wr u j) (hlt : ∀ g, u.ownBlock = some g → g < N) (hg : wr.grownBy wr' u.ownBlock) (hE : ∀ b u m, Eight b wr u m → Eight b wr' u m) : SPL w V base N T v1 v2 v3 n m k q wr' := by
  obtain ⟨h1, h2, h3, h4, h5, h6, hd, h7, h8, h9⟩ := h
  refine ⟨Same.trans h1 h2 fun k hk hl => hg.block k hl fun e => ?_, Nat.le_trans h2 hg.size, h3.grown hg h3.size fun k hk => ?_, h4.grown hg (hu.box h4 (by decide)), h5.spoilt hu hg hE, h6.spoilt hu hg hE, hd, h7, boolsS.ogrown h8 hg (hu.clear (by decide)), h9⟩
  · have := hlt k e.symm
    omega
  · have := (hu.lt k hk).1
    omega
theorem SPL.drew {w V : World} {base N T : Nat} {v1 v2 v3 : Value} {n m k : Nat} {q : Int} {wr : World} (h : SPL w V base N T v1 v2 v3 n m k q wr) : SPL w V base N T v1 v2 v3 n m k q wr.drew := ⟨h.same, h.size, h.bel.drew, h.box, h.segs, h.opn, h.held⟩
theorem SPL.keep {w V : World} {base N T : Nat} {v1 v2 v3 : Value} {n m k : Nat} {q : Int} {wr : World} (h : SPL w V base N T v1 v2 v3 n m k q wr) {D : Nat} {t : TypeId} {cs : Array Value} (hD : Box V D t cs) (hN : N ≤ D) : Box wr D t cs := hD.kept (h.same D hN hD.lt)
/-- One truth of a row of its own: where it lies, and what a store makes of the row. -/
theorem bools_set {n : Nat} {w : World} {v : Value} {l : List Bool} (h : boolsS.owns n w [v] l) (i : Nat) (hi : i < l.length) :
    ∃ g cap x, v = .slice (some ⟨g, 0, none⟩) l.length cap ∧ n ≤ g ∧ (∀ W, (Instr.indexAt 23 v (.int .i64 i)).run Try.prog W = .ok (.pointer (some ⟨g, i, none⟩)) W) ∧ w.cell? ⟨g, i, none⟩ = some (.bool x) ∧ w.frozen? ⟨g, i, none⟩ = false ∧
      ∀ y, boolsS.owns n (w.setCell ⟨g, i, none⟩ (.bool y)) [v] (l.set i y) ∧ w.grownBy (w.setCell ⟨g, i, none⟩ (.bool y)) v.ownBlock ∧ ∀ ids, 4 ∉ ids → Clear w v.ownBlock ids := by
  obtain ⟨i0, hi0, _, hz, _⟩ := info_parts Try.info4
  obtain ⟨v', hv, hC, _⟩ := h
  obtain rfl : v = v' := by simpa using hv
  have hC : w.ownsRow n 4 1 v l.length (l.map Value.bool) := hC
  obtain ⟨g, cap, rfl⟩ : ∃ g cap, v = .slice (some ⟨g, 0, none⟩) l.length cap := by
    rcases hC.2 with ⟨_, h0⟩ | ⟨g, cap, cur, h', _⟩
    · omega
    · exact ⟨g, cap, h'⟩
  have hob : (Value.slice (some ⟨g, 0, none⟩) l.length cap).ownBlock = some g := rfl
  obtain ⟨x, hx⟩ := get_lt (l := l) (k := i) hi
  refine ⟨g, cap, x, rfl, (hC.lt g hob).1, fun W => ?_, ?_, hC.frozenAt _, fun y => ?_⟩
  · have := run_index (size := 1) Try.underlying23 hi0 hz g 0 l.length cap i hi W
    simpa using this
  · have hc := hC.cells hob i (.bool x) (by rw [List.getElem?_map, hx]; rfl)
    rwa [add_plain, Nat.zero_add] at hc
  · obtain ⟨h1, h2⟩ := hC.stored i (.bool y)
    rw [← List.map_set] at h1
    refine ⟨⟨_, rfl, by rw [List.length_set]; exact h1, fun _ _ => trivial⟩, h2, fun ids hids => Clear.own hC hids⟩
theorem Raw.grown {base N : Nat} {w w' : World} {v : Value} {n : Nat} {row : Option Nat} (h : Raw base N w v n) (hg : w.grownBy w' row) (hc : Clear w row [36, 5]) : Raw base N w' v n := by
  obtain ⟨us, hl, h1, h2⟩ := h
  refine ⟨us, hl, h1.kept hg (hc.apart h1 (by simp)), fun x hx => ?_⟩
  obtain ⟨p, q, a, m, c, e, ⟨l, hl, hE'⟩, hN⟩ := h2 x hx
  exact ⟨p, q, a, m, c, e, ⟨l, hl, hE'.kept hg (hc.apart hE' (by simp))⟩, hN⟩
theorem RawS.grown {base N : Nat} {w w' : World} {v : Value} {n : Nat} {row : Option Nat} (h : RawS base N w v n) (hg : w.grownBy w' row) (hc : Clear w row [74, 36, 5]) : RawS base N w' v n := by
  obtain ⟨us, hl, h1, h2⟩ := h
  refine ⟨us, hl, h1.kept hg (hc.apart h1 (by simp)), fun x hx => ?_⟩
  obtain ⟨q, a, m, c, e, hR, hm⟩ := h2 x hx
  exact ⟨q, a, m, c, e, hR.grown hg (hc.sub (fun y hy => List.mem_cons_of_mem _ hy)), hm⟩
theorem SPL.flip {w V : World} {base N T : Nat} {v1 v2 v3 : Value} {n m k : Nat} {q : Int} {wr : World} (h : SPL w V base N T v1 v2 v3 n m k q wr) (hb : w.heap.size ≤ base) (i : Nat) (hi : i < m) :
    ∃ g x, (∀ W, (Instr.indexAt 23 v2 (.int .i64 i)).run Try.prog W = .ok (.pointer (some ⟨g, i, none⟩)) W) ∧ wr.cell? ⟨g, i, none⟩ = some (.bool x) ∧ wr.frozen? ⟨g, i, none⟩ = false ∧ g ≠ T ∧ ∀ y, SPL w V base N T v1 v2 v3 n m k q (wr.setCell ⟨g, i, none⟩ (.bool y)) := by
  obtain ⟨h1, h2, h3, h4, h5, h6, hd, h7, h8, h9⟩ := h
  obtain ⟨g, cap, x, hv, hg, hix, hc, hf, hst⟩ := bools_set h8 i (by omega)
  have hob : v2.ownBlock = some g := by rw [hv]; rfl
  have hbx : some T ≠ v2.ownBlock := by
    obtain ⟨v', hv', hC, _⟩ := h8
    obtain rfl : v2 = v' := by simpa using hv'
    exact h4.apart (e := 4) hC (by decide)
  refine ⟨g, x, hix, hc, hf, fun e => hbx (by rw [hob, e]), fun y => ?_⟩
  obtain ⟨a1, a2, a3⟩ := hst y
  refine ⟨Same.trans h1 h2 fun k hk hl => a2.block k hl fun e => ?_, Nat.le_trans h2 a2.size, h3.grown a2 h3.size fun k hk => ?_, h4.grown a2 hbx, h5.grown a2 (a3 _ (by decide)), h6.grown a2 (a3 _ (by decide)), hd.set i y, by rw [List.length_set]; exact h7, a1, h9⟩
  · have := h9 k e.symm
    omega
  · rw [hob] at hk
    have : k = g := by simpa using hk.symm
    omega

end Go.Proofs.Ytefmajjbkioddaa
