/-
  What Spoil does: octets that the call owns are octets again; nothing but their block is changed. Blocks that are written over, one behind the other.
-/
import Derived.Test.YtmjgamokddedkaaSeal
namespace Go.Proofs.Ytmjgamokddedkaa
open Go.RowKit

set_option maxHeartbeats 400000 in
theorem spoil_none (a : Option Addr) (cap : Nat) (w : World) :
    Calls Try.prog 24 #[.slice a 0 cap] w fun e w' => e = .returned (.tuple #[]) ∧ w = w' := by
  go_enter Try.func24, Try.ntmps24
  go_wp2
  refine wp_loop_rounds 1 ?_
  rw [rounds_succ]
  go_wp2
  go_end0
  exact ⟨rfl, rfl⟩

/-- A slice of octets, whichever, in a block of its own. -/
def Eight (base : Nat) (w : World) (v : Value) (n : Nat) : Prop := ∃ l : List Int, l.length = n ∧ w.ownsRow base 5 1 v n (l.map (Value.int .u8))

theorem Eight.set {base : Nat} {w : World} {v : Value} {n : Nat} (h : Eight base w v n) (g k : Nat) (y : Int) : Eight base (w.setCell ⟨g, k, none⟩ (.int .u8 y)) v n := by
  obtain ⟨l, hl, ho⟩ := h
  rcases ho.2 with ⟨rfl, h0⟩ | ⟨g', cap, cur, rfl, _⟩
  · exact ⟨l, hl, ho.1, .inl ⟨rfl, h0⟩⟩
  · by_cases e : g' = g
    · subst e
      have := (ho.stored k (.int .u8 y)).1
      rw [← List.map_set] at this
      exact ⟨l.set k y, by rw [List.length_set]; exact hl, this⟩
    · exact ⟨l, hl, ho.kept (grown_set w g k _) (.inr (by simp [Value.ownBlock]; exact e))⟩

set_option maxHeartbeats 400000 in
theorem spoil_eight (base : Nat) (v : Value) (n : Nat) (w : World) (h : Eight base w v n) :
    Calls Try.prog 24 #[v] w fun e w' => e = .returned (.tuple #[]) ∧ w.grownBy w' v.ownBlock ∧ ∀ b u m, Eight b w u m → Eight b w' u m := by
  obtain ⟨l, hl, hown⟩ := h
  rcases id hown.2 with ⟨rfl, h0⟩ | ⟨g, cap, cur, rfl, _, _, h1, h2, _⟩
  · exact (spoil_none none 0 w).mono fun e w' ⟨he, hw⟩ => ⟨he, by subst hw; exact ⟨rfl, rfl, rfl, Nat.le_refl _, fun _ _ _ => rfl⟩, by subst hw; exact fun _ _ _ h => h⟩
  · have hn : n ≤ maxLen := by omega
    unfold maxLen at hn
    have HL : Hid (l.length = n) := hl
    have HE0 : Hid (∀ b u m, Eight b w u m → Eight b w u m) := fun _ _ _ h => h
    clear hl h1 h2
    go_enter Try.func24, Try.ntmps24
    go_wp2
    go_loopw [2] (fun i wr => ∃ (k : Nat) (l : List Int), k ≤ n ∧ i = .int .i64 k ∧ Hid (l.length = n) ∧ wr.ownsRow base 5 1 (.slice (some ⟨g, 0, none⟩) n cap) n (l.map (Value.int .u8)) ∧ w.grownBy wr (some g) ∧ Hid (∀ b u m, Eight b w u m → Eight b wr u m)) (fun i _ => n - (intOf i).toNat)
    case atStart => exact ⟨0, l, Nat.zero_le _, rfl, HL, hown, ⟨rfl, rfl, rfl, Nat.le_refl _, fun _ _ _ => rfl⟩, HE0⟩
    case round =>
      obtain ⟨k, l, hk, rfl, HL, hown, hbel, HE⟩ := hrel
      by_cases hlt : k < n
      · have hc : wr.cell? ⟨g, k, none⟩ = some (.int .u8 (l.getD k 0)) := by
          have hkl : k < l.length := by rw [HL.out]; exact hlt
          rw [hown.cellAt k (by omega), List.getElem?_map, List.getElem?_eq_getElem hkl]
          simp [List.getElem?_eq_getElem hkl]
        have hf := hown.frozenAt k
        obtain ⟨x, hx⟩ : ∃ x, x = l.getD k 0 := ⟨_, rfl⟩
        rw [← hx] at hc
        have hb2 := hbel.trans (hown.stored k (.int .u8 (bits .xor .u8 x 85))).2
        have hS := (hown.stored k (.int .u8 (bits .xor .u8 x 85))).1
        rw [← List.map_set] at hS
        have HL2 : Hid ((l.set k (bits .xor .u8 x 85)).length = n) := by
          show _ = _
          rw [List.length_set]; exact HL.out
        have HE2 : Hid (∀ b u m, Eight b w u m → Eight b (wr.setCell ⟨g, k, none⟩ (.int .u8 (bits .xor .u8 x 85))) u m) := fun b u m h => (HE.out b u m h).set g k _
        have hki : (k : Int) < (n : Int) := by omega
        clear hx hown hbel
        go_wp2
        go_roundw
        case rel => exact ⟨k + 1, _, by omega, by go_num, HL2, hS, hb2, HE2⟩
        case measure => simp [intOf]; omega
      · go_wp2
        go_end0
        exact ⟨rfl, hbel, HE.out⟩

theorem Eight.lt {base : Nat} {w : World} {v : Value} {n : Nat} (h : Eight base w v n) : ∀ g, v.ownBlock = some g → base ≤ g ∧ g < w.heap.size := by
  obtain ⟨_, _, h⟩ := h
  exact h.lt
theorem Eight.clear {base : Nat} {w : World} {v : Value} {n : Nat} (h : Eight base w v n) {ids : List TypeId} (hi : 5 ∉ ids) : Clear w v.ownBlock ids := by
  obtain ⟨_, _, h⟩ := h
  exact Clear.own h hi
theorem Eight.box {base : Nat} {w : World} {v : Value} {n : Nat} (h : Eight base w v n) {B : Nat} {t : TypeId} {cs : Array Value} (hB : Box w B t cs) (ht : t ≠ 5) : some B ≠ v.ownBlock := by
  obtain ⟨_, _, h⟩ := h
  exact hB.apart h ht

/-- Blocks whose octets are whichever. -/
def Raw (base N : Nat) (w : World) (v : Value) (n : Nat) : Prop :=
  ∃ vss : List (List Value), vss.length = n ∧ w.ownsRow base 58 3 v n vss.flatten ∧ ∀ us ∈ vss, ∃ p q a m c, us = [.int .i64 p, .int .i64 q, .slice a m c] ∧ Eight base w (.slice a m c) m ∧ ∀ g, (Value.slice a m c).ownBlock = some g → g < N
theorem Raw.of {base : Nat} {w : World} {v : Value} {l : List Bk} (h : bksN.owns base w [v] l) : Raw base w.heap.size w v l.length := by
  obtain ⟨v', vss, hv, h1, h2⟩ := h
  obtain rfl : v = v' := by simpa using hv
  refine ⟨vss, h2.length, h1, fun us hus => ?_⟩
  obtain ⟨t, _, ht⟩ := h2.left hus
  obtain ⟨a, c, rfl, hO, _⟩ := bk_own ht
  exact ⟨_, _, a, _, c, rfl, ⟨t.2.2, rfl, hO.row⟩, fun g hg => (hO.row.lt g hg).2⟩
theorem Raw.at {base N : Nat} {w : World} {v : Value} {n : Nat} (h : Raw base N w v n) (i : Nat) (hi : i < n) :
    ∃ b o a m c, (∀ W, (Instr.indexAt 26 v (.int .i64 i)).run Try.prog W = .ok (.pointer (some ⟨b, o, none⟩)) W) ∧ w.cell? ⟨b, o + 2, none⟩ = some (.slice a m c) ∧ Eight base w (.slice a m c) m ∧ ∀ g, (Value.slice a m c).ownBlock = some g → g < N := by
  obtain ⟨vss, hl, h1, h2⟩ := h
  obtain ⟨i3, hi3, _, hz31, _⟩ := info_parts Try.info58
  obtain ⟨us, hu⟩ := get_lt (l := vss) (k := i) (by omega)
  obtain ⟨p, q, a, m, c, rfl, hE⟩ := h2 us (List.mem_of_getElem? hu)
  obtain ⟨b, o, hix, _, hcell⟩ := (Cells.own h1).index (by omega) Try.underlying26 hi3 hz31 i hi
  refine ⟨b, o, a, m, c, hix, hcell 2 _ (flat_get (size := 3) (fun us hus => ?_) hu rfl), hE⟩
  obtain ⟨_, _, _, _, _, rfl, _⟩ := h2 us hus
  rfl
theorem Raw.spoilt {base N : Nat} {w w' : World} {v u : Value} {n m b : Nat} (h : Raw base N w v n) (hu : Eight b w u m) (hg : w.grownBy w' u.ownBlock) (hE : ∀ b u m, Eight b w u m → Eight b w' u m) : Raw base N w' v n := by
  obtain ⟨us, hl, h1, h2⟩ := h
  obtain ⟨l, _, hu⟩ := hu
  refine ⟨us, hl, h1.kept hg (Clear.apart (Clear.own hu (ids := [58]) (by decide)) h1 (by simp)), fun x hx => ?_⟩
  obtain ⟨p, q, a, m, c, e, hE'⟩ := h2 x hx
  exact ⟨p, q, a, m, c, e, hE _ _ _ hE'.1, hE'.2⟩
theorem Raw.same {base N : Nat} {w w' : World} {v : Value} {n : Nat} (h : Raw base N w v n) (hs : Same base w w') : Raw base N w' v n := by
  obtain ⟨us, hl, h1, h2⟩ := h
  refine ⟨us, hl, own_same h1 hs, fun x hx => ?_⟩
  obtain ⟨p, q, a, m, c, e, ⟨l, hl, hE'⟩, hN⟩ := h2 x hx
  exact ⟨p, q, a, m, c, e, ⟨l, hl, own_same hE' hs⟩, hN⟩

/-- While blocks are written over: what was made behind block N on stays, and so does what was there ahead of all. -/
structure SP (w V : World) (base N : Nat) (p : Array Value) (v : Value) (n : Nat) (wr : World) : Prop where
  same : Same N V wr
  size : V.heap.size ≤ wr.heap.size
  bel : Below w.heap.size w wr
  box : Box wr w.heap.size 24 p
  raw : Raw base N wr v n
theorem SP.step {w V : World} {base N : Nat} {p : Array Value} {v u : Value} {n m : Nat} {wr wr' : World} (h : SP w V base N p v n wr) (hb : w.heap.size ≤ base) (hu : Eight base wr u m) (hlt : ∀ g, u.ownBlock = some g → g < N) (hg : wr.grownBy wr' u.ownBlock) (hE : ∀ b u m, Eight b wr u m → Eight b wr' u m) : SP w V base N p v n wr' := by
  obtain ⟨h1, h2, h3, h4, h5⟩ := h
  refine ⟨Same.trans h1 h2 fun k hk hl => hg.block k hl fun e => ?_, Nat.le_trans h2 hg.size, h3.grown hg h3.size fun k hk => ?_, h4.grown hg (hu.box h4 (by decide)), h5.spoilt hu hg hE⟩
  · have := hlt k e.symm
    omega
  · have := (hu.lt k hk).1
    omega
theorem SP.keep {w V : World} {base N : Nat} {p : Array Value} {v : Value} {n : Nat} {wr : World} (h : SP w V base N p v n wr) {D : Nat} {t : TypeId} {cs : Array Value} (hD : Box V D t cs) (hN : N ≤ D) : Box wr D t cs := hD.kept (h.same D hN hD.lt)

end Go.Proofs.Ytmjgamokddedkaa
