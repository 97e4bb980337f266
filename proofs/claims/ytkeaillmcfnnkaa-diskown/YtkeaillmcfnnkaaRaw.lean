/-
  Octets that are written over: they are octets again; nothing but their block is changed. Lists and writes whose octets are whichever.
-/
import Derived.Test.YtkeaillmcfnnkaaSpoil
import Derived.Test.YtkeaillmcfnnkaaPut
namespace Go.Proofs.Ytkeaillmcfnnkaa
open Go.RowKit

/-- A slice of octets, whichever, in a block of its own. -/
def Eight (base : Nat) (w : World) (v : Value) (n : Nat) : Prop := ∃ l : List Int, l.length = n ∧ w.ownsRow base 5 1 v n (l.map (Value.int .u8))

theorem Eight.set {base : Nat} {w : World} {v : Value} {n : Nat} (h : Eight base w v n) (g k : Nat) (y : Int) : Eight base (w.setCell ⟨g, k, none⟩ (.int .u8 y)) v n := by
  obtain ⟨l, hl, ho⟩ := h
  rcases ho.2 with ⟨rfl, h0⟩ | ⟨g', cap, cur, rfl, _⟩
  · exact ⟨l, hl, ho.1, .inl ⟨rfl, h0⟩⟩
  · by_cases e : g' = g
    · subst e
      have := (ho.stored k (.int .u8 y)).1
      rw [← List.map_set] at this
      exact ⟨l.set k y, by rw [List.length_set]; exact hl, this⟩
    · exact ⟨l, hl, ho.kept (grown_set w g k _) (.inr (by simp [Value.ownBlock]; exact e))⟩

set_option maxHeartbeats 400000 in
theorem spoil_eight (base : Nat) (v : Value) (n : Nat) (w : World) (h : Eight base w v n) :
    Calls Try.prog 30 #[v] w fun e w' => e = .returned (.tuple #[]) ∧ w.grownBy w' v.ownBlock ∧ ∀ b u m, Eight b w u m → Eight b w' u m := by
  obtain ⟨l, hl, hown⟩ := h
  rcases id hown.2 with ⟨rfl, h0⟩ | ⟨g, cap, cur, rfl, _, _, h1, h2, _⟩
  · exact (spoil_none none 0 w).mono fun e w' ⟨he, hw⟩ => ⟨he, by subst hw; exact ⟨rfl, rfl, rfl, Nat.le_refl _, fun _ _ _ => rfl⟩, by subst hw; exact fun _ _ _ h => h⟩
  · have hn : n ≤ maxLen := by omega
    unfold maxLen at hn
    have HL : Hid (l.length = n) := hl
    have HE0 : Hid (∀ b u m, Eight b w u m → Eight b w u m) := fun _ _ _ h => h
    clear hl h1 h2
    go_enter Try.func30, Try.ntmps30
    go_wp2
    go_loopw [2] (fun i wr => ∃ (k : Nat) (l : List Int), k ≤ n ∧ i = .int .i64 k ∧ Hid (l.length = n) ∧ wr.ownsRow base 5 1 (.slice (some ⟨g, 0, none⟩) n cap) n (l.map (Value.int .u8)) ∧ w.grownBy wr (some g) ∧ Hid (∀ b u m, Eight b w u m → Eight b wr u m)) (fun i _ => n - (intOf i).toNat)
    case atStart => exact ⟨0, l, Nat.zero_le _, rfl, HL, hown, ⟨rfl, rfl, rfl, Nat.le_refl _, fun _ _ _ => rfl⟩, HE0⟩
    case round =>
      obtain ⟨k, l, hk, rfl, HL, hown, hbel, HE⟩ := hrel
      by_cases hlt : k < n
      · have hc : wr.cell? ⟨g, k, none⟩ = some (.int .u8 (l.getD k 0)) := by
          have hkl : k < l.length := by rw [HL.out]; exact hlt
          rw [hown.cellAt k (by omega), List.getElem?_map, List.getElem?_eq_getElem hkl]
          simp [List.getElem?_eq_getElem hkl]
        have hf := hown.frozenAt k
        obtain ⟨x, hx⟩ : ∃ x, x = l.getD k 0 := ⟨_, rfl⟩
        rw [← hx] at hc
        have hb2 := hbel.trans (hown.stored k (.int .u8 (bits .xor .u8 x 85))).2
        have hS := (hown.stored k (.int .u8 (bits .xor .u8 x 85))).1
        rw [← List.map_set] at hS
        have HL2 : Hid ((l.set k (bits .xor .u8 x 85)).length = n) := by
          show _ = _
          rw [List.length_set]; exact HL.out
        have HE2 : Hid (∀ b u m, Eight b w u m → Eight b (wr.setCell ⟨g, k, none⟩ (.int .u8 (bits .xor .u8 x 85))) u m) := fun b u m h => (HE.out b u m h).set g k _
        have hki : (k : Int) < (n : Int) := by omega
        clear hx hown hbel
        go_wp2
        go_roundw
        case rel => exact ⟨k + 1, _, by omega, by go_num, HL2, hS, hb2, HE2⟩
        case measure => simp [intOf]; omega
      · go_wp2
        go_end0
        exact ⟨rfl, hbel, HE.out⟩

/-- One slice of octets, whichever, ahead of block N. -/
def Near (base N : Nat) (w : World) (u : Value) : Prop := ∃ a m c, u = .slice a m c ∧ Eight base w (.slice a m c) m ∧ ∀ g, (Value.slice a m c).ownBlock = some g → g < N
theorem Near.of {base N : Nat} {w : World} {u : Value} {l : List Int} (h : Own1 base w u l) (hN : w.heap.size ≤ N) : Near base N w u := by
  obtain ⟨a, c, rfl⟩ := own_shape h.1
  refine ⟨a, _, c, rfl, ⟨l, rfl, h.1⟩, fun g hg => ?_⟩
  have := (h.1.lt g hg).2
  omega
theorem Near.same {base N : Nat} {w w' : World} {u : Value} (h : Near base N w u) (hs : Same base w w') : Near base N w' u := by
  obtain ⟨a, m, c, e, ⟨l, hl, ho⟩, hN⟩ := h
  exact ⟨a, m, c, e, ⟨l, hl, own_same ho hs⟩, hN⟩
theorem Near.after {base N : Nat} {w w' : World} {u : Value} (h : Near base N w u) (hE : ∀ b u m, Eight b w u m → Eight b w' u m) : Near base N w' u := by
  obtain ⟨a, m, c, e, ho, hN⟩ := h
  exact ⟨a, m, c, e, hE _ _ _ ho, hN⟩

/-- Lists and writes whose octets are whichever. -/
def RawL (base N : Nat) (w : World) (v : Value) (n : Nat) : Prop := ∃ us : List Value, us.length = n ∧ w.ownsRow base 26 1 v n us ∧ ∀ u ∈ us, Near base N w u
def RawW (base N : Nat) (w : World) (v : Value) (n : Nat) : Prop := ∃ ps : List (Int × Value), ps.length = n ∧ w.ownsRow base 64 2 v n (flat ps) ∧ ∀ p ∈ ps, Near base N w p.2

theorem each_mem {α β : Type} {R : α → β → Prop} : ∀ {xs : List α} {ys : List β} {a : α}, Each R xs ys → a ∈ xs → ∃ b ∈ ys, R a b
  | x :: xs, y :: ys, a, h, ha => by
    rcases List.mem_cons.1 ha with rfl | h'
    · exact ⟨y, List.mem_cons_self .., h.1⟩
    · obtain ⟨b, hb, hr⟩ := each_mem h.2 h'
      exact ⟨b, List.mem_cons_of_mem _ hb, hr⟩
  | [], _, _, _, ha => by cases ha
  | _ :: _, [], _, h, _ => h.elim

theorem RawL.of {base N : Nat} {w : World} {v : Value} {ls : List (List Int)} (h : OwnLists base w v ls) (hN : w.heap.size ≤ N) : RawL base N w v ls.length := by
  obtain ⟨us, h1, h2⟩ := h
  refine ⟨us, h2.length, h1, fun u hu => ?_⟩
  obtain ⟨l, _, hl⟩ := each_mem h2 hu
  exact .of hl hN
theorem RawW.of {base N : Nat} {w : World} {v : Value} {ws : List (Int × List Int)} (h : OwnWrites base w 64 v ws) (hN : w.heap.size ≤ N) : RawW base N w v ws.length := by
  obtain ⟨us, h1, h2⟩ := h
  refine ⟨us, h2.length, h1, fun u hu => ?_⟩
  obtain ⟨l, _, hl⟩ := each_mem h2 hu
  exact .of hl.2.1 hN
theorem RawL.same {base N : Nat} {w w' : World} {v : Value} {n : Nat} (h : RawL base N w v n) (hs : Same base w w') : RawL base N w' v n := by
  obtain ⟨us, hl, h1, h2⟩ := h
  exact ⟨us, hl, own_same h1 hs, fun u hu => (h2 u hu).same hs⟩
theorem RawW.same {base N : Nat} {w w' : World} {v : Value} {n : Nat} (h : RawW base N w v n) (hs : Same base w w') : RawW base N w' v n := by
  obtain ⟨us, hl, h1, h2⟩ := h
  exact ⟨us, hl, own_same h1 hs, fun u hu => (h2 u hu).same hs⟩
theorem RawL.after {base N b m : Nat} {w w' : World} {v u : Value} {n : Nat} (h : RawL base N w v n) (hu : Eight b w u m) (hg : w.grownBy w' u.ownBlock) (hE : ∀ b u m, Eight b w u m → Eight b w' u m) : RawL base N w' v n := by
  obtain ⟨us, hl, h1, h2⟩ := h
  obtain ⟨l, _, ho⟩ := hu
  exact ⟨us, hl, h1.kept hg (own_apart h1 ho (by decide)), fun u hu => (h2 u hu).after hE⟩
theorem RawW.after {base N b m : Nat} {w w' : World} {v u : Value} {n : Nat} (h : RawW base N w v n) (hu : Eight b w u m) (hg : w.grownBy w' u.ownBlock) (hE : ∀ b u m, Eight b w u m → Eight b w' u m) : RawW base N w' v n := by
  obtain ⟨us, hl, h1, h2⟩ := h
  obtain ⟨l, _, ho⟩ := hu
  exact ⟨us, hl, h1.kept hg (own_apart h1 ho (by decide)), fun u hu => (h2 u hu).after hE⟩
theorem RawL.at {base N : Nat} {w : World} {v : Value} {n : Nat} (h : RawL base N w v n) (i : Nat) (hi : i < n) :
    ∃ b o a m c, (∀ W, (Instr.indexAt 22 v (.int .i64 i)).run Try.prog W = .ok (.pointer (some ⟨b, o, none⟩)) W) ∧ w.cell? ⟨b, o, none⟩ = some (.slice a m c) ∧ Eight base w (.slice a m c) m ∧ ∀ g, (Value.slice a m c).ownBlock = some g → g < N := by
  obtain ⟨us, hl, h1, h2⟩ := h
  obtain ⟨i0, hi0, _, hz, _⟩ := info_parts Try.info26
  obtain ⟨u, hu⟩ := get_lt (l := us) (k := i) (by omega)
  obtain ⟨a, m, c, rfl, hE⟩ := h2 u (List.mem_of_getElem? hu)
  obtain ⟨b, o, cap, rfl, _, _, _, hc⟩ := (Cells.own h1).place (by omega) i hi
  refine ⟨b, o + i, a, m, c, fun W => ?_, ?_, hE⟩
  · have := run_index Try.underlying22 hi0 hz b o n cap i hi W
    rwa [Nat.mul_one] at this
  · have := hc 0 _ (by simpa using hu)
    simpa using this
theorem RawW.at {base N : Nat} {w : World} {v : Value} {n : Nat} (h : RawW base N w v n) (i : Nat) (hi : i < n) :
    ∃ b o a m c, (∀ W, (Instr.indexAt 28 v (.int .i64 i)).run Try.prog W = .ok (.pointer (some ⟨b, o, none⟩)) W) ∧ w.cell? ⟨b, o + 1, none⟩ = some (.slice a m c) ∧ Eight base w (.slice a m c) m ∧ ∀ g, (Value.slice a m c).ownBlock = some g → g < N := by
  obtain ⟨us, hl, h1, h2⟩ := h
  obtain ⟨i0, hi0, _, hz, _⟩ := info_parts Try.info64
  obtain ⟨p, hp⟩ := get_lt (l := us) (k := i) (by omega)
  obtain ⟨a, m, c, e, hE⟩ := h2 p (List.mem_of_getElem? hp)
  obtain ⟨b, o, cap, rfl, _, _, _, hc⟩ := (Cells.own h1).place (by omega) i hi
  obtain ⟨_, f1⟩ := flat_get us i p hp
  refine ⟨b, o + i * 2, a, m, c, fun W => run_index Try.underlying28 hi0 hz b o n cap i hi W, ?_, hE⟩
  have := hc 1 _ f1
  rwa [e] at this

/-- While octets are written over: what was made from block N on stays, and so does what was there ahead of all. -/
structure SP (w V : World) (base N : Nat) (vs vc : Value) (n m : Nat) (wr : World) : Prop where
  same : Same N V wr
  size : V.heap.size ≤ wr.heap.size
  bel : Below w.heap.size w wr
  lists : RawL base N wr vs n
  writes : RawW base N wr vc m
theorem SP.step {w V : World} {base N : Nat} {vs vc u : Value} {n m l : Nat} {wr wr' : World} (h : SP w V base N vs vc n m wr) (hb : w.heap.size ≤ base) (hu : Eight base wr u l) (hlt : ∀ g, u.ownBlock = some g → g < N) (hg : wr.grownBy wr' u.ownBlock) (hE : ∀ b u m, Eight b wr u m → Eight b wr' u m) : SP w V base N vs vc n m wr' := by
  obtain ⟨h1, h2, h3, h4, h5⟩ := h
  refine ⟨Same.trans h1 h2 fun k hk hl => hg.block k hl fun e => ?_, Nat.le_trans h2 hg.size, h3.grown hg h3.size fun k hk => ?_, h4.after hu hg hE, h5.after hu hg hE⟩
  · have := hlt k e.symm
    omega
  · obtain ⟨_, _, ho⟩ := hu
    have := (ho.lt k hk).1
    omega
theorem SP.keep {w V : World} {base N : Nat} {vs vc : Value} {n m : Nat} {wr : World} (h : SP w V base N vs vc n m wr) {D : Nat} {t : TypeId} {a b : Value} (hD : Box V D t a b) (hN : N ≤ D) : Box wr D t a b := hD.kept (h.same D hN hD.lt)

end Go.Proofs.Ytkeaillmcfnnkaa
