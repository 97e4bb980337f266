/-
  What each call answers, with its state's nodes counted by a letter: as the laws use them.
  What Spoil does; nodes whose entries' numbers and octets are whichever, written over one behind the other.
-/
import Derived.Test.YtopcefhncildnaaGreatDoorO42
import Derived.Test.YtopcefhncildnaaGreatDoorO43
set_option maxRecDepth 100000
set_option maxHeartbeats 400000
namespace Go.Proofs.YtopcefhncildnaaGreatDoor
open Go.RowKit
open P (serr sval ArgT OwnT)
def Flat (base : Nat) (T : Int → St → Prop) (e : Ending) (w' : World) : Prop :=
 ∃ (k : Int) (l : List Nd) (nx : Int) (n : Nat) (a : Option Addr) (c : Nat), e = .returned (.tuple #[.agg #[.slice a n c, .int .i64 nx], .int .i64 k]) ∧ n = l.length ∧ ndsN.lies base w' [.slice a n c] l ∧ T k (l, nx)
theorem Tells.flat {s : St} {ps : List ByteArray} {K : Int} {s' : St} {w : World} {e : Ending} {w' : World} (h : Tells s ps K s' w e w') : Flat w.heap.size (Told s ps K s') e w' ∧ Below w.heap.size w w' := by
 obtain ⟨⟨k, S, a, c, he, hl, ht⟩, hb⟩ := h
 exact ⟨⟨k, S.1, S.2, S.1.length, a, c, he, rfl, hl, ht⟩, hb⟩
theorem create_f {n0 : Nat} {a : Option Addr} {c n : Nat} {l : List Nd} {nx : Int} (hn : n = l.length) {p : ByteArray} (hp : p.size ≤ maxLen) {w : World} (hA : ndsN.lies n0 w [.slice a n c] l) (hg : Glob w) :
   Calls Tryz.prog 14 #[.agg #[.slice a n c, .int .i64 nx], .string p] w fun e w' => Flat w.heap.size (Told (l, nx) [p] (mkE (l, nx) (sval p)) (mkN (l, nx) (hold (l, nx) (sval p)) (lst (sval p)) false)) e w' ∧ Below w.heap.size w w' := by
 subst hn; exact (Create_any n0 a c (l, nx) p hp w hA hg).mono fun e w' h => h.tells.flat
def FlatW (base : Nat) (dl : Nat) (T : Int → St → Prop) (e : Ending) (w' : World) : Prop :=
 ∃ (k m : Int) (l : List Nd) (nx : Int) (n : Nat) (a : Option Addr) (c : Nat), e = .returned (.tuple #[.agg #[.slice a n c, .int .i64 nx], .int .i64 m, .int .i64 k]) ∧ n = l.length ∧ ndsN.lies base w' [.slice a n c] l ∧ T k (l, nx) ∧ ((k = 0 ∧ m = dl) ∨ (k ≠ 0 ∧ m = 0))
theorem write_f {n0 n1 : Nat} {a : Option Addr} {c n : Nat} {l : List Nd} {nx : Int} (hn : n = l.length) {p : ByteArray} (hp : p.size ≤ maxLen) {off : Int} (ho : I64 off) {da : Option Addr} {dl dc : Nat} {d : List Int} (hd : dl = d.length) {w : World} (hv : Arg n1 w (.slice da dl dc) d) (hA : ndsN.lies n0 w [.slice a n c] l) (hg : Glob w) :
   Calls Tryz.prog 12 #[.agg #[.slice a n c, .int .i64 nx], .string p, .int .i64 off, .slice da dl dc] w fun e w' => FlatW w.heap.size dl (Told (l, nx) [p] (rwE (l, nx) (sval p) (F.wrE (fi (tgt (l, nx) (sval p))) off d)) (filN (l, nx) (tgt (l, nx) (sval p)) (F.wrF (fi (tgt (l, nx) (sval p))) off d))) e w' ∧ Below w.heap.size w w' := by
 subst hn hd
 refine (Write_any n0 a c (l, nx) p hp off ho da dc d n1 w hv hA hg).mono fun e w' h => ⟨?_, h.2⟩
 rcases h.1 with ⟨k, he, hk⟩ | ⟨v, he, h1, h2, h3, hl⟩
 · refine ⟨k, 0, [], 0, 0, none, 0, he, rfl, nds_nil _ _, ?_, .inr ⟨?_, rfl⟩⟩
   · rcases hk with ⟨a, b⟩ | ⟨a, b, c⟩ | ⟨a, b, c, d⟩
     · exact .inl ⟨a, b, rfl⟩
     · exact .inr (.inl ⟨a, b, c, rfl⟩)
     · exact .inr (.inr (.inl ⟨a, b, c, d, rfl⟩))
   · rcases hk with ⟨a, b⟩ | ⟨a, b, c⟩ | ⟨a, b, c, d⟩ <;> omega
 · obtain ⟨a, c, rfl⟩ := nds_shape hl
   exact ⟨0, _, _, _, _, a, c, he, rfl, hl, .inr (.inr (.inr ⟨h1, h2, h3, rfl, rfl⟩)), .inl ⟨rfl, rfl⟩⟩
def Found (s : St) (p : ByteArray) (i k : Int) : Prop := (¬ Ok s ∧ i = 0 ∧ k = 9) ∨ (Ok s ∧ serr p ≠ 0 ∧ i = 0 ∧ k = serr p) ∨ (Ok s ∧ serr p = 0 ∧ i = (wlk s.1 1 (sval p)).1 ∧ k = (wlk s.1 1 (sval p)).2)
theorem of_f {n0 : Nat} {a : Option Addr} {c n : Nat} {l : List Nd} {nx : Int} (hn : n = l.length) {w : World} (hA : ndsR.lies n0 w [.slice a n c] l) (hS : FitsS l) :
   Calls Tryz.prog 10 #[.agg #[.slice a n c, .int .i64 nx]] w fun e w' => (∃ a' c', e = .returned (.agg #[.slice a' n c', .int .i64 nx]) ∧ ndsN.owns w.heap.size w' [.slice a' n c'] l) ∧ Below w.heap.size w w' := by
 subst hn
 refine (of10_any n0 a c (l, nx) w hA hS).mono fun e w' h => ⟨?_, h.2⟩
 obtain ⟨v, he, ho⟩ := h.1
 obtain ⟨a', c', rfl⟩ := nds_shape (ndsN.olies ho)
 exact ⟨a', c', he, ho⟩
theorem alike_f {n1 n2 : Nat} {a1 a2 : Option Addr} {c1 c2 m1 m2 : Nat} {l : List Nd} {nx : Int} (hn1 : m1 = l.length) (hn2 : m2 = l.length) {w : World} (h1 : ndsN.lies n1 w [.slice a1 m1 c1] l) (h2 : ndsR.lies n2 w [.slice a2 m2 c2] l) :
   Calls Tryz.prog 18 #[.agg #[.slice a1 m1 c1, .int .i64 nx], .agg #[.slice a2 m2 c2, .int .i64 nx]] w fun e w' => e = .returned (.int .i64 0) ∧ Below w.heap.size w w' := by
 subst hn1 hn2
 refine (alike10_any n1 n2 a1 a2 c1 c2 (l, nx) (l, nx) w h1 h2).mono fun e w' h => ⟨?_, h.2⟩
 obtain ⟨d, he, ⟨_, h0⟩ | ⟨h1, _⟩⟩ := h.1
 · rw [he, h0]
 · exact absurd rfl h1
theorem fitsS_of {s : St} (h : stR.fits s) : FitsS s.1 := by
 obtain ⟨⟨h1, h2⟩, _⟩ := h
 have b1 : Tryz.prog.bytesOf 101 = 80 := by kernel_rfl
 refine ⟨?_, fun p hp => ?_⟩
 · have h3 : s.1.length * Tryz.prog.bytesOf 101 ≤ 140737488351232 := h1
   rwa [b1] at h3
 · obtain ⟨_, _, _, h4, h5⟩ := h2 p hp
   exact ⟨D.fits_of h4, F.fits_of h5⟩
end Go.Proofs.YtopcefhncildnaaGreatDoor
namespace Go.Proofs.YtopcefhncildnaaGreatDoor
open Go.RowKit
open F (bksN)
theorem spoil_none (a : Option Addr) (cap : Nat) (w : World) :
   Calls Tryz.prog 16 #[.slice a 0 cap] w fun e w' => e = .returned (.tuple #[]) ∧ w = w' := by
 go_enter Tryz.func16, Tryz.ntmps16
 go_wp2
 refine wp_loop_rounds 1 ?_
 rw [rounds_succ]
 go_wp2
 go_end0
 exact ⟨rfl, rfl⟩
def Eight (base : Nat) (w : World) (v : Value) (n : Nat) : Prop := ∃ l : List Int, l.length = n ∧ w.ownsRow base 5 1 v n (l.map (Value.int .u8))
theorem Eight.set {base : Nat} {w : World} {v : Value} {n : Nat} (h : Eight base w v n) (g k : Nat) (y : Int) : Eight base (w.setCell ⟨g, k, none⟩ (.int .u8 y)) v n := by
 obtain ⟨l, hl, ho⟩ := h
 rcases ho.2 with ⟨rfl, h0⟩ | ⟨g', cap, cur, rfl, _⟩
 · exact ⟨l, hl, ho.1, .inl ⟨rfl, h0⟩⟩
 · by_cases e : g' = g
   · subst e
     have := (ho.stored k (.int .u8 y)).1
     rw [← List.map_set] at this
     exact ⟨l.set k y, by rw [List.length_set]; exact hl, this⟩
   · exact ⟨l, hl, ho.kept (grown_set w g k _) (.inr (by simp [Value.ownBlock]; exact e))⟩
theorem spoil_eight (base : Nat) (v : Value) (n : Nat) (w : World) (h : Eight base w v n) :
   Calls Tryz.prog 16 #[v] w fun e w' => e = .returned (.tuple #[]) ∧ w.grownBy w' v.ownBlock ∧ ∀ b u m, Eight b w u m → Eight b w' u m := by
 obtain ⟨l, hl, hown⟩ := h
 rcases id hown.2 with ⟨rfl, h0⟩ | ⟨g, cap, cur, rfl, _, _, h1, h2, _⟩
 · exact (spoil_none none 0 w).mono fun e w' ⟨he, hw⟩ => ⟨he, by subst hw; exact ⟨rfl, rfl, rfl, Nat.le_refl _, fun _ _ _ => rfl⟩, by subst hw; exact fun _ _ _ h => h⟩
 · have hn : n ≤ maxLen := by omega
   unfold maxLen at hn
   have HL : Hid (l.length = n) := hl
   have HE0 : Hid (∀ b u m, Eight b w u m → Eight b w u m) := fun _ _ _ h => h
   clear hl h1 h2
   go_enter Tryz.func16, Tryz.ntmps16
   go_wp2
   go_loopw [2] (fun i wr => ∃ (k : Nat) (l : List Int), k ≤ n ∧ i = .int .i64 k ∧ Hid (l.length = n) ∧ wr.ownsRow base 5 1 (.slice (some ⟨g, 0, none⟩) n cap) n (l.map (Value.int .u8)) ∧ w.grownBy wr (some g) ∧ Hid (∀ b u m, Eight b w u m → Eight b wr u m)) (fun i _ => n - (intOf i).toNat)
   case atStart => exact ⟨0, l, Nat.zero_le _, rfl, HL, hown, ⟨rfl, rfl, rfl, Nat.le_refl _, fun _ _ _ => rfl⟩, HE0⟩
   case round => (
 obtain ⟨k, l, hk, rfl, HL, hown, hbel, HE⟩ := hrel
 by_cases hlt : k < n
 · have hc : wr.cell? ⟨g, k, none⟩ = some (.int .u8 (l.getD k 0)) := by
     have hkl : k < l.length := by rw [HL.out]; exact hlt
     rw [hown.cellAt k (by omega), List.getElem?_map, List.getElem?_eq_getElem hkl]
     simp [List.getElem?_eq_getElem hkl]
   have hf := hown.frozenAt k
   obtain ⟨x, hx⟩ := exa (l.getD k 0)
   rw [← hx] at hc
   have hb2 := hbel.trans (hown.stored k (.int .u8 (bits .xor .u8 x 85))).2
   have hS := (hown.stored k (.int .u8 (bits .xor .u8 x 85))).1
   rw [← List.map_set] at hS
   have HL2 : Hid ((l.set k (bits .xor .u8 x 85)).length = n) := by (
 show _ = _
 rw [List.length_set]; exact HL.out)
   have HE2 : Hid (∀ b u m, Eight b w u m → Eight b (wr.setCell ⟨g, k, none⟩ (.int .u8 (bits .xor .u8 x 85))) u m) := fun b u m h => (HE.out b u m h).set g k _
   have hki : (k : Int) < (n : Int) := by omega
   clear hx hown hbel
   go_wp2
   go_roundw
   case rel => exact ⟨k + 1, _, by omega, by go_num, HL2, hS, hb2, HE2⟩
   case measure => simp [intOf]; omega
 · go_wp2
   go_end0
   exact ⟨rfl, hbel, HE.out⟩)
theorem Eight.lt {base : Nat} {w : World} {v : Value} {n : Nat} (h : Eight base w v n) : ∀ g, v.ownBlock = some g → base ≤ g ∧ g < w.heap.size := by
 obtain ⟨_, _, h⟩ := h
 exact h.lt
theorem Eight.clear {base : Nat} {w : World} {v : Value} {n : Nat} (h : Eight base w v n) {ids : List TypeId} (hi : 5 ∉ ids) : Clear w v.ownBlock ids := by
 obtain ⟨_, _, h⟩ := h
 exact Clear.own h hi
theorem Eight.box {base : Nat} {w : World} {v : Value} {n : Nat} (h : Eight base w v n) {B : Nat} {t : TypeId} {cs : Array Value} (hB : Box w B t cs) (ht : t ≠ 5) : some B ≠ v.ownBlock := by
 obtain ⟨_, _, h⟩ := h
 exact hB.apart h ht
def RawB (base N : Nat) (w : World) (v : Value) (n : Nat) : Prop :=
 ∃ vss : List (List Value), vss.length = n ∧ w.ownsRow base 51 2 v n vss.flatten ∧ ∀ us ∈ vss, ∃ p a m c, us = [.int .i64 p, .slice a m c] ∧ Eight base w (.slice a m c) m ∧ ∀ g, (Value.slice a m c).ownBlock = some g → g < N
theorem RawB.of {base : Nat} {w : World} {v : Value} {l : List F.Bk} (h : bksN.owns base w [v] l) : RawB base w.heap.size w v l.length := by
 obtain ⟨v', vss, hv, h1, h2⟩ := h
 obtain rfl : v = v' := by simpa using hv
 refine ⟨vss, h2.length, h1, fun us hus => ?_⟩
 obtain ⟨t, _, ht⟩ := h2.left hus
 obtain ⟨a, c, rfl, hO, _⟩ := F.bk_own ht
 exact ⟨_, a, _, c, rfl, ⟨t.2, rfl, hO.row⟩, fun g hg => (hO.row.lt g hg).2⟩
theorem RawB.at {base N : Nat} {w : World} {v : Value} {n : Nat} (h : RawB base N w v n) (i : Nat) (hi : i < n) :
   ∃ b o a m c, (∀ W, (Instr.indexAt 43 v (.int .i64 i)).run Tryz.prog W = .ok (.pointer (some ⟨b, o, none⟩)) W) ∧ w.cell? ⟨b, o + 1, none⟩ = some (.slice a m c) ∧ Eight base w (.slice a m c) m ∧ ∀ g, (Value.slice a m c).ownBlock = some g → g < N := by
 obtain ⟨vss, hl, h1, h2⟩ := h
 obtain ⟨i3, hi3, _, hz31, _⟩ := info_parts F.Tryz.info51
 obtain ⟨us, hu⟩ := get_lt (l := vss) (k := i) (by omega)
 obtain ⟨p, a, m, c, rfl, hE⟩ := h2 us (List.mem_of_getElem? hu)
 obtain ⟨b, o, hix, _, hcell⟩ := (Cells.own h1).index (by omega) Tryz.underlying43 hi3 hz31 i hi
 refine ⟨b, o, a, m, c, hix, hcell 1 _ (flat_get (size := 2) (fun us hus => ?_) hu rfl), hE⟩
 obtain ⟨_, _, _, _, rfl, _⟩ := h2 us hus
 rfl
theorem RawB.grown {base N : Nat} {w w' : World} {v : Value} {n : Nat} {row : Option Nat} (h : RawB base N w v n) (hg : w.grownBy w' row) (hc : Clear w row [51, 5]) : RawB base N w' v n := by
 obtain ⟨us, hl, h1, h2⟩ := h
 refine ⟨us, hl, h1.kept hg (hc.apart h1 (by simp)), fun x hx => ?_⟩
 obtain ⟨p, a, m, c, e, ⟨l, hl, hE'⟩, hN⟩ := h2 x hx
 exact ⟨p, a, m, c, e, ⟨l, hl, hE'.kept hg (hc.apart hE' (by simp))⟩, hN⟩
theorem RawB.spoilt {base N : Nat} {w w' : World} {v u : Value} {n m b : Nat} (h : RawB base N w v n) (hu : Eight b w u m) (hg : w.grownBy w' u.ownBlock) (hE : ∀ b u m, Eight b w u m → Eight b w' u m) : RawB base N w' v n := by
 obtain ⟨us, hl, h1, h2⟩ := h
 obtain ⟨l, _, hu⟩ := hu
 refine ⟨us, hl, h1.kept hg (Clear.apart (Clear.own hu (ids := [51]) (by decide)) h1 (by simp)), fun x hx => ?_⟩
 obtain ⟨p, a, m, c, e, hE'⟩ := h2 x hx
 exact ⟨p, a, m, c, e, hE _ _ _ hE'.1, hE'.2⟩
theorem RawB.same {base N : Nat} {w w' : World} {v : Value} {n : Nat} (h : RawB base N w v n) (hs : Same base w w') : RawB base N w' v n := by
 obtain ⟨us, hl, h1, h2⟩ := h
 refine ⟨us, hl, own_same h1 hs, fun x hx => ?_⟩
 obtain ⟨p, a, m, c, e, ⟨l, hl, hE'⟩, hN⟩ := h2 x hx
 exact ⟨p, a, m, c, e, ⟨l, hl, own_same hE' hs⟩, hN⟩
def EntS (base N : Nat) (w : World) (v : Value) (n : Nat) : Prop :=
 ∃ vss : List (List Value), vss.length = n ∧ w.ownsRow base 49 2 v n vss.flatten ∧ (∀ us ∈ vss, ∃ s q, us = [.string s, .int .i64 q]) ∧ ∀ g, v.ownBlock = some g → g < N
theorem set_ent (y : Int) : ∀ (vss : List (List Value)) (k : Nat), (∀ us ∈ vss, ∃ s q, us = [Value.string s, .int .i64 q]) → ∃ vs2 : List (List Value), vss.flatten.set (k * 2 + 1) (.int .i64 y) = vs2.flatten ∧ vs2.length = vss.length ∧ ∀ us ∈ vs2, ∃ s q, us = [Value.string s, .int .i64 q]
 | [], k, _ => ⟨[], by simp, rfl, fun _ h => by cases h⟩
 | us :: r, k, h => by (
 obtain ⟨s, q, rfl⟩ := h us (List.mem_cons_self ..)
 cases k with
 | zero => (
 refine ⟨[.string s, .int .i64 y] :: r, by simp, rfl, fun x hx => ?_⟩
 rcases List.mem_cons.1 hx with rfl | hx
 · exact ⟨s, y, rfl⟩
 · exact h x (List.mem_cons_of_mem _ hx))
 | succ k => (
 obtain ⟨vs2, h1, h2, h3⟩ := set_ent y r k (fun x hx => h x (List.mem_cons_of_mem _ hx))
 refine ⟨[.string s, .int .i64 q] :: vs2, ?_, by simp [h2], fun x hx => ?_⟩
 · rw [show (k + 1) * 2 + 1 = (k * 2 + 1) + 1 + 1 by omega]
   simp only [List.flatten_cons, List.cons_append, List.nil_append, List.set_cons_succ, h1]
 · rcases List.mem_cons.1 hx with rfl | hx
   · exact ⟨s, q, rfl⟩
   · exact h3 x hx))
theorem EntS.set {base N : Nat} {w : World} {v : Value} {n : Nat} (h : EntS base N w v n) (g k : Nat) (y : Int) : EntS base N (w.setCell ⟨g, k * 2 + 1, none⟩ (.int .i64 y)) v n := by
 obtain ⟨vss, hl, ho, hs, hN⟩ := h
 rcases ho.2 with ⟨rfl, h0⟩ | ⟨g', cap, cur, rfl, _⟩
 · exact ⟨vss, hl, ⟨ho.1, .inl ⟨rfl, h0⟩⟩, hs, hN⟩
 · by_cases e : g' = g
   · subst e
     obtain ⟨vs2, h1, h2, h3⟩ := set_ent y vss k hs
     have := (ho.stored (k * 2 + 1) (.int .i64 y)).1
     rw [h1] at this
     exact ⟨vs2, by omega, this, h3, hN⟩
   · exact ⟨vss, hl, ho.kept (grown_set w g _ _) (.inr (by simp [Value.ownBlock]; exact e)), hs, hN⟩
theorem EntS.of {base : Nat} {w : World} {v : Value} {l : List D.En} (h : ensN.owns base w [v] l) : EntS base w.heap.size w v l.length := by
 obtain ⟨v', vss, hv, h1, h2⟩ := h
 obtain rfl : v = v' := by simpa using hv
 refine ⟨vss, h2.length, h1, fun us hus => ?_, fun g hg => (h1.lt g hg).2⟩
 obtain ⟨t, _, u1, r, rfl, ⟨rfl, _⟩, ⟨rfl, _⟩⟩ := h2.left hus
 exact ⟨_, _, rfl⟩
theorem EntS.kept {base N : Nat} {w w' : World} {v : Value} {n : Nat} {row : Option Nat} (h : EntS base N w v n) (hg : w.grownBy w' row) (hc : Clear w row [49]) : EntS base N w' v n := by
 obtain ⟨vss, hl, ho, hs, hN⟩ := h
 exact ⟨vss, hl, ho.kept hg (hc.apart ho (by simp)), hs, hN⟩
theorem EntS.same {base N : Nat} {w w' : World} {v : Value} {n : Nat} (h : EntS base N w v n) (hs : Same base w w') : EntS base N w' v n := by
 obtain ⟨vss, hl, ho, h3, hN⟩ := h
 exact ⟨vss, hl, own_same ho hs, h3, hN⟩
theorem EntS.at {base N : Nat} {w : World} {v : Value} {n : Nat} (h : EntS base N w v n) (i : Nat) (hi : i < n) :
   ∃ g q, (∀ W, (Instr.indexAt 42 v (.int .i64 i)).run Tryz.prog W = .ok (.pointer (some ⟨g, i * 2, none⟩)) W) ∧ w.cell? ⟨g, i * 2 + 1, none⟩ = some (.int .i64 q) ∧ w.frozen? ⟨g, i * 2 + 1, none⟩ = false ∧ base ≤ g ∧ g < N ∧ (∀ ids, 49 ∉ ids → Clear w (some g) ids) ∧ ∀ B t cs, Box w B t cs → t ≠ 49 → some B ≠ some g := by
 obtain ⟨vss, hl, h1, h2, hN⟩ := h
 obtain ⟨i3, hi3, _, hz31, _⟩ := info_parts D.Tryz.info49
 obtain ⟨us, hu⟩ := get_lt (l := vss) (k := i) (by omega)
 obtain ⟨s, q, rfl⟩ := h2 us (List.mem_of_getElem? hu)
 have hf := flat_get (size := 2) (fun us hus => by obtain ⟨_, _, rfl⟩ := h2 us hus; rfl) hu (j := 1) (u := .int .i64 q) rfl
 rcases id h1.2 with ⟨_, h0⟩ | ⟨g, cap, cur, rfl, _⟩
 · omega
 · have hob : (Value.slice (some ⟨g, 0, none⟩) n cap).ownBlock = some g := rfl
   refine ⟨g, q, fun W => ?_, ?_, h1.frozenAt _, (h1.lt g hob).1, hN g hob, fun ids hids => Clear.own h1 hids, fun B t cs hB ht => hB.apart h1 ht⟩
   · have := run_index (size := 2) Tryz.underlying42 hi3 hz31 g 0 n cap i hi W
     simpa using this
   · have hc := h1.cells hob (i * 2 + 1) (.int .i64 q) hf
     rwa [add_plain, Nat.zero_add] at hc
def RawN (base N : Nat) (w : World) (v : Value) (n : Nat) : Prop :=
 ∃ vss : List (List Value), vss.length = n ∧ w.ownsRow base 47 6 v n vss.flatten ∧ ∀ us ∈ vss, ∃ x1 x2 x3 x5 a m c b k d, us = [.int .i64 x1, .bool x2, .int .i64 x3, .slice a m c, .int .i64 x5, .slice b k d] ∧ EntS base N w (.slice a m c) m ∧ RawB base N w (.slice b k d) k ∧ m ≤ maxLen ∧ k ≤ maxLen
theorem RawN.of {base : Nat} {w : World} {v : Value} {l : List Nd} (h : ndsN.owns base w [v] l) : RawN base w.heap.size w v l.length := by
 obtain ⟨v', vss, hv, h1, h2⟩ := h
 obtain rfl : v = v' := by simpa using hv
 refine ⟨vss, h2.length, h1, fun us hus => ?_⟩
 obtain ⟨t, _, u1, r1, rfl, ⟨rfl, _⟩, u2, r2, rfl, ⟨rfl, _⟩, u3, r3, rfl, ⟨rfl, _⟩, u4, r4, rfl, h4, h5⟩ := h2.left hus
 obtain ⟨b, d, rfl, hB, _⟩ := F.fl_ownN h5
 obtain ⟨_, _, e5, _, _, hm5⟩ := F.fl_viewN (F.flN.olies h5)
 obtain ⟨a, c, ve, rfl, hE⟩ := Shape.list_own (S := D.enN) (ht := Tryz.underlying42) (hc := cells42) h4
 obtain ⟨_, _, e4, _, hm4, _⟩ := Shape.list_len (S := D.enN) (ht := Tryz.underlying42) (hc := cells42) (ensN.olies h4)
 exact ⟨_, _, _, _, a, _, c, b, _, d, rfl, EntS.of h4, RawB.of hB, hm4, hm5⟩
theorem RawN.hold {base N : Nat} {w : World} {v : Value} {n : Nat} (h : RawN base N w v n) (i : Nat) (hi : i < n) :
   ∃ g a m c b k d cs, (∀ W, (Instr.indexAt 27 v (.int .i64 i)).run Tryz.prog W = .ok (.pointer (some ⟨g, i * 6, none⟩)) W) ∧ cs[i * 6 + 3]? = some (.slice a m c) ∧ cs[i * 6 + 5]? = some (.slice b k d) ∧ EntS base N w (.slice a m c) m ∧ RawB base N w (.slice b k d) k ∧ m ≤ maxLen ∧ k ≤ maxLen ∧ Box w g 47 cs := by
 obtain ⟨vss, hl, h1, h2⟩ := h
 obtain ⟨i3, hi3, _, hz31, _⟩ := info_parts Tryz.info47
 obtain ⟨us, hu⟩ := get_lt (l := vss) (k := i) (by omega)
 obtain ⟨x1, x2, x3, x5, a, m, c, b, k, d, rfl, hR⟩ := h2 us (List.mem_of_getElem? hu)
 have hz : ∀ us ∈ vss, us.length = 6 := fun us hus => by obtain ⟨_, _, _, _, _, _, _, _, _, _, rfl, _⟩ := h2 us hus; rfl
 have hf := flat_get (size := 6) hz hu (j := 3) (u := .slice a m c) rfl
 have hf5 := flat_get (size := 6) hz hu (j := 5) (u := .slice b k d) rfl
 rcases h1.2 with ⟨_, h0⟩ | ⟨g, cap, cur, rfl, _, hg, _, _, _, htake⟩
 · omega
 · refine ⟨g, a, m, c, b, k, d, cur, fun W => ?_, ?_, ?_, hR.1, hR.2.1, hR.2.2.1, hR.2.2.2, hg⟩
   · have := run_index (size := 6) Tryz.underlying27 hi3 hz31 g 0 n cap i hi W
     simpa using this
   · rw [← htake, List.getElem?_take, if_pos (by omega)] at hf
     simpa using hf
   · rw [← htake, List.getElem?_take, if_pos (by omega)] at hf5
     simpa using hf5
theorem RawN.spoilt {base N : Nat} {w w' : World} {v u : Value} {n m b : Nat} (h : RawN base N w v n) (hu : Eight b w u m) (hg : w.grownBy w' u.ownBlock) (hE : ∀ b u m, Eight b w u m → Eight b w' u m) : RawN base N w' v n := by
 obtain ⟨us, hl, h1, h2⟩ := h
 have hu' := hu
 obtain ⟨l, _, hu⟩ := hu
 refine ⟨us, hl, h1.kept hg (Clear.apart (Clear.own hu (ids := [47]) (by decide)) h1 (by simp)), fun x hx => ?_⟩
 obtain ⟨x1, x2, x3, x5, a, m, c, b, k, d, e, hR, hB, hm⟩ := h2 x hx
 exact ⟨x1, x2, x3, x5, a, m, c, b, k, d, e, hR.kept hg (Clear.own hu (by decide)), hB.spoilt hu' hg hE, hm⟩
theorem RawN.same {base N : Nat} {w w' : World} {v : Value} {n : Nat} (h : RawN base N w v n) (hs : Same base w w') : RawN base N w' v n := by
 obtain ⟨us, hl, h1, h2⟩ := h
 refine ⟨us, hl, own_same h1 hs, fun x hx => ?_⟩
 obtain ⟨x1, x2, x3, x5, a, m, c, b, k, d, e, hR, hB, hm⟩ := h2 x hx
 exact ⟨x1, x2, x3, x5, a, m, c, b, k, d, e, hR.same hs, hB.same hs, hm⟩
theorem RawN.set {base N : Nat} {w : World} {v : Value} {n : Nat} (h : RawN base N w v n) {g : Nat} (hc : Clear w (some g) [47, 51, 5]) (k : Nat) (y : Int) : RawN base N (w.setCell ⟨g, k * 2 + 1, none⟩ (.int .i64 y)) v n := by
 obtain ⟨us, hl, h1, h2⟩ := h
 refine ⟨us, hl, h1.kept (grown_set w g _ _) (hc.apart h1 (by simp)), fun x hx => ?_⟩
 obtain ⟨x1, x2, x3, x5, a, m, c, b, k, d, e, hR, hB, hm⟩ := h2 x hx
 exact ⟨x1, x2, x3, x5, a, m, c, b, k, d, e, hR.set _ _ _, hB.grown (grown_set w g _ _) (hc.sub (fun y hy => List.mem_cons_of_mem _ hy)), hm⟩
structure SPF (w V : World) (base N T : Nat) (v1 : Value) (n : Nat) (q : Int) (wr : World) : Prop where
 same : Same N V wr
 size : V.heap.size ≤ wr.heap.size
 bel : Below w.heap.size w wr
 box : Box wr T 29 #[v1, .int .i64 q]
 nds : RawN base N wr v1 n
theorem SPF.step {w V : World} {base N T : Nat} {v1 u : Value} {n j : Nat} {q : Int} {wr wr' : World} (h : SPF w V base N T v1 n q wr) (hb : w.heap.size ≤ base) (hu : Eight base wr u j) (hlt : ∀ g, u.ownBlock = some g → g < N) (hg : wr.grownBy wr' u.ownBlock) (hE : ∀ b u m, Eight b wr u m → Eight b wr' u m) : SPF w V base N T v1 n q wr' := by
 obtain ⟨h1, h2, h3, h4, h5⟩ := h
 refine ⟨Same.trans h1 h2 fun k hk hl => hg.block k hl fun e => ?_, Nat.le_trans h2 hg.size, h3.grown hg h3.size fun k hk => ?_, h4.grown hg (hu.box h4 (by decide)), h5.spoilt hu hg hE⟩
 · have := hlt k e.symm
   omega
 · have := (hu.lt k hk).1
   omega
theorem SPF.store {w V : World} {base N T : Nat} {v1 : Value} {n : Nat} {q : Int} {wr : World} (h : SPF w V base N T v1 n q wr) (hb : w.heap.size ≤ base) {g : Nat} (hbg : base ≤ g) (hgN : g < N) (hc : ∀ ids, 49 ∉ ids → Clear wr (some g) ids) (hx : ∀ B t cs, Box wr B t cs → t ≠ 49 → some B ≠ some g) (k : Nat) (y : Int) : SPF w V base N T v1 n q (wr.setCell ⟨g, k * 2 + 1, none⟩ (.int .i64 y)) := by
 obtain ⟨h1, h2, h3, h4, h5⟩ := h
 have hg := grown_set wr g (k * 2 + 1) (.int .i64 y)
 refine ⟨Same.trans h1 h2 fun i hi hl => hg.block i hl fun e => ?_, Nat.le_trans h2 hg.size, h3.grown hg h3.size fun i hi => ?_, h4.grown hg (hx _ _ _ h4 (by decide)), h5.set (hc _ (by decide)) k y⟩
 · have : i = g := by simpa using e
   omega
 · have : g = i := by simpa using hi
   omega
theorem SPF.drew {w V : World} {base N T : Nat} {v1 : Value} {n : Nat} {q : Int} {wr : World} (h : SPF w V base N T v1 n q wr) : SPF w V base N T v1 n q wr.drew := ⟨h.same, h.size, h.bel.drew, h.box, h.nds⟩
theorem SPF.keep {w V : World} {base N T : Nat} {v1 : Value} {n : Nat} {q : Int} {wr : World} (h : SPF w V base N T v1 n q wr) {D : Nat} {t : TypeId} {cs : Array Value} (hD : Box V D t cs) (hN : N ≤ D) : Box wr D t cs := hD.kept (h.same D hN hD.lt)
end Go.Proofs.YtopcefhncildnaaGreatDoor
