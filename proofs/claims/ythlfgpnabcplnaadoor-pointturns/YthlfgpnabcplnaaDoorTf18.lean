import Derived.Test.YthlfgpnabcplnaaDoorTf14
import Derived.Test.YthlfgpnabcplnaaDoorTf1
import Derived.Test.YthlfgpnabcplnaaDoorTf15
/-
  Records, the program's and the document's, as data; how they lie in memory; octets in the words of both memories.
-/
namespace Go.Proofs.YthlfgpnabcplnaaDoor.W
open Go.RowKit

theorem Tryd.info5 : (Tryd.prog.info? 5).map (fun i => (i.zero, i.size, i.bytes)) = some (some (.int .u8 0), 1, 1) := by kernel_rfl
theorem Tryd.info3 : (Tryd.prog.info? 3).map (fun i => (i.zero, i.size, i.bytes)) = some (some (.int .i64 0), 1, 8) := by kernel_rfl
theorem info22 : (Tryd.prog.info? 22).map (fun i => (i.zero, i.size, i.bytes)) = some (some (.slice none 0 0), 1, 24) := by kernel_rfl

def I64 (x : Int) : Prop := -9223372036854775808 ≤ x ∧ x ≤ 9223372036854775807
theorem I64.wf {x : Int} (h : I64 x) : (Lit.int .i64 x).wf = true := by
  obtain ⟨h1, h2⟩ := h
  simp [Lit.wf, IntKind.min, IntKind.max, IntKind.signed, IntKind.bits]
  omega
theorem u8_wf {x : Int} (h : 0 ≤ x ∧ x ≤ 255) : (Lit.int .u8 x).wf = true := by
  obtain ⟨h1, h2⟩ := h
  simp [Lit.wf, IntKind.min, IntKind.max, IntKind.signed, IntKind.bits]
  omega
theorem wf_u8 {x : Int} (h : (Lit.int .u8 x).wf = true) : 0 ≤ x ∧ x ≤ 255 := by
  simp [Lit.wf, IntKind.min, IntKind.max, IntKind.signed, IntKind.bits] at h
  omega

def u8L : Leaf Int := intL .u8 5 Tryd.underlying5 (by kernel_rfl)
def i64L : Leaf Int := intL .i64 3 Tryd.underlying3 (by kernel_rfl)
def i64S : Shape Int := i64L.shape
theorem cells22 : Tryd.prog.cellsOf 22 = 1 := by kernel_rfl
theorem cells51 : Tryd.prog.cellsOf 51 = 1 := by kernel_rfl
theorem cells37 : Tryd.prog.cellsOf 37 = 1 := by kernel_rfl
def bytesS : Shape (List Int) := u8L.row 22 Tryd.underlying22 cells22
def intsS : Shape (List Int) := i64L.row 51 Tryd.underlying51 cells51
def textsS : Shape (List (List Int)) := bytesS.list 37 Tryd.underlying37 cells37
def recF : Fields Rc := i64S.and (intsS.and textsS.only)
def recN : Shape Rc := recF.struct 53 ⟨_, Tryd.underlying53, rfl, rfl⟩ (by kernel_rfl)

/-! Octets. -/

def Arg (n0 : Nat) (w : World) (v : Value) (l : List Int) : Prop := bytesS.lies n0 w [v] l
theorem Arg.cells {n0 : Nat} {w : World} {v : Value} {l : List Int} (h : Arg n0 w v l) : Cells n0 w 1 v l.length (l.map (Value.int .u8)) := by
  obtain ⟨v', hv, hC, _⟩ := h
  obtain rfl : v = v' := by simpa using hv
  exact hC
theorem Arg.oct {n0 : Nat} {w : World} {v : Value} {l : List Int} (h : Arg n0 w v l) : Oc l := by
  obtain ⟨_, _, _, ho⟩ := h
  exact fun x hx => wf_u8 (ho x hx)
theorem Arg.mk {n0 : Nat} {w : World} {v : Value} {l : List Int} (hC : Cells n0 w 1 v l.length (l.map (Value.int .u8))) (ho : Oc l) : Arg n0 w v l := ⟨v, rfl, hC, fun x hx => u8_wf (ho x hx)⟩
theorem Arg.keep {n0 : Nat} {w w' : World} {v : Value} {l : List Int} (h : Arg n0 w v l) (hs : Same n0 w w') : Arg n0 w' v l := bytesS.keep h hs
theorem Arg.below {n0 : Nat} {w w' : World} {v : Value} {l : List Int} (h : Arg n0 w v l) (hb : Below w.heap.size w w') : Arg n0 w' v l := h.keep (.of_below hb)
theorem Arg.weaken {n0 n1 : Nat} {w : World} {v : Value} {l : List Int} (h : Arg n0 w v l) (hn : n1 ≤ n0) : Arg n1 w v l := bytesS.weaken h hn
theorem Arg.shape {n0 : Nat} {w : World} {v : Value} {l : List Int} (h : Arg n0 w v l) : ∃ a cap, v = .slice a l.length cap ∧ l.length ≤ cap ∧ l.length ≤ maxLen ∧ (a = none → l.length = 0) := h.cells.shape
theorem Arg.split {n0 : Nat} {w : World} {v : Value} {l : List Int} (h : Arg n0 w v l) : (l = [] ∧ ∃ a cap, v = .slice a 0 cap) ∨ (∃ b off cap, v = .slice (some ⟨b, off, none⟩) l.length cap ∧ l.length ≤ cap ∧ l.length ≤ maxLen ∧ n0 ≤ b ∧ ∀ i, i < l.length → w.cell? ⟨b, off + i, none⟩ = some (.int .u8 (l.getD i 0))) := by
  by_cases h0 : l.length = 0
  · obtain ⟨a, cap, hv, _⟩ := h.shape
    exact .inl ⟨List.eq_nil_of_length_eq_zero h0, a, cap, by rw [hv, h0]⟩
  · right
    obtain ⟨b, o, cap, hv, h1, h2, h3, h4⟩ := h.cells.place (by omega) 0 (by omega)
    refine ⟨b, o, cap, hv, h1, h2, h3, fun i hi => ?_⟩
    have := h4 i (.int .u8 (l.getD i 0)) (by simp [hi])
    simpa using this

/-- The same octets in the words of the sums' texts. -/
theorem Arg.toC {n0 : Nat} {w : World} {v : Value} {l : List Int} (h : Arg n0 w v l) : C.Arg w v l := by
  have ho := h.oct
  obtain ⟨_, ⟨rfl, h0⟩ | ⟨x, cap, rfl, h1, h2, h3, h4⟩⟩ := h.cells
  · exact .inl ⟨rfl, List.eq_nil_of_length_eq_zero h0⟩
  · exact .inr ⟨x, cap, rfl, h1, h2, fun i hi => h4 i _ (by simp [hi]), ho⟩
theorem Arg.ofC {w : World} {v : Value} {l : List Int} (h : C.Arg w v l) : Arg 0 w v l := by
  rcases h with ⟨rfl, rfl⟩ | ⟨x, cap, rfl, h1, h2, h3, ho⟩
  · exact .mk ⟨rfl, .inl ⟨rfl, rfl⟩⟩ oc_nil
  · refine .mk ⟨by simp, .inr ⟨x, cap, rfl, h1, h2, Nat.zero_le _, fun i u hu => ?_⟩⟩ ho
    have hi : i < l.length := by
      have := (List.getElem?_eq_some_iff.1 hu).1
      simpa using this
    rw [h3 i hi]
    rw [List.getElem?_map, List.getElem?_eq_getElem hi] at hu
    simpa [List.getElem?_eq_getElem hi] using hu

/-- Octets in a block of their own. -/
def Own1 (base : Nat) (w : World) (v : Value) (l : List Int) : Prop := bytesS.owns base w [v] l
theorem Own1.row {base : Nat} {w : World} {v : Value} {l : List Int} (h : Own1 base w v l) : w.ownsRow base 5 1 v l.length (l.map (Value.int .u8)) := by
  obtain ⟨v', hv, hC, _⟩ := h
  obtain rfl : v = v' := by simpa using hv
  exact hC
theorem Own1.mk {base : Nat} {w : World} {v : Value} {l : List Int} (h : w.ownsRow base 5 1 v l.length (l.map (Value.int .u8))) (ho : Oc l) : Own1 base w v l := ⟨v, rfl, h, fun x hx => u8_wf (ho x hx)⟩
theorem Own1.arg {base : Nat} {w : World} {v : Value} {l : List Int} (h : Own1 base w v l) : Arg base w v l := bytesS.olies h
theorem Own1.shape {base : Nat} {w : World} {v : Value} {l : List Int} (h : Own1 base w v l) : ∃ a cap, v = .slice a l.length cap := own_shape h.row
theorem Own1.oct {base : Nat} {w : World} {v : Value} {l : List Int} (h : Own1 base w v l) : Oc l := h.arg.oct
theorem Own1.nil (base : Nat) (w : World) : Own1 base w (.slice none 0 0) [] := .mk (World.ownsRow_nil _ _ _ _) oc_nil

/-! Numbers. -/

theorem ints_at {n : Nat} {w : World} {v : Value} {l : List Int} (h : intsS.lies n w [v] l) (i : Nat) (x : Int) (hx : l[i]? = some x) : ∃ b o, (∀ W, (Instr.indexAt 51 v (.int .i64 i)).run Tryd.prog W = .ok (.pointer (some ⟨b, o, none⟩)) W) ∧ w.cell? ⟨b, o, none⟩ = some (.int .i64 x) ∧ I64 x := by
  obtain ⟨i0, hi0, _, hz, _⟩ := info_parts Tryd.info3
  obtain ⟨b, o, h1, _, h3, h4⟩ := Leaf.row_at (L := i64L) (t := 51) (ht := Tryd.underlying51) (hc := cells51) h hi0 hz i x hx
  exact ⟨b, o, h1, h3, bounds_i64 h4⟩
theorem ints_len {n : Nat} {w : World} {us : List Value} {l : List Int} (h : intsS.lies n w us l) : ∃ a cap, us = [.slice a l.length cap] ∧ l.length ≤ cap ∧ l.length ≤ maxLen ∧ (a = none → l.length = 0) :=
  Leaf.row_len (L := i64L) (t := 51) (ht := Tryd.underlying51) (hc := cells51) h
theorem ints_in {n : Nat} {w : World} {us : List Value} {l : List Int} (h : intsS.lies n w us l) : ∀ x ∈ l, I64 x := by
  obtain ⟨_, _, _, h⟩ := h
  exact fun x hx => bounds_i64 (h x hx)
theorem ints_own {n : Nat} {w : World} {v : Value} {l : List Int} (h : intsS.owns n w [v] l) : w.ownsRow n 3 1 v l.length (l.map (Value.int .i64)) := by
  obtain ⟨v', hv, hC, _⟩ := h
  obtain rfl : v = v' := by simpa using hv
  exact hC
theorem ints_omk {n : Nat} {w : World} {v : Value} {l : List Int} (h : w.ownsRow n 3 1 v l.length (l.map (Value.int .i64))) (hi : ∀ x ∈ l, I64 x) : intsS.owns n w [v] l := ⟨v, rfl, h, fun x hx => (hi x hx).wf⟩

/-! Texts. -/

theorem texts_at {n : Nat} {w : World} {v : Value} {l : List (List Int)} (h : textsS.lies n w [v] l) (i : Nat) (t : List Int) (ht : l[i]? = some t) :
    ∃ b o u, (∀ W, (Instr.indexAt 37 v (.int .i64 i)).run Tryd.prog W = .ok (.pointer (some ⟨b, o, none⟩)) W) ∧ w.cell? ⟨b, o, none⟩ = some u ∧ Arg n w u t := by
  obtain ⟨i0, hi0, _, hz, _⟩ := info_parts info22
  obtain ⟨b, o, us, hix, _, hc, hl⟩ := Shape.list_at (S := bytesS) (ht := Tryd.underlying37) (hc := cells37) h (by decide) hi0 hz i t ht
  obtain ⟨u, rfl, _⟩ := id hl
  exact ⟨b, o, u, hix, hc 0 _ rfl, hl⟩
theorem texts_len {n : Nat} {w : World} {us : List Value} {l : List (List Int)} (h : textsS.lies n w us l) : ∃ a cap, us = [.slice a l.length cap] ∧ l.length ≤ cap ∧ l.length ≤ maxLen ∧ (a = none → l.length = 0) :=
  Shape.list_len (S := bytesS) (ht := Tryd.underlying37) (hc := cells37) h
theorem texts_oct {n : Nat} {w : World} {us : List Value} {l : List (List Int)} (h : textsS.lies n w us l) : ∀ t ∈ l, Oc t := by
  obtain ⟨v, vss, _, _, hE⟩ := h
  intro t ht
  obtain ⟨u, _, hu⟩ := hE.right ht
  obtain ⟨v', rfl, _⟩ := id hu
  exact Arg.oct (n0 := n) (w := w) (v := v') hu
theorem texts_own {n : Nat} {w : World} {us : List Value} {l : List (List Int)} (h : textsS.owns n w us l) : ∃ a cap vss, us = [.slice a l.length cap] ∧ w.ownsRow n 22 1 (.slice a l.length cap) l.length vss ∧ vss.length = l.length * 1 :=
  Shape.list_own (S := bytesS) (ht := Tryd.underlying37) (hc := cells37) h

/-! Records. -/

theorem rec_view {n : Nat} {w : World} {us : List Value} {r : Rc} (h : recF.lies n w us r) : ∃ a c b d, us = [.int .i64 r.1, .slice a r.2.1.length c, .slice b r.2.2.length d] ∧ intsS.lies n w [.slice a r.2.1.length c] r.2.1 ∧ textsS.lies n w [.slice b r.2.2.length d] r.2.2 ∧ I64 r.1 ∧ r.2.1.length ≤ maxLen ∧ r.2.2.length ≤ maxLen := by
  obtain ⟨u1, q, rfl, ⟨rfl, h1⟩, u2, u3, rfl, h2, h3⟩ := h
  obtain ⟨a, c, rfl, _, hm1, _⟩ := ints_len h2
  obtain ⟨b, d, rfl, _, hm2, _⟩ := texts_len h3
  exact ⟨a, c, b, d, rfl, h2, h3, bounds_i64 h1, hm1, hm2⟩
theorem rec_mk {n : Nat} {w : World} {x y : Value} {r : Rc} (h : intsS.lies n w [x] r.2.1) (h2 : textsS.lies n w [y] r.2.2) (h1 : I64 r.1) : recF.lies n w [.int .i64 r.1, x, y] r :=
  ⟨[_], [_, _], rfl, ⟨rfl, h1.wf⟩, [_], [_], rfl, h, h2⟩
theorem rec_own {n : Nat} {w : World} {us : List Value} {r : Rc} (h : recF.owns n w us r) : ∃ x y, us = [.int .i64 r.1, x, y] ∧ intsS.owns n w [x] r.2.1 ∧ textsS.owns n w [y] r.2.2 ∧ I64 r.1 := by
  obtain ⟨u1, q, rfl, ⟨rfl, h1⟩, u2, u3, rfl, h2, h3⟩ := h
  obtain ⟨v, rfl, _⟩ := id h2
  obtain ⟨v', _, rfl, _⟩ := id h3
  exact ⟨v, v', rfl, h2, h3, bounds_i64 h1⟩
theorem rec_omk {n : Nat} {w : World} {x y : Value} {r : Rc} (h : intsS.owns n w [x] r.2.1) (h2 : textsS.owns n w [y] r.2.2) (h1 : I64 r.1) : recF.owns n w [.int .i64 r.1, x, y] r :=
  ⟨[_], [_, _], rfl, ⟨rfl, h1.wf⟩, [_], [_], rfl, h, h2⟩

theorem get_lt {α : Type} {l : List α} {k : Nat} (h : k < l.length) : ∃ x, l[k]? = some x := ⟨_, List.getElem?_eq_getElem h⟩
theorem take_snoc {α : Type} {l : List α} {k : Nat} {x : α} (h : l[k]? = some x) : l.take (k + 1) = l.take k ++ [x] := by rw [List.take_add_one, h]; rfl

end Go.Proofs.YthlfgpnabcplnaaDoor.W

/-
  What checkLengths and Check answer.
-/
namespace Go.Proofs.YthlfgpnabcplnaaDoor.W
open Go.RowKit

theorem take_any_false {α : Type} {p : α → Bool} {l : List α} {k : Nat} {x : α} (h : (l.take k).any p = false) (hx : l[k]? = some x) (hp : p x = false) : (l.take (k + 1)).any p = false := by
  rw [take_snoc hx, List.any_append, h]
  simp [hp]
theorem any_true {α : Type} {p : α → Bool} {l : List α} {k : Nat} {x : α} (hx : l[k]? = some x) (hp : p x = true) : l.any p = true :=
  List.any_eq_true.2 ⟨x, List.mem_of_getElem? hx, hp⟩

set_option maxHeartbeats 400000 in
theorem too_any (most : Nat) (B : Nat) (a : Option Addr) (n cap : Nat) (w : World) (hB : w.cell? ⟨B, 0, none⟩ = some (.int .i64 most)) :
    Calls Tryd.prog 51 #[.slice a n cap, .pointer (some ⟨B, 0, none⟩)] w fun e w' => e = .returned (.bool (decide (most < n))) ∧ w = w' := by
  have hl := run_len Tryd.underlying22 a n cap
  obtain ⟨d, hd⟩ : ∃ d, d = decide (most < n) := ⟨_, rfl⟩
  rw [← hd]
  by_cases h : most < n
  · obtain rfl : d = true := by rw [hd]; simp [h]
    have hi : (most : Int) < (n : Int) := by omega
    clear hd h
    go_enter Tryd.func51, Tryd.ntmps51
    go_wp2
    go_ret
    exact ⟨rfl, rfl⟩
  · obtain rfl : d = false := by rw [hd]; simp [h]
    have hi : ¬ (most : Int) < (n : Int) := by omega
    clear hd h
    go_enter Tryd.func51, Tryd.ntmps51
    go_wp2
    go_ret
    exact ⟨rfl, rfl⟩

/-- Is one of the texts too long? -/
def tooLong (most : Nat) (l : List (List Int)) : Bool := l.any fun t => decide (most < t.length)

set_option maxRecDepth 100000 in
set_option maxHeartbeats 2000000 in
theorem index_any (most B n0 : Nat) (v : Value) (l : List (List Int)) (w : World) (h : textsS.lies n0 w [v] l) (hB : w.cell? ⟨B, 0, none⟩ = some (.int .i64 most)) :
    Calls Tryd.prog 60 #[v, .func (.func 51) #[] #[.pointer (some ⟨B, 0, none⟩)]] w fun e w' => (∃ r : Int, e = .returned (.int .i64 r) ∧ ((r = -1 ∧ tooLong most l = false) ∨ (0 ≤ r ∧ tooLong most l = true))) ∧ w = w' := by
  obtain ⟨a, c, hv, _, hm, _⟩ := texts_len h
  obtain rfl : v = _ := by simpa using hv
  have HL : Hid (textsS.lies n0 w [.slice a l.length c] l) := h
  obtain ⟨n, hn⟩ : ∃ n, n = l.length := ⟨_, rfl⟩
  have HN : Hid (n = l.length) := hn
  rw [← hn] at HL hm ⊢
  unfold maxLen at hm
  have hl1 := run_len Tryd.underlying37 a n c
  clear h hv hn
  go_enter Tryd.func60, Tryd.ntmps60
  go_wp2
  go_loop [8] (fun i => ∃ k : Nat, k ≤ n ∧ i = .int .i64 k ∧ Hid (tooLong most (l.take k) = false)) (fun i => n - (intOf i).toNat)
  case atStart => exact ⟨0, Nat.zero_le _, rfl, by show _ = _; simp [tooLong]⟩
  case round =>
    obtain ⟨k, hk, rfl, HK⟩ := hrel
    by_cases hlt : k < n
    · obtain ⟨t, ht⟩ := get_lt (l := l) (k := k) (by rw [← HN.out]; exact hlt)
      obtain ⟨b, o, u, hix, g0, hA⟩ := texts_at HL.out k t ht
      obtain ⟨x1, y1, rfl, _⟩ := hA.shape
      have HP : Hid (l[k]? = some t) := ht
      have hki : (k : Int) < (n : Int) := by omega
      have HC := too_any most B x1 t.length y1 w hB
      clear hA ht
      cases hok : decide (most < t.length)
      · rw [hok] at HC
        have HK2 : Hid (tooLong most (l.take (k + 1)) = false) := take_any_false HK.out HP.out hok
        clear hok
        go_wp2_with fail
        refine HC.mono ?_
        rintro e w2 ⟨rfl, rfl⟩
        go_wp2
        go_round
        case rel => exact ⟨k + 1, by omega, by go_num, HK2⟩
        case measure => simp [intOf]; omega
      · rw [hok] at HC
        have HA : Hid (tooLong most l = true) := any_true HP.out hok
        clear hok
        go_wp2_with fail
        refine HC.mono ?_
        rintro e w2 ⟨rfl, rfl⟩
        go_wp2
        go_ret
        exact ⟨⟨k, rfl, .inr ⟨by omega, HA.out⟩⟩, rfl⟩
    · obtain rfl : k = n := by omega
      have HA : Hid (tooLong most l = false) := by
        show _ = _
        have := HK.out
        rwa [HN.out, List.take_length] at this
      clear HK
      go_wp2
      go_ret
      exact ⟨⟨-1, rfl, .inl ⟨rfl, HA.out⟩⟩, rfl⟩

set_option maxHeartbeats 1000000 in
theorem contains_any (most B n0 : Nat) (v : Value) (l : List (List Int)) (w : World) (h : textsS.lies n0 w [v] l) (hB : w.cell? ⟨B, 0, none⟩ = some (.int .i64 most)) :
    Calls Tryd.prog 52 #[v, .func (.func 51) #[] #[.pointer (some ⟨B, 0, none⟩)]] w fun e w' => e = .returned (.bool (tooLong most l)) ∧ w = w' := by
  have HC := index_any most B n0 v l w h hB
  clear h
  obtain ⟨al, hal⟩ : ∃ x, x = tooLong most l := ⟨_, rfl⟩
  rw [← hal] at HC ⊢
  clear hal
  go_enter Tryd.func52, Tryd.ntmps52
  go_wp2_with fail
  refine HC.mono ?_
  rintro e w2 ⟨⟨r, rfl, hr⟩, rfl⟩
  rcases hr with ⟨rfl, rfl⟩ | ⟨h0, rfl⟩
  · go_wp2
    go_ret
    exact ⟨rfl, rfl⟩
  · go_wp2
    go_ret
    exact ⟨by simp, rfl⟩

set_option maxHeartbeats 1000000 in
theorem lengths_any (most n0 : Nat) (v : Value) (l : List (List Int)) (w : World) (h : textsS.lies n0 w [v] l) :
    Calls Tryd.prog 37 #[v, .int .i64 most] w fun e w' => e = .returned (.int .i64 (if tooLong most l then 5 else 0)) ∧ Below w.heap.size w w' := by
  obtain ⟨W, hW⟩ : ∃ W, W = w.alloc (.cells #[.int .i64 most] 3) := ⟨_, rfl⟩
  have hb : Below w.heap.size w W := by rw [hW]; exact (Below.refl _ w).alloc (Nat.le_refl _) _
  have hB : Box W w.heap.size 3 #[.int .i64 most] := by rw [hW]; exact Box.new w 3 _
  have HC := contains_any most w.heap.size n0 v l W (textsS.below h hb) (hB.cell 0 rfl)
  have HB : Hid (Below w.heap.size w W) := hb
  obtain ⟨al, hal⟩ : ∃ x, x = tooLong most l := ⟨_, rfl⟩
  rw [← hal] at HC ⊢
  clear hal h hb hB
  cases al
  · go_enter Tryd.func37, Tryd.ntmps37
    go_wp2_with fail
    rw [← hW]
    clear hW
    refine HC.mono ?_
    rintro e w2 ⟨rfl, rfl⟩
    go_wp2
    go_ret
    exact ⟨rfl, HB.out⟩
  · go_enter Tryd.func37, Tryd.ntmps37
    go_wp2_with fail
    rw [← hW]
    clear hW
    refine HC.mono ?_
    rintro e w2 ⟨rfl, rfl⟩
    go_wp2
    go_ret
    exact ⟨rfl, HB.out⟩

theorem chkR_eq (r : Rc) : chkR r = if r.1 < 0 ∨ 255 < r.1 then 22 else if 64 < r.2.1.length ∨ 64 < r.2.2.length then 3 else if tooLong 4096 r.2.2 then 5 else 0 := rfl

set_option maxRecDepth 100000 in
set_option maxHeartbeats 2000000 in
theorem check_any (n0 : Nat) (us : List Value) (r : Rc) (w : World) (h : recF.lies n0 w us r) :
    Calls Tryd.prog 33 #[.agg us.toArray] w fun e w' => e = .returned (.int .i64 (chkR r)) ∧ Below w.heap.size w w' := by
  obtain ⟨a, c, b, d, rfl, hI, hT, hk, _⟩ := rec_view h
  obtain ⟨k, ns, ts⟩ := r
  simp only at hI hT hk
  obtain ⟨W, hW⟩ : ∃ W, W = w.alloc (.cells #[.int .i64 k, .slice a ns.length c, .slice b ts.length d] 53) := ⟨_, rfl⟩
  have hb : Below w.heap.size w W := by rw [hW]; exact (Below.refl _ w).alloc (Nat.le_refl _) _
  have hP : Box W w.heap.size 53 #[.int .i64 k, .slice a ns.length c, .slice b ts.length d] := by rw [hW]; exact Box.new w 53 _
  have HC := lengths_any 4096 n0 (.slice b ts.length d) ts W (textsS.below hT hb)
  have HW : Hid (Below w.heap.size w W) := hb
  obtain ⟨ce, hce⟩ : ∃ x, x = chkR (k, ns, ts) := ⟨_, rfl⟩
  have HCE : Hid (ce = if k < 0 ∨ 255 < k then 22 else if 64 < ns.length ∨ 64 < ts.length then 3 else if tooLong 4096 ts then 5 else 0) := hce
  rw [← hce]
  obtain ⟨n, hn⟩ : ∃ n, n = ns.length := ⟨_, rfl⟩
  obtain ⟨m, hm⟩ : ∃ n, n = ts.length := ⟨_, rfl⟩
  rw [← hn] at HCE hW hP
  rw [← hm] at HCE HC hW hP
  simp only
  rw [← hn, ← hm]
  have hl1 := run_len Tryd.underlying51 a n c
  have hl2 := run_len Tryd.underlying37 b m d
  obtain ⟨g0, g1, g2, _⟩ := hP.three
  rw [hW] at g0 g1 g2
  clear h hI hT hb hce hP hn hm hk
  by_cases h1 : k < 0
  · obtain rfl : ce = 22 := by rw [HCE.out, if_pos (.inl h1)]
    rw [hW] at HW
    clear HC hW
    go_enter Tryd.func33, Tryd.ntmps33
    go_wp2
    go_ret
    exact ⟨rfl, HW.out⟩
  by_cases h2 : 255 < k
  · obtain rfl : ce = 22 := by rw [HCE.out, if_pos (.inr h2)]
    rw [hW] at HW
    clear HC hW
    go_enter Tryd.func33, Tryd.ntmps33
    go_wp2
    go_ret
    exact ⟨rfl, HW.out⟩
  by_cases h3 : (64 : Int) < (n : Int)
  · obtain rfl : ce = 3 := by rw [HCE.out, if_neg (by omega), if_pos (.inl (by omega))]
    rw [hW] at HW
    clear HC hW
    go_enter Tryd.func33, Tryd.ntmps33
    go_wp2
    go_ret
    exact ⟨rfl, HW.out⟩
  by_cases h4 : (64 : Int) < (m : Int)
  · obtain rfl : ce = 3 := by rw [HCE.out, if_neg (by omega), if_pos (.inr (by omega))]
    rw [hW] at HW
    clear HC hW
    go_enter Tryd.func33, Tryd.ntmps33
    go_wp2
    go_ret
    exact ⟨rfl, HW.out⟩
  have HCE2 : Hid (ce = if tooLong 4096 ts then 5 else 0) := by
    show _ = _
    rw [HCE.out, if_neg (by omega), if_neg (by omega)]
  rw [← HCE2.out] at HC
  clear HCE HCE2
  go_enter Tryd.func33, Tryd.ntmps33
  go_wp2_with fail
  rw [← hW]
  clear hW
  refine HC.mono ?_
  rintro e w2 ⟨rfl, hb2⟩
  go_wp2
  go_ret
  exact ⟨rfl, below_any HW.out hb2⟩

end Go.Proofs.YthlfgpnabcplnaaDoor.W

/-
  What Decode answers of octets that are not sealed.
-/
namespace Go.Proofs.YthlfgpnabcplnaaDoor.W
open Go.RowKit

set_option maxRecDepth 100000 in
set_option maxHeartbeats 1000000 in
theorem dec_bad (n0 : Nat) (v : Value) (l : List Int) (w : World) (h : Arg n0 w v l) (hs : l.length ≤ 140737488355328) (he : C.oerr l ≠ 0) :
    Calls Tryd.prog 40 #[v] w fun e w' => e = .returned (.tuple #[.agg #[.int .i64 0, .slice none 0 0, .slice none 0 0], .int .i64 (C.oerr l)]) ∧ Below w.heap.size w w' := by
  obtain ⟨W, hW⟩ : ∃ W, W = w.alloc (.cells #[.int .i64 0, .slice none 0 0, .slice none 0 0] 53) := ⟨_, rfl⟩
  have hbW : Below w.heap.size w W := by rw [hW]; exact (Below.refl _ w).alloc (Nat.le_refl _) _
  have hP : Box W w.heap.size 53 #[.int .i64 0, .slice none 0 0, .slice none 0 0] := by rw [hW]; exact Box.new w 53 _
  have HO := C.open_any v l W (h.below hbW).toC hs
  obtain ⟨ce, hce⟩ : ∃ x, x = C.oerr l := ⟨_, rfl⟩
  rw [← hce] at HO he ⊢
  have HW : Hid (Below w.heap.size w W ∧ Box W w.heap.size 53 #[.int .i64 0, .slice none 0 0, .slice none 0 0]) := ⟨hbW, hP⟩
  obtain ⟨a0, c0, rfl, _⟩ := h.shape
  clear h hce hP hbW hs
  go_enter Tryd.func40, Tryd.ntmps40
  go_wp2_with fail
  rw [← hW]
  clear hW
  refine HO.mono ?_
  rintro e w1 ⟨a, cap, rfl, _, hb1⟩
  have hP1 := HW.out.2.below hb1 HW.out.2.lt
  obtain ⟨g0, g1, g2, f0, f1, f2⟩ := hP1.three
  have HB : Hid (Below w.heap.size w w1) := below_any HW.out.1 hb1
  clear hP1 hb1 HO
  go_wp2
  refine bodyPost_ret (v := .tuple #[.agg #[.int .i64 0, .slice none 0 0, .slice none 0 0], .int .i64 ce]) (by simp [results, Tryd.results40, go_sem, *]) rfl ⟨rfl, ?_⟩
  exact below_set3 HB.out (Nat.le_refl _) _ _ _

end Go.Proofs.YthlfgpnabcplnaaDoor.W
