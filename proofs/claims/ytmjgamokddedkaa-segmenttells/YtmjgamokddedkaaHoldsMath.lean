/-
  Lists of octets as they are handed in, and the blocks that are made of them.
-/
import Derived.Test.YtmjgamokddedkaaAlive
import Derived.Test.YtmjgamokddedkaaOfL
namespace Go.Proofs.Ytmjgamokddedkaa
open Go.RowKit

theorem Try.info25 : (Try.prog.info? 25).map (fun i => (i.zero, i.size, i.bytes)) = some (some (.slice none 0 0), 1, 24) := by kernel_rfl
theorem cells59 : Try.prog.cellsOf 59 = 1 := by kernel_rfl
def bssS : Shape (List (List Int)) := bytesS.list 59 Try.underlying59 cells59
theorem bss_len {n : Nat} {w : World} {v : Value} {l : List (List Int)} (h : bssS.lies n w [v] l) : ∃ a cap, v = .slice a l.length cap ∧ l.length ≤ maxLen := by
  obtain ⟨a, cap, e, _, hm, _⟩ := Shape.list_len (S := bytesS) (ht := Try.underlying59) (hc := cells59) h
  exact ⟨a, cap, by simpa using e, hm⟩
theorem bss_at {n : Nat} {w : World} {v : Value} {l : List (List Int)} (h : bssS.lies n w [v] l) (i : Nat) (d : List Int) (hd : l[i]? = some d) :
    ∃ b o a cap, (∀ W, (Instr.indexAt 59 v (.int .i64 i)).run Try.prog W = .ok (.pointer (some ⟨b, o, none⟩)) W) ∧ w.cell? ⟨b, o, none⟩ = some (.slice a d.length cap) ∧ Arg n w (.slice a d.length cap) d := by
  obtain ⟨i0, hi0, _, hz, _⟩ := info_parts Try.info25
  obtain ⟨b, o, us, hix, _, hc, hl⟩ := Shape.list_at (S := bytesS) (ht := Try.underlying59) (hc := cells59) h (by decide) hi0 hz i d hd
  obtain ⟨u, rfl, hC, ho⟩ := id hl
  have hA : Arg n w u d := ⟨u, rfl, hC, ho⟩
  obtain ⟨a, cap, rfl, _⟩ := hA.shape
  exact ⟨b, o, a, cap, hix, hc 0 _ rfl, hA⟩

def hb (i : Nat) (d : List Int) : Bk := (1 + (i : Int), (i : Int), d.take 32)
def hl (l : List (List Int)) (k : Nat) : List Bk := (List.range k).map fun i => hb i (l.getD i [])
theorem hl_snoc (l : List (List Int)) (k : Nat) : hl l (k + 1) = hl l k ++ [hb k (l.getD k [])] := by simp [hl, List.range_succ]
theorem hl_length (l : List (List Int)) (k : Nat) : (hl l k).length = k := by simp [hl]
theorem hl_get (l : List (List Int)) (n k : Nat) (h : k < n) : (hl l n)[k]? = some (hb k (l.getD k [])) := by
  simp [hl, List.getElem?_map, List.getElem?_range h]
theorem hl_may (l : List (List Int)) (n : Nat) (h : n ≤ 12) : (hl l n).all mayB = true := by
  rw [List.all_eq_true]
  intro p hp
  obtain ⟨i, hi, rfl⟩ := List.mem_map.1 hp
  rw [List.mem_range] at hi
  refine may_iff.2 ⟨⟨?_, ?_⟩, ⟨?_, ?_⟩, ?_⟩
  · show (1 : Int) ≤ 1 + (i : Int)
    omega
  · show 1 + (i : Int) ≤ 2147483647
    omega
  · show (0 : Int) ≤ (i : Int)
    omega
  · show (i : Int) ≤ 255
    omega
  · show ((l.getD i []).take 32).length ≤ 32
    simp; omega
theorem hl_chk (l : List (List Int)) (n : Nat) (q : Int) (hn : n ≤ 12) (hq : 1 ≤ q ∧ q ≤ 1000) : Chk (q, hl l n) ↔ 1 ≤ n ∧ n ≤ 8 := by
  unfold Chk
  rw [show (q, hl l n).2 = hl l n from rfl, show (q, hl l n).1 = q from rfl, hl_length]
  constructor
  · intro h; exact h.2.1
  · intro h; exact ⟨⟨hq.1, by omega⟩, h, hl_may l n hn⟩
theorem spotq (x : Int) : ∃ (t : Int) (j : Nat), Int.tmod x 1000 = t ∧ -1000 < t ∧ t < 1000 ∧ Int.tmod (t + 1000) 1000 = j ∧ j < 1000 := by
  have h1 := Int.tmod_lt_of_pos x (show (0 : Int) < 1000 by omega)
  have h2 : -1000 < Int.tmod x 1000 := Int.lt_tmod_of_pos x (show (0 : Int) < 1000 by omega)
  refine ⟨_, (Int.tmod (Int.tmod x 1000 + 1000) 1000).toNat, rfl, h2, h1, ?_, ?_⟩
  · have := Int.tmod_nonneg (a := Int.tmod x 1000 + 1000) 1000 (by omega)
    omega
  · have := Int.tmod_lt_of_pos (Int.tmod x 1000 + 1000) (show (0 : Int) < 1000 by omega)
    have h0 := Int.tmod_nonneg (a := Int.tmod x 1000 + 1000) 1000 (by omega)
    omega
theorem run_min2 (w : World) (ts : Array TypeId) (t : TypeId) (x y : Int) : (Builtin.min_ ts t #[.int .i64 x, .int .i64 y]).run Try.prog w = .ok (.int .i64 (if y < x then y else x)) w := by
  simp [Builtin.min_, Builtin.min2]

/-- While blocks are put together: the variable, its row, and what the row tells. -/
structure HI (w : World) (A : Nat) (q : Int) (l : List (List Int)) (k : Nat) (a : Option Addr) (c : Nat) (vss : List (List Value)) (wr : World) : Prop where
  box : Box wr A 28 #[.int .i64 q, .slice a k c]
  row : wr.ownsRow (A + 1) 58 3 (.slice a k c) k vss.flatten
  each : Each (bkF.lies 0 w) vss (hl l k)
  bel : Below w.heap.size w wr
  low : w.heap.size ≤ A
theorem HI.lies {w : World} {A : Nat} {q : Int} {l : List (List Int)} {k : Nat} {a : Option Addr} {c : Nat} {vss : List (List Value)} {wr : World} (h : HI w A q l k a c vss wr) (hq : I64 q) : sgN.lies 0 wr [.int .i64 q, .slice a k c] (q, hl l k) := by
  have h1 : Cells 0 wr 3 (.slice a k c) (hl l k).length vss.flatten := by
    rw [hl_length]
    exact (Cells.own h.row).weaken (Nat.zero_le _)
  have h2 : Each (bkN.lies 0 wr) vss (hl l k) := h.each.mono fun _ _ g => bkN.below g h.bel
  exact sg_mkN (s := (q, hl l k)) ⟨_, vss, rfl, h1, h2⟩ hq
theorem ty {P : Program} {ops : Array Oper} {Q : Exit → Act → World → Prop} {md : Region.Mode} {S : World → Prop} {t : Nat} (i : Nat) (d : Tmp) {v : Value} {oi : Oper} {f : Nat} {listed : Array Bool} {a : Act} {w : World} (hS : S w)
    (h : AnyBut P md ops Q S t f (listed.setIfInBounds i true) (a.put (some d) v) w) (hi : ops[i]? = some oi := by rfl) (hd : oi.dst = some d := by rfl) (hy : ∀ w, S w → (execOp a.eval oi).run P w = .ok (.value v) w := by (intro W hSW; (try dsimp only at hSW); go_simp; try with_reducible rfl))
    (hc : (Region.noSelect ops && !(i == t) && Region.waitsFor md ops t i && Region.free md ops listed i && (Region.ready md ops listed).contains i) = true := by kernel_rfl) (hQ : ∀ c a w, Q (.panic c) (a.put (some d) v) w → Q (.panic c) a w := by exact fun _ _ _ h => h) (hw : Region.wanted oi (yielded ops a.tmps) = true := by rfl) : AnyBut P md ops Q S t (f + 1) listed a w := by
  simp only [Bool.and_eq_true, Bool.not_eq_true'] at hc
  exact AnyBut.take (some d) hi hd hc.1.1.1.1 hc.1.1.1.2 hc.1.1.2 hc.1.2 hc.2 hQ (.inl ⟨hw, hy⟩) hS h

end Go.Proofs.Ytmjgamokddedkaa
