/-
  Plain mathematics for the document's Open: what stands where.
-/
import Derived.Test.YtmjgamokddedkaaROpenM
namespace Go.Proofs.Ytmjgamokddedkaa
open Go.RowKit
open O (nv)

theorem nv_one (x : Int) : nv [x] = x.toNat := by simp [nv]
theorem part_one {b : List Int} {i : Nat} {x : Int} (h : b[i]? = some x) : (b.take (i + 1)).drop i = [x] := by
  have hi := (List.getElem?_eq_some_iff.1 h).1
  rw [take_snoc h, List.drop_append_of_le_length (by simp; omega), List.drop_of_length_le (by simp; omega)]
  rfl
theorem cn_at {b : List Int} {x : Int} (h : b[12]? = some x) : cn (b.take 380) = x.toNat := by
  unfold cn
  rw [List.take_take, show min 13 380 = 12 + 1 from rfl, part_one h, nv_one]
theorem sq_at (b : List Int) : sq (b.take 380) = wrap64 (nv ((b.take 12).drop 4) : Nat) := by
  unfold sq
  rw [List.take_take]
  rfl
theorem ck_at {b : List Int} {k : Nat} (hk : k < cn (b.take 380)) (h8 : cn (b.take 380) ≤ 8) : ck (hbs (b.take 380)) k = (b.take (19 + 6 * k)).drop (13 + 6 * k) := by
  unfold ck hbs
  obtain ⟨c, hc⟩ : ∃ c, c = cn (b.take 380) := ⟨_, rfl⟩
  rw [← hc] at hk h8 ⊢
  rw [List.take_take, show min (13 + c * 6) 380 = 13 + c * 6 by omega, List.take_drop, List.drop_drop, List.take_take]
  congr 1
  · omega
  · congr 1
    omega
theorem drop_one {l : List Int} {i : Nat} {x : Int} (h : l[i]? = some x) (hl : l.length = i + 1) : l.drop i = [x] := by
  have := part_one h
  rwa [List.take_of_length_le (by omega)] at this
theorem lnn_at {h : List Int} {k : Nat} {y : Int} (hl : (ck h k).length = 6) (hy : (ck h k)[5]? = some y) (h0 : 0 ≤ y ∧ y ≤ 255) : lnn h k = y := by
  unfold lnn
  rw [List.drop_drop, drop_one hy hl, nv_one]
  unfold wrap64
  omega
theorem ixn_at {h : List Int} {k : Nat} {y : Int} (hy : (ck h k)[4]? = some y) (h0 : 0 ≤ y ∧ y ≤ 255) : ixn h k = y := by
  unfold ixn
  rw [List.take_drop, part_one (i := 4) hy, nv_one]
  unfold wrap64
  omega
theorem ow_at {h : List Int} {k : Nat} (hn : nv ((ck h k).take 4) < 4294967296) : ow h k = (nv ((ck h k).take 4) : Nat) := by
  unfold ow wrap64
  omega
theorem piece_at (b : List Int) (i m : Nat) (h : i + m ≤ 380) : (b.take (i + m)).drop i = ((b.take 380).drop i).take m := by
  rw [List.take_drop, List.take_take, show min (i + m) 380 = i + m by omega]

/-- What may not be of what is told ahead. -/
theorem rdE_seq {b : List Int} (h : nv ((b.take 12).drop 4) < 1 ∨ 1099511627776 < nv ((b.take 12).drop 4)) (h2 : nv ((b.take 12).drop 4) < 18446744073709551616) : rdE (b.take 380) = 9 := by
  refine rdE_nine fun hh => ?_
  have h3 := hh.2.1
  simp only [sq_at] at h3
  unfold wrap64 at h3
  omega
theorem rdE_few {L : List Int} (h : cn L < 1) : rdE L = 9 := by
  refine rdE_nine fun hh => ?_
  have h1 : okK (hbs L) (List.range (cn L)) = true := by
    have := hh.1
    unfold rdOk at this
    simp only [Bool.and_eq_true] at this
    exact this.2
  have h2 := rdF_length (hbs L) (List.range (cn L)) (beh L) h1
  have h3 := hh.2.2.1.1
  have h4 : (rdR L).1.length = cn L := by rw [rdR, h2, List.length_range]
  simp only at h3
  omega
theorem rdE_many {L : List Int} (h : 8 < cn L) : rdE L = 9 := rdE_nine fun hh => by
  have := hh.1
  unfold rdOk at this
  simp only [Bool.and_eq_true, decide_eq_true_eq] at this
  omega
theorem rdE_long {L : List Int} {k : Nat} (hk : k < cn L) (h : 32 < lnn (hbs L) k) : rdE L = 9 := rdE_nine fun hh => by
  have := hh.1
  unfold rdOk okK at this
  simp only [Bool.and_eq_true, List.all_eq_true, decide_eq_true_eq, List.mem_range] at this
  have := this.2 k hk
  omega
theorem okK_snoc {h : List Int} {k : Nat} (h1 : okK h (List.range k) = true) (h2 : lnn h k ≤ 32) : okK h (List.range (k + 1)) = true := by
  unfold okK at *
  rw [List.range_succ, List.all_append, h1]
  simp [h2]
theorem rdOk_of {L : List Int} (h8 : cn L ≤ 8) (h : okK (hbs L) (List.range (cn L)) = true) : rdOk L = true := by
  unfold rdOk
  simp [h8, h]

/-- What has been read of the first k blocks, and where what is left begins. -/
structure Rd (L : List Int) (k at_ : Nat) : Prop where
  ok : okK (hbs L) (List.range k) = true
  left : (rdF (hbs L) (List.range k) (beh L)).2 = L.drop at_
  low : at_ ≤ 13 + 6 * cn L + 32 * k
theorem Rd.start (L : List Int) : Rd L 0 (13 + 6 * cn L) := by
  refine ⟨rfl, ?_, by omega⟩
  show beh L = _
  unfold beh
  rw [Nat.mul_comm]
theorem Rd.next {L : List Int} {k i m : Nat} (h : Rd L k i) (hm : lnn (hbs L) k = (m : Int)) (hm2 : m ≤ 32) :
    Rd L (k + 1) (i + m) ∧ (rdF (hbs L) (List.range (k + 1)) (beh L)).1 = (rdF (hbs L) (List.range k) (beh L)).1 ++ [(ow (hbs L) k, ixn (hbs L) k, (L.drop i).take m)] := by
  have h1 : (lnn (hbs L) k).toNat = m := by rw [hm]; rfl
  refine ⟨⟨okK_snoc h.ok (by rw [hm]; omega), ?_, by have := h.low; omega⟩, ?_⟩
  · rw [List.range_succ, rdF_snoc, h1]
    simp only
    rw [h.left, List.drop_drop]
  · rw [List.range_succ, rdF_snoc, blk, h1, h.left]
theorem Rd.len {L : List Int} {k i : Nat} (h : Rd L k i) : (rdF (hbs L) (List.range k) (beh L)).1.length = k := by
  rw [rdF_length _ _ _ h.ok, List.length_range]
theorem Rd.whole {L : List Int} {i : Nat} (h : Rd L (cn L) i) (h8 : cn L ≤ 8) : rdOk L = true ∧ (rdR L).2 = L.drop i ∧ rdE L = cerr (sq L, (rdR L).1) ∧ rdS L = (sq L, (rdR L).1) ∧ rdB L = L.drop i := by
  have h1 := rdOk_of h8 h.ok
  refine ⟨h1, h.left, ?_, ?_, ?_⟩
  · rw [rdE, if_pos h1]
  · rw [rdS, if_pos h1]
  · rw [rdB, if_pos h1]
    exact h.left

/-- While blocks are put together: both variables, and the blocks. -/
structure RI (w : World) (A : Nat) (q : Int) (l : List Bk) (a : Option Addr) (k c : Nat) (wr : World) : Prop where
  box : Box wr A 24 #[.int .i64 q, .slice a k c]
  res : Box wr w.heap.size 24 #[.int .i64 0, .slice none 0 0]
  own : bksR.owns (A + 1) wr [.slice a k c] l
  bel : Below w.heap.size w wr
  low : w.heap.size < A
theorem RI.lies {w : World} {A : Nat} {q : Int} {l : List Bk} {a : Option Addr} {k c : Nat} {wr : World} (h : RI w A q l a k c wr) (hq : I64 q) : sgR.lies w.heap.size wr [.int .i64 q, .slice a k c] (q, l) :=
  sg_mkR (s := (q, l)) (bksR.weaken (bksR.olies h.own) (by have := h.low; omega)) hq
theorem RI.later {w : World} {A : Nat} {q : Int} {l : List Bk} {a : Option Addr} {k c : Nat} {wr W : World} (h : RI w A q l a k c wr) (hb : Below wr.heap.size wr W) : RI w A q l a k c W :=
  ⟨h.box.below hb h.box.lt, h.res.below hb h.res.lt, bksR.obelow h.own hb, below_any h.bel hb, h.low⟩

/-- One more block. -/
theorem RI.push {w : World} {A : Nat} {q : Int} {l : List Bk} {a : Option Addr} {k c : Nat} {wr w2 w3 : World} {vss : List (List Value)} {gg cap3 m ucap : Nat} {ux : Option Addr} {o i : Int} {d : List Int} (h : RI w A q l a k c wr) (hl : l.length = k) (hO : wr.ownsRow (A + 1) 55 3 (.slice a k c) k vss.flatten) (hE : Each (bkR.owns (A + 1) wr) vss l)
    (hb2 : Below wr.heap.size wr w2) (hu : Own1 wr.heap.size w2 (.slice ux m ucap) d) (ho : I64 o) (hi : I64 i) (hg : (w2.alloc (.cells #[.int .i64 o, .int .i64 i, .slice ux m ucap] 55)).grownBy w3 (Value.slice a k c).ownBlock)
    (h3 : w3.ownsRow (A + 1) 55 3 (.slice (some ⟨gg, 0, none⟩) (k + 1) cap3) (k + 1) (vss.flatten ++ [.int .i64 o, .int .i64 i, .slice ux m ucap])) (hbe : Below (A + 1) wr w3) :
    RI w A q (l ++ [(o, i, d)]) (some ⟨gg, 0, none⟩) (k + 1) cap3 (w3.setCell ⟨A, 1, none⟩ (.slice (some ⟨gg, 0, none⟩) (k + 1) cap3)) := by
  have hlow := h.low
  have hA1 : A + 1 ≤ wr.heap.size := h.box.lt
  have hS2 : Same (A + 1) wr (w2.alloc (.cells #[.int .i64 o, .int .i64 i, .slice ux m ucap] 55)) := Same.trans (.of_below hb2) hb2.size (.alloc _ _ _)
  have hu2 : bkR.owns (A + 1) (w2.alloc (.cells #[.int .i64 o, .int .i64 i, .slice ux m ucap] 55)) [.int .i64 o, .int .i64 i, .slice ux m ucap] (o, i, d) :=
    bk_omk (p := (o, i, d)) (bytesS.osame (bytesS.oweaken hu hA1) (.alloc _ _ _)) ho hi
  have hp : bksR.owns (A + 1) w3 [.slice (some ⟨gg, 0, none⟩) (k + 1) cap3] (l ++ [(o, i, d)]) := by
    refine Shape.list_push (S := bkR) (ht := Try.underlying22) (hc := cells22) (by decide) (hE.mono fun _ _ h => bkR.osame h hS2) (by rw [hl]; exact own_same hO hS2) hu2 hg ?_
    rw [hl]
    exact h3
  have hB3 := h.box.below hbe (Nat.lt_succ_self _)
  have hR3 := h.res.below hbe (by omega)
  refine ⟨hB3.set 1 _, hR3.other (by omega), bksR.osame hp (Same.set (Nat.lt_succ_self _)), ?_, hlow⟩
  exact (h.bel.trans (hbe.mono (by omega))).setCell (p := ⟨A, 1, none⟩) (by show _ ≤ A; omega) _

end Go.Proofs.Ytmjgamokddedkaa
