/-
  Plain mathematics: what is read of octets as a segment.
-/
import Derived.Test.YtmjgamokddedkaaRange
namespace Go.Proofs.Ytmjgamokddedkaa
open Go.RowKit
open O (nv)

/-- How many blocks are told of. -/
def cn (L : List Int) : Nat := nv ((L.take 13).drop 12)
/-- The octets that tell of them; those behind. -/
def hbs (L : List Int) : List Int := (L.take (13 + cn L * 6)).drop 13
def beh (L : List Int) : List Int := L.drop (13 + cn L * 6)
def sq (L : List Int) : Int := wrap64 (nv ((L.take 12).drop 4) : Nat)
def blk (h : List Int) (k : Nat) (left : List Int) : Bk := (ow h k, ixn h k, left.take (lnn h k).toNat)
def rdF (h : List Int) (ks : List Nat) (left : List Int) : List Bk × List Int := ks.foldl (fun p k => (p.1 ++ [blk h k p.2], p.2.drop (lnn h k).toNat)) ([], left)
theorem rdF_snoc (h : List Int) (ks : List Nat) (k : Nat) (left : List Int) : rdF h (ks ++ [k]) left = ((rdF h ks left).1 ++ [blk h k (rdF h ks left).2], (rdF h ks left).2.drop (lnn h k).toNat) := by
  unfold rdF
  rw [List.foldl_append]
  rfl
def okK (h : List Int) (ks : List Nat) : Bool := ks.all fun k => decide (lnn h k ≤ 32)
theorem rdF_acc (h : List Int) : ∀ (ks : List Nat) (acc : List Bk × List Int), okK h ks = true → acc.2.length ≤ (ks.foldl (fun p k => (p.1 ++ [blk h k p.2], p.2.drop (lnn h k).toNat)) acc).2.length + 32 * ks.length ∧ (ks.foldl (fun p k => (p.1 ++ [blk h k p.2], p.2.drop (lnn h k).toNat)) acc).1.length = acc.1.length + ks.length
  | [], acc, _ => by simp
  | k :: ks, acc, ho => by
    rw [okK, List.all_cons, Bool.and_eq_true] at ho
    have h2 : lnn h k ≤ 32 := by simpa using ho.1
    have h3 := rdF_acc h ks (acc.1 ++ [blk h k acc.2], acc.2.drop (lnn h k).toNat) ho.2
    simp only [List.foldl_cons, List.length_cons]
    simp only [List.length_drop, List.length_append, List.length_cons, List.length_nil] at h3
    omega
theorem rdF_left (h : List Int) (ks : List Nat) (left : List Int) (ho : okK h ks = true) : left.length ≤ (rdF h ks left).2.length + 32 * ks.length := (rdF_acc h ks ([], left) ho).1
theorem rdF_length (h : List Int) (ks : List Nat) (left : List Int) (ho : okK h ks = true) : (rdF h ks left).1.length = ks.length := by
  have := (rdF_acc h ks ([], left) ho).2
  simpa [rdF] using this

def rdOk (L : List Int) : Bool := decide (cn L ≤ 8) && okK (hbs L) (List.range (cn L))
def rdR (L : List Int) : List Bk × List Int := rdF (hbs L) (List.range (cn L)) (beh L)
def rdS (L : List Int) : Sg := if rdOk L then (sq L, (rdR L).1) else (0, [])
def rdE (L : List Int) : Int := if rdOk L then cerr (sq L, (rdR L).1) else 9
def rdB (L : List Int) : List Int := if rdOk L then (rdR L).2 else []

theorem octs {l : List Int} (h : Oct l) : ∀ x ∈ l, 0 ≤ x ∧ x ≤ 255 := fun x hx => by
  have := h x hx
  simp [Lit.wf, IntKind.min, IntKind.max, IntKind.signed, IntKind.bits] at this
  omega
theorem cn_lt {L : List Int} (h : Oct L) (hl : L.length = 380) : cn L ≤ 255 := by
  have h1 := O.nv_lt ((L.take 13).drop 12) fun x hx => octs h x (List.mem_of_mem_take (List.mem_of_mem_drop hx))
  have h2 : ((L.take 13).drop 12).length = 1 := by simp; omega
  rw [h2] at h1
  unfold cn
  omega
theorem hbs_length {L : List Int} (hl : L.length = 380) (hc : cn L ≤ 8) : (hbs L).length = 6 * cn L := by
  unfold hbs
  rw [part_length _ _ _ (by omega)]
  omega
theorem w64 {n : Nat} (h : n ≤ 255) : wrap64 (n : Int) = n := by
  unfold wrap64
  omega
theorem one_oct {l : List Int} (h : Oct l) (hl : l.length = 1) : nv l ≤ 255 := by
  have h1 := O.nv_lt l (octs h)
  rw [hl] at h1
  omega
theorem lnn_bound {h : List Int} {m k : Nat} (ho : Oct h) (hl : h.length = 6 * m) (hk : k < m) : 0 ≤ lnn h k ∧ lnn h k ≤ 255 := by
  have h1 := one_oct (l := ((ck h k).drop 4).drop 1) (fun x hx => ho x (List.mem_of_mem_take (List.mem_of_mem_drop (List.mem_of_mem_drop (List.mem_of_mem_drop hx))))) (by simp [ck_length hl hk])
  unfold lnn
  rw [w64 h1]
  omega
theorem lnn_i64 (h : List Int) (k : Nat) : I64 (ow h k) ∧ I64 (ixn h k) := by
  unfold ow ixn wrap64 I64
  omega
theorem sq_i64 (L : List Int) : I64 (sq L) := by
  unfold sq wrap64 I64
  omega

/-- Three variables stored into. -/
def W3s (W : World) (R0 R1 R2 : Nat) (u0 u1 v e : Value) : World := (((W.setCell ⟨R0, 0, none⟩ u0).setCell ⟨R0, 1, none⟩ u1).setCell ⟨R1, 0, none⟩ v).setCell ⟨R2, 0, none⟩ e
theorem store3 {W : World} {R0 R1 R2 : Nat} {t0 t1 t2 : TypeId} {a0 b0 a1 a2 : Value} (h0 : Box W R0 t0 #[a0, b0]) (h1 : Box W R1 t1 #[a1]) (h2 : Box W R2 t2 #[a2]) (n1 : R0 ≠ R1) (n2 : R0 ≠ R2) (n3 : R1 ≠ R2) (u0 u1 v e : Value) :
    Box (W3s W R0 R1 R2 u0 u1 v e) R0 t0 #[u0, u1] ∧ Box (W3s W R0 R1 R2 u0 u1 v e) R1 t1 #[v] ∧ Box (W3s W R0 R1 R2 u0 u1 v e) R2 t2 #[e] := by
  refine ⟨?_, ?_, ?_⟩
  · exact (((h0.set 0 u0).set 1 u1).other n1).other n2
  · exact ((((h1.other n1.symm).other n1.symm).set 0 v).other n3)
  · exact (((h2.other n2.symm).other n2.symm).other n3.symm).set 0 e
theorem below3 {n : Nat} {w W : World} {R0 R1 R2 : Nat} (h : Below n w W) (r0 : n ≤ R0) (r1 : n ≤ R1) (r2 : n ≤ R2) (u0 u1 v e : Value) : Below n w (W3s W R0 R1 R2 u0 u1 v e) :=
  ((below_set2 h r0 u0 u1).setCell (p := ⟨R1, 0, none⟩) r1 v).setCell (p := ⟨R2, 0, none⟩) r2 e

set_option maxRecDepth 100000 in
set_option maxHeartbeats 2000000 in
theorem read_many (n0 : Nat) (v : Value) (L : List Int) (w : World) (h : Arg n0 w v L) (hl : L.length = 380) (hc : 8 < cn L) :
    Calls Try.prog 34 #[v] w fun e w' => e = .returned (.tuple #[.agg #[.int .i64 0, .slice none 0 0], .slice none 0 0, .int .i64 9]) ∧ Below w.heap.size w w' := by
  obtain ⟨v1, hA1, s1⟩ := h.cut 12 13 (by omega) (by omega)
  replace s1 : ∀ X, (Instr.slice 25 v (some (.int .i64 12)) (some (.int .i64 13)) none).run Try.prog X = .ok v1 X := s1
  obtain ⟨W, hW⟩ : ∃ W, W = ((w.alloc (.cells #[.int .i64 0, .slice none 0 0] 28)).alloc (.cells #[.slice none 0 0] 25)).alloc (.cells #[.int .i64 0] 31) := ⟨_, rfl⟩
  have hb : Below w.heap.size w W := by rw [hW]; exact (((Below.refl _ w).alloc (Nat.le_refl _) _).alloc (by simp) _).alloc (by simp; omega) _
  have hB0 : Box W w.heap.size 28 #[.int .i64 0, .slice none 0 0] := by rw [hW]; exact ((Box.new _ _ _).alloc _).alloc _
  have hB1 : Box W (w.heap.size + 1) 25 #[.slice none 0 0] := by
    rw [hW]
    have := Box.new (w.alloc (.cells #[.int .i64 0, .slice none 0 0] 28)) 25 #[.slice none 0 0]
    rw [World.size_alloc] at this
    exact this.alloc _
  have hB2 : Box W (w.heap.size + 1 + 1) 31 #[.int .i64 0] := by
    rw [hW]
    have := Box.new ((w.alloc (.cells #[.int .i64 0, .slice none 0 0] 28)).alloc (.cells #[.slice none 0 0] 25)) 31 #[.int .i64 0]
    rwa [World.size_alloc, World.size_alloc] at this
  have HC := number_any v1 _ W (hA1.below hb) (by simp; omega)
  rw [show (nv ((L.take 13).drop 12) : Nat) = cn L from rfl, w64 (cn_lt h.oct hl)] at HC
  obtain ⟨c, hcn⟩ : ∃ c, c = cn L := ⟨_, rfl⟩
  rw [← hcn] at HC hc
  have hci : (8 : Int) < (c : Int) := by omega
  have HW : Hid (Below w.heap.size w W ∧ Box W w.heap.size 28 #[.int .i64 0, .slice none 0 0] ∧ Box W (w.heap.size + 1) 25 #[.slice none 0 0] ∧ Box W (w.heap.size + 1 + 1) 31 #[.int .i64 0]) := ⟨hb, hB0, hB1, hB2⟩
  clear h hA1 hb hB0 hB1 hB2 hcn hl
  go_enter Try.func34, Try.ntmps34
  go_wp2_with fail
  rw [← hW]
  clear hW
  refine HC.mono ?_
  rintro e w2 ⟨rfl, rfl⟩
  obtain ⟨g0, g1, f0, f1⟩ := HW.out.2.1.two
  have g2 := HW.out.2.2.1.cell 0 rfl
  have f2 := HW.out.2.2.1.frozen 0
  have g3 := HW.out.2.2.2.cell 0 rfl
  have f3 := HW.out.2.2.2.frozen 0
  have h3 := store3 HW.out.2.1 HW.out.2.2.1 HW.out.2.2.2 (by omega) (by omega) (by omega) (.int .i64 0) (.slice none 0 0) (.slice none 0 0) (.int .i64 9)
  have HB : Hid (Below w.heap.size w (W3s W w.heap.size (w.heap.size + 1) (w.heap.size + 1 + 1) (.int .i64 0) (.slice none 0 0) (.slice none 0 0) (.int .i64 9))) := below3 HW.out.1 (Nat.le_refl _) (by omega) (by omega) _ _ _ _
  go_wp2
  clear g0 g1 f0 f1 g2 f2 g3 f3
  obtain ⟨g0, g1, -, -⟩ := h3.1.two
  have g2 := h3.2.1.cell 0 rfl
  have g3 := h3.2.2.cell 0 rfl
  unfold W3s at g0 g1 g2 g3
  exact bodyPost_ret (v := .tuple #[.agg #[.int .i64 0, .slice none 0 0], .slice none 0 0, .int .i64 9]) (by simp [results, Try.results34, go_sem, g0, g1, g2, g3]) rfl ⟨rfl, HB.out⟩

end Go.Proofs.Ytmjgamokddedkaa
