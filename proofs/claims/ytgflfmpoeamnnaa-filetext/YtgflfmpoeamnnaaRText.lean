/-
  What the document's Text tells.
-/
import Derived.Test.YtgflfmpoeamnnaaRMath
namespace Go.Proofs.Ytgflfmpoeamnnaa
open Go.RowKit

theorem drop_at {α : Type} {l : List α} {k : Nat} {x : α} (h : l[k]? = some x) : l.drop k = x :: l.drop (k + 1) := by
  obtain ⟨h1, h2⟩ := List.getElem?_eq_some_iff.1 h
  rw [List.drop_eq_getElem_cons h1, h2]
theorem oc_some {d : List Int} {k : Nat} {x : Int} (h : d[k]? = some x) : oc d k = x := by unfold oc; simp [h]
theorem rows_set {l : List Int} {k : Nat} {x : Int} : (l.map (Value.int .u8)).toArray.setIfInBounds k (.int .u8 x) = ((l.set k x).map (Value.int .u8)).toArray := by
  simp

/-- A row of octets in a block. -/
def RowN (w : World) (g : Nat) (l : List Int) : Prop := w.heap[g]? = some (.cells (l.map (Value.int .u8)).toArray 5 (0, 0))
theorem RowN.lt {w : World} {g : Nat} {l : List Int} (h : RowN w g l) : g < w.heap.size := (Array.getElem?_eq_some_iff.1 h).1
theorem RowN.set {w : World} {g k : Nat} {l : List Int} {x : Int} (h : RowN w g l) : RowN (w.setCell ⟨g, k, none⟩ (.int .u8 x)) g (l.set k x) := by
  have := Box.set (t := 5) h k (.int .u8 x)
  rw [rows_set] at this
  exact this
theorem RowN.cell {w : World} {g k : Nat} {l : List Int} {x : Int} (h : RowN w g l) (hx : l[k]? = some x) : w.cell? ⟨g, k, none⟩ = some (.int .u8 x) := Box.cell (t := 5) h k (by simp [hx])
theorem RowN.frozen {w : World} {g : Nat} {l : List Int} (h : RowN w g l) (k : Nat) : w.frozen? ⟨g, k, none⟩ = false := Box.frozen (t := 5) h k
theorem RowN.index {g m k : Nat} (h : k < m) : ∀ W, (Instr.indexAt 25 (.slice (some ⟨g, 0, none⟩) m m) (.int .i64 k)).run Try.prog W = .ok (.pointer (some ⟨g, k, none⟩)) W := fun W => by
  obtain ⟨i0, hi0, _, hz, _⟩ := info_parts Try.info5
  have := run_index Try.underlying25 hi0 hz g 0 m m k h W
  simpa using this

set_option maxRecDepth 100000 in
set_option maxHeartbeats 2000000 in
theorem rtext_any (n0 : Nat) (us : List Value) (f : Fl) (w : World) (h : flR.lies n0 w us f) (hs : 0 ≤ f.1 ∧ f.1 ≤ 2432) :
    Calls Try.prog 27 #[.agg us.toArray] w fun e w' => (∃ v, e = .returned v ∧ Own1 w.heap.size w' v (rtext f)) ∧ Below w.heap.size w w' := by
  obtain ⟨a, c, rfl, hL, hi, hm⟩ := fl_viewR h
  obtain ⟨s, l⟩ := f
  simp only at hL hi hm hs ⊢
  unfold maxLen at hm
  obtain ⟨m, rfl⟩ : ∃ m : Nat, s = m := ⟨s.toNat, by omega⟩
  have hm2 : m ≤ 2432 := by omega
  obtain ⟨o, hmk, ho⟩ := make_row (w.alloc (.cells #[.int .i64 (m : Int), .slice a l.length c] 24)) m (by omega)
  rw [World.size_alloc] at hmk
  have HO : Hid (o = .cells ((List.replicate m (0 : Int)).map (Value.int .u8)).toArray 5 (0, 0)) := ho
  have HL : Hid (bksR.lies n0 w [.slice a l.length c] l) := hL
  obtain ⟨n, hn⟩ : ∃ n, n = l.length := ⟨_, rfl⟩
  have HN : Hid (n = l.length) := hn
  rw [← hn] at HL hm hmk ⊢
  have hl1 := run_len Try.underlying22 a n c
  have hl2 := run_len Try.underlying25 (some ⟨w.heap.size + 1, 0, none⟩) m m
  have HRT : Hid (rtext ((m : Int), l) = rtl (List.replicate m 0) l) := rfl
  obtain ⟨R, hR⟩ : ∃ R, R = rtext ((m : Int), l) := ⟨_, rfl⟩
  rw [← hR] at HRT ⊢
  have HST : Hid (Below w.heap.size w ((w.alloc (.cells #[.int .i64 (m : Int), .slice a n c] 24)).alloc o) ∧ Box ((w.alloc (.cells #[.int .i64 (m : Int), .slice a n c] 24)).alloc o) w.heap.size 24 #[.int .i64 (m : Int), .slice a n c] ∧ RowN ((w.alloc (.cells #[.int .i64 (m : Int), .slice a n c] 24)).alloc o) (w.heap.size + 1) (List.replicate m 0)) := by
    refine ⟨((Below.refl _ w).alloc (Nat.le_refl _) _).alloc (by simp) _, (Box.new _ _ _).alloc _, ?_⟩
    rw [ho]
    have := heap_alloc_new (w.alloc (.cells #[.int .i64 (m : Int), .slice a n c] 24)) (.cells ((List.replicate m (0 : Int)).map (Value.int .u8)).toArray 5 (0, 0))
    rw [World.size_alloc] at this
    exact this
  clear h hL hi ho hn hR hs
  go_enter Try.func27, Try.ntmps27
  go_wp2
  go_loopw [4] (fun i wr => ∃ (k : Nat) (cur : List Int), k ≤ n ∧ i = .int .i64 k ∧ Hid (R = rtl cur (l.drop k) ∧ cur.length = m ∧ Oct cur) ∧ RowN wr (w.heap.size + 1) cur ∧ Below w.heap.size w wr ∧ Box wr w.heap.size 24 #[.int .i64 (m : Int), .slice a n c]) (fun i _ => n - (intOf i).toNat)
  case atStart => exact ⟨0, _, Nat.zero_le _, rfl, ⟨HRT.out, by simp, zeros_oct _⟩, HST.out.2.2, HST.out.1, HST.out.2.1⟩
  case round =>
    obtain ⟨k, cur, hk, rfl, HK, hrow, hbel, hbx⟩ := hrel
    by_cases hlt : k < n
    · obtain ⟨p, hp⟩ := get_lt (l := l) (k := k) (by rw [← HN.out]; exact hlt)
      have hki : (k : Int) < (n : Int) := by omega
      obtain ⟨q0, q1, _, _⟩ := hbx.two
      have HP : Hid (l[k]? = some p ∧ l.drop k = p :: l.drop (k + 1)) := ⟨hp, drop_at hp⟩
      have HE : Hid (∀ V, Below w.heap.size w V → ∃ b o x cap, (∀ W, (Instr.indexAt 22 (.slice a n c) (.int .i64 k)).run Try.prog W = .ok (.pointer (some ⟨b, o, none⟩)) W) ∧ V.cell? ⟨b, o, none⟩ = some (.int .i64 p.1) ∧ V.cell? ⟨b, o + 1, none⟩ = some (.slice x p.2.length cap) ∧ Arg n0 V (.slice x p.2.length cap) p.2 ∧ I64 p.1 ∧ n0 ≤ b) := fun V hV => bks_atR (bksR.below HL.out hV) k p hp
      obtain ⟨b0, o0, x0, cap0, hix, g0, g1, hA, hpi, _⟩ := bks_atR HL.out k p hp
      have HX : Hid (∀ V, Below w.heap.size w V → V.cell? ⟨b0, o0, none⟩ = some (.int .i64 p.1) ∧ V.cell? ⟨b0, o0 + 1, none⟩ = some (.slice x0 p.2.length cap0) ∧ Arg n0 V (.slice x0 p.2.length cap0) p.2) := fun V hV => ⟨by rw [hV.cell (cell_lt g0)]; exact g0, by rw [hV.cell (cell_lt g1)]; exact g1, hA.below hV⟩
      have HS : Hid (p.2.length ≤ 9223372036854775807) := by
        obtain ⟨_, _, hv, _, hmx, _⟩ := hA.shape
        exact hmx
      have HCUR : Hid (RowN wr (w.heap.size + 1) cur ∧ Below w.heap.size w wr ∧ Box wr w.heap.size 24 #[.int .i64 (m : Int), .slice a n c]) := ⟨hrow, hbel, hbx⟩
      obtain ⟨pi, pd⟩ := p
      simp only at HX HS hpi
      obtain ⟨dl, hdl⟩ : ∃ x, x = pd.length := ⟨_, rfl⟩
      have HDL : Hid (dl = pd.length) := hdl
      rw [← hdl] at HX HS
      have hl3 := run_len Try.underlying25 x0 dl cap0
      clear hp g0 g1 hA hrow hbel hbx hdl HE
      go_wp2
      clear q0 q1
      go_loopw [5] (fun i wr => ∃ j : Nat, j ≤ dl ∧ i = .int .i64 j ∧ RowN wr (w.heap.size + 1) (layK cur pi pd j) ∧ Below w.heap.size w wr ∧ Box wr w.heap.size 24 #[.int .i64 (m : Int), .slice a n c]) (fun i _ => dl - (intOf i).toNat)
      case atStart => exact ⟨0, Nat.zero_le _, rfl, HCUR.out⟩
      case round =>
        obtain ⟨j, hj, rfl, hrow, hbel, hbx⟩ := hrel
        obtain ⟨q0, q1, _, _⟩ := hbx.two
        obtain ⟨g0, g1, hA⟩ := HX.out wr hbel
        have hdm := HS.out
        by_cases hjl : j < dl
        · have hji : (j : Int) < (dl : Int) := by omega
          obtain ⟨x, hx⟩ := get_lt (l := pd) (k := j) (by rw [← HDL.out]; exact hjl)
          obtain ⟨bx, ox, hixx, _, gx, hxw⟩ := hA.at j x hx
          have HLY : Hid (layK cur pi pd (j + 1) = put (layK cur pi pd j) (wat pi j) x ∧ (layK cur pi pd j).length = m) := by
            refine ⟨?_, by rw [layK_length]; exact HK.out.2.1⟩
            rw [layK, oc_some hx]
          have HRB : Hid (RowN wr (w.heap.size + 1) (layK cur pi pd j) ∧ Below w.heap.size w wr ∧ Box wr w.heap.size 24 #[.int .i64 (m : Int), .slice a n c]) := ⟨hrow, hbel, hbx⟩
          obtain ⟨A, hAA⟩ : ∃ A, A = wat pi j := ⟨_, rfl⟩
          have hwr : wrap64 (wrap64 (32 * pi) + (j : Int)) = A := hAA.symm
          by_cases hin : 0 ≤ A ∧ A < (m : Int)
          · obtain ⟨t, rfl⟩ : ∃ t : Nat, A = t := ⟨A.toNat, by omega⟩
            have htm : t < m := by omega
            have hixr := RowN.index (g := w.heap.size + 1) (m := m) (k := t) htm
            have hfz := hrow.frozen t
            obtain ⟨y, hy⟩ := get_lt (l := layK cur pi pd j) (k := t) (by rw [HLY.out.2]; exact htm)
            have hcy := hrow.cell hy
            have HNX : Hid (RowN (wr.setCell ⟨w.heap.size + 1, t, none⟩ (.int .u8 x)) (w.heap.size + 1) (layK cur pi pd (j + 1))) := by
              show RowN _ _ _
              rw [HLY.out.1, ← hAA]
              unfold put
              rw [if_pos (by rw [HLY.out.2]; omega), Int.toNat_natCast]
              exact hrow.set
            have hti : (0 : Int) ≤ (t : Int) ∧ (t : Int) < (m : Int) := by omega
            clear hA hbx hbel hrow hx hy hAA hin
            go_wp2
            go_roundw
            case rel => exact ⟨j + 1, by omega, by go_num, HNX.out, HRB.out.2.1.setCell (p := ⟨w.heap.size + 1, t, none⟩) (by simp) _, HRB.out.2.2.other (by omega)⟩
            case measure => simp [intOf]; omega
          · have HNX : Hid (RowN wr (w.heap.size + 1) (layK cur pi pd (j + 1))) := by
              show RowN _ _ _
              rw [HLY.out.1, ← hAA]
              unfold put
              rw [if_neg (by rw [HLY.out.2]; exact hin)]
              exact hrow
            by_cases h0 : 0 ≤ A
            · have h1 : ¬ A < (m : Int) := fun h => hin ⟨h0, h⟩
              clear hA hbx hbel hrow hx hAA hin
              go_wp2
              go_roundw
              case rel => exact ⟨j + 1, by omega, by go_num, HNX.out, HRB.out.2.1, HRB.out.2.2⟩
              case measure => simp [intOf]; omega
            · clear hA hbx hbel hrow hx hAA hin
              go_wp2
              go_roundw
              case rel => exact ⟨j + 1, by omega, by go_num, HNX.out, HRB.out.2.1, HRB.out.2.2⟩
              case measure => simp [intOf]; omega
        · obtain rfl : j = dl := by omega
          have HNX : Hid (RowN wr (w.heap.size + 1) (layK cur pi pd j) ∧ Below w.heap.size w wr ∧ Box wr w.heap.size 24 #[.int .i64 (m : Int), .slice a n c]) := ⟨hrow, hbel, hbx⟩
          have HK2 : Hid (R = rtl (layK cur pi pd j) (l.drop (k + 1)) ∧ (layK cur pi pd j).length = m ∧ Oct (layK cur pi pd j)) := by
            refine ⟨by rw [HK.out.1, HP.out.2, rtl, HDL.out], by rw [layK_length]; exact HK.out.2.1, ?_⟩
            clear HDL hl3 HX HNX hrow
            have hoct : Oct pd := hA.oct
            have : ∀ q, Oct (layK cur pi pd q) := fun q => by
              induction q with
              | zero => exact HK.out.2.2
              | succ q ih => exact put_oct ih _ (getD_oct hoct q)
            exact this j
          clear hA hbx hbel hrow
          go_wp2
          go_roundw
          case rel => exact ⟨k + 1, _, by omega, by go_num, HK2, HNX.out⟩
          case measure => simp [intOf]; omega
    · obtain rfl : k = n := by omega
      have hR : cur = R := by rw [HK.out.1, HN.out, List.drop_length]; rfl
      subst hR
      have HF : Hid (Own1 w.heap.size wr (.slice (some ⟨w.heap.size + 1, 0, none⟩) m m) cur) := row_arg hrow (by omega) HK.out.2.1 (by unfold maxLen; omega) HK.out.2.2
      obtain ⟨q0, q1, _, _⟩ := hbx.two
      clear hrow hbx
      go_wp2
      go_ret
      exact ⟨⟨_, rfl, HF.out⟩, hbel⟩

end Go.Proofs.Ytgflfmpoeamnnaa
