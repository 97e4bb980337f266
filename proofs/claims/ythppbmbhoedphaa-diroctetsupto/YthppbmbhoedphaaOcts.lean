/-
  Octets copied and held against each other; octets as a text, and back.
-/
import Derived.Test.YthppbmbhoedphaaLawMath
import Derived.Test.YthppbmbhoedphaaOPut
import Derived.Test.YthppbmbhoedphaaOGet
import Derived.Laws.BytesArg
import Derived.Lib.AppendStr
namespace Go.Proofs.Ythppbmbhoedphaa
open Go.RowKit

/-- What a copy of octets makes: the same ones in a block of its own. -/
def Copies (f : FuncId) : Prop := ∀ (n0 : Nat) (v : Value) (l : List Int) (w : World), Arg n0 w v l → l.length ≤ 140737488355328 →
    Calls Try.prog f #[v] w fun e w' => (∃ v', e = .returned v' ∧ Own1 w.heap.size w' v' l) ∧ Below w.heap.size w w'

set_option maxHeartbeats 400000 in
theorem copy_any : Copies 23 := by
  intro n0 v l w h hs
  obtain ⟨i0, hi, hz0, hz1, hz2⟩ := info_parts Try.info5
  have ho := h.oct
  obtain ⟨hl, h | ⟨x, cap, rfl, hcap, hm, _, hc⟩⟩ := h.cells
  · obtain ⟨rfl, h0⟩ := h
    obtain rfl := List.eq_nil_of_length_eq_zero h0
    go_enter Try.func23, Try.ntmps23
    go_wp2_with (at_builtin; refine wpList_append_own_none rfl _ _ 47 rfl w.heap.size 5 i0 1 Try.underlying47 hi (.slice none 0 0) 0 [] rfl (World.ownsRow_nil _ _ _ _) rfl ?_)
    go_ret
    exact ⟨⟨_, rfl, .mk (World.ownsRow_nil _ _ _ _) ho⟩, Below.refl _ _⟩
  · have hone := one_cells l
    go_enter Try.func23, Try.ntmps23
    go_wp2_with (at_builtin; refine wpList_append_own _ rfl _ _ 47 rfl w.heap.size 5 i0 (.int .u8 0) 1 1 Try.underlying47 hi hz0 hz1 hz2 rfl (by decide) (.slice none 0 0) 0 [] rfl (World.ownsRow_nil _ _ _ _) x l.length cap (l.map (Value.int .u8)) rfl (by simp) hc hone (by omega) (by omega) (Nat.le_refl _) ?_)
    intro v' w1 hown hgrow _
    have hb : Below w.heap.size w w1 := (Below.refl _ _).grown hgrow (Nat.le_refl _) (fun _ h => by cases h)
    clear hgrow hc hone
    go_wp2
    go_ret
    exact ⟨⟨v', rfl, .mk (by simpa using hown) ho⟩, hb⟩

theorem differ {a b : List Int} {k : Nat} (h : a.getD k 0 ≠ b.getD k 0) : a ≠ b := fun e => h (by rw [e])
theorem alike {a b : List Int} (hl : a.length = b.length) (h : ∀ i, i < a.length → a.getD i 0 = b.getD i 0) : a = b := by
  apply List.ext_getElem hl
  intro i h1 h2
  have := h i h1
  simpa [List.getD, List.getElem?_eq_getElem h1, List.getElem?_eq_getElem h2] using this

set_option maxHeartbeats 1000000 in
theorem same_any (n1 n2 : Nat) (v1 v2 : Value) (l1 l2 : List Int) (w : World) (h1 : Arg n1 w v1 l1) (h2 : Arg n2 w v2 l2) :
    Calls Try.prog 28 #[v1, v2] w fun e w' => e = .returned (.bool (decide (l1 = l2))) ∧ ∃ q, w' = w.drewN q := by
  obtain ⟨a1, c1, rfl, _, hm1, _⟩ := h1.shape
  obtain ⟨a2, c2, rfl, _, hm2, _⟩ := h2.shape
  unfold maxLen at hm1 hm2
  have hl1 := run_len Try.underlying47 a1 l1.length c1
  have hl2 := run_len Try.underlying47 a2 l2.length c2
  by_cases hlen : l1.length = l2.length
  case neg =>
    have e : decide (l1 = l2) = false := by
      rw [decide_eq_false_iff_not]
      intro h; exact hlen (by rw [h])
    rw [e]
    have hne : ¬ (l1.length : Int) = (l2.length : Int) := by omega
    clear h1 h2
    go_enter Try.func28, Try.ntmps28
    go_wp2
    go_ret
    exact ⟨rfl, 0, rfl⟩
  rcases h1.split with ⟨rfl, _⟩ | ⟨b1, o1, k1, hv1, _, _, _, e1⟩
  · obtain rfl : l2 = [] := List.eq_nil_of_length_eq_zero (by simpa using hlen.symm)
    clear h1 h2
    go_enter Try.func28, Try.ntmps28
    go_wp2
    refine wp_loop_rounds 1 ?_
    rw [rounds_succ]
    go_wp2
    go_ret
    exact ⟨rfl, 0, rfl⟩
  rcases h2.split with ⟨rfl, _⟩ | ⟨b2, o2, k2, hv2, _, _, _, e2⟩
  · obtain rfl : l1 = [] := List.eq_nil_of_length_eq_zero (by simpa using hlen)
    clear h1 h2
    go_enter Try.func28, Try.ntmps28
    go_wp2
    refine wp_loop_rounds 1 ?_
    rw [rounds_succ]
    go_wp2
    go_ret
    exact ⟨rfl, 0, rfl⟩
  obtain ⟨rfl, _, rfl⟩ := Value.slice.inj hv1
  obtain ⟨rfl, _, rfl⟩ := Value.slice.inj hv2
  obtain ⟨n, hn⟩ : ∃ n, n = l1.length := ⟨_, rfl⟩
  rw [← hlen] at e2 hl2 ⊢
  rw [← hn] at e1 e2 hl1 hl2 hm1 ⊢
  have HE : Hid ((∀ i, i < n → w.cell? ⟨b1, o1 + i, none⟩ = some (.int .u8 (l1.getD i 0))) ∧ ∀ i, i < n → w.cell? ⟨b2, o2 + i, none⟩ = some (.int .u8 (l2.getD i 0))) := ⟨e1, e2⟩
  have HN : Hid (n = l1.length ∧ l1.length = l2.length) := ⟨hn, hlen⟩
  obtain ⟨d, hd⟩ : ∃ d, d = decide (l1 = l2) := ⟨_, rfl⟩
  rw [← hd]
  have HDD : Hid (d = decide (l1 = l2)) := hd
  clear h1 h2 hv1 hv2 hn hlen e1 e2 hl1 hl2 hd
  go_enter Try.func28, Try.ntmps28
  go_wp2
  go_loopw [5] (fun i wr => ∃ k : Nat, k ≤ n ∧ i = .int .i64 k ∧ Hid (∀ i, i < k → l1.getD i 0 = l2.getD i 0) ∧ ∃ q, wr = w.drewN q) (fun i _ => n - (intOf i).toNat)
  case atStart => exact ⟨0, Nat.zero_le _, rfl, fun i hi => by omega, 0, rfl⟩
  case round =>
    obtain ⟨k, hk, rfl, HK, q, rfl⟩ := hrel
    by_cases hlt : k < n
    · have g1 := HE.out.1 k hlt
      have g2 := HE.out.2 k hlt
      have hkn : (k : Int) < (n : Int) := by omega
      obtain ⟨x, hx⟩ : ∃ x, x = l1.getD k 0 := ⟨_, rfl⟩
      obtain ⟨y, hy⟩ : ∃ y, y = l2.getD k 0 := ⟨_, rfl⟩
      rw [← hx] at g1
      rw [← hy] at g2
      have HXY : Hid (x = l1.getD k 0 ∧ y = l2.getD k 0) := ⟨hx, hy⟩
      clear hx hy
      by_cases hxy : x = y
      · subst hxy
        go_wp2
        go_quiet (fail)
        go_wp2
        go_roundw
        case rel =>
          refine ⟨k + 1, by omega, by go_num, fun i hi => ?_, _, rfl⟩
          by_cases e : i < k
          · exact HK.out i e
          · obtain rfl : i = k := by omega
            rw [← HXY.out.1, ← HXY.out.2]
        case measure => simp [intOf]; omega
      · have hdf : d = false := by
          rw [HDD.out, decide_eq_false_iff_not]
          exact differ (by rw [← HXY.out.1, ← HXY.out.2]; exact hxy)
        subst hdf
        go_wp2
        go_quiet (fail)
        go_wp2
        go_ret
        exact ⟨rfl, _, World.drewN_drewN _ _ _⟩
    · obtain rfl : k = n := by omega
      have hdt : d = true := by
        rw [HDD.out, decide_eq_true_eq]
        exact alike HN.out.2 (fun i hi => HK.out i (by rw [HN.out.1]; exact hi))
      subst hdt
      go_wp2
      go_ret
      exact ⟨rfl, q, rfl⟩

theorem conv_any {n0 : Nat} {w : World} {v : Value} {l : List Int} (h : Arg n0 w v l) : (convert 47 9 v).run Try.prog w = .ok (.string (strOfNums l)) w := by
  rcases h.split with ⟨rfl, a, cap, rfl⟩ | ⟨b, off, cap, rfl, _, _, _, hcell⟩
  · cases a with
    | none => exact run_convert_bytes_nil w 47 5 Try.underlying47 Try.underlying5 _ _ 9 Try.underlying9
    | some x =>
      rw [run_convert_bytes_string w 47 9 5 _ _ cap Try.underlying47 Try.underlying5 Try.underlying9]
      have := run_bytesToString (P := Try.prog) w x 0 cap [] (by simpa using run_loadCells_list (P := Try.prog) w x [] (fun j v hj => by simp at hj))
      exact this
  · exact run_convert_bytes_arg w 47 5 Try.underlying47 Try.underlying5 b off l.length cap l rfl (fun i hi => by
      rw [hcell i hi]) 9 Try.underlying9
theorem u8_bounds {x : Int} (h : (Lit.int .u8 x).wf = true) : 0 ≤ x ∧ x ≤ 255 := by
  simp [Lit.wf, IntKind.min, IntKind.max, IntKind.signed, IntKind.bits] at h
  omega
theorem u8_wf {x : Int} (h0 : 0 ≤ x) (h1 : x ≤ 255) : (Lit.int .u8 x).wf = true := by
  simp [Lit.wf, IntKind.min, IntKind.max, IntKind.signed, IntKind.bits]
  omega
theorem Arg.len {n : Nat} {w : World} {v : Value} {l : List Int} (h : Arg n w v l) (W : World) : (Builtin.len_ #[47] 3 #[v]).run Try.prog W = .ok (.int .i64 l.length) W := by
  obtain ⟨a, c, rfl, _⟩ := h.shape
  exact run_len Try.underlying47 a l.length c W

/-! A name's octets. -/

def nb (s : ByteArray) : List Int := s.data.toList.map fun b => (b.toNat : Int)
theorem nb_length (s : ByteArray) : (nb s).length = s.size := by rw [Lib.size_eq]; simp [nb]
theorem nb_oct (s : ByteArray) : Oct (nb s) := fun x hx => by
  obtain ⟨b, _, rfl⟩ := List.mem_map.1 hx
  have := b.toNat_lt
  exact u8_wf (by omega) (by omega)
theorem nb_cells (s : ByteArray) : (nb s).map (Value.int .u8) = Lib.strCells s := by
  unfold nb Lib.strCells
  simp
theorem nb_back (s : ByteArray) : strOfNums (nb s) = s := by
  unfold strOfNums nb
  rw [List.map_map]
  have : s.data.toList.map ((fun n : Int => UInt8.ofNat n.toNat) ∘ fun b : UInt8 => (b.toNat : Int)) = s.data.toList := by
    conv => rhs; rw [← List.map_id s.data.toList]
    apply List.map_congr_left
    intro b _
    simp
  rw [this]
theorem back_nb {l : List Int} (h : Oct l) : nb (strOfNums l) = l := by
  unfold nb
  rw [strOfNums_data, List.map_map]
  conv => rhs; rw [← List.map_id l]
  apply List.map_congr_left
  intro x hx
  have := u8_bounds (h x hx)
  simp
  omega

end Go.Proofs.Ythppbmbhoedphaa
