/-
  What the document's Owners answers: the same.
-/
import Derived.Test.YtmjgamokddedkaaOwners
import Derived.Test.YtmjgamokddedkaaRCheck
namespace Go.Proofs.Ytmjgamokddedkaa
open Go.RowKit

/-- The lowest number above the last one. -/
def lw (last : Int) (zs : List Int) : Int := zs.foldl (fun m x => if last < x then (if x < m then x else m) else m) 2147483648
theorem lw_snoc {last : Int} {zs : List Int} {k : Nat} {x : Int} (h : zs[k]? = some x) : lw last (zs.take (k + 1)) = if last < x then (if x < lw last (zs.take k) then x else lw last (zs.take k)) else lw last (zs.take k) := by
  unfold lw
  rw [take_snoc h, List.foldl_append]
  rfl
theorem lw_acc (last : Int) : ∀ (zs : List Int) (m : Int), let r := zs.foldl (fun m x => if last < x then (if x < m then x else m) else m) m; r ≤ m ∧ (∀ x ∈ zs, last < x → r ≤ x) ∧ (r = m ∨ (r ∈ zs ∧ last < r))
  | [], m => by simp
  | y :: zs, m => by
    obtain ⟨h1, h2, h3⟩ := lw_acc last zs (if last < y then (if y < m then y else m) else m)
    simp only [List.foldl_cons]
    obtain ⟨r, hr⟩ : ∃ r, r = zs.foldl (fun m x => if last < x then (if x < m then x else m) else m) (if last < y then (if y < m then y else m) else m) := ⟨_, rfl⟩
    rw [← hr] at h1 h2 h3 ⊢
    clear hr
    refine ⟨?_, ?_, ?_⟩
    · split at h1
      · split at h1 <;> omega
      · exact h1
    · intro x hx hl
      rcases List.mem_cons.1 hx with rfl | hx
      · rw [if_pos hl] at h1
        split at h1 <;> omega
      · exact h2 x hx hl
    · rcases h3 with h3 | ⟨h3, h4⟩
      · split at h3
        · rename_i hl
          split at h3
          · rw [h3]; exact .inr ⟨List.mem_cons_self .., hl⟩
          · exact .inl h3
        · exact .inl h3
      · exact .inr ⟨List.mem_cons_of_mem _ h3, h4⟩
theorem lw_next {zs O : List Int} (hb : ∀ x ∈ zs, x ≤ 2147483647) (hP : O.Pairwise (· < ·)) (hM : ∀ x, x ∈ O ↔ x ∈ zs) {k : Nat} {last : Int} (hA : ∀ x ∈ O.take k, x ≤ last) (hB : ∀ x ∈ O.drop k, last < x) : lw last zs = O.getD k 2147483648 := by
  obtain ⟨h1, h2, h3⟩ := lw_acc last zs 2147483648
  change lw last zs ≤ _ at h1
  change ∀ x ∈ zs, last < x → lw last zs ≤ x at h2
  change lw last zs = _ ∨ (lw last zs ∈ zs ∧ last < lw last zs) at h3
  by_cases hk : k < O.length
  · have hg : O.getD k 2147483648 = O[k] := by simp [List.getD, List.getElem?_eq_getElem hk]
    rw [hg]
    have hin : O[k] ∈ O.drop k := by rw [List.drop_eq_getElem_cons hk]; exact List.mem_cons_self ..
    have hle := h2 O[k] ((hM _).1 (List.getElem_mem hk)) (hB _ hin)
    have hbk := hb _ ((hM _).1 (List.getElem_mem hk))
    rcases h3 with h3 | ⟨h3, h4⟩
    · omega
    · have hin2 := (hM _).2 h3
      rw [← List.take_append_drop k O] at hin2
      rcases List.mem_append.1 hin2 with h5 | h5
      · have := hA _ h5; omega
      · rw [List.drop_eq_getElem_cons hk] at h5
        rcases List.mem_cons.1 h5 with h6 | h6
        · exact h6
        · obtain ⟨j, hj, e⟩ := List.mem_iff_getElem.1 h6
          rw [List.getElem_drop] at e
          rw [List.length_drop] at hj
          have := List.pairwise_iff_getElem.1 hP k (k + 1 + j) hk (by omega) (by omega)
          omega
  · have hg : O.getD k 2147483648 = 2147483648 := by simp [List.getD, List.getElem?_eq_none (by omega : O.length ≤ k)]
    rw [hg]
    rcases h3 with h3 | ⟨h3, h4⟩
    · exact h3
    · have hin2 := (hM _).2 h3
      rw [← List.take_of_length_le (by omega : O.length ≤ k)] at hin2
      have := hA _ hin2
      omega
def lenOf : Value → Nat
  | .slice _ n _ => n
  | _ => 0
theorem run_min2 (w : World) (ts : Array TypeId) (t : TypeId) (x y : Int) : (Builtin.min_ ts t #[.int .i64 x, .int .i64 y]).run Try.prog w = .ok (.int .i64 (if y < x then y else x)) w := by
  simp [Builtin.min_, Builtin.min2]

set_option maxRecDepth 100000 in
set_option maxHeartbeats 4000000 in
theorem rowners_any (n0 : Nat) (us : List Value) (s : Sg) (w : World) (h : sgR.lies n0 w us s) :
    Calls Try.prog 16 #[.agg us.toArray] w fun e w' => (∃ v, e = .returned (.tuple #[v, .int .i64 (cerr s)]) ∧ OwnI w.heap.size w' v (owV s)) ∧ Below w.heap.size w w' := by
  obtain ⟨a, c, rfl, hL, hi, hm⟩ := sg_viewR h
  obtain ⟨i0, hi0, hz0, hz1, hz2⟩ := info_parts Try.info3
  obtain ⟨post, hpost⟩ : ∃ post : Ending → World → Prop, post = fun e w' => (∃ v, e = .returned (.tuple #[v, .int .i64 (cerr s)]) ∧ OwnI w.heap.size w' v (owV s)) ∧ Below w.heap.size w w' := ⟨_, rfl⟩
  have HNo : Hid (∀ w', ¬ Chk s → Below w.heap.size w w' → post (.returned (.tuple #[.slice none 0 0, .int .i64 9])) w') := fun w' h1 h2 => by
    rw [hpost, cerr_bad h1, owV_bad h1]
    exact ⟨⟨_, rfl, World.ownsRow_nil _ _ _ _⟩, h2⟩
  have HYes : Hid (∀ v w', Chk s → OwnI w.heap.size w' v (onc (s.2.map fun p => p.1)) → Below w.heap.size w w' → post (.returned (.tuple #[v, .int .i64 0])) w') := fun v w' h1 h2 h3 => by
    rw [hpost, cerr_ok h1, owV_ok h1]
    exact ⟨⟨_, rfl, h2⟩, h3⟩
  rw [← hpost]
  clear hpost
  obtain ⟨W, hW⟩ : ∃ W, W = w.alloc (.cells #[.int .i64 s.1, .slice a s.2.length c] 24) := ⟨_, rfl⟩
  have hbW : Below w.heap.size w W := by rw [hW]; exact (Below.refl _ _).alloc (Nat.le_refl _) _
  have hxW : Box W w.heap.size 24 #[.int .i64 s.1, .slice a s.2.length c] := by rw [hW]; exact Box.new _ _ _
  have HW : Hid (Below w.heap.size w W ∧ Box W w.heap.size 24 #[.int .i64 s.1, .slice a s.2.length c]) := ⟨hbW, hxW⟩
  have HC := rcheck_any _ _ s W (sgR.below h hbW)
  have HL : Hid (bksR.lies n0 w [.slice a s.2.length c] s.2) := hL
  obtain ⟨g0, g1, f0, f1⟩ := hxW.two
  obtain ⟨n, hn⟩ : ∃ n, n = s.2.length := ⟨_, rfl⟩
  obtain ⟨q, hq⟩ : ∃ q, q = s.1 := ⟨_, rfl⟩
  have HN : Hid (n = s.2.length) := hn
  rw [← hn] at HL
  rw [← hn] at g1 HC HW hW ⊢
  rw [← hq] at g0 HC HW hW ⊢
  rw [hW] at g0 g1 f0 f1
  clear h hL hi hm hbW hxW hn hq
  go_enter Try.func16, Try.ntmps16
  go_wp2_with fail
  rw [← hW]
  clear hW g0 g1 f0 f1
  refine HC.mono ?_
  rintro e w1 ⟨rfl, hb1⟩
  have H1 : Hid (Below w.heap.size w w1 ∧ Box w1 w.heap.size 24 #[.int .i64 q, .slice a n c]) := ⟨below_any HW.out.1 hb1, HW.out.2.below hb1 HW.out.2.lt⟩
  clear hb1 HC HW
  by_cases hc : Chk s
  case neg =>
    rw [cerr_bad hc]
    have HE : Hid (post (.returned (.tuple #[.slice none 0 0, .int .i64 9])) w1) := HNo.out w1 hc H1.out.1
    clear hc
    go_wp2
    exact HE.out
  rw [cerr_ok hc]
  have HK : Hid (Chk s) := hc
  have hn8 : n ≤ 8 := by rw [HN.out]; exact hc.2.1.2
  obtain ⟨hP, hM⟩ := onc_told (s.2.map fun p => p.1)
  have hbd : ∀ x ∈ (s.2.map fun p => p.1), x ≤ 2147483647 := fun x hx => by
    obtain ⟨p, hp, rfl⟩ := List.mem_map.1 hx
    exact (may_iff.1 (List.all_eq_true.1 hc.2.2 p hp)).1.2
  have hol := onc_length (s.2.map fun p => p.1)
  obtain ⟨O, hO⟩ : ∃ O, O = onc (s.2.map fun p => p.1) := ⟨_, rfl⟩
  have HOZ : Hid (O = onc (s.2.map fun p => p.1)) := hO
  rw [← hO] at hP hM hol
  have hpos : ∀ x ∈ O, 0 < x := fun x hx => by
    obtain ⟨p, hp, rfl⟩ := List.mem_map.1 ((hM x).1 hx)
    have := (may_iff.1 (List.all_eq_true.1 hc.2.2 p hp)).1.1
    omega
  obtain ⟨zs, hzs⟩ : ∃ zs, zs = s.2.map fun p => p.1 := ⟨_, rfl⟩
  have HZG : Hid (∀ (k : Nat) (p : Bk), s.2[k]? = some p → zs[k]? = some p.1) := fun k p hp => by rw [hzs, List.getElem?_map, hp]; rfl
  have HZN : Hid (zs.length = n) := by rw [hzs, List.length_map]; exact HN.out.symm
  rw [← hzs] at hM hbd hol
  have HO : Hid (O.Pairwise (· < ·) ∧ (∀ x, x ∈ O ↔ x ∈ zs) ∧ (∀ x ∈ zs, x ≤ 2147483647) ∧ (∀ x ∈ O, 0 < x)) := ⟨hP, hM, hbd, hpos⟩
  obtain ⟨N, hN⟩ : ∃ N, N = O.length := ⟨_, rfl⟩
  have hN8 : N ≤ 8 := by have := HZN.out; omega
  have HNO : Hid (N = O.length) := hN
  have hll := run_len Try.underlying22 a n c
  clear hc hP hM hbd hol hpos hO hzs hN
  go_wp2
  go_loopw [4, 5] (fun v la wr => ∃ (k : Nat) (last : Int), k ≤ N ∧ la = .int .i64 last ∧ Hid ((∀ x ∈ O.take k, x ≤ last) ∧ (∀ x ∈ O.drop k, last < x) ∧ wr.ownsRow w.heap.size 3 1 v k ((O.take k).map (Value.int .i64)) ∧ Below w.heap.size w wr ∧ Box wr w.heap.size 24 #[.int .i64 q, .slice a n c])) (fun v _ _ => N - lenOf v)
  case atStart => exact ⟨0, 0, Nat.zero_le _, rfl, ⟨by simp, fun x hx => HO.out.2.2.2 x hx, World.ownsRow_nil _ _ _ _, H1.out.1, H1.out.2⟩⟩
  case round =>
    obtain ⟨k, last, hk, rfl, HI⟩ := hrel
    obtain ⟨va, vc, rfl⟩ := own_shape HI.out.2.2.1
    go_wp2
    go_loopw [6, 7] (fun lo i wq => ∃ j : Nat, j ≤ n ∧ i = .int .i64 j ∧ lo = .int .i64 (lw last (zs.take j)) ∧ Hid (Below wr.heap.size wr wq)) (fun _ i _ => n - (intOf i).toNat)
    case atStart => exact ⟨0, Nat.zero_le _, rfl, rfl, Below.refl _ _⟩
    case round =>
      obtain ⟨j, hj, rfl, rfl, HT⟩ := hrel
      obtain ⟨-, g1, -, f1⟩ := (HI.out.2.2.2.2.below HT.out HI.out.2.2.2.2.lt).two
      by_cases hjl : j < n
      · have hji : (j : Int) < (n : Int) := by omega
        obtain ⟨p, hp⟩ := get_lt (l := s.2) (k := j) (by rw [← HN.out]; exact hjl)
        have hst := lw_snoc (last := last) (HZG.out j p hp)
        obtain ⟨b2, o2, xa, xc, hix2, p2, -⟩ := bks_atR (bksR.below HL.out (below_any HI.out.2.2.2.1 HT.out)) j _ hp
        obtain ⟨po, pr⟩ := p
        simp only at p2 hst
        obtain ⟨lo, hlo⟩ : ∃ z, z = lw last (zs.take j) := ⟨_, rfl⟩
        rw [← hlo] at hst ⊢
        have HST : Hid (lw last (zs.take (j + 1)) = if last < po then (if po < lo then po else lo) else lo) := hst
        clear hlo hst hp
        by_cases hgt : last < po
        · obtain ⟨mn, hmn⟩ : ∃ z, z = if po < lo then po else lo := ⟨_, rfl⟩
          have hmin : ∀ (ts : Array TypeId) (t : TypeId) (W : World), (Builtin.min_ ts t #[.int .i64 lo, .int .i64 po]).run Try.prog W = .ok (.int .i64 mn) W := fun ts t W => by rw [run_min2, hmn]
          have HST2 : Hid (lw last (zs.take (j + 1)) = mn) := by
            show _ = _
            rw [HST.out, if_pos hgt, hmn]
          clear hmn HST
          go_wp2
          go_roundw
          case rel => exact ⟨j + 1, by omega, by go_num, by rw [HST2.out], HT⟩
          case measure => simp [intOf]; omega
        · have HST2 : Hid (lw last (zs.take (j + 1)) = lo) := by
            show _ = _
            rw [HST.out, if_neg hgt]
          clear HST
          go_wp2
          go_roundw
          case rel => exact ⟨j + 1, by omega, by go_num, by rw [HST2.out], HT⟩
          case measure => simp [intOf]; omega
      · obtain rfl : j = n := by omega
        have hji : ¬ (j : Int) < (j : Int) := by omega
        have hlw : lw last (zs.take j) = O.getD k 2147483648 := by
          rw [← HZN.out, List.take_length]
          exact lw_next HO.out.2.2.1 HO.out.1 HO.out.2.1 HI.out.1 HI.out.2.1
        rw [hlw]
        clear hlw
        have hown := own_below HI.out.2.2.1 HT.out
        have HB : Hid (Below w.heap.size w wr ∧ Box wr w.heap.size 24 #[.int .i64 q, .slice a j c]) := ⟨below_any HI.out.2.2.2.1 HT.out, HI.out.2.2.2.2.below HT.out HI.out.2.2.2.2.lt⟩
        by_cases hkN : k < N
        case neg =>
          obtain rfl : k = N := by omega
          have hg : O.getD k 2147483648 = 2147483648 := by simp [List.getD, List.getElem?_eq_none (by have := HNO.out; omega : O.length ≤ k)]
          have hz : O.take k = O := by rw [HNO.out, List.take_length]
          rw [hg]
          have HE : Hid (post (.returned (.tuple #[.slice va k vc, .int .i64 0])) wr) := HYes.out _ wr HK.out (by
            rw [hz] at hown
            rw [← HOZ.out]
            show wr.ownsRow _ _ _ _ _ _
            rw [← HNO.out]
            exact hown) HB.out.1
          clear hg hz hown
          go_wp2
          exact HE.out
        obtain ⟨x, hx⟩ := get_lt (l := O) (k := k) (by rw [← HNO.out]; exact hkN)
        have hg : O.getD k 2147483648 = x := by simp [List.getD, hx]
        rw [hg]
        have hxl : x ≤ 2147483647 := HO.out.2.2.1 x ((HO.out.2.1 x).1 (List.mem_of_getElem? hx))
        have hxn : ¬ (2147483647 : Int) < x := by omega
        have HTK : Hid (O.take (k + 1) = O.take k ++ [x] ∧ (∀ y ∈ O.take (k + 1), y ≤ x) ∧ (∀ y ∈ O.drop (k + 1), x < y)) := by
          obtain ⟨hkl, hxe⟩ := List.getElem?_eq_some_iff.1 hx
          refine ⟨take_snoc hx, fun y hy => ?_, fun y hy => ?_⟩
          · rw [take_snoc hx] at hy
            rcases List.mem_append.1 hy with h1 | h1
            · have h2 := HI.out.1 y h1
              have h3 : last < x := HI.out.2.1 x (by rw [List.drop_eq_getElem_cons hkl, hxe]; exact List.mem_cons_self ..)
              omega
            · rw [List.mem_singleton.1 h1]; exact Int.le_refl _
          · obtain ⟨i, hi, e⟩ := List.mem_iff_getElem.1 hy
            rw [List.getElem_drop] at e
            rw [List.length_drop] at hi
            have := List.pairwise_iff_getElem.1 HO.out.1 k (k + 1 + i) hkl (by omega) (by omega)
            rw [hxe] at this
            omega
        obtain ⟨xs, hxs⟩ : ∃ xs, xs = (O.take k).map (Value.int .i64) := ⟨_, rfl⟩
        have HXS : Hid (xs = (O.take k).map (Value.int .i64)) := hxs
        rw [← hxs] at hown
        obtain ⟨U2, hU2⟩ : ∃ U2, U2 = wr.alloc (.cells #[.int .i64 x] 3) := ⟨_, rfl⟩
        have hbU2 : Below wr.heap.size wr U2 := by rw [hU2]; exact (Below.refl _ _).alloc (Nat.le_refl _) _
        have hxU2 : Box U2 wr.heap.size 3 #[.int .i64 x] := by rw [hU2]; exact Box.new _ _ _
        have hown2 := own_below hown hbU2
        have HB2 : Hid (Below w.heap.size w U2 ∧ Box U2 w.heap.size 24 #[.int .i64 q, .slice a j c]) := ⟨below_any HB.out.1 hbU2, HB.out.2.below hbU2 HB.out.2.lt⟩
        have hnews : ∀ (i : Nat) (u : Value), [Value.int .i64 x][i]? = some u → U2.cell? ((⟨wr.heap.size, 0, none⟩ : Addr).add i) = some u := fun i u hu => by
          rw [add_plain, Nat.zero_add]
          exact hxU2.cell i (by simpa using hu)
        clear hg hx hxl hxs hown hbU2 hxU2 HI HT
        go_wp2_with (at_builtin; rw [← hU2]; refine wpList_append_own _ rfl _ _ 40 rfl w.heap.size 3 i0 (.int .i64 0) 1 8 Try.underlying40 hi0 hz0 hz1 hz2 rfl (by decide) (.slice va k vc) k _ rfl hown2 ⟨wr.heap.size, 0, none⟩ 1 1 [.int .i64 x] rfl rfl hnews (by simp [Value.oneCell']) (by unfold maxLen; omega) (by omega) HB2.out.1.size ?_)
        intro v2 w2 hown3 hgrow _
        rw [← hU2] at hgrow
        obtain ⟨va2, vc2, rfl⟩ := own_shape hown3
        have HI2 : Hid ((∀ y ∈ O.take (k + 1), y ≤ x) ∧ (∀ y ∈ O.drop (k + 1), x < y) ∧ w2.ownsRow w.heap.size 3 1 (.slice va2 (k + 1) vc2) (k + 1) ((O.take (k + 1)).map (Value.int .i64)) ∧ Below w.heap.size w w2 ∧ Box w2 w.heap.size 24 #[.int .i64 q, .slice a j c]) := by
          refine ⟨HTK.out.2.1, HTK.out.2.2, ?_, HB2.out.1.grown hgrow HB2.out.1.size (fun i hi => (hown2.lt i hi).1), HB2.out.2.grown hgrow (HB2.out.2.apart hown2 (by decide))⟩
          rw [HTK.out.1, List.map_append, ← HXS.out]
          exact hown3
        clear hown3 hgrow hown2 hnews hU2 HB HB2 g1 f1
        go_wp2
        go_roundw
        case rel => exact ⟨k + 1, x, by omega, rfl, HI2⟩
        case measure => simp [lenOf]; omega

end Go.Proofs.Ytmjgamokddedkaa
