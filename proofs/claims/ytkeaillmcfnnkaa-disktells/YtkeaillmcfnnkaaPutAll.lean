/-
  What PutAll makes of any disk: the error by the document's order, or the disk with a write more for each 64 octets.
-/
import Derived.Test.YtkeaillmcfnnkaaPut
namespace Go.Proofs.Ytkeaillmcfnnkaa
open Go.RowKit

theorem part_length (l : List Int) (i j : Nat) (hj : j ≤ l.length) : ((l.take j).drop i).length = j - i := by
  rw [List.length_drop, List.length_take, Nat.min_eq_left hj]

theorem Arg.sub {n0 : Nat} {w : World} {a : Option Addr} {len cap : Nat} {l : List Int} (h : Arg n0 w (.slice a len cap) l) (i j : Nat) (hij : i ≤ j) (hj : j ≤ l.length) : Arg n0 w (sliced a i j cap 1) ((l.take j).drop i) := by
  have ho : Oct ((l.take j).drop i) := fun y hy => h.2 y (List.mem_of_mem_take (List.mem_of_mem_drop hy))
  have hl := part_length l i j hj
  obtain ⟨⟨_, ⟨hv, h0⟩ | ⟨x, c, hv, hcap, hm, hb, hc⟩⟩, _⟩ := h
  · obtain ⟨rfl, rfl, rfl⟩ := Value.slice.inj hv
    obtain rfl : j = 0 := by omega
    obtain rfl : i = 0 := by omega
    exact ⟨⟨by simp, .inl ⟨by simp [sliced], by simp⟩⟩, by simpa using ho⟩
  · obtain ⟨rfl, rfl, rfl⟩ := Value.slice.inj hv
    refine ⟨⟨by simp, .inr ?_⟩, ho⟩
    by_cases e : cap = i
    · refine ⟨x, cap - i, ?_, by omega, by omega, hb, fun k u hk => ?_⟩
      · unfold sliced
        rw [if_pos e, hl]
      · have : k < ((l.take j).drop i).length := by
          have := (List.getElem?_eq_some_iff.1 hk).1
          simpa using this
        omega
    · have hblk : (x.add (i * 1)).block = x.block := by unfold Addr.add; split <;> rfl
      refine ⟨x.add (i * 1), cap - i, ?_, by omega, by omega, by rw [hblk]; exact hb, fun k u hk => ?_⟩
      · unfold sliced
        rw [if_neg e, hl]
        rfl
      · have hk0 : k < j - i := by
          have := (List.getElem?_eq_some_iff.1 hk).1
          rw [List.length_map, hl] at this
          exact this
        have h1 := hc (i + k) u (by
          rw [List.getElem?_map] at hk ⊢
          rw [List.getElem?_drop, List.getElem?_take, if_pos (by omega)] at hk
          exact hk)
        have hpos : 0 < l.length := by omega
        have h0 := hc 0 (.int .u8 (l.getD 0 0)) (by simp [hpos])
        obtain ⟨b, off, spot⟩ := x
        have hspot : spot = none := by simpa [Addr.add] using World.cell?_spot h0
        subst hspot
        rw [add_plain] at h1
        rw [add_plain, add_plain, Nat.mul_one, Nat.add_assoc, h1]

theorem elem26 : Try.prog.underlying 26 = some (.slice (Try.prog.elem 26)) := by kernel_rfl
theorem elem26_is : Try.prog.elem 26 = 5 := by kernel_rfl
theorem size5 (W : World) : (sizeOf (Try.prog.elem 26)).run Try.prog W = .ok 1 W := by
  obtain ⟨i0, hi, hz0, hz1, hz2⟩ := info_parts Try.info5
  rw [elem26_is]
  simp [sizeOf, typeInfo, hi, hz1]

theorem Arg.cut {n0 : Nat} {w : World} {v : Value} {l : List Int} (h : Arg n0 w v l) (i j : Nat) (hij : i ≤ j) (hj : j ≤ l.length) :
    ∃ v', Arg n0 w v' ((l.take j).drop i) ∧ ∀ W, (Instr.slice 26 v (some (.int .i64 i)) (some (.int .i64 j)) none).run Try.prog W = .ok v' W := by
  obtain ⟨a, cap, rfl, hcap, _⟩ := h.shape
  refine ⟨_, h.sub i j hij hj, fun W => ?_⟩
  rw [run_slice_lh W 26 a l.length cap elem26 .i64 .i64 i j (by omega) (by omega) (by omega), size5]
  simp [Result.andThen]
theorem Arg.ahead {n0 : Nat} {w : World} {v : Value} {l : List Int} (h : Arg n0 w v l) (j : Nat) (hj : j ≤ l.length) :
    ∃ v', Arg n0 w v' (l.take j) ∧ ∀ W, (Instr.slice 26 v none (some (.int .i64 j)) none).run Try.prog W = .ok v' W := by
  obtain ⟨a, cap, rfl, hcap, _⟩ := h.shape
  refine ⟨_, by simpa using h.sub 0 j (by omega) hj, fun W => ?_⟩
  rw [run_slice_h W 26 a l.length cap elem26 .i64 j (by omega) (by omega), size5]
  simp [Result.andThen]

/-- How many sectors octets need; the one of them; the writes. -/
def need (d : List Int) : Nat := (d.length + 63) / 64
def piece (d : List Int) (i : Nat) : List Int := (d.drop (64 * i)).take 64
def pieces (s : Int) (d : List Int) : List (Int × List Int) := (List.range (need d)).map fun (i : Nat) => (s + (i : Int), pad (piece d i))
def paerr (S : St) (s : Int) (d : List Int) : Int := if chk S = false then 9 else if reach S.secs.length s (need d) = false then 41 else if 4096 < S.cache.length + need d then 51 else 0
def past (S : St) (s : Int) (d : List Int) : St := if paerr S s d = 0 then ⟨S.secs, S.cache ++ pieces s d⟩ else none0

theorem piece_cut (d : List Int) (i : Nat) : (d.take (min (64 * i + 64) d.length)).drop (64 * i) = piece d i := by
  unfold piece
  by_cases h : 64 * i + 64 ≤ d.length
  · rw [Nat.min_eq_left h, List.drop_take]
    congr 1
    omega
  · rw [Nat.min_eq_right (by omega), List.take_length, List.take_of_length_le (by simp; omega)]
theorem piece_le (d : List Int) (i : Nat) : (piece d i).length ≤ 64 := by simp [piece]; omega
theorem piece_oct {d : List Int} (h : Oct d) (i : Nat) : Oct (piece d i) := fun x hx => h x (List.mem_of_mem_drop (List.mem_of_mem_take hx))
theorem need_lt (d : List Int) (i : Nat) (h : i < need d) : 64 * i ≤ d.length := by unfold need at h; omega

theorem wrap_in (x : Int) (h : -9223372036854775808 ≤ x ∧ x ≤ 9223372036854775807) : IntKind.i64.wrap x = x := by rw [IntKind.wrap_i64]; omega
theorem wrap_to (x y : Int) (e : x = y) (h : -9223372036854775808 ≤ x ∧ x ≤ 9223372036854775807) : IntKind.i64.wrap x = y := by rw [wrap_in x h, e]

theorem wrap64_in' (x : Int) (h : -9223372036854775808 ≤ x ∧ x ≤ 9223372036854775807) : wrap64 x = x := by unfold wrap64; omega

theorem run_min2 (w : World) (ts : Array TypeId) (t : TypeId) (x y : Int) : (Builtin.min_ ts t #[.int .i64 x, .int .i64 y]).run Try.prog w = .ok (.int .i64 (if y < x then y else x)) w := by
  simp [Builtin.min_, Builtin.min2]

attribute [local go_sem ↓] Go.wp_at_zero Go.wp_at_succ

set_option maxRecDepth 100000 in
set_option maxHeartbeats 2000000 in
theorem putAll_any (n0 n1 : Nat) (v dv : Value) (S : St) (s : Int) (d : List Int) (w : World) (h : Disk n0 w v S) (hs : -9223372036854775808 ≤ s ∧ s ≤ 9223372036854775807) (hd : Arg n1 w dv d) (hdb : d.length ≤ 140737488351232) :
    Calls Try.prog 25 #[v, .int .i64 s, dv] w fun e w' => ∃ v', e = .returned (.tuple #[v', .int .i64 (paerr S s d)]) ∧ OwnDisk w.heap.size w' 64 v' (past S s d) ∧ Below w.heap.size w w' := by
  obtain ⟨a1, c1, a2, c2, rfl, hL, hW⟩ := h.shape
  obtain ⟨ad, cd, rfl, _, hdm, _⟩ := hd.shape
  obtain ⟨i6, hi6, hz60, hz61, hz62⟩ := info_parts Try.info64
  obtain ⟨_, _, _, _, hm1, _⟩ := hL.shape
  have hl0 := run_len Try.underlying26 ad d.length cd
  have hl2 := run_len Try.underlying28 a2 S.cache.length c2
  have HD : Hid (Disk n0 w (.agg #[.slice a1 S.secs.length c1, .slice a2 S.cache.length c2]) S) := h
  have HA : Hid (Arg n1 w (.slice ad d.length cd) d) := hd
  obtain ⟨n, hn⟩ : ∃ n, n = S.secs.length := ⟨_, rfl⟩
  obtain ⟨m, hm⟩ : ∃ n, n = S.cache.length := ⟨_, rfl⟩
  obtain ⟨dl, hdl⟩ : ∃ n, n = d.length := ⟨_, rfl⟩
  obtain ⟨nd, hnd⟩ : ∃ n, n = need d := ⟨_, rfl⟩
  have HN : Hid (n = S.secs.length) := hn
  have HM : Hid (m = S.cache.length) := hm
  have HND : Hid (nd = need d) := hnd
  have hnd2 : nd = (dl + 63) / 64 := by rw [hnd, hdl]; rfl
  have HP : Hid (paerr S s d = if chk S = false then 9 else if reach n s nd = false then 41 else if 4096 < m + nd then 51 else 0) := by
    show _ = _
    rw [hn, hm, hnd]; rfl
  rw [← hn, ← hm] at HD ⊢
  rw [← hn] at hm1
  rw [← hm] at hl2
  rw [← hdl] at HA hl0 hdb ⊢
  have HDL : Hid (dl = d.length) := hdl
  have HN2 : Hid (nd = (dl + 63) / 64) := hnd2
  obtain ⟨pe, hpe⟩ : ∃ x, x = paerr S s d := ⟨_, rfl⟩
  have HPS : Hid (past S s d = if pe = 0 then ⟨S.secs, S.cache ++ pieces s d⟩ else none0) := by
    show _ = _
    rw [hpe]; rfl
  obtain ⟨PS, hPS⟩ : ∃ x, x = past S s d := ⟨_, rfl⟩
  rw [← hpe] at HP ⊢
  rw [← hPS] at HPS ⊢
  have hw1 : IntKind.i64.wrap ((dl : Int) + 64) = (dl : Int) + 64 := wrap_in _ (by omega)
  have hw2 : IntKind.i64.wrap ((dl : Int) + 64 - 1) = (dl : Int) + 63 := wrap_to _ _ (by omega) (by omega)
  have hw3 : Int.tdiv ((dl : Int) + 63) 64 = (nd : Int) := by
    rw [Int.tdiv_eq_ediv_of_nonneg (by omega)]; omega
  have hw5 : wrap64 (nd : Int) = (nd : Int) := by unfold wrap64; omega
  have HW5 : Hid (wrap64 (nd : Int) = (nd : Int)) := hw5
  clear h hd hL hW hn hm hdl hpe hPS hnd hnd2
  go_enter Try.func25, Try.ntmps25
  go_wp2_with fail
  refine (check_any n0 _ S _ (HD.out.below (((Below.refl _ w).alloc (Nat.le_refl _) _).alloc (by simp) _))).mono ?_
  rintro e w1 ⟨rfl, hb1⟩
  have hP1 : Box w1 w.heap.size 30 (.slice a1 n c1) (.slice a2 m c2) := ((Box.new w 30 _ _).alloc _).below hb1 (by simp; omega)
  have hR1 : Box w1 (w.heap.size + 1) 30 (.slice none 0 0) (.slice none 0 0) := by
    have := Box.new (w.alloc (.cells #[.slice a1 n c1, .slice a2 m c2] 30)) 30 (.slice none 0 0) (.slice none 0 0)
    rw [World.size_alloc] at this
    exact this.below hb1 (by simp)
  have hbe1 : Below w.heap.size w w1 := below_any (((Below.refl _ w).alloc (Nat.le_refl _) _).alloc (by simp) _) hb1
  have HB1 : Hid (Box w1 w.heap.size 30 (.slice a1 n c1) (.slice a2 m c2) ∧ Box w1 (w.heap.size + 1) 30 (.slice none 0 0) (.slice none 0 0) ∧ Below w.heap.size w w1) := ⟨hP1, hR1, hbe1⟩
  have g0 := hP1.cell0
  have g1 := hP1.cell1
  have g2 := hR1.cell0
  have g3 := hR1.cell1
  have g4 := hR1.frozen0
  have g5 := hR1.frozen1
  clear hb1 hbe1
  unfold cerr
  cases hchk : chk S
  · have e1 : pe = 9 := by rw [HP.out, if_pos hchk]
    have e2 : PS = none0 := by rw [HPS.out, if_neg (by omega)]
    subst e1 e2
    clear hP1 hR1
    go_wp2
    refine bodyPost_ret (v := .tuple #[.agg #[.slice none 0 0, .slice none 0 0], .int .i64 9]) (by simp [results, Try.results25, go_sem, *]) rfl ⟨_, rfl, own_zero _ _ _, ?_⟩
    exact below_set2 HB1.out.2.2 (Nat.le_succ _) _ _
  · clear hP1 hR1
    go_wp2_with fail
    refine (reaches_any a1 a2 n c1 m c2 s nd w1 hm1 hs).mono ?_
    rintro e w2 ⟨rfl, hb2⟩
    have hP2 := HB1.out.1.below hb2 HB1.out.1.lt
    have hR2 := HB1.out.2.1.below hb2 HB1.out.2.1.lt
    have HB2 : Hid (Box w2 w.heap.size 30 (.slice a1 n c1) (.slice a2 m c2) ∧ Box w2 (w.heap.size + 1) 30 (.slice none 0 0) (.slice none 0 0) ∧ Below w.heap.size w w2) := ⟨hP2, hR2, below_any HB1.out.2.2 hb2⟩
    clear g0 g1 g2 g3 g4 g5 hb2 hw1 hw2 hw3 hw5
    have g0 := hP2.cell0
    have g1 := hP2.cell1
    have g2 := hR2.cell0
    have g3 := hR2.cell1
    have g4 := hR2.frozen0
    have g5 := hR2.frozen1
    clear hP2 hR2 HB1
    cases hrc : reach n s nd
    · have e1 : pe = 41 := by rw [HP.out, if_neg (by simp [hchk]), if_pos hrc]
      have e2 : PS = none0 := by rw [HPS.out, if_neg (by omega)]
      subst e1 e2
      go_wp2
      refine bodyPost_ret (v := .tuple #[.agg #[.slice none 0 0, .slice none 0 0], .int .i64 41]) (by simp [results, Try.results25, go_sem, *]) rfl ⟨_, rfl, own_zero _ _ _, ?_⟩
      exact below_set2 HB2.out.2.2 (Nat.le_succ _) _ _
    obtain ⟨k1, k2, k3, k4, k5, k6⟩ := chk_facts hchk
    have HK : Hid (1 ≤ n ∧ n ≤ 2048 ∧ m ≤ 4096) := ⟨by rw [HN.out]; exact k1, by rw [HN.out]; exact k2, by rw [HM.out]; exact k3⟩
    have HRC : Hid (0 ≤ s ∧ (nd : Int) ≤ n - s) := by
      simp [reach] at hrc
      exact ⟨hrc.1, hrc.2⟩
    have HW6 : Hid (wrap64 ((m : Int) + nd) = (m : Int) + nd) := wrap64_in' _ (by have := HK.out; have := HRC.out; omega)
    by_cases h4k : (4096 : Int) < (m : Int) + nd
    · have e1 : pe = 51 := by rw [HP.out, if_neg (by simp [hchk]), if_neg (by simp [hrc]), if_pos (by omega)]
      have e2 : PS = none0 := by rw [HPS.out, if_neg (by omega)]
      subst e1 e2
      clear k1 k2 k3 k4 k5 k6
      have hw5 := HW5.out
      have hw6 := HW6.out
      go_wp2
      refine bodyPost_ret (v := .tuple #[.agg #[.slice none 0 0, .slice none 0 0], .int .i64 51]) (by simp [results, Try.results25, go_sem, *]) rfl ⟨_, rfl, own_zero _ _ _, ?_⟩
      exact below_set2 HB2.out.2.2 (Nat.le_succ _) _ _
    have e1 : pe = 0 := by rw [HP.out, if_neg (by simp [hchk]), if_neg (by simp [hrc]), if_neg (by omega)]
    have e2 : PS = ⟨S.secs, S.cache ++ pieces s d⟩ := by rw [HPS.out, if_pos e1]
    subst e1 e2
    have HMN : Hid (m + nd ≤ 4096) := by show _ ≤ _; omega
    have hw7 : wrap64 ((m : Int) + wrap64 (nd : Int)) = (m : Int) + nd := by rw [HW5.out, HW6.out]
    go_wp2_with fail
    refine (clone_any n0 _ S _ (HD.out.below HB2.out.2.2) k2 k3 k4 k5).mono ?_
    rintro e w3 ⟨v3, rfl, ⟨vs, vc, rfl, hOL, hOW⟩, hb3⟩
    clear hw7
    obtain ⟨us, hus, hEs⟩ := id hOL
    obtain ⟨ps, hown, hE⟩ := id hOW
    rw [← HN.out] at hus
    rw [← HM.out] at hown
    obtain ⟨ax, cs, rfl⟩ := own_shape hus
    obtain ⟨ac, cc, rfl⟩ := own_shape hown
    have hR3 := HB2.out.2.1.below hb3 HB2.out.2.1.lt
    obtain ⟨W, hW⟩ : ∃ W, W = w3.alloc (.cells #[.slice ax n cs, .slice ac m cc] 30) := ⟨_, rfl⟩
    have hXW : Box W w3.heap.size 30 (.slice ax n cs) (.slice ac m cc) := by rw [hW]; exact Box.new _ _ _ _
    have hbW : Below w3.heap.size w3 W := by rw [hW]; exact (Below.refl _ _).alloc (Nat.le_refl _) _
    have HLT : Hid (w.heap.size + 1 < w2.heap.size ∧ w2.heap.size ≤ w3.heap.size) := ⟨HB2.out.2.1.lt, hb3.size⟩
    have HST : Hid (Box W w3.heap.size 30 (.slice ax n cs) (.slice ac m cc) ∧ Box W (w.heap.size + 1) 30 (.slice none 0 0) (.slice none 0 0) ∧ OwnLists w2.heap.size W (.slice ax n cs) S.secs ∧ OwnWrites w2.heap.size W 64 (.slice ac m cc) S.cache ∧ Below w.heap.size w W) :=
      ⟨hXW, hR3.below hbW hR3.lt, hOL.same (.of_below hbW), hOW.same (.of_below hbW), below_any (below_any HB2.out.2.2 hb3) hbW⟩
    clear hown hE hOL hOW hEs hus hR3 hb3 g0 g1 g2 g3 g4 g5 hbW hXW k1 k2 k3 k4 k5 k6
    go_wp2
    rw [← hW]
    clear hW
    go_loopw [41] (fun i wr => ∃ (k : Nat) (vc : Value), k ≤ nd ∧ i = .int .i64 k ∧ Box wr w3.heap.size 30 (.slice ax n cs) vc ∧ Box wr (w.heap.size + 1) 30 (.slice none 0 0) (.slice none 0 0) ∧ OwnLists w2.heap.size wr (.slice ax n cs) S.secs ∧
      OwnWrites w2.heap.size wr 64 vc (S.cache ++ (List.range k).map fun (i : Nat) => (s + (i : Int), pad (piece d i))) ∧ Below w.heap.size w wr) (fun i _ => nd - (intOf i).toNat)
    case atStart => exact ⟨0, _, Nat.zero_le _, rfl, HST.out.1, HST.out.2.1, HST.out.2.2.1, by simpa using HST.out.2.2.2.1, HST.out.2.2.2.2⟩
    case round =>
      clear HST
      obtain ⟨k, vc, hk, rfl, hBX, hBR, hOL, hOW, hbel⟩ := hrel
      by_cases hlt : k < nd
      · have hlen : (S.cache ++ (List.range k).map fun (i : Nat) => (s + (i : Int), pad (piece d i))).length = m + k := by rw [List.length_append, ← HM.out]; simp
        obtain ⟨ps, hown, hE⟩ := id hOW
        rw [hlen] at hown
        obtain ⟨ac, cc, rfl⟩ := own_shape hown
        have hle := need_lt d k (by rw [← HND.out]; exact hlt)
        obtain ⟨A, hAk⟩ : ∃ A, A = 64 * k := ⟨_, rfl⟩
        obtain ⟨J, hJ⟩ : ∃ J, J = min (64 * k + 64) dl := ⟨_, rfl⟩
        obtain ⟨pv, hpA, hcut⟩ := (HA.out.below hbel).cut A J (by have := HDL.out; omega) (by have := HDL.out; omega)
        rw [hAk, hJ, HDL.out, piece_cut] at hpA
        obtain ⟨pa, pc, rfl, _⟩ := hpA.shape
        have hm1' : IntKind.i64.wrap ((k : Int) * 64) = (A : Int) := wrap_to _ _ (by omega) (by have := HK.out; have := HRC.out; omega)
        have hm2' : IntKind.i64.wrap ((A : Int) + 64) = (A : Int) + 64 := wrap_in _ (by have := HK.out; have := HRC.out; clear hm1'; omega)
        have hm3' : IntKind.i64.wrap (s + (k : Int)) = s + (k : Int) := wrap_in _ (by have := HK.out; have := HRC.out; clear hm1' hm2'; omega)
        have hmin : ∀ (ts : Array TypeId) (t : TypeId) (W : World), (Builtin.min_ ts t #[.int .i64 ((A : Int) + 64), .int .i64 (dl : Int)]).run Try.prog W = .ok (.int .i64 (J : Int)) W := fun ts t W => by
          rw [run_min2]
          congr 2
          split <;> omega
        have HPA : Hid (Arg n1 wr (.slice pa (piece d k).length pc) (piece d k)) := hpA
        have HLEN : Hid ((S.cache ++ (List.range k).map fun (i : Nat) => (s + (i : Int), pad (piece d i))).length = m + k) := hlen
        have HR : Hid (Box wr w3.heap.size 30 (.slice ax n cs) (.slice ac (m + k) cc) ∧ Box wr (w.heap.size + 1) 30 (.slice none 0 0) (.slice none 0 0)) := ⟨hBX, hBR⟩
        have HE : Hid (Each (OwnW1 w2.heap.size wr) ps (S.cache ++ (List.range k).map fun (i : Nat) => (s + (i : Int), pad (piece d i)))) := hE
        have HO : Hid (wr.ownsRow w2.heap.size 64 2 (.slice ac (m + k) cc) (m + k) (flat ps)) := hown
        have HLS : Hid (OwnLists w2.heap.size wr (.slice ax n cs) S.secs) := hOL
        have HBL : Hid (Below w.heap.size w wr) := hbel
        have HC : Hid (Calls Try.prog 34 #[.int .i64 (s + (k : Int)), .slice pa (piece d k).length pc] wr.drew fun e w' => ∃ g, e = .returned (.agg #[.int .i64 (s + (k : Int)), .slice (some ⟨g, 0, none⟩) 64 64]) ∧ w'.ownsRow wr.heap.size 5 1 (.slice (some ⟨g, 0, none⟩) 64 64) 64 ((pad (piece d k)).map (Value.int .u8)) ∧ Below wr.heap.size wr w') := by
          have := whole_any n1 (.slice pa (piece d k).length pc) (piece d k) (s + (k : Int)) wr.drew (HPA.out.below (Below.refl _ _).drew) (piece_le d k)
          exact this.mono fun e w' h => by
            obtain ⟨g, h1, h2, h3⟩ := h
            exact ⟨g, h1, h2, ((Below.refl _ wr).drew).trans h3⟩
        have q0 := hBX.cell1
        have hki : (k : Int) < wrap64 (nd : Int) := by rw [HW5.out]; omega
        have hmk : m + k + 1 ≤ 4096 := by have := HMN.out; omega
        obtain ⟨pl, hpl⟩ : ∃ x, x = (piece d k).length := ⟨_, rfl⟩
        rw [← hpl] at HC hcut
        clear hBX hBR hOL hOW hbel hown hE hpA hle hlen hpl hAk hJ
        go_wp2
        go_region_law
          (first
            | (go_simp
               with_reducible refine Calls.mono HC.out ?_
               rintro e w4 ⟨g2, rfl, hu2, hb4⟩
               have hcc2 : w4.cell? ⟨w3.heap.size, 1, none⟩ = some (.slice ac (m + k) cc) := (HR.out.1.below hb4 HR.out.1.lt).cell1
               have hcc3 : ∀ o, (w4.alloc o).cell? ⟨w3.heap.size, 1, none⟩ = some (.slice ac (m + k) cc) := fun o => ((HR.out.1.below hb4 HR.out.1.lt).alloc o).cell1
               try dsimp only)
            | (refine step_append_lies _ (by rfl) _ _ _ (by rfl) w2.heap.size 64 i6 _ 2 32 Try.underlying28 hi6 hz60 hz61 hz62 rfl (by omega) _ (m + k) _ (by rfl) ((own_below HO.out hb4).alloc _) ⟨w4.heap.size, 0, none⟩ 1 1 [.int .i64 (s + (k : Int)), .slice (some ⟨g2, 0, none⟩) 64 64] (by rfl) (by rfl)
                (World.news_of_block (cs := #[.int .i64 (s + (k : Int)), .slice (some ⟨g2, 0, none⟩) 64 64]) (t := 64) (fr := (0, 0)) (heap_alloc_new w4 _)) (by simp [Value.oneCell']) (by omega) (by unfold maxLen; omega) (by omega) (by have := hb4.size; have := HLT.out; have := HR.out.1.lt; simp; omega) (w4.heap.size + 1) (by simp) ?_; intro gg cap3 w5 hown5 hgrow5 hat hltg
               have hbx1 : Box w5 (w.heap.size + 1) 30 (.slice none 0 0) (.slice none 0 0) := Box.grown ((HR.out.2.below hb4 HR.out.2.lt).alloc _) hgrow5 (row_ne HO.out (by have := HLT.out; omega))
               have hbx2 : Box w5 w3.heap.size 30 (.slice ax n cs) (.slice ac (m + k) cc) := Box.grown ((HR.out.1.below hb4 HR.out.1.lt).alloc _) hgrow5 (box_apart' HO.out HR.out.1 (by decide))
               have hcc4 := hbx2.cell1
               have hff4 := hbx2.frozen1))
        all_goals
          have hS4 : Same w2.heap.size wr (w4.alloc (.cells #[.int .i64 (s + (k : Int)), .slice (some ⟨g2, 0, none⟩) 64 64] 64)) := Same.trans (.of_below hb4) hb4.size (same_alloc _ _ _)
          have hG5 : OwnWrites w2.heap.size w5 64 (.slice (some ⟨gg, 0, none⟩) (m + k + 1) cap3) (S.cache ++ (List.range (k + 1)).map fun (i : Nat) => (s + (i : Int), pad (piece d i))) := by
            rw [List.range_succ, List.map_append, ← List.append_assoc]
            refine OwnWrites.push (by decide) HLEN.out (HE.out.mono fun _ _ h => ⟨h.1, h.2.1.same hS4, h.2.2⟩) (own_same HO.out hS4) ⟨?_, pad_oct HPA.out.2⟩ (by have := HK.out; have := HRC.out; omega) hgrow5 hown5
            rw [pad_length _ (piece_le d k)]
            exact (own_weaken hu2 (by have := HR.out.1.lt; have := HLT.out; omega)).alloc _
          have hL5 : OwnLists w2.heap.size w5 (.slice ax n cs) S.secs := OwnLists.beside (HLS.out.same hS4) (by decide) (by decide) (own_same HO.out hS4) hgrow5
          have HBE : Hid (Below w.heap.size w w5) := ((below_any HBL.out hb4).alloc (by have := hb4.size; have := HLT.out; have := HR.out.1.lt; omega) _).grown hgrow5 (by have := hb4.size; have := HLT.out; have := HR.out.1.lt; simp; omega) (fun j hj => by have := (HO.out.lt j hj).1; have := HLT.out; omega)
          have HG5 : Hid (OwnWrites w2.heap.size w5 64 (.slice (some ⟨gg, 0, none⟩) (m + k + 1) cap3) (S.cache ++ (List.range (k + 1)).map fun (i : Nat) => (s + (i : Int), pad (piece d i))) ∧ OwnLists w2.heap.size w5 (.slice ax n cs) S.secs ∧ Box w5 (w.heap.size + 1) 30 (.slice none 0 0) (.slice none 0 0) ∧ Box w5 w3.heap.size 30 (.slice ax n cs) (.slice ac (m + k) cc)) := ⟨hG5, hL5, hbx1, hbx2⟩
          clear hown5 hgrow5 hat hltg hG5 hL5 hS4 hbx1 hbx2 hu2 hcc2 hcc3 q0 hcut hmin hm1' hm2' hm3'
          go_wp2
          go_roundw
          case rel =>
            clear hki
            exact ⟨k + 1, _, by omega, by go_num, HG5.out.2.2.2.set1 _, HG5.out.2.2.1.other (by have := HLT.out; omega), HG5.out.2.1.boxed HG5.out.2.2.2 (by decide) (by decide), HG5.out.1.boxed HG5.out.2.2.2 (by decide) (by decide), HBE.out.setCell (p := ⟨w3.heap.size, 1, none⟩) (by have := HLT.out; simp; omega) _⟩
          case measure => clear hki; simp [intOf]; omega
      · obtain rfl : k = nd := by omega
        have hlen : (S.cache ++ (List.range k).map fun (i : Nat) => (s + (i : Int), pad (piece d i))).length = m + k := by rw [List.length_append, ← HM.out]; simp
        obtain ⟨ps, hown, hE⟩ := id hOW
        rw [hlen] at hown
        obtain ⟨ac, cc, rfl⟩ := own_shape hown
        have HG : Hid (OwnLists w2.heap.size wr (.slice ax n cs) S.secs ∧ OwnWrites w2.heap.size wr 64 (.slice ac (m + k) cc) (S.cache ++ pieces s d) ∧ Below w.heap.size w wr) := by
          refine ⟨hOL, ?_, hbel⟩
          unfold pieces
          rw [← HND.out]
          exact hOW
        have q0 := hBX.cell0
        have q1 := hBX.cell1
        have q2 := hBR.cell0
        have q3 := hBR.cell1
        have q4 := hBR.frozen0
        have q5 := hBR.frozen1
        clear hBX hBR hOL hOW hbel hown hE hlen
        have hkn : ¬ (k : Int) < wrap64 (k : Int) := by rw [HW5.out]; omega
        go_wp2
        refine bodyPost_ret (v := .tuple #[.agg #[.slice ax n cs, .slice ac (m + k) cc], .int .i64 0]) (by simp [results, Try.results25, go_sem, *]) rfl ⟨_, rfl, ⟨_, _, rfl, ?_, ?_⟩, ?_⟩
        · exact OwnLists.weaken (base := w2.heap.size) ((HG.out.1.same (same_set (by have := HLT.out; omega))).same (same_set (by have := HLT.out; omega))) (by have := HLT.out; omega)
        · exact OwnWrites.weaken (base := w2.heap.size) ((HG.out.2.1.same (same_set (by have := HLT.out; omega))).same (same_set (by have := HLT.out; omega))) (by have := HLT.out; omega)
        · exact below_set2 HG.out.2.2 (Nat.le_succ _) _ _

end Go.Proofs.Ytkeaillmcfnnkaa
