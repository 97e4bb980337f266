import Derived.Test.YthlfgpnabcplnaaDoorTf18
import Derived.Deep.AppendLies
import Derived.Laws.BitsAllLaws
/-
  What folded, unfolded and appendGroups answer.
-/
namespace Go.Proofs.YthlfgpnabcplnaaDoor.W
open Go.RowKit

theorem not64 (x : Nat) (h : x < 18446744073709551616) : bits .xor .u64 IntKind.u64.max (x : Int) = ((18446744073709551615 - x : Nat) : Int) := by
  have h1 : IntKind.u64.max = ((18446744073709551615 : Nat) : Int) := by decide
  rw [h1, u64_xor_nat _ _ (by decide) h]
  congr 1
  have h2 : ((2 ^ 64 - 1) ^^^ x : Nat) = 2 ^ 64 - (x + 1) := Nat.eq_of_testBit_eq fun i => by
    rw [Nat.testBit_xor, Nat.testBit_two_pow_sub_one, Nat.testBit_two_pow_sub_succ (by simpa using h)]
    by_cases hi : i < 64
    · simp [hi]
    · have : x.testBit i = false := Nat.testBit_lt_two_pow (Nat.lt_of_lt_of_le h (show 2 ^ 64 ≤ 2 ^ i from Nat.pow_le_pow_right (by omega) (by omega)))
      simp [hi, this]
  have h3 : (18446744073709551615 : Nat) = 2 ^ 64 - 1 := by decide
  rw [h3, h2]
  omega

theorem fold_neg (n : Int) (h1 : -9223372036854775808 ≤ n) (h : n < 0) : bits .xor .u64 IntKind.u64.max (IntKind.u64.wrap (IntKind.u64.wrap n * 2)) = -2 * n - 1 := by
  have e1 : IntKind.u64.wrap (IntKind.u64.wrap n * 2) = (((2 * n + 18446744073709551616).toNat : Nat) : Int) := by
    rw [IntKind.wrap_u64, IntKind.wrap_u64]
    omega
  rw [e1, not64 _ (by omega)]
  omega

set_option maxHeartbeats 400000 in
theorem folded_any (n : Int) (hn : I64 n) (w : World) : Calls Tryd.prog 35 #[.int .i64 n] w fun e w' => e = .returned (.int .u64 (fold n : Nat)) ∧ w = w' := by
  obtain ⟨h1, h2⟩ := hn
  obtain ⟨f, hf⟩ : ∃ f, f = fold n := ⟨_, rfl⟩
  rw [← hf]
  unfold fold at hf
  have HF : Hid (f = if n < 0 then (-2 * n - 1).toNat else (2 * n).toNat) := hf
  clear hf
  by_cases h : n < 0
  · have HF2 : Hid ((f : Int) = bits .xor .u64 IntKind.u64.max (IntKind.u64.wrap (IntKind.u64.wrap n * 2))) := by show _ = _; rw [fold_neg n h1 h, HF.out, if_pos h]; omega
    clear HF
    go_enter Tryd.func35, Tryd.ntmps35
    go_wp2
    go_ret
    exact ⟨congrArg Ending.returned (congrArg (Value.int .u64) HF2.out.symm), rfl⟩
  · have HF2 : Hid ((f : Int) = n * 2) := by show _ = _; rw [HF.out, if_neg h]; omega
    clear HF
    go_enter Tryd.func35, Tryd.ntmps35
    go_wp2
    go_ret
    exact ⟨congrArg Ending.returned (congrArg (Value.int .u64) HF2.out.symm), rfl⟩

theorem unfold_odd (m : Nat) (hm : m < 18446744073709551616) (k : Nat) (hk : k = m / 2) : wrap64 (bits .xor .u64 IntKind.u64.max (k : Int)) = -((k : Nat) : Int) - 1 := by
  rw [not64 _ (by omega)]
  unfold wrap64
  omega

set_option maxHeartbeats 400000 in
theorem unfolded_any (m : Nat) (hm : m < 18446744073709551616) (w : World) : Calls Tryd.prog 72 #[.int .u64 m] w fun e w' => e = .returned (.int .i64 (unfold m)) ∧ w = w' := by
  obtain ⟨f, hf⟩ : ∃ f, f = unfold m := ⟨_, rfl⟩
  rw [← hf]
  have HF : Hid (f = if m % 2 = 1 then -((m / 2 : Nat) : Int) - 1 else ((m / 2 : Nat) : Int)) := hf
  clear hf
  obtain ⟨k, hk⟩ : ∃ k, k = m / 2 := ⟨_, rfl⟩
  have h2 : (m : Int) / 2 = (k : Int) := by omega
  have h1 : bits .and .u64 (m : Int) 1 = ((m % 2 : Nat) : Int) := by
    have := u64_and_nat m 1 hm (by decide)
    rw [Nat.and_one_is_mod] at this
    exact this
  have hkb : k < 9223372036854775808 := by omega
  rcases Nat.mod_two_eq_zero_or_one m with e | e
  · rw [e] at h1
    have h1' : bits .and .u64 (m : Int) 1 = 0 := h1
    have HF2 : Hid (f = (k : Int)) := by show _ = _; rw [HF.out, if_neg (by omega), hk]
    clear HF hk h1 e
    go_enter Tryd.func72, Tryd.ntmps72
    go_wp2
    go_ret
    exact ⟨congrArg Ending.returned (congrArg (Value.int .i64) HF2.out.symm), rfl⟩
  · rw [e] at h1
    have h1' : bits .and .u64 (m : Int) 1 = 1 := h1
    have HF2 : Hid (f = wrap64 (bits .xor .u64 IntKind.u64.max (k : Int))) := by show _ = _; rw [unfold_odd m hm k hk, HF.out, if_pos e, hk]
    clear HF hk h1 e
    go_enter Tryd.func72, Tryd.ntmps72
    go_wp2
    go_ret
    exact ⟨congrArg Ending.returned (congrArg (Value.int .i64) HF2.out.symm), rfl⟩

theorem or_more : ∀ x : Fin 256, bits .or .u8 (x.val : Int) 128 = ((x.val % 128 + 128 : Nat) : Int) := by decide +kernel
theorem or_more' (m : Nat) : bits .or .u8 ((m : Int) % 256) 128 = ((m % 128 + 128 : Nat) : Int) := by
  have := or_more ⟨m % 256, Nat.mod_lt _ (by omega)⟩
  simp only at this
  rw [show ((m : Int) % 256) = ((m % 256 : Nat) : Int) by omega, this]
  omega

set_option maxRecDepth 100000 in
set_option maxHeartbeats 2000000 in
theorem app_any (base : Nat) (v : Value) (l : List Int) (m : Nat) (hm : m < 18446744073709551616) (w : World) (h : Own1 base w v l) (hb : base ≤ w.heap.size) (hs : l.length ≤ 100000000000000) :
    Calls Tryd.prog 34 #[v, .int .u64 m] w fun e w' => (∃ v', e = .returned v' ∧ Own1 base w' v' (l ++ grp m)) ∧ Below base w w' := by
  obtain ⟨i0, hi, hz0, hz1, hz2⟩ := info_parts Tryd.info5
  have h10 := grp_ten m 10 (by omega) (by omega)
  obtain ⟨G, hG⟩ : ∃ G, G = l ++ grp m := ⟨_, rfl⟩
  have hGl : G.length ≤ l.length + 10 := by rw [hG, List.length_append]; omega
  rw [← hG]
  have HS : Hid (Own1 base w v l ∧ G = l ++ grp m ∧ base ≤ w.heap.size) := ⟨h, hG, hb⟩
  obtain ⟨a0, c0, rfl⟩ := h.shape
  obtain ⟨n, hn⟩ : ∃ n, n = l.length := ⟨_, rfl⟩
  have HN : Hid (n = l.length) := hn
  rw [← hn] at HS ⊢
  have HGL : Hid (G.length ≤ 100000000000010) := by show _ ≤ _; omega
  clear h hG h10 hGl hn hs hb
  go_enter Tryd.func34, Tryd.ntmps34
  go_wp2
  go_loopw [0, 1] (fun o i wr => ∃ (l' : List Int) (k : Nat) (a : Option Addr) (c : Nat), o = .slice a l'.length c ∧ i = .int .u64 k ∧ k < 18446744073709551616 ∧ Hid (G = l' ++ grp k ∧ Own1 base wr (.slice a l'.length c) l' ∧ Below base w wr)) (fun _ i _ => (intOf i).toNat)
  case atStart =>
    exact ⟨l, m, a0, c0, by rw [HN.out], rfl, hm, HS.out.2.1, by rw [← HN.out]; exact HS.out.1, Below.refl _ _⟩
  case round =>
    obtain ⟨l', k, a, c, rfl, rfl, hk, HK⟩ := hrel
    have HLL : Hid (l'.length + 1 ≤ 100000000000010) := by
      show _ ≤ _
      have h1 := HGL.out
      rw [HK.out.1, List.length_append] at h1
      have := grp_pos k
      omega
    obtain ⟨n', hn'⟩ : ∃ n, n = l'.length := ⟨_, rfl⟩
    have HN' : Hid (n' = l'.length) := hn'
    rw [← hn'] at HK HLL ⊢
    have hnl : n' + 1 ≤ 100000000000010 := HLL.out
    clear hn'
    by_cases hlt : 128 ≤ k
    · have hki : (128 : Int) ≤ (k : Int) := by omega
      obtain ⟨k2, hk2⟩ : ∃ x, x = k / 128 := ⟨_, rfl⟩
      have h7 : (k : Int) / 128 = (k2 : Int) := by omega
      have ho := or_more' k
      obtain ⟨x, hx⟩ : ∃ x, x = k % 128 + 128 := ⟨_, rfl⟩
      rw [← hx] at ho
      have HG : Hid (G = (l' ++ [(x : Int)]) ++ grp k2 ∧ 0 ≤ (x : Int) ∧ (x : Int) ≤ 255) := by
        refine ⟨?_, by omega, by omega⟩
        rw [HK.out.1, grp_more hlt, hx, hk2, List.append_assoc]
        rfl
      have hk3 : k2 < k := by omega
      clear hx hk2
      go_wp2_with (at_builtin; refine wpList_append_lies _ (by rfl) _ _ 22 (by rfl) base 5 i0 _ 1 1 Tryd.underlying22 hi hz0 hz1 hz2 rfl (by omega) _ n' _ (by rfl) ((show wr.ownsRow base 5 1 (.slice a n' c) n' (l'.map (Value.int .u8)) from by have := HK.out.2.1.row; rwa [← HN'.out] at this).alloc _) ⟨wr.heap.size, 0, none⟩ 1 1 [.int .u8 (x : Int)] (by rfl) (by rfl) (World.news_of_block (cs := #[.int .u8 (x : Int)]) (t := 5) (fr := (0, 0)) (heap_alloc_new wr _)) (by simp [Value.oneCell']) (by omega) (by unfold maxLen; omega) (by omega) (by have := HK.out.2.2.size; have := HS.out.2.2; simp; omega) (wr.heap.size + 1) (by simp) ?_; intro gg cap3 w3 hown3 hgrow3 hat hltg)
      have HW3 : Hid (G = (l' ++ [(x : Int)]) ++ grp k2 ∧ Own1 base w3 (.slice (some ⟨gg, 0, none⟩) (l' ++ [(x : Int)]).length cap3) (l' ++ [(x : Int)]) ∧ Below base w w3) := by
        refine ⟨HG.out.1, .mk ?_ (oc_append.2 ⟨HK.out.2.1.oct, oc_cons.2 ⟨HG.out.2, oc_nil⟩⟩), ?_⟩
        · rw [List.length_append, ← HN'.out, List.map_append]
          exact hown3
        · have hbs := HS.out.2.2
          have hws := HK.out.2.2.size
          exact (HK.out.2.2.alloc (by omega) _).grown hgrow3 (by simp; omega) (fun j hj => (HK.out.2.1.row.lt j hj).1)
      have HLN : Hid ((l' ++ [(x : Int)]).length = n' + 1) := by show _ = _; rw [List.length_append, ← HN'.out]; rfl
      clear hown3 hgrow3 hat hltg
      go_wp2
      go_roundw
      case rel => exact ⟨l' ++ [(x : Int)], k2, some ⟨gg, 0, none⟩, cap3, by rw [HLN.out], by go_num, by omega, HW3.out⟩
      case measure => simp [intOf]; omega
    · have hki : ¬ (128 : Int) ≤ (k : Int) := by omega
      have h256 : (k : Int) % 256 = (k : Int) := by omega
      have HG : Hid (G = l' ++ [(k : Int)]) := by
        show _ = _
        rw [HK.out.1, grp_small (by omega)]
      have hk8 : k < 128 := by omega
      go_wp2_with (at_builtin; refine wpList_append_lies _ (by rfl) _ _ 22 (by rfl) base 5 i0 _ 1 1 Tryd.underlying22 hi hz0 hz1 hz2 rfl (by omega) _ n' _ (by rfl) ((show wr.ownsRow base 5 1 (.slice a n' c) n' (l'.map (Value.int .u8)) from by have := HK.out.2.1.row; rwa [← HN'.out] at this).alloc _) ⟨wr.heap.size, 0, none⟩ 1 1 [.int .u8 (k : Int)] (by rfl) (by rfl) (World.news_of_block (cs := #[.int .u8 (k : Int)]) (t := 5) (fr := (0, 0)) (heap_alloc_new wr _)) (by simp [Value.oneCell']) (by omega) (by unfold maxLen; omega) (by omega) (by have := HK.out.2.2.size; have := HS.out.2.2; simp; omega) (wr.heap.size + 1) (by simp) ?_; intro gg cap3 w3 hown3 hgrow3 hat hltg)
      have HW3 : Hid (Own1 base w3 (.slice (some ⟨gg, 0, none⟩) (n' + 1) cap3) G ∧ Below base w w3) := by
        refine ⟨?_, ?_⟩
        · rw [HG.out]
          refine .mk ?_ (oc_append.2 ⟨HK.out.2.1.oct, oc_cons.2 ⟨by omega, oc_nil⟩⟩)
          rw [List.length_append, ← HN'.out, List.map_append]
          exact hown3
        · have hbs := HS.out.2.2
          have hws := HK.out.2.2.size
          exact (HK.out.2.2.alloc (by omega) _).grown hgrow3 (by simp; omega) (fun j hj => (HK.out.2.1.row.lt j hj).1)
      clear hown3 hgrow3 hat hltg
      go_wp2
      go_ret
      exact ⟨⟨_, rfl, HW3.out.1⟩, HW3.out.2⟩

end Go.Proofs.YthlfgpnabcplnaaDoor.W

/-
  What Encode answers: the octets of a record that may be, sealed; else Check's error; and the statements' helper alive.
-/
namespace Go.Proofs.YthlfgpnabcplnaaDoor.W
open Go.RowKit

/-- What Encode tells. -/
def encO (r : Rc) : List Int := if chkR r = 0 then C.sealed (laidR r) else []

theorem laidN_snoc (ns : List Int) (n : Int) : laidN (ns ++ [n]) = laidN ns ++ grp (fold n) := by simp [laidN]
theorem laidT_snoc (ts : List (List Int)) (t : List Int) : laidT (ts ++ [t]) = (laidT ts ++ grp t.length) ++ t := by simp [laidT]
theorem laidN_oc (ns : List Int) : Oc (laidN ns) := fun x hx => by
  obtain ⟨n, _, h⟩ := List.mem_flatMap.1 hx
  exact grp_oc _ x h
theorem laidT_oc (ts : List (List Int)) (h : ∀ t ∈ ts, Oc t) : Oc (laidT ts) := fun x hx => by
  obtain ⟨t, ht, h2⟩ := List.mem_flatMap.1 hx
  rcases List.mem_append.1 h2 with h3 | h3
  · exact grp_oc _ x h3
  · exact h t ht x h3
theorem laidN_length (ns : List Int) (h : ∀ n ∈ ns, I64 n) : (laidN ns).length ≤ 10 * ns.length := by
  induction ns with
  | nil => simp [laidN]
  | cons n ns ih =>
    have hn := h n (List.mem_cons_self ..)
    have h1 := grp_ten (fold n) 10 (Nat.lt_of_lt_of_le (fold_lt n hn.1 hn.2) (by decide)) (by omega)
    have h2 := ih fun m hm => h m (List.mem_cons_of_mem _ hm)
    have h3 : laidN (n :: ns) = grp (fold n) ++ laidN ns := by simp [laidN]
    rw [h3, List.length_append, List.length_cons]
    omega
theorem laidT_length (ts : List (List Int)) (h : ∀ t ∈ ts, t.length ≤ 4096) : (laidT ts).length ≤ 4106 * ts.length := by
  induction ts with
  | nil => simp [laidT]
  | cons t ts ih =>
    have ht := h t (List.mem_cons_self ..)
    have h1 := grp_ten t.length 10 (Nat.lt_of_le_of_lt ht (by decide)) (by omega)
    have h2 := ih fun m hm => h m (List.mem_cons_of_mem _ hm)
    have h3 : laidT (t :: ts) = (grp t.length ++ t) ++ laidT ts := by simp [laidT]
    rw [h3, List.length_append, List.length_append, List.length_cons]
    omega


/-- What lies there while the octets are laid: the record's variable and all that was there; the octets so far. -/
structure Lay (w : World) (k : Int) (x y : Value) (wr : World) (l : List Int) (v : Value) : Prop where
  bel : Below w.heap.size w wr
  box : Box wr w.heap.size 53 #[.int .i64 k, x, y]
  own : Own1 (w.heap.size + 1) wr v l

theorem Lay.next {w : World} {k : Int} {x y : Value} {wr wr' : World} {l l' : List Int} {v v' : Value} (h : Lay w k x y wr l v) (hb : Below (w.heap.size + 1) wr wr') (ho : Own1 (w.heap.size + 1) wr' v' l') : Lay w k x y wr' l' v' :=
  ⟨h.bel.trans (hb.mono (by omega)), h.box.below hb (by omega), ho⟩

set_option maxRecDepth 100000 in
set_option maxHeartbeats 8000000 in
theorem enc_ok (n0 : Nat) (us : List Value) (r : Rc) (w : World) (h : recF.lies n0 w us r) (hc : chkR r = 0) :
    Calls Tryd.prog 18 #[.agg us.toArray] w fun e w' => (∃ v', e = .returned (.tuple #[v', .int .i64 0]) ∧ Own1 w.heap.size w' v' (C.sealed (laidR r))) ∧ Below w.heap.size w w' := by
  obtain ⟨a, c, b, d, rfl, hI, hT, hk, _⟩ := rec_view h
  obtain ⟨hk0, hk1, hn64, hm64, ht4⟩ := chk_ok hc
  have HX := check_any n0 _ r (w.alloc (.cells #[.int .i64 r.1, .slice a r.2.1.length c, .slice b r.2.2.length d] 53)) (recF.keep h (.of_below ((Below.refl _ w).alloc (Nat.le_refl _) _)))
  rw [hc] at HX
  obtain ⟨k, ns, ts⟩ := r
  simp only at hI hT hk hk0 hk1 hn64 hm64 ht4 HX
  obtain ⟨i0, hi, hz0, hz1, hz2⟩ := info_parts Tryd.info5
  obtain ⟨W, hW⟩ : ∃ W, W = w.alloc (.cells #[.int .i64 k, .slice a ns.length c, .slice b ts.length d] 53) := ⟨_, rfl⟩
  rw [← hW] at HX
  have hbW : Below w.heap.size w W := by rw [hW]; exact (Below.refl _ w).alloc (Nat.le_refl _) _
  have hP : Box W w.heap.size 53 #[.int .i64 k, .slice a ns.length c, .slice b ts.length d] := by rw [hW]; exact Box.new w 53 _
  have HD : Hid (intsS.lies n0 w [.slice a ns.length c] ns ∧ textsS.lies n0 w [.slice b ts.length d] ts ∧ (∀ t ∈ ts, t.length ≤ 4096) ∧ ns.length ≤ 64 ∧ ts.length ≤ 64) := ⟨hI, hT, ht4, hn64, hm64⟩
  have HNI : Hid (∀ x ∈ ns, I64 x) := ints_in hI
  have HTO : Hid (∀ t ∈ ts, Oc t) := texts_oct hT
  obtain ⟨n, hn⟩ : ∃ n, n = ns.length := ⟨_, rfl⟩
  obtain ⟨m, hm⟩ : ∃ n, n = ts.length := ⟨_, rfl⟩
  have HN : Hid (n = ns.length ∧ m = ts.length) := ⟨hn, hm⟩
  rw [← hn] at HD hW hP hn64 HX
  rw [← hm] at HD hW hP hm64 HX
  simp only
  rw [← hn, ← hm]
  have hl1 := run_len Tryd.underlying51 a n c
  have hl2 := run_len Tryd.underlying37 b m d
  have HK : Hid (0 ≤ k ∧ k ≤ 255) := ⟨hk0, hk1⟩
  have hk256 : k % 256 = k := by omega
  obtain ⟨g0, g1, g2, _⟩ := hP.three
  rw [hW] at g0 g1 g2
  have HW : Hid (Below w.heap.size w W ∧ Box W w.heap.size 53 #[.int .i64 k, .slice a n c, .slice b m d]) := ⟨hbW, hP⟩
  clear h hI hT hk hn hm hc hP hbW ht4
  go_enter Tryd.func18, Tryd.ntmps18
  go_wp2_with fail
  rw [← hW]
  clear hW g0 g1 g2
  refine HX.mono ?_
  rintro e w1 ⟨rfl, hb1⟩
  have hP1 := HW.out.2.below hb1 HW.out.2.lt
  have HW1 : Hid (Below w.heap.size w w1 ∧ Box w1 w.heap.size 53 #[.int .i64 k, .slice a n c, .slice b m d]) := ⟨below_any HW.out.1 hb1, hP1⟩
  obtain ⟨g0, g1, g2, _⟩ := hP1.three
  have gA : ∀ o j u, w1.cell? ⟨w.heap.size, j, none⟩ = some u → (w1.alloc o).cell? ⟨w.heap.size, j, none⟩ = some u := fun o j u hu => by
    rw [World.cell?_alloc_lt _ _ ⟨w.heap.size, j, none⟩ hP1.lt]; exact hu
  have gA1 := fun o => gA o 1 _ g1
  have hn256 : (n : Int) % 256 = (n : Int) := by omega
  have hm256 : (m : Int) % 256 = (m : Int) := by omega
  clear hP1 hb1 HX gA
  go_wp2
  go_loopw [5, 26] (fun o i wr => ∃ j : Nat, j ≤ n ∧ i = .int .i64 j ∧ ∃ a' c', o = .slice a' (k :: (n : Int) :: laidN (ns.take j)).length c' ∧ Hid (Lay w k (.slice a n c) (.slice b m d) wr (k :: (n : Int) :: laidN (ns.take j)) (.slice a' (k :: (n : Int) :: laidN (ns.take j)).length c'))) (fun _ i _ => n - (intOf i).toNat)
  case atStart =>
    refine ⟨0, Nat.zero_le _, rfl, _, _, rfl, ?_, ?_, ?_⟩
    · exact HW1.out.1.alloc (by have := HW1.out.1.size; omega) _
    · exact HW1.out.2.alloc _
    · refine .mk ?_ ?_
      · have := World.ownsRow_lit w1 (base := w.heap.size + 1) (e := 5) (size := 1) #[.int .u8 k, .int .u8 n] 2 (by have := HW1.out.2.lt; omega) (by unfold maxLen; omega) (by simp)
        exact this
      · have := HK.out
        exact oc_cons.2 ⟨this, oc_cons.2 ⟨by omega, laidN_oc _⟩⟩
  case round =>
    obtain ⟨j, hj, rfl, a', c', rfl, HL⟩ := hrel
    obtain ⟨len, hlen⟩ : ∃ x, x = (k :: (n : Int) :: laidN (ns.take j)).length := ⟨_, rfl⟩
    have HLN : Hid (len = (k :: (n : Int) :: laidN (ns.take j)).length ∧ len ≤ 1000) := by
      refine ⟨hlen, ?_⟩
      rw [hlen, List.length_cons, List.length_cons]
      have h1 := laidN_length (ns.take j) fun x hx => HNI.out x (List.mem_of_mem_take hx)
      rw [List.length_take] at h1
      omega
    rw [← hlen] at HL ⊢
    clear hlen
    by_cases hlt : j < n
    · obtain ⟨x, hx⟩ := get_lt (l := ns) (k := j) (by rw [← HN.out.1]; exact hlt)
      obtain ⟨b0, o0, hix, gx, hx64⟩ := ints_at (intsS.below HD.out.1 HL.out.bel) j x hx
      have HF := folded_any x hx64 wr
      have HG := app_any (w.heap.size + 1) _ _ (fold x) (fold_lt x hx64.1 hx64.2) wr HL.out.own (by have := HL.out.box.lt; omega) (by rw [← HLN.out.1]; have := HLN.out.2; omega)
      have HTK : Hid (k :: (n : Int) :: laidN (ns.take (j + 1)) = (k :: (n : Int) :: laidN (ns.take j)) ++ grp (fold x)) := by
        show _ = _
        rw [take_snoc hx, laidN_snoc]
        rfl
      rw [← HTK.out] at HG
      have hji : (j : Int) < (n : Int) := by omega
      clear hx
      go_wp2_with fail
      refine HF.mono ?_
      rintro e w2 ⟨rfl, rfl⟩
      go_wp2_with fail
      refine HG.mono ?_
      rintro e w3 ⟨⟨v3, rfl, ho3⟩, hb3⟩
      obtain ⟨a3, c3, rfl⟩ := ho3.shape
      have HL3 : Hid (Lay w k (.slice a n c) (.slice b m d) w3 (k :: (n : Int) :: laidN (ns.take (j + 1))) (.slice a3 (k :: (n : Int) :: laidN (ns.take (j + 1))).length c3)) := HL.out.next hb3 ho3
      clear ho3 hb3 HF HG hix gx
      go_wp2
      go_roundw
      case rel => exact ⟨j + 1, by omega, by go_num, a3, c3, rfl, HL3⟩
      case measure => simp [intOf]; omega
    · obtain rfl : j = n := by omega
      have hT0 : ns.take j = ns := by rw [HN.out.1, List.take_length]
      rw [hT0] at HL HLN
      clear hT0
      obtain ⟨L1, hL1⟩ : ∃ L, L = k :: (j : Int) :: laidN ns := ⟨_, rfl⟩
      have HL1 : Hid (L1 = k :: (j : Int) :: laidN ns) := hL1
      rw [← hL1] at HL HLN
      clear hL1
      obtain ⟨g0, g1, g2, _⟩ := HL.out.box.three
      have hle : len ≤ 1000 := HLN.out.2
      have HOW : Hid (wr.ownsRow (w.heap.size + 1) 5 1 (.slice a' len c') len (L1.map (Value.int .u8))) := by
        have := HL.out.own.row
        rwa [← HLN.out.1] at this
      go_wp2_with
          (at_builtin; refine wpList_append_lies _ (by rfl) _ _ 22 (by rfl) (w.heap.size + 1) 5 i0 _ 1 1 Tryd.underlying22 hi hz0 hz1 hz2 rfl (by omega) _ len _ (by rfl) (HOW.out.alloc _) ⟨wr.heap.size, 0, none⟩ 1 1 [.int .u8 (m : Int)] (by rfl) (by rfl) (World.news_of_block (cs := #[.int .u8 (m : Int)]) (t := 5) (fr := (0, 0)) (heap_alloc_new wr _)) (by simp [Value.oneCell']) (by omega) (by unfold maxLen; omega) (by omega) (by have := HL.out.box.lt; simp; omega) (wr.heap.size + 1) (by simp) ?_; intro gg cap3 w3 hown3 hgrow3 hat hltg
           have hL3 : Lay w k (.slice a j c) (.slice b m d) w3 (L1 ++ [(m : Int)]) (.slice (some ⟨gg, 0, none⟩) (len + 1) cap3) := by
             refine HL.out.next ?_ (.mk ?_ (oc_append.2 ⟨HL.out.own.oct, oc_cons.2 ⟨by omega, oc_nil⟩⟩))
             · exact ((Below.refl _ wr).alloc (by have := HL.out.box.lt; omega) _).grown hgrow3 (by have := HL.out.box.lt; simp; omega) (fun q hq => (HOW.out.lt q hq).1)
             · rw [List.length_append, ← HLN.out.1, List.map_append]
               exact hown3
           have HL3 : Hid (Lay w k (.slice a j c) (.slice b m d) w3 (L1 ++ [(m : Int)]) (.slice (some ⟨gg, 0, none⟩) (len + 1) cap3)) := hL3
           clear hown3 hgrow3 hat hltg
           obtain ⟨q0, q1, q2, _⟩ := hL3.box.three
           clear hL3)
      go_loopw [5, 45] (fun o i wr => ∃ q : Nat, q ≤ m ∧ i = .int .i64 q ∧ ∃ a' c', o = .slice a' (L1 ++ (m : Int) :: laidT (ts.take q)).length c' ∧ Hid (Lay w k (.slice a j c) (.slice b m d) wr (L1 ++ (m : Int) :: laidT (ts.take q)) (.slice a' (L1 ++ (m : Int) :: laidT (ts.take q)).length c'))) (fun _ i _ => m - (intOf i).toNat)
      case atStart =>
        have e0 : (L1 ++ (m : Int) :: laidT (ts.take 0)) = L1 ++ [(m : Int)] := rfl
        have e1 : (L1 ++ [(m : Int)]).length = len + 1 := by rw [List.length_append, ← HLN.out.1]; rfl
        refine ⟨0, Nat.zero_le _, rfl, some ⟨gg, 0, none⟩, cap3, by rw [e0, e1], ?_⟩
        rw [e0, e1]
        exact HL3
      case round =>
        clear q0 q1 q2
        obtain ⟨q, hq, rfl, a2, c2, rfl, HM⟩ := hrel
        have hts : (laidT (ts.take q)).length ≤ 4106 * 64 := by
          have h1 := laidT_length (ts.take q) fun x hx => HD.out.2.2.1 x (List.mem_of_mem_take hx)
          rw [List.length_take] at h1
          have := HD.out.2.2.2.2
          omega
        obtain ⟨len2, hlen2⟩ : ∃ x, x = (L1 ++ (m : Int) :: laidT (ts.take q)).length := ⟨_, rfl⟩
        have HLN2 : Hid (len2 = (L1 ++ (m : Int) :: laidT (ts.take q)).length ∧ len2 ≤ 300000) := by
          refine ⟨hlen2, ?_⟩
          rw [hlen2, List.length_append, List.length_cons, ← HLN.out.1]
          omega
        rw [← hlen2] at HM ⊢
        clear hlen2 hts
        by_cases hlt : q < m
        · obtain ⟨x, hx⟩ := get_lt (l := ts) (k := q) (by rw [← HN.out.2]; exact hlt)
          obtain ⟨b0, o0, u, hix, gx0, hA⟩ := texts_at HD.out.2.1 q x hx
          have gx : wr.cell? ⟨b0, o0, none⟩ = some u := by rw [HM.out.bel.cell (cell_lt gx0)]; exact gx0
          have hx4 : x.length ≤ 4096 := HD.out.2.2.1 x (List.mem_of_getElem? hx)
          have HG := app_any (w.heap.size + 1) _ _ x.length (by omega) wr HM.out.own (by have := HM.out.box.lt; omega) (by rw [← HLN2.out.1]; have := HLN2.out.2; omega)
          have HTK : Hid (L1 ++ (m : Int) :: laidT (ts.take (q + 1)) = ((L1 ++ (m : Int) :: laidT (ts.take q)) ++ grp x.length) ++ x) := by
            show _ = _
            rw [take_snoc hx, laidT_snoc]
            simp
          have HXO : Hid (Oc x) := HTO.out x (List.mem_of_getElem? hx)
          have hji : (q : Int) < (m : Int) := by omega
          obtain ⟨L2, hL2⟩ : ∃ L, L = (L1 ++ (m : Int) :: laidT (ts.take q)) ++ grp x.length := ⟨_, rfl⟩
          have HL2 : Hid (L2.length ≤ 300010) := by
            show _ ≤ _
            rw [hL2, List.length_append, ← HLN2.out.1]
            have h1 := grp_ten x.length 10 (Nat.lt_of_le_of_lt hx4 (by decide)) (by omega)
            have := HLN2.out.2
            omega
          rw [← hL2] at HG HTK
          clear hx gx0 hL2
          have HAW : Hid (Cells n0 w 1 u x.length (x.map (Value.int .u8))) := hA.cells
          obtain ⟨lx, hlx⟩ : ∃ y, y = x.length := ⟨_, rfl⟩
          have HLX : Hid (lx = x.length) := hlx
          obtain ⟨hcl, ⟨rfl, h0⟩ | ⟨ax, capx, rfl, hcx, hmx, hbx, hcells⟩⟩ := hA.cells
          · have hx0 : x = [] := List.eq_nil_of_length_eq_zero h0
            subst hx0
            clear hA hcl h0 hlx HLX HAW
            have hll := run_len Tryd.underlying22 none 0 0
            go_wp2_with fail
            refine HG.mono ?_
            rintro e w3 ⟨⟨v3, rfl, ho3⟩, hb3⟩
            obtain ⟨a3, c3, rfl⟩ := ho3.shape
            have HL3 : Hid (Lay w k (.slice a j c) (.slice b m d) w3 L2 (.slice a3 L2.length c3)) := HM.out.next hb3 ho3
            clear ho3 hb3 HG hix gx
            obtain ⟨l2, hl2'⟩ : ∃ y, y = L2.length := ⟨_, rfl⟩
            have HL2L : Hid (l2 = L2.length) := hl2'
            rw [← hl2'] at HL3 HL2 ⊢
            clear hl2'
            have HOW2 : Hid (w3.ownsRow (w.heap.size + 1) 5 1 (.slice a3 l2 c3) l2 (L2.map (Value.int .u8))) := by
              have := HL3.out.own.row
              rwa [← HL2L.out] at this
            go_wp2_with (at_builtin; refine wpList_append_own_none rfl _ _ 22 rfl (w.heap.size + 1) 5 i0 1 Tryd.underlying22 hi (.slice a3 l2 c3) l2 (L2.map (Value.int .u8)) rfl HOW2.out rfl ?_)
            go_roundw
            case rel =>
              have e1 : L1 ++ (m : Int) :: laidT (ts.take (q + 1)) = L2 := by rw [HTK.out, List.append_nil]
              refine ⟨q + 1, by omega, by go_num, a3, c3, by rw [e1, HL2L.out], ?_⟩
              rw [e1, ← HL2L.out]
              exact HL3
            case measure => simp [intOf]; omega
          · rw [← hlx] at hcl hcx hmx HG gx
            have hll := run_len Tryd.underlying22 (some ax) lx capx
            have hx5 : lx ≤ 4096 := by omega
            have HCE : Hid (∀ (i : Nat) u, (x.map (Value.int .u8))[i]? = some u → w.cell? (ax.add i) = some u) := hcells
            clear hA hlx hcells HAW hcl hbx hmx hx4
            go_wp2_with fail
            refine HG.mono ?_
            rintro e w3 ⟨⟨v3, rfl, ho3⟩, hb3⟩
            obtain ⟨a3, c3, rfl⟩ := ho3.shape
            have HL3 : Hid (Lay w k (.slice a j c) (.slice b m d) w3 L2 (.slice a3 L2.length c3)) := HM.out.next hb3 ho3
            clear ho3 hb3 HG hix gx
            obtain ⟨l2, hl2'⟩ : ∃ y, y = L2.length := ⟨_, rfl⟩
            have HL2L : Hid (l2 = L2.length) := hl2'
            rw [← hl2'] at HL3 HL2 ⊢
            have hl2b : l2 ≤ 300010 := HL2.out
            clear hl2'
            have HOW2 : Hid (w3.ownsRow (w.heap.size + 1) 5 1 (.slice a3 l2 c3) l2 (L2.map (Value.int .u8))) := by
              have := HL3.out.own.row
              rwa [← HL2L.out] at this
            go_wp2_with (at_builtin; refine wpList_append_own _ rfl _ _ 22 rfl (w.heap.size + 1) 5 i0 (.int .u8 0) 1 1 Tryd.underlying22 hi hz0 hz1 hz2 rfl (by decide) (.slice a3 l2 c3) l2 (L2.map (Value.int .u8)) rfl HOW2.out ax lx capx (x.map (Value.int .u8)) rfl (by rw [HLX.out]; simp) (fun i u hu => by have g := HCE.out i u hu; rw [HL3.out.bel.cell (cell_lt g)]; exact g) (C.one_cells x) (by unfold maxLen; omega) (by omega) (by have := HL3.out.box.lt; omega) ?_; intro v4 w4 hown4 hgrow4 _; obtain ⟨a4, c4, rfl⟩ := own_shape hown4)
            have HL4 : Hid (Lay w k (.slice a j c) (.slice b m d) w4 (L2 ++ x) (.slice a4 (l2 + lx) c4)) := by
              refine HL3.out.next ?_ (.mk ?_ (oc_append.2 ⟨HL3.out.own.oct, HXO.out⟩))
              · exact (Below.refl _ w3).grown hgrow4 (by have := HL3.out.box.lt; omega) (fun i hi => (HOW2.out.lt i hi).1)
              · rw [List.length_append, ← HL2L.out, ← HLX.out, List.map_append]
                exact hown4
            clear hown4 hgrow4
            go_wp2
            go_roundw
            case rel =>
              have e2 : (L2 ++ x).length = l2 + lx := by rw [List.length_append, HL2L.out, HLX.out]
              refine ⟨q + 1, by omega, by go_num, a4, c4, by rw [HTK.out, e2], ?_⟩
              rw [HTK.out, e2]
              exact HL4
            case measure => simp [intOf]; omega
        · obtain rfl : q = m := by omega
          have hT0 : ts.take q = ts := by rw [HN.out.2, List.take_length]
          have e3 : L1 ++ (q : Int) :: laidT (ts.take q) = laidR (k, ns, ts) := by
            rw [hT0, HL1.out]
            simp [laidR, ← HN.out.1, ← HN.out.2]
          rw [e3] at HM HLN2
          have HS := C.seal_any _ (laidR (k, ns, ts)) wr (HM.out.own.arg.toC) (by rw [← HLN2.out.1]; have := HLN2.out.2; omega)
          rw [← HLN2.out.1] at HS
          have HSO : Hid (Oc (laidR (k, ns, ts))) := HM.out.own.oct
          clear hT0 e3
          go_wp2_with fail
          refine HS.mono ?_
          rintro e w3 ⟨rfl, hown3, hb3⟩
          have HE : Hid (Own1 w.heap.size w3 (.slice (some ⟨wr.heap.size, 0, none⟩) (len2 + 4) (len2 + 4)) (C.sealed (laidR (k, ns, ts))) ∧ Below w.heap.size w w3) := by
            refine ⟨.mk ?_ (C.sealed_oct _ HSO.out), below_any HM.out.bel hb3⟩
            rw [C.sealed_length, ← HLN2.out.1]
            exact own_weaken hown3 HM.out.bel.size
          clear hown3 hb3 HS
          go_wp2
          go_ret2
          exact ⟨⟨_, rfl, HE.out.1⟩, HE.out.2⟩

set_option maxRecDepth 100000 in
set_option maxHeartbeats 1000000 in
theorem enc_bad (n0 : Nat) (us : List Value) (r : Rc) (w : World) (h : recF.lies n0 w us r) (hc : chkR r ≠ 0) :
    Calls Tryd.prog 18 #[.agg us.toArray] w fun e w' => e = .returned (.tuple #[.slice none 0 0, .int .i64 (chkR r)]) ∧ Below w.heap.size w w' := by
  obtain ⟨a, c, b, d, rfl, _⟩ := rec_view h
  obtain ⟨W, hW⟩ : ∃ W, W = w.alloc (.cells #[.int .i64 r.1, .slice a r.2.1.length c, .slice b r.2.2.length d] 53) := ⟨_, rfl⟩
  have hbW : Below w.heap.size w W := by rw [hW]; exact (Below.refl _ w).alloc (Nat.le_refl _) _
  have hP : Box W w.heap.size 53 #[.int .i64 r.1, .slice a r.2.1.length c, .slice b r.2.2.length d] := by rw [hW]; exact Box.new w 53 _
  have HX := check_any n0 _ r W (recF.keep h (.of_below hbW))
  obtain ⟨ce, hce⟩ : ∃ x, x = chkR r := ⟨_, rfl⟩
  rw [← hce] at HX hc ⊢
  obtain ⟨g0, g1, g2, _⟩ := hP.three
  rw [hW] at g0 g1 g2
  have HW : Hid (Below w.heap.size w W) := hbW
  clear h hce hP hbW
  go_enter Tryd.func18, Tryd.ntmps18
  go_wp2_with fail
  rw [← hW]
  clear hW g0 g1 g2
  refine HX.mono ?_
  rintro e w1 ⟨rfl, hb1⟩
  go_wp2
  go_ret2
  exact ⟨rfl, below_any HW.out hb1⟩

theorem enc_any (n0 : Nat) (us : List Value) (r : Rc) (w : World) (h : recF.lies n0 w us r) :
    Calls Tryd.prog 18 #[.agg us.toArray] w fun e w' => (∃ a c, e = .returned (.tuple #[.slice a (encO r).length c, .int .i64 (chkR r)]) ∧ Own1 w.heap.size w' (.slice a (encO r).length c) (encO r)) ∧ Below w.heap.size w w' := by
  by_cases hc : chkR r = 0
  · refine (enc_ok n0 us r w h hc).mono ?_
    rintro e w' ⟨⟨v', rfl, ho⟩, hb⟩
    rw [encO, if_pos hc, hc]
    obtain ⟨a, c, rfl⟩ := ho.shape
    exact ⟨⟨a, c, rfl, ho⟩, hb⟩
  · refine (enc_bad n0 us r w h hc).mono ?_
    rintro e w' ⟨rfl, hb⟩
    rw [encO, if_neg hc]
    exact ⟨⟨none, 0, rfl, .nil _ _⟩, hb⟩

end Go.Proofs.YthlfgpnabcplnaaDoor.W
