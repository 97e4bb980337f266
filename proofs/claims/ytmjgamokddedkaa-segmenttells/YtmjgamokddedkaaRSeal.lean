/-
  What the document's Seal answers: the same octets.
-/
import Derived.Test.YtmjgamokddedkaaSeal
import Derived.Test.YtmjgamokddedkaaRCheck
import Derived.Test.YtmjgamokddedkaaROct
import Derived.Test.YtmjgamokddedkaaZeros
import Derived.Test.YtmjgamokddedkaaCRef
import Derived.ArgAppend
namespace Go.Proofs.Ytmjgamokddedkaa
open Go.RowKit
open O (oct need nv)

theorem roct_own (n k : Nat) (w : World) (h1 : n < 18446744073709551616) (h3 : k ≤ 64) (h4 : need n ≤ k) :
    Calls Try.prog 30 #[.int .u64 n, .int .i64 k] w fun e w' => (∃ v, e = .returned v ∧ Own1 w.heap.size w' v (oct n k)) ∧ Below w.heap.size w w' := by
  refine Calls.mono (O.roct_any n k w h1 h3 h4) (fun e w' h => ?_)
  obtain ⟨rfl, h, hb⟩ := h
  refine ⟨⟨_, rfl, .mk (by rw [oct_length]; exact h) (fun x hx => ?_)⟩, hb⟩
  obtain ⟨t, -, rfl⟩ := List.mem_map.1 hx
  simp [Lit.wf, IntKind.min, IntKind.max, IntKind.signed, IntKind.bits]
  omega
theorem oct_one {n : Nat} (h : n < 256) : oct n 1 = [(n : Int)] := by
  simp [oct, Nat.mod_eq_of_lt h]
theorem one_box {w : World} {B n : Nat} (h : n < 256) (hB : Box w B 5 #[.int .u8 (n : Int)]) : Arg 0 w (.slice (some ⟨B, 0, none⟩) 1 1) (oct n 1) := by
  rw [oct_one h]
  exact Arg.mk (Cells.box hB rfl (by decide) (Nat.zero_le _)) (fun x hx => by
    rw [List.mem_singleton.1 hx]
    simp [Lit.wf, IntKind.min, IntKind.max, IntKind.signed, IntKind.bits]
    omega)
theorem two_box {w : World} {B n m : Nat} (h : n < 256) (h2 : m < 256) (hB : Box w B 5 #[.int .u8 (n : Int), .int .u8 (m : Int)]) : Arg 0 w (.slice (some ⟨B, 0, none⟩) 2 2) (oct n 1 ++ oct m 1) := by
  rw [oct_one h, oct_one h2]
  exact Arg.mk (Cells.box hB rfl (by decide) (Nat.zero_le _)) (fun x hx => by
    simp at hx
    rcases hx with rfl | rfl <;> simp [Lit.wf, IntKind.min, IntKind.max, IntKind.signed, IntKind.bits] <;> omega)
/-- An append onto octets that are full: in memory of its own. -/
theorem append_full {w : World} {n0 n1 : Nat} {ad bd : Addr} {n m c : Nat} {l k : List Int} (h1 : Arg n0 w (.slice (some ad) n n) l) (h2 : Arg n1 w (.slice (some bd) m c) k) (hl : l.length = n) (hk : k.length = m) (h0 : 0 < m) (h3 : n + m ≤ 100000) :
    ∃ v' w', (Builtin.append_ #[25, 25] 25 #[.slice (some ad) n n, .slice (some bd) m c]).run Try.prog w = .ok v' w' ∧ Own1 w.heap.size w' v' (l ++ k) ∧ w.grownBy w' none := by
  obtain ⟨i0, hi, hz0, hz1, hz2⟩ := info_parts Try.info5
  obtain ⟨_, ⟨e, _⟩ | ⟨x, cap, e, _, _, _, hc1⟩⟩ := h1.cells
  · cases e
  obtain ⟨_, ⟨e2, _⟩ | ⟨x2, cap2, e2, _, _, _, hc2⟩⟩ := h2.cells
  · cases e2
  injection e with e _ _
  injection e with e
  subst e
  injection e2 with e2 _ _
  injection e2 with e2
  subst e2
  obtain ⟨v', w', hr, ho, hg⟩ := run_append_arg_grows (P := Try.prog) w 25 25 5 i0 (.int .u8 0) 1 1 Try.underlying25 hi hz0 hz1 hz2 rfl (by decide) ad n n (l.map (Value.int .u8)) (by simp [hl]) hc1 bd m c (k.map (Value.int .u8)) (by simp [hk]) hc2 (by omega) (by unfold maxLen; omega) (by omega)
  refine ⟨v', w', hr, .mk ?_ (fun x hx => ?_), hg⟩
  · rw [List.length_append, hl, hk, List.map_append]
    exact ho
  · rcases List.mem_append.1 hx with h | h
    · exact h1.oct x h
    · exact h2.oct x h

set_option maxRecDepth 100000 in
set_option maxHeartbeats 8000000 in
theorem rseal_any (n0 : Nat) (us : List Value) (s : Sg) (w : World) (h : sgR.lies n0 w us s) :
    Calls Try.prog 12 #[.agg us.toArray] w fun e w' => (∃ v, e = .returned (.tuple #[v, .int .i64 (cerr s)]) ∧ Own1 w.heap.size w' v (sealV s)) ∧ Below w.heap.size w w' := by
  obtain ⟨a, c, rfl, hL, hi, hm⟩ := sg_viewR h
  obtain ⟨q, l⟩ := s
  dsimp only at hL hi hm ⊢
  obtain ⟨post, hpost⟩ : ∃ post : Ending → World → Prop, post = fun e w' => (∃ v, e = .returned (.tuple #[v, .int .i64 (cerr (q, l))]) ∧ Own1 w.heap.size w' v (sealV (q, l))) ∧ Below w.heap.size w w' := ⟨_, rfl⟩
  have HNo : Hid (∀ w', ¬ Chk (q, l) → Below w.heap.size w w' → post (.returned (.tuple #[.slice none 0 0, .int .i64 9])) w') := fun w' h1 h2 => by
    rw [hpost, cerr_bad h1, seal_bad h1]
    exact ⟨⟨_, rfl, Own1.mk (World.ownsRow_nil _ _ _ _) (fun _ h => by cases h)⟩, h2⟩
  have HYes : Hid (∀ v w', Chk (q, l) → Own1 w.heap.size w' v (sealO (q, l)) → Below w.heap.size w w' → post (.returned (.tuple #[v, .int .i64 0])) w') := fun v w' h1 h2 h3 => by
    rw [hpost, cerr_ok h1, seal_ok h1]
    exact ⟨⟨_, rfl, h2⟩, h3⟩
  rw [← hpost]
  clear hpost
  obtain ⟨W, hW⟩ : ∃ W, W = w.alloc (.cells #[.int .i64 q, .slice a l.length c] 24) := ⟨_, rfl⟩
  have hbW : Below w.heap.size w W := by rw [hW]; exact (Below.refl _ _).alloc (Nat.le_refl _) _
  have hxW : Box W w.heap.size 24 #[.int .i64 q, .slice a l.length c] := by rw [hW]; exact Box.new _ _ _
  obtain ⟨base, hbase⟩ : ∃ b, b = w.heap.size + 1 := ⟨_, rfl⟩
  have hWs : W.heap.size = base := by rw [hW, hbase]; simp
  have HC := rcheck_any _ _ (q, l) W (sgR.below h hbW)
  obtain ⟨n, hn⟩ : ∃ n, n = l.length := ⟨_, rfl⟩
  have HN : Hid (n = l.length) := hn
  rw [← hn] at hxW hL hm hW HC ⊢
  have HW : Hid (Below w.heap.size w W ∧ Box W w.heap.size 24 #[.int .i64 q, .slice a n c] ∧ bksR.lies n0 W [.slice a n c] l ∧ W.heap.size = base ∧ base = w.heap.size + 1) := ⟨hbW, hxW, bksR.below hL hbW, hWs, hbase⟩
  have HSB : Hid (∀ V, Below W.heap.size W V → V.cell? ⟨w.heap.size, 0, none⟩ = some (.int .i64 q) ∧ V.cell? ⟨w.heap.size, 1, none⟩ = some (.slice a n c)) := fun V hV => by
    obtain ⟨g0, g1, -, -⟩ := (HW.out.2.1.below hV HW.out.2.1.lt).two
    exact ⟨g0, g1⟩
  obtain ⟨g0, g1⟩ := HSB.out W (Below.refl _ _)
  rw [hW] at g0 g1
  clear h hL hi hm hbW hxW hWs hbase hn
  go_enter Try.func12, Try.ntmps12
  go_wp2_with fail
  rw [← hW]
  clear hW g0 g1
  refine HC.mono ?_
  rintro e w1 ⟨rfl, hb1⟩
  have H1 : Hid (Below W.heap.size W w1) := hb1
  clear hb1 HC
  by_cases hc : Chk (q, l)
  case neg =>
    rw [cerr_bad hc]
    have HE : Hid (post (.returned (.tuple #[.slice none 0 0, .int .i64 9])) w1) := HNo.out w1 hc (below_any HW.out.1 H1.out)
    clear hc
    go_wp2
    exact HE.out
  rw [cerr_ok hc]
  have HK : Hid (Chk (q, l)) := hc
  obtain ⟨qn, rfl⟩ : ∃ m : Nat, q = (m : Int) := ⟨q.toNat, by have := hc.1.1; show q = _; simp only at this; omega⟩
  have HQ : Hid (1 ≤ qn ∧ qn ≤ 1099511627776 ∧ 1 ≤ n ∧ n ≤ 8) := by
    have h1 : (1 : Int) ≤ (qn : Int) ∧ (qn : Int) ≤ 1099511627776 := hc.1
    have h2 : 1 ≤ l.length ∧ l.length ≤ 8 := hc.2.1
    have := HN.out
    exact ⟨by omega, by omega, by omega, by omega⟩
  clear hc
  obtain ⟨Y, hY⟩ : ∃ Y, Y = w1.alloc (.cells #[.int .u8 115, .int .u8 101, .int .u8 103, .int .u8 49] 5) := ⟨_, rfl⟩
  have hbY : Below w1.heap.size w1 Y := by rw [hY]; exact (Below.refl _ _).alloc (Nat.le_refl _) _
  have hxY : Box Y w1.heap.size 5 #[.int .u8 115, .int .u8 101, .int .u8 103, .int .u8 49] := by rw [hY]; exact Box.new _ _ _
  have hAY : Arg w1.heap.size Y (.slice (some ⟨w1.heap.size, 0, none⟩) 4 4) [115, 101, 103, 49] := by rw [hY]; exact mark_arg w1
  obtain ⟨Z, hcvt, hbZ, hcel⟩ := conv_mark Y w1.heap.size 4 4 _ hxY
  have HZ : Hid (Below W.heap.size W Z ∧ Arg 0 Z (.slice (some ⟨w1.heap.size, 0, none⟩) 4 4) [115, 101, 103, 49]) := ⟨(H1.out.trans (hbY.mono H1.out.size)).trans (hbZ.mono H1.out.size), (hAY.same hcel).weaken (Nat.zero_le _)⟩
  rw [hY] at hcvt
  obtain ⟨g0, g1⟩ := HSB.out Z HZ.out.1
  have hcq : IntKind.u64.wrap (qn : Int) = (qn : Int) := by have := HQ.out; unfold IntKind.wrap; simp [IntKind.signed, IntKind.bits]; omega
  have HC := roct_own qn 8 Z (by have := HQ.out; omega) (by omega) (need_le (by have := HQ.out; omega))
  clear hY hbY hxY hAY hbZ hcel H1
  go_wp2_with fail
  refine HC.mono ?_
  rintro e w2 ⟨⟨vo, rfl, hO2⟩, hb2⟩
  have hrow2 := hO2.row
  rw [oct_length] at hrow2
  obtain ⟨og, oc, hv⟩ : ∃ og oc, vo = .slice (some ⟨og, 0, none⟩) 8 oc := by
    rcases hrow2.2 with ⟨_, h0⟩ | ⟨og, oc, cur, hv, _⟩
    · cases h0
    · exact ⟨og, oc, hv⟩
  subst hv
  clear hrow2
  have hA2 : Arg 0 w2 (.slice (some ⟨og, 0, none⟩) 8 oc) (oct qn 8) := hO2.arg.weaken (Nat.zero_le _)
  obtain ⟨v3, w3, hrun, hO3, hg3⟩ := append_full (n := 4) (m := 8) (l := [115, 101, 103, 49]) (k := oct qn 8) (HZ.out.2.below hb2) hA2 rfl (oct_length _ _) (by omega) (by omega)
  have HW3 : Hid (Below W.heap.size W w3) := (below_any HZ.out.1 hb2).grown hg3 (below_any HZ.out.1 hb2).size (fun _ h => by cases h)
  have hbs2 : base ≤ w2.heap.size := by have := (below_any HZ.out.1 hb2).size; have := HW.out.2.2.2.1; omega
  have HO3 : Hid (Own1 base w3 v3 ([115, 101, 103, 49] ++ oct qn 8)) := bytesS.oweaken hO3 hbs2
  clear hO2 hA2 hb2 hO3 hg3 hbs2 HC g0 g1 hcvt HZ
  obtain ⟨g0, g1⟩ := HSB.out w3 HW3.out
  have hll := run_len Try.underlying22 a n c
  have hcn : IntKind.u8.wrap (n : Int) = (n : Int) := by have := HQ.out; unfold IntKind.wrap; simp [IntKind.signed, IntKind.bits]; omega
  obtain ⟨X, hX⟩ : ∃ X, X = w3.alloc (.cells #[.int .u8 (n : Int)] 5) := ⟨_, rfl⟩
  have hbX : Below w3.heap.size w3 X := by rw [hX]; exact (Below.refl _ _).alloc (Nat.le_refl _) _
  have hxX : Box X w3.heap.size 5 #[.int .u8 (n : Int)] := by rw [hX]; exact Box.new _ _ _
  have HX : Hid (Own1 base X v3 ([115, 101, 103, 49] ++ oct qn 8) ∧ Below W.heap.size W X ∧ Arg 0 X (.slice (some ⟨w3.heap.size, 0, none⟩) 1 1) (oct n 1)) := ⟨Own1.mk (own_below HO3.out.row hbX) HO3.out.oct, below_any HW3.out hbX, one_box (by have := HQ.out; omega) hxX⟩
  have HBD : Hid (base ≤ W.heap.size ∧ W.heap.size ≤ base) := by have := HW.out.2.2.2.1; exact ⟨by omega, by omega⟩
  clear hbX hxX HO3
  go_wp2_with (at_builtin; first | (refine Lib.wpList_append_run _ (by rfl) _ _ 25 25 (by rfl) (.slice (some ⟨w1.heap.size, 0, none⟩) 4 4) (.slice (some ⟨og, 0, none⟩) 8 oc) (by rfl) (by rfl) _ _ hrun ?_) | (rw [← hX]; refine push_bytes (by rfl) _ _ (by rfl) base 0 _ _ ([115, 101, 103, 49] ++ oct qn 8) (oct n 1) X (by rfl) HX.out.1 (by rfl) HX.out.2.2 (by simp only [List.length_append, oct_length, List.length_cons, List.length_nil]; omega) (by have := HX.out.2.1.size; have := HBD.out; omega) ?_; intro v4 w4 hO4 hg4; have HR : Hid (Own1 base w4 v4 (pre qn n) ∧ Below W.heap.size W w4) := ⟨hO4, HX.out.2.1.grown hg4 HX.out.2.1.size (fun j hj => by have := (HX.out.1.row.lt j hj).1; have := HBD.out; omega)⟩; clear hO4 hg4 hX hrun g0 g1 HX HW3 hcq hcn))
  have hn8 : n ≤ 8 := HQ.out.2.2.2
  go_loopw [4, 5] (fun v i wr => ∃ k : Nat, k ≤ n ∧ i = .int .i64 k ∧ Hid (Own1 base wr v (pre qn n ++ hds (l.take k))) ∧ Hid (Below W.heap.size W wr)) (fun _ i _ => n - (intOf i).toNat)
  case atStart => exact ⟨0, Nat.zero_le _, rfl, by show Own1 _ _ _ _; simpa [hds] using HR.out.1, HR.out.2⟩
  case round =>
    obtain ⟨k, hk, rfl, HO, HB⟩ := hrel
    obtain ⟨g0, g1⟩ := HSB.out wr HB.out
    by_cases hlt : k < n
    · obtain ⟨p, hp⟩ := get_lt (l := l) (k := k) (by rw [← HN.out]; exact hlt)
      obtain ⟨b, o, x, cap, hix, c0, c1, c2, hA, _⟩ := bks_atR (bksR.below HW.out.2.2.1 HB.out) k p hp
      have HMY := may_iff.1 (List.all_eq_true.1 HK.out.2.2 p (List.mem_of_getElem? hp))
      have hTK : l.take (k + 1) = l.take k ++ [p] := take_snoc hp
      obtain ⟨po, pi, pd⟩ := p
      simp only at c0 c1 c2 HMY
      obtain ⟨pn, hpn⟩ : ∃ m : Nat, m = po.toNat := ⟨_, rfl⟩
      obtain ⟨px, hpx⟩ : ∃ m : Nat, m = pi.toNat := ⟨_, rfl⟩
      obtain ⟨pm, hpm⟩ : ∃ m : Nat, m = pd.length := ⟨_, rfl⟩
      obtain rfl : po = (pn : Int) := by omega
      obtain rfl : pi = (px : Int) := by omega
      rw [← hpm] at c2 HMY
      have HTK : Hid (hds (l.take (k + 1)) = hds (l.take k) ++ (oct pn 4 ++ (oct px 1 ++ oct pm 1))) := by
        show _ = _
        rw [hTK, hds_snoc]
        simp [hd, hpm]
      have HLE : Hid ((hds (l.take k)).length ≤ 48) := by
        show _ ≤ 48
        rw [hds_length, List.length_take]
        have := HQ.out
        omega
      have hq1 : IntKind.u64.wrap (pn : Int) = (pn : Int) := by unfold IntKind.wrap; simp [IntKind.signed, IntKind.bits]; omega
      have hq2 : IntKind.u8.wrap (px : Int) = (px : Int) := by unfold IntKind.wrap; simp [IntKind.signed, IntKind.bits]; omega
      have hq3 : IntKind.u8.wrap (pm : Int) = (pm : Int) := by unfold IntKind.wrap; simp [IntKind.signed, IntKind.bits]; omega
      have HMM : Hid (px < 256 ∧ pm < 256) := ⟨by omega, by omega⟩
      obtain ⟨X, hX⟩ : ∃ X, X = wr.alloc (.cells #[.int .i64 pn, .int .i64 px, .slice x pm cap] 55) := ⟨_, rfl⟩
      have HC := roct_own pn 4 X (by omega) (by omega) (need_le (by omega))
      have hbX : Below wr.heap.size wr X := by rw [hX]; exact (Below.refl _ wr).alloc (Nat.le_refl _) _
      have hBX : Box X wr.heap.size 55 #[.int .i64 pn, .int .i64 px, .slice x pm cap] := by rw [hX]; exact Box.new _ _ _
      clear hpn hpx hpm hTK hp hA HMY
      obtain ⟨L0, hL0⟩ : ∃ L, L = pre qn n ++ hds (l.take k) := ⟨_, rfl⟩
      have HL0 : Hid (L0 = pre qn n ++ hds (l.take k) ∧ L0.length ≤ 61) := ⟨hL0, by rw [hL0, List.length_append, pre_length]; have := HLE.out; omega⟩
      rw [← hL0] at HO
      have H0 : Hid (Own1 base X u4 L0 ∧ Box X wr.heap.size 55 #[.int .i64 pn, .int .i64 px, .slice x pm cap] ∧ Below W.heap.size W X) := ⟨Own1.mk (own_below HO.out.row hbX) HO.out.oct, hBX, below_any HB.out hbX⟩
      have hki : (k : Int) < (n : Int) := by omega
      have hlx := run_len Try.underlying25 x pm cap
      obtain ⟨y0, y1, y2, -⟩ := hBX.three
      rw [hX] at y0 y1 y2
      clear hL0 HO hbX hBX HB
      go_wp2_with fail
      rw [← hX]
      clear hX y0 y1 y2 c0 c1 c2 g0 g1
      refine HC.mono ?_
      rintro e V1 ⟨⟨va, rfl, hva⟩, hs1⟩
      have H1 : Hid (Own1 base V1 u4 L0 ∧ Box V1 wr.heap.size 55 #[.int .i64 pn, .int .i64 px, .slice x pm cap] ∧ Below W.heap.size W V1 ∧ Arg 0 V1 va (oct pn 4)) := ⟨Own1.mk (own_below H0.out.1.row hs1) H0.out.1.oct, H0.out.2.1.below hs1 H0.out.2.1.lt, below_any H0.out.2.2 hs1, hva.arg.weaken (Nat.zero_le _)⟩
      clear hva hs1 H0 HC
      obtain ⟨y0, y1, y2, -⟩ := H1.out.2.1.three
      go_wp2_with (at_builtin; first | (refine push_bytes (by rfl) _ _ (by rfl) base 0 _ _ L0 (oct pn 4) V1 (by rfl) H1.out.1 (by rfl) H1.out.2.2.2 (by rw [oct_length]; have := HL0.out.2; omega) (by have := H1.out.2.2.1.size; have := HBD.out; omega) ?_; intro v1 w1a hO1 hg1; have hBn := H1.out.2.1.grown hg1 (Box.apart H1.out.2.1 H1.out.1.row (by decide)); have hbn : Below W.heap.size W w1a := H1.out.2.2.1.grown hg1 H1.out.2.2.1.size (fun j hj => by have := (H1.out.1.row.lt j hj).1; have := HBD.out; omega); have hbY : Below w1a.heap.size w1a (w1a.alloc (.cells #[.int .u8 (px : Int), .int .u8 (pm : Int)] 5)) := (Below.refl _ _).alloc (Nat.le_refl _) _; have H2 : Hid (Own1 base (w1a.alloc (.cells #[.int .u8 (px : Int), .int .u8 (pm : Int)] 5)) v1 (L0 ++ oct pn 4) ∧ Below W.heap.size W (w1a.alloc (.cells #[.int .u8 (px : Int), .int .u8 (pm : Int)] 5)) ∧ Arg 0 (w1a.alloc (.cells #[.int .u8 (px : Int), .int .u8 (pm : Int)] 5)) (.slice (some ⟨w1a.heap.size, 0, none⟩) 2 2) (oct px 1 ++ oct pm 1)) := ⟨Own1.mk (own_below hO1.row hbY) hO1.oct, below_any hbn hbY, two_box HMM.out.1 HMM.out.2 (Box.new _ _ _)⟩; clear y0 y1 y2 hO1 hg1 hbn hbY; obtain ⟨y0, y1, y2, -⟩ := hBn.three; clear hBn) | (refine push_bytes (by rfl) _ _ (by rfl) base 0 _ _ (L0 ++ oct pn 4) (oct px 1 ++ oct pm 1) _ (by rfl) H2.out.1 (by rfl) H2.out.2.2 (by simp only [List.length_append, oct_length]; have := HL0.out.2; omega) (by have := H2.out.2.1.size; have := HBD.out; omega) ?_; intro v2 w2a hO2 hg2; have hbn : Below W.heap.size W w2a := H2.out.2.1.grown hg2 H2.out.2.1.size (fun j hj => by have := (H2.out.1.row.lt j hj).1; have := HBD.out; omega); have H3 : Hid (Own1 base w2a v2 ((L0 ++ oct pn 4) ++ (oct px 1 ++ oct pm 1)) ∧ Below W.heap.size W w2a) := ⟨hO2, hbn⟩; clear hO2 hg2 hbn))
      clear y0 y1 y2
      go_roundw
      case rel => exact ⟨k + 1, by omega, by go_num, by show Own1 _ _ _ _; rw [HTK.out, ← List.append_assoc, ← HL0.out.1, ← List.append_assoc]; exact H3.out.1, H3.out.2⟩
      case measure => simp [intOf]; omega
    · obtain rfl : k = n := by omega
      have hki : ¬ (k : Int) < (k : Int) := by omega
      have hT : l.take k = l := by rw [HN.out]; simp
      rw [hT] at HO
      have HDL : Hid (∀ j, (dts (l.take j)).length ≤ 256) := fun j => by
        have h1 := dts_le (l := l.take j) (by
          rw [List.all_eq_true]
          exact fun p hp => List.all_eq_true.1 HK.out.2.2 p (List.mem_of_mem_take hp))
        rw [List.length_take] at h1
        have := HQ.out
        have := HN.out
        omega
      have HHL : Hid ((hds l).length ≤ 48) := by
        show _ ≤ 48
        rw [hds_length, ← HN.out]
        omega
      clear hT
      go_wp2
      clear g0 g1
      go_loopw [4, 7] (fun v i wq => ∃ j : Nat, j ≤ k ∧ i = .int .i64 j ∧ Hid (Own1 base wq v (pre qn k ++ hds l ++ dts (l.take j))) ∧ Hid (Below W.heap.size W wq)) (fun _ i _ => k - (intOf i).toNat)
      case atStart => exact ⟨0, Nat.zero_le _, rfl, by show Own1 _ _ _ _; simpa [dts] using HO.out, HB⟩
      case round =>
        rename World => wq
        obtain ⟨j, hj, rfl, HO2, HB2⟩ := hrel
        obtain ⟨g0, g1⟩ := HSB.out wq HB2.out
        obtain ⟨L0, hL0⟩ : ∃ L, L = pre qn k ++ hds l ++ dts (l.take j) := ⟨_, rfl⟩
        have HL0 : Hid (L0 = pre qn k ++ hds l ++ dts (l.take j) ∧ L0.length ≤ 317 ∧ 13 ≤ L0.length) := ⟨hL0, by
          rw [hL0, List.length_append, List.length_append, pre_length]; have := HHL.out; have := HDL.out j; omega, by rw [hL0, List.length_append, List.length_append, pre_length]; omega⟩
        rw [← hL0] at HO2
        clear hL0
        by_cases hlt2 : j < k
        · obtain ⟨p, hp⟩ := get_lt (l := l) (k := j) (by rw [← HN.out]; exact hlt2)
          obtain ⟨b, o, x, cap, hix, c0, c1, c2, hA, _⟩ := bks_atR (bksR.below HW.out.2.2.1 HB2.out) j p hp
          have HMY := may_iff.1 (List.all_eq_true.1 HK.out.2.2 p (List.mem_of_getElem? hp))
          have hTK : l.take (j + 1) = l.take j ++ [p] := take_snoc hp
          obtain ⟨po, pi, pd⟩ := p
          simp only at c0 c1 c2 HMY hA
          have HTK : Hid (dts (l.take (j + 1)) = dts (l.take j) ++ pd ∧ pd.length ≤ 32) := ⟨by rw [hTK, dts_snoc], HMY.2.2⟩
          obtain ⟨pm, hpm⟩ : ∃ m, m = pd.length := ⟨_, rfl⟩
          rw [← hpm] at c2 hA
          have H0 : Hid (Own1 base wq u4 L0 ∧ Below W.heap.size W wq ∧ Arg n0 wq (.slice x pm cap) pd) := ⟨HO2.out, HB2.out, hA⟩
          have hki2 : (j : Int) < (k : Int) := by omega
          clear HO2 hpm hTK HMY hp hA c0 c1
          go_wp2_with (at_builtin; refine push_bytes (by rfl) _ _ (by rfl) base n0 _ _ L0 pd _ (by rfl) H0.out.1 (by rfl) H0.out.2.2 (by have := HL0.out.2.1; have := HTK.out.2; omega) (by have := H0.out.2.1.size; have := HBD.out; omega) ?_; intro v1 w1a hO1 hg1; have H1 : Hid (Own1 base w1a v1 (L0 ++ pd) ∧ Below W.heap.size W w1a) := ⟨hO1, H0.out.2.1.grown hg1 H0.out.2.1.size (fun j hj => by have := (H0.out.1.row.lt j hj).1; have := HBD.out; omega)⟩; clear hO1 hg1 g0 g1 c2)
          go_roundw
          case rel => exact ⟨j + 1, by omega, by go_num, by show Own1 _ _ _ _; rw [HTK.out.1, ← List.append_assoc, ← HL0.out.1]; exact H1.out.1, H1.out.2⟩
          case measure => simp [intOf]; omega
        · obtain rfl : j = k := by omega
          have hki2 : ¬ (j : Int) < (j : Int) := by omega
          have hL : L0 = bodyO ((qn : Int), l) := by
            rw [HL0.out.1, show l.take j = l by rw [HN.out]; simp]
            simp [bodyO, HN.out]
          obtain ⟨ua, uc, rfl⟩ := HO2.out.shape
          have hlL := run_len Try.underlying25 ua L0.length uc
          obtain ⟨v3, w3, hrun, hO3, hg3⟩ := append_zeros wq (.slice ua L0.length uc) L0.length (380 - L0.length) _ HO2.out.row (by have := HB2.out.size; have := HBD.out; omega) (by have := HL0.out.2.1; omega)
          have hFE : L0 ++ List.replicate (380 - L0.length) 0 = fullO ((qn : Int), l) := by rw [hL]; rfl
          have hFL : (fullO ((qn : Int), l)).length = 380 := full_length HK.out
          have hO3' : Own1 base w3 v3 (fullO ((qn : Int), l)) := by
            refine Own1.mk ?_ (fun y hy => ?_)
            · rw [← hFE, List.length_append, List.length_replicate, List.map_append, List.map_replicate]
              exact hO3
            · rw [← hFE] at hy
              rcases List.mem_append.1 hy with h1 | h1
              · exact HO2.out.oct y h1
              · rw [(List.mem_replicate.1 h1).2]; decide
          have hB3 : Below W.heap.size W w3 := HB2.out.grown hg3 HB2.out.size (fun j hj => by have := (HO2.out.row.lt j hj).1; have := HBD.out; omega)
          have HF : Hid (Own1 base w3 v3 (fullO ((qn : Int), l)) ∧ Below W.heap.size W w3 ∧ (fullO ((qn : Int), l)).length = 380) := ⟨hO3', hB3, hFL⟩
          obtain ⟨m0, hm0⟩ : ∃ m, m = L0.length := ⟨_, rfl⟩
          have hm1 : m0 ≤ 317 := by rw [hm0]; exact HL0.out.2.1
          rw [← hm0] at hrun hlL ⊢
          have hcs : ((380 - m0 : Nat) : Int) = 380 - (m0 : Int) := by omega
          rw [hcs] at hrun
          have hws : wrap64 (380 - (m0 : Int)) = 380 - (m0 : Int) := by unfold wrap64; omega
          have hws2 : IntKind.i64.wrap (380 - (m0 : Int)) = 380 - (m0 : Int) := by unfold IntKind.wrap; simp [IntKind.signed, IntKind.bits]; omega
          have HS := C.rsum_any v3 _ w3 hO3'.arg.toC
          obtain ⟨sm, hsm⟩ : ∃ z, z = C.sum (fullO ((qn : Int), l)) := ⟨_, rfl⟩
          rw [← hsm] at HS
          have HSM : Hid (sm = C.sum (fullO ((qn : Int), l)) ∧ sm < 4294967296) := ⟨hsm, by
            rw [hsm]
            refine C.ext_lt 0 _ (by decide) fun y hy => ?_
            have := hO3'.oct y hy
            simp [Lit.wf, IntKind.min, IntKind.max, IntKind.signed, IntKind.bits] at this
            omega⟩
          clear hO3 hg3 hFE hFL hO3' hB3 hL hm0 hcs hsm HO2
          go_wp2_with (at_builtin; refine Lib.wpList_append_run _ (by rfl) _ _ 25 3 (by rfl) (.slice ua m0 uc) (.int .i64 (380 - (m0 : Int))) (by rfl) (by rfl) _ _ hrun ?_)
          refine HS.mono ?_
          rintro e w4 ⟨rfl, rfl⟩
          have hcv : IntKind.u64.wrap (sm : Int) = (sm : Int) := by have := HSM.out.2; unfold IntKind.wrap; simp [IntKind.signed, IntKind.bits]; omega
          have hsl : (sm : Int) < 4294967296 := by have := HSM.out.2; omega
          have HLS := roct_own sm 4 w3 (by have := HSM.out.2; omega) (by omega) (need_le (by have := HSM.out.2; omega))
          clear HS hrun g0 g1 hws hws2
          go_wp2_with fail
          refine HLS.mono ?_
          rintro e w5 ⟨⟨va, rfl, hva⟩, hb5⟩
          have H5 : Hid (Own1 base w5 v3 (fullO ((qn : Int), l)) ∧ Below W.heap.size W w5 ∧ Arg 0 w5 va (oct sm 4)) := ⟨Own1.mk (own_below HF.out.1.row hb5) HF.out.1.oct, below_any HF.out.2.1 hb5, hva.arg.weaken (Nat.zero_le _)⟩
          clear hva hb5 HLS
          go_wp2_with (at_builtin; refine push_bytes (by rfl) _ _ (by rfl) base 0 _ _ (fullO ((qn : Int), l)) (oct sm 4) w5 (by rfl) H5.out.1 (by rfl) H5.out.2.2 (by rw [oct_length, HF.out.2.2]; omega) (by have := H5.out.2.1.size; have := HBD.out; omega) ?_; intro v6 w6 hO6 hg6; have H6 : Hid (post (.returned (.tuple #[v6, .int .i64 0])) w6) := HYes.out _ _ HK.out (by rw [show sealO ((qn : Int), l) = fullO ((qn : Int), l) ++ oct sm 4 by rw [HSM.out.1]; rfl]; exact bytesS.oweaken hO6 (by have := HW.out.2.2.2.2; omega)) (below_any HW.out.1 (H5.out.2.1.grown hg6 H5.out.2.1.size (fun j hj => by have := (H5.out.1.row.lt j hj).1; have := HBD.out; omega))); clear hO6 hg6)
          exact H6.out

end Go.Proofs.Ytmjgamokddedkaa
