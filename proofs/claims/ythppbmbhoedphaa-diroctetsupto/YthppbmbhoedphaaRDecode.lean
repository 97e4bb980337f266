/-
  What the document's Decode answers, for every octets that are not too many.
-/
import Derived.Test.YthppbmbhoedphaaDecode
namespace Go.Proofs.Ythppbmbhoedphaa
open Go.RowKit

theorem i64_or_nat (a b : Nat) (ha : a < 4294967296) (hb : b < 4294967296) : bits .or .i64 (a : Int) (b : Int) = ((a ||| b : Nat) : Int) := by
  have h : a ||| b < 2 ^ 32 := Nat.or_lt_two_pow ha hb
  show IntKind.i64.wrap ((BitVec.ofInt 64 (a : Int) ||| BitVec.ofInt 64 (b : Int)).toNat : Int) = _
  rw [BitVec.toNat_or, ofInt_u64 a (by omega), ofInt_u64 b (by omega), IntKind.wrap_i64]
  omega
theorem or_add (i a b : Nat) (hb : b < 2 ^ i) (h1 : 2 ^ i * a + b < 4294967296) : bits .or .i64 ((2 ^ i * a : Nat) : Int) (b : Int) = ((2 ^ i * a + b : Nat) : Int) := by
  rw [i64_or_nat _ _ (by omega) (by omega), ← Nat.two_pow_add_eq_or_of_lt hb a]

set_option maxRecDepth 100000 in
set_option maxHeartbeats 4000000 in
theorem rdecode_any (n0 : Nat) (v : Value) (b : List Int) (w : World) (h : Arg n0 w v b) (hsm : b.length ≤ 1048576) :
    Calls Try.prog 27 #[v] w fun e w' => (∃ v', e = .returned (.tuple #[v', .int .i64 (derr b)]) ∧ OwnE 24 w.heap.size w' v' (dval b)) ∧ Below w.heap.size w w' := by
  obtain ⟨E, hE⟩ : ∃ E, E = derr b := ⟨_, rfl⟩
  obtain ⟨R, hR⟩ : ∃ E, E = dval b := ⟨_, rfl⟩
  rw [← hE, ← hR]
  have HE : Hid (E = derr b ∧ R = dval b) := ⟨hE, hR⟩
  have HA : Hid (Arg n0 w v b) := h
  have hln := h.len
  obtain ⟨L, hL⟩ : ∃ L, L = b.length := ⟨_, rfl⟩
  rw [← hL] at hln hsm
  have HL : Hid (L = b.length) := hL
  clear h hE hR hL
  go_enter Try.func27, Try.ntmps27
  go_wp2
  go_loopw [4, 5] (fun u4 i wr => ∃ (acc : List En) (a : Nat), i = .int .i64 a ∧ a ≤ L ∧ acc.length * 5 ≤ a ∧ SoFar b acc (b.drop a) ∧ OwnE 24 w.heap.size wr u4 acc ∧ Below w.heap.size w wr) (fun _ i _ => L - (intOf i).toNat)
  case atStart => exact ⟨[], 0, rfl, Nat.zero_le _, by simp, SoFar.start b, OwnE.nil _ _ _, Below.refl _ _⟩
  case round =>
    obtain ⟨acc, a, rfl, ha, hac, hsf, hO, hbel⟩ := hrel
    by_cases hlt : a < L
    case neg =>
      obtain rfl : a = L := by omega
      rw [show b.drop a = [] from List.drop_of_length_le (by rw [← HL.out]; exact Nat.le_refl _)] at hsf
      have hd := hsf.done
      have HC := rcheck_any _ u4 acc wr hO.arg
      have HO : Hid (OwnE 24 w.heap.size wr u4 acc ∧ Below w.heap.size w wr) := ⟨hO, hbel⟩
      by_cases hck : Chk acc
      · obtain ⟨h1, h2⟩ := derr_ok hd hck
        obtain rfl : E = 0 := by rw [HE.out.1]; exact h1
        obtain rfl : R = acc := by rw [HE.out.2]; exact h2
        rw [cerr_ok hck] at HC
        clear hck h1 h2 hd hsf hO hbel
        go_wp2_with fail
        refine HC.mono ?_
        rintro e w1 ⟨rfl, q1, hq1⟩
        have HF : Hid (OwnE 24 w.heap.size w1 u4 R ∧ Below w.heap.size w w1) := by rw [hq1]; exact ⟨HO.out.1.below (below_drewN (Below.refl _ _) _), below_drewN HO.out.2 _⟩
        clear hq1
        go_wp2
        go_ret2
        exact ⟨⟨_, rfl, HF.out.1⟩, HF.out.2⟩
      · obtain ⟨h1, h2⟩ := derr_bad hd hck
        obtain rfl : E = 9 := by rw [HE.out.1]; exact h1
        obtain rfl : R = [] := by rw [HE.out.2]; exact h2
        rw [cerr_bad hck] at HC
        clear hck h1 h2 hd hsf hO hbel
        go_wp2_with fail
        refine HC.mono ?_
        rintro e w1 ⟨rfl, q1, hq1⟩
        have HF : Hid (Below w.heap.size w w1) := by rw [hq1]; exact below_drewN HO.out.2 _
        clear hq1
        go_wp2
        go_ret2
        exact ⟨⟨_, rfl, OwnE.nil _ _ _⟩, HF.out⟩
    obtain ⟨n, hn⟩ := get_lt (l := b) (k := a) (by rw [← HL.out]; exact hlt)
    obtain ⟨pb, po, hix, _, hc, hw8⟩ := (HA.out.below hbel).at a n hn
    have hb8 := u8_bounds hw8
    obtain ⟨r, hr⟩ : ∃ r, b.drop a = n :: r := ⟨b.drop (a + 1), by
      obtain ⟨h1, h2⟩ := List.getElem?_eq_some_iff.1 hn
      rw [List.drop_eq_getElem_cons h1, h2]⟩
    have hrd : r = b.drop (a + 1) := by
      have := congrArg List.tail hr
      rw [List.tail_drop] at this
      exact this.symm
    have hrl : r.length + a + 1 = L := by rw [hrd, List.length_drop, ← HL.out]; omega
    rw [hr] at hsf
    obtain ⟨m, rfl⟩ : ∃ m : Nat, n = (m : Int) := ⟨n.toNat, by omega⟩
    have hm8 : m ≤ 255 := by omega
    have hai : (a : Int) < (L : Int) := by omega
    by_cases hs : r.length < m + 4
    · obtain ⟨h1, h2⟩ := derr_short (hsf.short (by simp) (one_none (by rw [Int.toNat_natCast]; exact hs)))
      obtain rfl : E = 8 := by rw [HE.out.1]; exact h1
      obtain rfl : R = [] := by rw [HE.out.2]; exact h2
      have HB : Hid (Below w.heap.size w wr) := hbel
      have hcmp : (L : Int) - (a : Int) < (m : Int) + 5 := by omega
      clear h1 h2 hsf hO hbel hs hrl hrd hr hn
      go_wp2
      go_ret2
      exact ⟨⟨_, rfl, OwnE.nil _ _ _⟩, HB.out⟩
    · have hcmp : ¬ (L : Int) - (a : Int) < (m : Int) + 5 := by omega
      obtain ⟨i3, hi3, hz0, hz1, hz2⟩ := info_parts Try.info24
      have hor : Oct ((m : Int) :: r) := by rw [← hr]; exact fun x hx => HA.out.oct x (List.mem_of_mem_drop hx)
      have hon := one_some (n := (m : Int)) (r := r) (by rw [Int.toNat_natCast]; exact hs)
      have hok := one_ok hor hon
      have hsf2 := hsf.step hon
      rw [Int.toNat_natCast] at hok hsf2
      have hx4 : ((r.drop m).take 4).length = 4 := by rw [List.length_take, List.length_drop]; omega
      have hxo : Oct ((r.drop m).take 4) := fun x hx => hor x (List.mem_cons_of_mem _ (List.mem_of_mem_drop (List.mem_of_mem_take hx)))
      obtain ⟨vn, hAn, hsln⟩ := HA.out.cut (a + 1) (a + 1 + m) (by omega) (by rw [← HL.out]; omega)
      obtain ⟨vx, hAx, hslx⟩ := HA.out.cut (a + 1 + m) (a + 5 + m) (by omega) (by rw [← HL.out]; omega)
      rw [List.drop_take, ← hrd, show a + 1 + m - (a + 1) = m by omega] at hAn
      rw [List.drop_take, show a + 1 + m = m + (a + 1) by omega, Nat.add_comm m (a + 1), ← List.drop_drop, ← hrd, show a + 5 + m - (a + 1 + m) = 4 by omega] at hAx
      obtain ⟨z0, z1, z2, z3, hz⟩ := four hx4
      rw [hz] at hAx hxo hok hsf2
      obtain ⟨y0, rfl⟩ : ∃ y : Nat, z0 = (y : Int) := ⟨z0.toNat, by have := u8_bounds (hxo z0 (by simp)); omega⟩
      obtain ⟨y1, rfl⟩ : ∃ y : Nat, z1 = (y : Int) := ⟨z1.toNat, by have := u8_bounds (hxo z1 (by simp)); omega⟩
      obtain ⟨y2, rfl⟩ : ∃ y : Nat, z2 = (y : Int) := ⟨z2.toNat, by have := u8_bounds (hxo z2 (by simp)); omega⟩
      obtain ⟨y3, rfl⟩ : ∃ y : Nat, z3 = (y : Int) := ⟨z3.toNat, by have := u8_bounds (hxo z3 (by simp)); omega⟩
      have q0 : y0 ≤ 255 := by have := u8_bounds (hxo (y0 : Int) (by simp)); omega
      have q1 : y1 ≤ 255 := by have := u8_bounds (hxo (y1 : Int) (by simp)); omega
      have q2 : y2 ≤ 255 := by have := u8_bounds (hxo (y2 : Int) (by simp)); omega
      have q3 : y3 ≤ 255 := by have := u8_bounds (hxo (y3 : Int) (by simp)); omega
      obtain ⟨p0, o0, hi0', _, _, _⟩ := hAx.at 0 (y0 : Int) rfl
      obtain ⟨p1, o1, hi1', _, _, _⟩ := hAx.at 1 (y1 : Int) rfl
      obtain ⟨p2, o2, hi2', _, _, _⟩ := hAx.at 2 (y2 : Int) rfl
      obtain ⟨p3, o3, hi3', _, _, _⟩ := hAx.at 3 (y3 : Int) rfl
      have hj0 : ∀ W, (Instr.indexAt 47 vx (.int .i64 0)).run Try.prog W = .ok (.pointer (some ⟨p0, o0, none⟩)) W := hi0'
      have hj1 : ∀ W, (Instr.indexAt 47 vx (.int .i64 1)).run Try.prog W = .ok (.pointer (some ⟨p1, o1, none⟩)) W := hi1'
      have hj2 : ∀ W, (Instr.indexAt 47 vx (.int .i64 2)).run Try.prog W = .ok (.pointer (some ⟨p2, o2, none⟩)) W := hi2'
      have hj3 : ∀ W, (Instr.indexAt 47 vx (.int .i64 3)).run Try.prog W = .ok (.pointer (some ⟨p3, o3, none⟩)) W := hi3'
      have HCE : Hid (∀ V, Below w.heap.size w V → V.cell? ⟨p0, o0, none⟩ = some (.int .u8 (y0 : Int)) ∧ V.cell? ⟨p1, o1, none⟩ = some (.int .u8 (y1 : Int)) ∧ V.cell? ⟨p2, o2, none⟩ = some (.int .u8 (y2 : Int)) ∧ V.cell? ⟨p3, o3, none⟩ = some (.int .u8 (y3 : Int))) := fun V hV => by
        have hXV := hAx.below hV
        refine ⟨?_, ?_, ?_, ?_⟩
        · obtain ⟨p, o, h1, _, h2, _⟩ := hXV.at 0 (y0 : Int) rfl
          have := (hi0' w).symm.trans (h1 w)
          simp at this
          obtain ⟨rfl, rfl⟩ := this
          exact h2
        · obtain ⟨p, o, h1, _, h2, _⟩ := hXV.at 1 (y1 : Int) rfl
          have := (hi1' w).symm.trans (h1 w)
          simp at this
          obtain ⟨rfl, rfl⟩ := this
          exact h2
        · obtain ⟨p, o, h1, _, h2, _⟩ := hXV.at 2 (y2 : Int) rfl
          have := (hi2' w).symm.trans (h1 w)
          simp at this
          obtain ⟨rfl, rfl⟩ := this
          exact h2
        · obtain ⟨p, o, h1, _, h2, _⟩ := hXV.at 3 (y3 : Int) rfl
          have := (hi3' w).symm.trans (h1 w)
          simp at this
          obtain ⟨rfl, rfl⟩ := this
          exact h2
      obtain ⟨S, hS⟩ : ∃ S, S = strOfNums (r.take m) := ⟨_, rfl⟩
      have hcv : (convert 47 9 vn).run Try.prog wr = .ok (.string S) wr := by rw [hS]; exact conv_any (hAn.below hbel)
      have hsln' : ∀ W, (Instr.slice 47 v (some (.int .i64 ((a : Int) + 1))) (some (.int .i64 ((a : Int) + 1 + (m : Int)))) none).run Try.prog W = .ok vn W := hsln
      have hslx' : ∀ W, (Instr.slice 47 v (some (.int .i64 ((a : Int) + 1 + (m : Int)))) (some (.int .i64 ((a : Int) + 5 + (m : Int)))) none).run Try.prog W = .ok vx W := hslx
      rw [nv4] at hok hsf2
      rw [← hS] at hok hsf2
      simp only [Int.toNat_natCast] at hok hsf2
      rw [show r.drop (m + 4) = b.drop (a + m + 5) by rw [hrd, List.drop_drop]; congr 1; omega] at hsf2
      have HB : Hid (Below w.heap.size w wr ∧ OwnE 24 w.heap.size wr u4 acc) := ⟨hbel, hO⟩
      have HSF : Hid (SoFar b (acc ++ [(S, ((((y0 * 256 + y1) * 256 + y2) * 256 + y3 : Nat) : Int))]) (b.drop (a + m + 5)) ∧ EOk (S, ((((y0 * 256 + y1) * 256 + y2) * 256 + y3 : Nat) : Int)) ∧ acc.length * 5 ≤ a ∧ a + m + 5 ≤ L) := ⟨hsf2, hok, hac, by omega⟩
      obtain ⟨M, hM⟩ : ∃ M, M = acc.length := ⟨_, rfl⟩
      have HM : Hid (acc.length = M) := hM.symm
      have hMs : M ≤ 209715 := by omega
      obtain ⟨a4, c4, hv4⟩ := hO.shape
      rw [← hM] at hv4
      subst hv4
      have hmi : (m : Int) ≤ 255 := by omega
      have hLi : (L : Int) ≤ 1048576 := by omega
      obtain ⟨k0, k1, k2, k3⟩ := HCE.out wr hbel
      clear hor hon hok hsf hsf2 hx4 hxo hAn hAx hz hi0' hi1' hi2' hi3' hS hsln hslx hO hbel hM hac hs hrl hrd hr hn hb8 hw8
      obtain ⟨A, hA⟩ : ∃ A : Nat, A = 16777216 * y0 := ⟨_, rfl⟩
      obtain ⟨B, hB⟩ : ∃ A : Nat, A = 65536 * y1 := ⟨_, rfl⟩
      obtain ⟨C, hC⟩ : ∃ A : Nat, A = 256 * y2 := ⟨_, rfl⟩
      obtain ⟨P1, hP1⟩ : ∃ A : Nat, A = 2 ^ 24 * y0 + 65536 * y1 := ⟨_, rfl⟩
      obtain ⟨P2, hP2⟩ : ∃ A : Nat, A = 2 ^ 16 * (256 * y0 + y1) + 256 * y2 := ⟨_, rfl⟩
      obtain ⟨P3, hP3⟩ : ∃ A : Nat, A = ((y0 * 256 + y1) * 256 + y2) * 256 + y3 := ⟨_, rfl⟩
      have hw0 : IntKind.i64.wrap ((y0 : Int) * 16777216) = (A : Int) := by rw [hA, wrap_small _ (by omega) (by omega)]; omega
      have hw1 : IntKind.i64.wrap ((y1 : Int) * 65536) = (B : Int) := by rw [hB, wrap_small _ (by omega) (by omega)]; omega
      have hw2 : IntKind.i64.wrap ((y2 : Int) * 256) = (C : Int) := by rw [hC, wrap_small _ (by omega) (by omega)]; omega
      have hr1 : bits .or .i64 (A : Int) (B : Int) = (P1 : Int) := by
        rw [hA, hB, hP1]
        exact or_add 24 y0 (65536 * y1) (by omega) (by omega)
      have hr2 : bits .or .i64 (P1 : Int) (C : Int) = (P2 : Int) := by
        rw [hP1, hC, hP2, show 2 ^ 24 * y0 + 65536 * y1 = 2 ^ 16 * (256 * y0 + y1) by omega]
        exact or_add 16 (256 * y0 + y1) (256 * y2) (by omega) (by omega)
      have hr3 : bits .or .i64 (P2 : Int) (y3 : Int) = (P3 : Int) := by
        rw [hP2, hP3, show 2 ^ 16 * (256 * y0 + y1) + 256 * y2 = 2 ^ 8 * (65536 * y0 + 256 * y1 + y2) by omega, show ((y0 * 256 + y1) * 256 + y2) * 256 + y3 = 2 ^ 8 * (65536 * y0 + 256 * y1 + y2) + y3 by omega]
        exact or_add 8 (65536 * y0 + 256 * y1 + y2) y3 (by omega) (by omega)
      rw [← hP3] at HSF
      have HW0 : Hid (IntKind.i64.wrap ((y0 : Int) * 16777216) = (A : Int) ∧ IntKind.i64.wrap ((y1 : Int) * 65536) = (B : Int) ∧ IntKind.i64.wrap ((y2 : Int) * 256) = (C : Int) ∧ IntKind.i64.wrap (y0 : Int) = y0 ∧ IntKind.i64.wrap (y1 : Int) = y1 ∧ IntKind.i64.wrap (y2 : Int) = y2 ∧ IntKind.i64.wrap (y3 : Int) = y3) := ⟨hw0, hw1, hw2, wrap_small _ (by omega) (by omega), wrap_small _ (by omega) (by omega), wrap_small _ (by omega) (by omega), wrap_small _ (by omega) (by omega)⟩
      clear hA hB hC hP1 hP2 hP3 hw0 hw1 hw2
      go_wp2
      obtain ⟨hw0, hw1, hw2, hu0, hu1, hu2, hu3⟩ := HW0.out
      go_region_held3 (fun w' => w'.cell? ⟨p0, o0, none⟩ = some (.int .u8 (y0 : Int)) ∧ w'.cell? ⟨p1, o1, none⟩ = some (.int .u8 (y1 : Int)) ∧ w'.cell? ⟨p2, o2, none⟩ = some (.int .u8 (y2 : Int)) ∧ w'.cell? ⟨p3, o3, none⟩ = some (.int .u8 (y3 : Int)))
        (first | with_reducible exact HCE.out _ HB.out.1.drew | with_reducible exact HCE.out _ ((HB.out.1.alloc HB.out.1.size _).drew) | with_reducible exact HCE.out _ hbe3)
        ((refine step_append_lies _ (by rfl) _ _ _ (by rfl) w.heap.size 24 i3 _ 2 24 Try.underlying22 hi3 hz0 hz1 hz2 rfl (by omega) _ M (evs acc) (by rfl) (((by have := HB.out.2.1; rw [HM.out] at this; exact this : wr.ownsRow w.heap.size 24 2 (.slice a4 M c4) M (evs acc)).alloc _).drew) ⟨wr.heap.size, 0, none⟩ 1 1 [.string S, .int .i64 (P3 : Int)] (by rfl) (by rfl) (World.news_of_block (cs := #[.string S, .int .i64 (P3 : Int)]) (t := 24) (fr := (0, 0)) (heap_alloc_new wr _)) (by simp [Value.oneCell']) (by omega) (by unfold maxLen; omega) (by omega) (by have := HB.out.1.size; simp; omega) (wr.heap.size + 1) (by simp) ?_; intro g cap w3 hown3 hgrow3 hat hltg; have hbe3 : Below w.heap.size w w3 := ((HB.out.1.alloc HB.out.1.size _).drew).grown hgrow3 (by have := HB.out.1.size; simp; omega) (fun j hj => (HB.out.2.1.lt j hj).1)))
      have H3 : Hid (OwnE 24 w.heap.size w3 (.slice (some ⟨g, 0, none⟩) (M + 1) cap) (acc ++ [(S, (P3 : Int))]) ∧ Below w.heap.size w w3) := ⟨⟨by rw [List.length_append, HM.out, evs_append]; simpa [evs, ev] using hown3, HB.out.2.2.snoc HSF.out.2.1⟩, hbe3⟩
      clear hown3 hgrow3 hat hltg hbe3 hw0 hw1 hw2 hu0 hu1 hu2 hu3
      go_wp2
      go_roundw
      case rel => exact ⟨_, a + m + 5, by go_num, HSF.out.2.2.2, by rw [List.length_append]; have := HSF.out.2.2.1; simp; omega, HSF.out.1, H3.out.1, H3.out.2⟩
      case measure => simp [intOf]; have := HSF.out.2.2.2; omega

end Go.Proofs.Ythppbmbhoedphaa
