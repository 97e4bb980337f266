/-
  What lay does: octets laid over octets, as far as they meet.
  What Read answers.
-/
import Derived.Test.YtopcefhncildnaaGreatDoorZ15
import Derived.Deep.RegionLaw
set_option maxRecDepth 100000
set_option maxHeartbeats 4000000
namespace Go.Proofs.YtopcefhncildnaaGreatDoor.F
open Go.RowKit
def layL (a : List Int) (p : Nat) (l : List Int) (q : Nat) : List Int := (List.range a.length).map fun i => if q ≤ p + i ∧ p + i < q + l.length then l.getD (p + i - q) 0 else a.getD i 0
theorem layL_length (a : List Int) (p : Nat) (l : List Int) (q : Nat) : (layL a p l q).length = a.length := by simp [layL]
theorem layL_get (a : List Int) (p : Nat) (l : List Int) (q i : Nat) (h : i < a.length) : (layL a p l q).getD i 0 = if q ≤ p + i ∧ p + i < q + l.length then l.getD (p + i - q) 0 else a.getD i 0 := range_get _ _ _ _ h
theorem layL_none {a : List Int} {p : Nat} {l : List Int} {q : Nat} (h : min (p + a.length) (q + l.length) ≤ max p q) : layL a p l q = a :=
 alike (layL_length ..) fun i hi => by
   rw [layL_length] at hi
   rw [layL_get _ _ _ _ _ hi, if_neg (by omega)]
theorem layL_some {a : List Int} {p : Nat} {l : List Int} {q F T : Nat} (hF : F = max p q) (hT : T = min (p + a.length) (q + l.length)) (h : F < T) : layL a p l q = splice a (F - p) ((l.take (T - q)).drop (F - q)) := by
 have e : ((l.take (T - q)).drop (F - q)).length = T - F := by
   rw [part_length _ _ _ (by omega)]; omega
 have hle : F - p + ((l.take (T - q)).drop (F - q)).length ≤ a.length := by rw [e]; omega
 refine alike (by rw [layL_length, splice_length _ _ _ hle]) fun i hi => ?_
 rw [layL_length] at hi
 rw [layL_get _ _ _ _ _ hi, splice_get _ _ _ _ hle, e]
 by_cases hc : F - p ≤ i ∧ i < F - p + (T - F)
 · rw [if_pos hc, if_pos (by omega)]
   simp only [List.getD_eq_getElem?_getD, List.getElem?_drop, List.getElem?_take]
   rw [if_pos (by omega), show F - q + (i - (F - p)) = p + i - q by omega]
 · rw [if_neg hc, if_neg (by omega)]
theorem getD_oct {l : List Int} (h : Oct l) (i : Nat) : (Lit.int .u8 (l.getD i 0)).wf = true := by
 by_cases hi : i < l.length
 · simp only [List.getD_eq_getElem?_getD, List.getElem?_eq_getElem hi, Option.getD_some]
   exact h _ (List.getElem_mem hi)
 · rw [List.getD_eq_getElem?_getD, List.getElem?_eq_none (Nat.le_of_not_lt hi)]; decide
theorem wrap_in {x : Int} (h1 : -9223372036854775808 ≤ x) (h2 : x ≤ 9223372036854775807) : IntKind.i64.wrap x = x := by
 simp [IntKind.wrap, IntKind.bits, IntKind.signed]; omega
theorem lay_any (n0 g m p q : Nat) (v : Value) (a l : List Int) (w : World) (hm : a.length = m) (hg : w.heap[g]? = some (.cells (a.map (Value.int .u8)).toArray 5 (0, 0))) (h : Arg n0 w v l) (hp : p + m ≤ 100000) (hq : q + l.length ≤ 100000) :
   Calls Tryz.prog 102 #[.slice (some ⟨g, 0, none⟩) m m, .int .i64 p, v, .int .i64 q] w fun e w' => e = .returned (.tuple #[]) ∧ w'.heap[g]? = some (.cells ((layL a p l q).map (Value.int .u8)).toArray 5 (0, 0)) ∧ w.grownBy w' (some g) ∧ w'.heap.size = w.heap.size := by
 obtain ⟨x, cap, rfl, hcap, hlm, _⟩ := h.shape
 have hl1 := run_len Tryz.underlying25 (some ⟨g, 0, none⟩) m m
 have hl2 := run_len Tryz.underlying25 x l.length cap
 obtain ⟨F, hF⟩ := exa (max p q)
 obtain ⟨T, hT⟩ := exa (min (p + m) (q + l.length))
 have e1 : (if p < q then (q : Int) else (p : Int)) = (F : Int) := by split <;> omega
 have e2 : (if (q : Int) + (l.length : Int) < (p : Int) + (m : Int) then (q : Int) + (l.length : Int) else (p : Int) + (m : Int)) = (T : Int) := by split <;> omega
 have HFT : Hid (F = max p q ∧ T = min (p + m) (q + l.length)) := ⟨hF, hT⟩
 clear hF hT
 by_cases hlt : F < T
 case neg => (
 rw [layL_none (by have := HFT.out; omega)]
 have HG : Hid (w.heap[g]? = some (.cells (a.map (Value.int .u8)).toArray 5 (0, 0))) := hg
 clear hg h
 go_enter Tryz.func102, Tryz.ntmps102
 go_wp2
 go_end0
 exact ⟨rfl, HG.out, ⟨rfl, rfl, rfl, Nat.le_refl _, fun _ _ _ => rfl⟩, rfl⟩)
 have HF := HFT.out
 obtain ⟨v', hv', hcut⟩ := h.cut (F - q) (T - q) (by omega) (by omega)
 have hfp : (Instr.slice 25 (.slice (some ⟨g, 0, none⟩) m m) (some (.int .i64 (F - p : Nat))) (some (.int .i64 (T - p : Nat))) none).run Tryz.prog = fun W => .ok (.slice (some ⟨g, F - p, none⟩) (T - F) (m - (F - p))) W := by (
 funext W
 rw [run_slice_lh W 25 (some ⟨g, 0, none⟩) m m elem25 .i64 .i64 ((F - p : Nat) : Int) ((T - p : Nat) : Int) (by omega) (by omega) (by omega), size5]
 simp only [Result.andThen, sliced, Int.toNat_natCast]
 rw [if_neg (by omega), show T - p - (F - p) = T - F by omega]
 simp [add_plain])
 have hpart := part_length l (F - q) (T - q) (by omega)
 obtain ⟨W', hrun, hg', hgrow, hsz⟩ := run_copy_into w.drew g (F - p) (T - F) (m - (F - p)) v' _ (a.map (Value.int .u8)) 5 hg (hv'.keep (.drew _ _)) (by rw [hpart]; omega) (by rw [hpart, List.length_map]; omega)
 rw [splice_map, ← layL_some HF.1 (by rw [hm]; exact HF.2) hlt] at hg'
 have w1 : IntKind.i64.wrap ((F : Int) - (p : Int)) = ((F - p : Nat) : Int) := by rw [wrap_in (by omega) (by omega)]; omega
 have w2 : IntKind.i64.wrap ((T : Int) - (p : Int)) = ((T - p : Nat) : Int) := by rw [wrap_in (by omega) (by omega)]; omega
 have w3 : IntKind.i64.wrap ((F : Int) - (q : Int)) = ((F - q : Nat) : Int) := by rw [wrap_in (by omega) (by omega)]; omega
 have w4 : IntKind.i64.wrap ((T : Int) - (q : Int)) = ((T - q : Nat) : Int) := by rw [wrap_in (by omega) (by omega)]; omega
 have HW : Hid (W'.heap[g]? = some (.cells ((layL a p l q).map (Value.int .u8)).toArray 5 (0, 0)) ∧ w.grownBy W' (some g) ∧ W'.heap.size = w.heap.size) := ⟨hg', ⟨hgrow.os, hgrow.tape, hgrow.output, hgrow.size, hgrow.block⟩, hsz⟩
 have HWW : Hid (IntKind.i64.wrap ((F : Int) - (p : Int)) = ((F - p : Nat) : Int) ∧ IntKind.i64.wrap ((T : Int) - (p : Int)) = ((T - p : Nat) : Int) ∧ IntKind.i64.wrap ((F : Int) - (q : Int)) = ((F - q : Nat) : Int) ∧ IntKind.i64.wrap ((T : Int) - (q : Int)) = ((T - q : Nat) : Int)) := ⟨w1, w2, w3, w4⟩
 rw [hpart] at hrun
 clear hg h hv' hg' hgrow hsz HF HFT hpart w1 w2 w3 w4 hcap hlm
 go_enter Tryz.func102, Tryz.ntmps102
 go_wp2
 obtain ⟨w1, w2, w3, w4⟩ := HWW.out
 go_region_held3 (fun _ => True) (trivial) (fail)
 clear w1 w2 w3 w4
 go_end0
 exact ⟨rfl, HW.out⟩
end Go.Proofs.YtopcefhncildnaaGreatDoor.F
namespace Go.Proofs.YtopcefhncildnaaGreatDoor.F
open Go.RowKit
def rdE (f : Fl) (off n : Int) : Int := if chk f = false then 9 else if off < 0 ∨ n < 0 then 4 else 0
def rdL (t : List Int) (off n : Nat) : List Int := (List.range (min n (t.length - off))).map fun i => oc t (off + i)
def rdO (f : Fl) (off n : Int) : List Int := if rdE f off n = 0 then rdL (txt f) off.toNat n.toNat else []
def wnd (bs : List Bk) (off m : Nat) : List Int := (List.range m).map fun i => (bd bs ((off + i) / 32)).getD ((off + i) % 32) 0
theorem wnd_nil (off m : Nat) : wnd [] off m = List.replicate m 0 :=
 alike (by simp [wnd]) fun i hi => by (
 have hi' : i < m := by simpa [wnd] using hi
 unfold wnd
 rw [range_get _ _ _ _ hi', bd_none (fun p hp => by cases hp), zs_get]
 simp [hi'])
theorem wnd_snoc {l : List Bk} {j : Nat} {d : List Int} {off m : Nat} (h : ∀ p ∈ l, p.1 ≠ (j : Int)) (hd : d.length = 32) : layL (wnd l off m) off d (32 * j) = wnd (l ++ [((j : Int), d)]) off m := by
 have hl : (wnd l off m).length = m := by simp [wnd]
 refine alike (by rw [layL_length]; simp [wnd]) fun i hi => ?_
 rw [layL_length, hl] at hi
 rw [layL_get _ _ _ _ _ (by omega), hd]
 unfold wnd
 rw [range_get _ _ _ _ hi, range_get _ _ _ _ hi, bd_snoc h]
 by_cases hc : 32 * j ≤ off + i ∧ off + i < 32 * j + 32
 · rw [if_pos hc, if_pos (show ((j : Int) = (((off + i) / 32 : Nat) : Int)) by omega), show off + i - 32 * j = (off + i) % 32 by omega]
 · rw [if_neg hc, if_neg (show ¬ ((j : Int) = (((off + i) / 32 : Nat) : Int)) by omega)]
theorem rise_take {l : List Bk} (h : Rise l) {k : Nat} {p : Bk} (hp : l[k]? = some p) : ∀ q ∈ l.take k, q.1 ≠ p.1 := by
 intro q hq e
 obtain ⟨i, hi, rfl⟩ := List.mem_iff_getElem.1 hq
 obtain ⟨hk, hpk⟩ := List.getElem?_eq_some_iff.1 hp
 rw [List.length_take] at hi
 rw [List.getElem_take] at e
 have := List.pairwise_iff_getElem.1 h i k (by omega) hk (by omega)
 rw [hpk] at this
 omega
theorem make_row (W : World) (m : Nat) (hm : m ≤ 100000) : ∃ o, (Instr.makeSlice 25 (.int .i64 m) (.int .i64 m)).run Tryz.prog W = .ok (.slice (some ⟨W.heap.size, 0, none⟩) m m) (W.alloc o) ∧ o = .cells ((List.replicate m (0 : Int)).map (Value.int .u8)).toArray 5 (0, 0) := by
 refine ⟨_, run_make_row' (P := Tryz.prog) 25 5 (.int .u8 0) 1 Tryz.underlying25 Tryz.info5 rfl .i64 .i64 m (by omega) (by omega) W, ?_⟩
 congr 1
 apply Array.ext'
 rw [toList_madeCells_one]
 simp
theorem row_arg {w : World} {g base m : Nat} {l : List Int} (h : w.heap[g]? = some (.cells (l.map (Value.int .u8)).toArray 5 (0, 0))) (hb : base ≤ g) (hm : l.length = m) (h63 : m ≤ maxLen) (ho : Oct l) : Own1 base w (.slice (some ⟨g, 0, none⟩) m m) l :=
 .mk (by
   rw [hm]
   exact ⟨by simp [hm], .inr ⟨g, m, (l.map (Value.int .u8)).toArray, rfl, hb, h, Nat.le_refl _, h63, by simp [hm], by
     exact List.take_of_length_le (by show (l.map (Value.int .u8)).length ≤ m * 1; rw [List.length_map]; omega)⟩⟩) ho
theorem arg_nil (n : Nat) (w : World) : Arg n w (.slice none 0 0) [] := .mk ⟨by simp, .inl ⟨rfl, by simp⟩⟩ (fun _ h => by cases h)
theorem read_any (n0 : Nat) (us : List Value) (f : Fl) (off n : Int) (w : World) (h : flN.lies n0 w us f) (hoff : I64 off) (hn : I64 n) :
   Calls Tryz.prog 89 #[.agg us.toArray, .int .i64 off, .int .i64 n] w fun e w' => (∃ v, e = .returned (.tuple #[v, .int .i64 (rdE f off n)]) ∧ Arg w.heap.size w' v (rdO f off n)) ∧ Below w.heap.size w w' := by
 obtain ⟨W, hW⟩ := exa (w.alloc (.cells us.toArray 45))
 have hbW : Below w.heap.size w W := by rw [hW]; exact (Below.refl _ w).alloc (Nat.le_refl _) _
 have HC := check_any n0 us f W (flN.below h hbW)
 obtain ⟨a, c, rfl, hL, hi, hm⟩ := fl_viewN h
 obtain ⟨s, l⟩ := f
 simp only at hL hi hm HC hW ⊢
 unfold maxLen at hm
 unfold I64 at hoff hn
 have hP : Box W w.heap.size 45 #[.int .i64 s, .slice a l.length c] := by rw [hW]; exact Box.new _ _ _
 obtain ⟨g0, g1, _, _⟩ := hP.two
 have HP : Hid (Below w.heap.size w W ∧ Box W w.heap.size 45 #[.int .i64 s, .slice a l.length c]) := ⟨hbW, hP⟩
 have HL : Hid (bksN.lies n0 w [.slice a l.length c] l) := hL
 rw [hW] at g0 g1
 clear h hL hP hbW hi
 cases hck : chk (s, l)
 case false => (
 rw [show cerr (s, l) = 9 by unfold cerr; rw [hck]; rfl] at HC
 have e1 : rdE (s, l) off n = 9 := if_pos hck
 have e2 : rdO (s, l) off n = [] := if_neg (by rw [e1]; omega)
 rw [e1, e2]
 go_enter Tryz.func89, Tryz.ntmps89
 go_wp2_with fail
 rw [← hW]
 clear hW
 refine HC.mono ?_
 rintro e w1 ⟨rfl, hb1⟩
 go_wp2
 go_ret2
 exact ⟨⟨_, rfl, arg_nil _ _⟩, below_any HP.out.1 hb1⟩)
 rw [show cerr (s, l) = 0 by unfold cerr; rw [hck]; rfl] at HC
 obtain ⟨hs, hkeys, hrise⟩ := chk_iff.1 hck
 simp only at hs hkeys hrise
 by_cases ho0 : off < 0
 · have e1 : rdE (s, l) off n = 4 := by unfold rdE; rw [if_neg (by rw [hck]; simp), if_pos (.inl ho0)]
   have e2 : rdO (s, l) off n = [] := if_neg (by rw [e1]; omega)
   rw [e1, e2]
   go_enter Tryz.func89, Tryz.ntmps89
   go_wp2_with fail
   rw [← hW]
   clear hW
   refine HC.mono ?_
   rintro e w1 ⟨rfl, hb1⟩
   go_wp2
   go_ret2
   exact ⟨⟨_, rfl, arg_nil _ _⟩, below_any HP.out.1 hb1⟩
 by_cases hn0 : n < 0
 · have e1 : rdE (s, l) off n = 4 := by unfold rdE; rw [if_neg (by rw [hck]; simp), if_pos (.inr hn0)]
   have e2 : rdO (s, l) off n = [] := if_neg (by rw [e1]; omega)
   rw [e1, e2]
   go_enter Tryz.func89, Tryz.ntmps89
   go_wp2_with fail
   rw [← hW]
   clear hW
   refine HC.mono ?_
   rintro e w1 ⟨rfl, hb1⟩
   go_wp2
   go_ret2
   exact ⟨⟨_, rfl, arg_nil _ _⟩, below_any HP.out.1 hb1⟩
 have e1 : rdE (s, l) off n = 0 := by unfold rdE; rw [if_neg (by rw [hck]; simp), if_neg (by omega)]
 have e2 : rdO (s, l) off n = rdL (txt (s, l)) off.toNat n.toNat := if_pos e1
 rw [e1, e2]
 by_cases hos : s ≤ off
 · have e3 : rdL (txt (s, l)) off.toNat n.toNat = [] := by
     unfold rdL
     rw [txt_length, show min n.toNat (s.toNat - off.toNat) = 0 by omega]
     rfl
   rw [e3]
   go_enter Tryz.func89, Tryz.ntmps89
   go_wp2_with fail
   rw [← hW]
   clear hW
   refine HC.mono ?_
   rintro e w1 ⟨rfl, hb1⟩
   obtain ⟨t0, t1, _, _⟩ := (HP.out.2.below hb1 HP.out.2.lt).two
   go_wp2
   go_ret2
   exact ⟨⟨_, rfl, arg_nil _ _⟩, below_any HP.out.1 hb1⟩
 obtain ⟨p, rfl⟩ : ∃ p : Nat, off = p := ⟨off.toNat, by omega⟩
 obtain ⟨m, hmm⟩ : ∃ m : Nat, m = min n.toNat (s.toNat - p) := ⟨_, rfl⟩
 have hmin : (if s - (p : Int) < n then s - (p : Int) else n) = (m : Int) := by split <;> omega
 have hpm : p + m ≤ 2432 := by omega
 have HRD : Hid (rdL (txt (s, l)) p n.toNat = wnd l p m) := by (
 show _ = _
 refine alike (by simp only [rdL, wnd, List.length_map, List.length_range, txt_length]; exact hmm.symm) fun i hi => ?_
 have hi' : i < m := by
   simp only [rdL, List.length_map, List.length_range, txt_length] at hi
   rw [hmm]; exact hi
 unfold rdL wnd
 rw [txt_length, ← show m = min n.toNat ((s, l).1.toNat - p) from hmm, range_get _ _ _ _ hi', range_get _ _ _ _ hi', txt_get hck]
 rfl)
 rw [Int.toNat_natCast]
 obtain ⟨q, hq⟩ := exa (rdL (txt (s, l)) p n.toNat)
 rw [← hq] at HRD ⊢
 have HK : Hid ((∀ b ∈ l, 0 ≤ b.1 ∧ b.1 < 76 ∧ b.2.length = 32) ∧ Rise l) := ⟨fun b hb => chk_key hck hb, hrise⟩
 obtain ⟨ln, hln⟩ := exa (l.length)
 have HN : Hid (ln = l.length) := hln
 rw [← hln] at hW g0 g1 HP HL HC hm ⊢
 have hl1 := run_len Tryz.underlying43 a ln c
 clear hmm hq hck hkeys hrise e1 e2 hln
 go_enter Tryz.func89, Tryz.ntmps89
 go_wp2_with fail
 rw [← hW]
 clear hW g0 g1
 refine HC.mono ?_
 rintro e w1 ⟨rfl, hb1⟩
 obtain ⟨t0, t1, _, _⟩ := (HP.out.2.below hb1 HP.out.2.lt).two
 obtain ⟨o, hmk, ho⟩ := make_row w1 m (by omega)
 have HB1 : Hid (Below w.heap.size w w1 ∧ w.heap.size < w1.heap.size ∧ Box w1 w.heap.size 45 #[.int .i64 s, .slice a ln c]) := ⟨below_any HP.out.1 hb1, by have := HP.out.2.lt; have := hb1.size; omega, HP.out.2.below hb1 HP.out.2.lt⟩
 have HO : Hid (o = .cells ((List.replicate m (0 : Int)).map (Value.int .u8)).toArray 5 (0, 0)) := ho
 obtain ⟨u0, u1, _, _⟩ := (HB1.out.2.2.alloc o).two
 clear hb1 HC ho
 go_wp2
 go_loopw [37] (fun i wr => ∃ k : Nat, k ≤ ln ∧ i = .int .i64 k ∧ Below w.heap.size w wr ∧ wr.heap[w1.heap.size]? = some (.cells ((wnd (l.take k) p m).map (Value.int .u8)).toArray 5 (0, 0))) (fun i _ => ln - (intOf i).toNat)
 case atStart => (
 refine ⟨0, Nat.zero_le _, rfl, HB1.out.1.alloc HB1.out.1.size _, ?_⟩
 rw [HO.out, List.take_zero, wnd_nil]
 exact heap_alloc_new w1 _)
 case round => (
 obtain ⟨k, hk, rfl, hbel, hrow⟩ := hrel
 by_cases hlt : k < ln
 · obtain ⟨b, hb⟩ := get_lt (l := l) (k := k) (by rw [← HN.out]; exact hlt)
   obtain ⟨bb, bo, x, cap, hix, v0, v1, hA, hpi, _⟩ := bks_atN (bksN.below HL.out hbel) k b hb
   obtain ⟨hk0, hk1, hk2⟩ := HK.out.1 b (List.mem_of_getElem? hb)
   have HT : Hid (∀ j : Nat, b.1 = j → layL (wnd (l.take k) p m) p b.2 (32 * j) = wnd (l.take (k + 1)) p m) := fun j hj => by
     rw [take_snoc hb, wnd_snoc (j := j) (fun q hq => by rw [← hj]; exact rise_take HK.out.2 hb q hq) hk2, ← hj]
   obtain ⟨bi, bdt⟩ := b
   simp only at v0 v1 hA hk0 hk1 hk2 HT
   obtain ⟨j, rfl⟩ : ∃ j : Nat, bi = j := ⟨bi.toNat, by omega⟩
   obtain ⟨W2, hW2⟩ := exa (wr.alloc (.cells #[.int .i64 (j : Int), .slice x bdt.length cap] 51))
   have hb2 : Below wr.heap.size wr W2 := by rw [hW2]; exact (Below.refl _ _).alloc (Nat.le_refl _) _
   have hP2 : Box W2 wr.heap.size 51 #[.int .i64 (j : Int), .slice x bdt.length cap] := by rw [hW2]; exact Box.new _ _ _
   have hrow2 : W2.heap[w1.heap.size]? = some (.cells ((wnd (l.take k) p m).map (Value.int .u8)).toArray 5 (0, 0)) := by rw [hb2.block _ (Array.getElem?_eq_some_iff.1 hrow).1]; exact hrow
   have HS := start_any j W2.drew (by omega)
   have HY := lay_any n0 w1.heap.size m p (32 * j) (.slice x bdt.length cap) (wnd (l.take k) p m) bdt W2.drew (by simp [wnd]) hrow2 ((hA.below hb2).keep (.drew _ _)) (by omega) (by omega)
   rw [HT.out j rfl] at HY
   have HBB : Hid (Below w.heap.size w W2) := below_any hbel hb2
   have HLT : Hid (w.heap.size < w1.heap.size ∧ w1.heap.size < wr.heap.size) := ⟨HB1.out.2.1, (Array.getElem?_eq_some_iff.1 hrow).1⟩
   obtain ⟨r0, r1, _, _⟩ := hP2.two
   have hki : (k : Int) < (ln : Int) := by omega
   have hj32 : ((32 * j : Nat) : Int) = 32 * (j : Int) := by omega
   rw [hj32] at HY
   obtain ⟨bl, hbl⟩ := exa (bdt.length)
   rw [← hbl] at hW2 v1 r1 HY
   clear hA hrow hrow2 hbel hb hP2 hb2 HT hbl
   go_wp2
   rw [← hW2]
   clear hW2 v0 v1
   go_region_held3 (fun V => V.cell? ⟨wr.heap.size, 0, none⟩ = some (.int .i64 (j : Int)) ∧ V.cell? ⟨wr.heap.size, 1, none⟩ = some (.slice x bl cap)) (first | exact ⟨r0, r1⟩ | exact ⟨z0, z1⟩)
     ((first | (go_simp; with_reducible refine Calls.mono HS ?_; rintro e w2 ⟨rfl, rfl⟩) | (go_simp; refine HY.mono ?_; rintro e w2 ⟨rfl, hr2, hg2, hs2⟩; have z0 := hg2.cell (a := ⟨wr.heap.size, 0, none⟩) r0 (by simp; have := HLT.out; omega); have z1 := hg2.cell (a := ⟨wr.heap.size, 1, none⟩) r1 (by simp; have := HLT.out; omega))))
   have HR2 : Hid (Below w.heap.size w w2 ∧ w2.heap[w1.heap.size]? = some (.cells ((wnd (l.take (k + 1)) p m).map (Value.int .u8)).toArray 5 (0, 0))) := ⟨HBB.out.drew.grown hg2 HBB.out.size (fun i hi => by cases hi; have := HLT.out; omega), hr2⟩
   clear hr2 hg2 hs2 z0 z1 r0 r1 HS HY
   go_wp2
   go_roundw
   case rel => exact ⟨k + 1, by omega, by go_num, HR2.out.1, HR2.out.2⟩
   case measure => simp [intOf]; omega
 · obtain rfl : k = ln := by omega
   have HR : Hid (wr.heap[w1.heap.size]? = some (.cells ((wnd l p m).map (Value.int .u8)).toArray 5 (0, 0))) := by (
 show _ = _
 rw [hrow, HN.out, List.take_length])
   have HWO : Hid (Oct (wnd l p m)) := fun y hy => by (
 obtain ⟨i, hi, rfl⟩ := List.mem_map.1 hy
 unfold bd
 cases hf : l.find? fun b => b.1 == (((p + i) / 32 : Nat) : Int) with
 | none => exact getD_oct zs_oct _
 | some b => (
 obtain ⟨i2, hi2⟩ := List.getElem?_of_mem (List.mem_of_find?_eq_some hf)
 obtain ⟨_, _, _, _, _, _, _, hA, _⟩ := bks_atN HL.out i2 b hi2
 exact getD_oct hA.oct _))
   clear hrow
   go_wp2
   go_ret2
   refine ⟨⟨_, rfl, ?_⟩, hbel⟩
   rw [HRD.out]
   exact (row_arg HR.out (by have := HB1.out.2.1; omega) (by simp [wnd]) (by unfold maxLen; omega) HWO.out).arg)
end Go.Proofs.YtopcefhncildnaaGreatDoor.F
