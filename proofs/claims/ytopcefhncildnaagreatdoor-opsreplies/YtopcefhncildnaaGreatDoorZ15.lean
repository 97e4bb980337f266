/-
  What mayStand and Check answer.
  What Check answers.
-/
import Derived.Test.YtopcefhncildnaaGreatDoorZ12
import Derived.Deep.RegionHeld3
set_option maxRecDepth 100000
set_option maxHeartbeats 4000000
namespace Go.Proofs.YtopcefhncildnaaGreatDoor.F
open Go.RowKit
theorem quiet_still {f : FuncId} {args : Array Value} {w : World} {n : Nat} {v : Value} (h : Calls Tryz.prog f args (w.drewN n) fun e w' => e = .returned v ∧ w.drewN n = w') : Calls Tryz.prog f args (w.drewN n) fun e w'' => e = .returned v ∧ ∃ m, w'' = w.drewN m :=
 h.mono fun _ _ ⟨he, hm⟩ => ⟨he, n, hm.symm⟩
theorem stand_any (n0 : Nat) (a : Option Addr) (cap : Nat) (x : Int) (d : List Int) (s : Int) (w : World) (hx : 0 ≤ x ∧ x ≤ 1000) (hs : 0 ≤ s ∧ s ≤ 100000) (h : Arg n0 w (.slice a d.length cap) d) :
   Calls Tryz.prog 167 #[.agg #[.int .i64 x, .slice a d.length cap], .int .i64 s] w fun e w' => e = .returned (.bool (stand (x, d) s)) ∧ Below w.heap.size w w' := by
 obtain ⟨W, hW⟩ := exa (w.alloc (.cells #[.int .i64 x, .slice a d.length cap] 51))
 have hb : Below w.heap.size w W := by rw [hW]; exact (Below.refl _ w).alloc (Nat.le_refl _) _
 have hP : Box W w.heap.size 51 #[.int .i64 x, .slice a d.length cap] := by rw [hW]; exact Box.new w 51 _
 have hA : Arg n0 W (.slice a d.length cap) d := h.below hb
 have HZ : ∀ r, Calls Tryz.prog 168 #[.slice a d.length cap] (W.drewN r) fun e w' => e = .returned (.bool (isz d)) ∧ W.drewN r = w' := fun r => zero_any n0 _ d (W.drewN r) (hA.below (below_drewN (Below.refl _ _) r))
 have HI : ∀ r, Calls Tryz.prog 234 #[.int .i64 x, .int .i64 s] (W.drewN r) fun e w' => e = .returned (.int .i64 (ins x s)) ∧ W.drewN r = w' := fun r => inside_any x s (W.drewN r) hx hs
 have hin : ins x s ≤ 32 := by unfold ins; omega
 obtain ⟨st, hst⟩ := exa (stand (x, d) s)
 have HST : Hid (st = (decide (d.length = 32) && !isz d && isz (d.drop (ins x s)))) := hst
 have hl1 := run_len Tryz.underlying25 a d.length cap
 obtain ⟨g0, g1, _, _⟩ := hP.two
 have HB : Hid (∀ r, Below w.heap.size w (W.drewN r)) := fun r => below_drewN hb r
 rw [← hst]
 clear hst h hb hP
 by_cases h32 : d.length = 32
 case neg => (
 obtain rfl : st = false := by rw [HST.out]; simp [h32]
 have hne : ¬ (d.length : Int) = 32 := by omega
 clear HZ HI hA HST h32
 go_enter Tryz.func167, Tryz.ntmps167
 go_wp2
 rw [← hW]
 clear hW
 go_quiet (fail)
 go_wp2
 go_ret
 exact ⟨rfl, HB.out _⟩)
 have he : (d.length : Int) = 32 := by omega
 obtain ⟨v', hv', hcut⟩ := hA.behind (ins x s) (by omega)
 have HZ2 : ∀ r, Calls Tryz.prog 168 #[v'] (W.drewN r) fun e w' => e = .returned (.bool (isz (d.drop (ins x s)))) ∧ W.drewN r = w' := fun r => zero_any n0 _ _ (W.drewN r) (hv'.below (below_drewN (Below.refl _ _) r))
 obtain ⟨z1, hz1⟩ := exa (isz d)
 obtain ⟨z2, hz2⟩ := exa (isz (d.drop (ins x s)))
 obtain ⟨i, hi⟩ := exa (ins x s)
 rw [← hz1] at HZ
 rw [← hz2] at HZ2
 rw [← hi] at HI hcut
 rw [h32, ← hz1, ← hz2] at HST
 rw [h32] at hW hl1 g1 HZ hcut ⊢
 clear hz1 hz2 hi hA hv'
 cases z1
 case true => (
 obtain rfl : st = false := by rw [HST.out]; rfl
 go_enter Tryz.func167, Tryz.ntmps167
 go_wp2
 rw [← hW]
 clear hW
 go_quiet ((go_at_call 168; exact quiet_still (HZ _)))
 go_wp2
 go_ret
 exact ⟨rfl, HB.out _⟩)
 case false => (
 obtain rfl : st = z2 := by rw [HST.out]; rfl
 go_enter Tryz.func167, Tryz.ntmps167
 go_wp2
 rw [← hW]
 clear hW
 go_quiet ((first | (go_at_call 168; with_reducible exact quiet_still (HZ _)) | (go_at_call 168; with_reducible exact quiet_still (HZ2 _)) | (go_at_call 234; exact quiet_still (HI _))))
 go_wp2
 go_ret
 exact ⟨rfl, HB.out _⟩)
end Go.Proofs.YtopcefhncildnaaGreatDoor.F
namespace Go.Proofs.YtopcefhncildnaaGreatDoor.F
open Go.RowKit
theorem check_any (n0 : Nat) (us : List Value) (f : Fl) (w : World) (h : flN.lies n0 w us f) :
   Calls Tryz.prog 98 #[.agg us.toArray] w fun e w' => e = .returned (.int .i64 (cerr f)) ∧ Below w.heap.size w w' := by
 obtain ⟨a, c, rfl, hL, hi, hm⟩ := fl_viewN h
 obtain ⟨s, l⟩ := f
 simp only at hL hi hm
 unfold maxLen at hm
 have HC : Hid (cerr (s, l) = if (decide (0 ≤ s ∧ s ≤ 2432) && okB s 0 l) = true then 0 else 9) := rfl
 obtain ⟨ce, hce⟩ := exa (cerr (s, l))
 rw [← hce] at HC ⊢
 have HB : Hid (flN.lies n0 w [.int .i64 s, .slice a l.length c] (s, l)) := h
 have HBL := blocks_any s
 obtain ⟨n, hn⟩ := exa (l.length)
 simp only
 rw [← hn] at hm HB hL ⊢
 have hl1 := run_len Tryz.underlying43 a n c
 have HN : Hid (n = l.length) := hn
 have HW : Hid (Below w.heap.size w (w.alloc (.cells #[.int .i64 s, .slice a n c] 45))) := (Below.refl _ w).alloc (Nat.le_refl _) _
 have HI : Hid (bksN.lies n0 w [.slice a n c] l ∧ I64 s) := ⟨hL, hi⟩
 clear h hL hce hn
 by_cases hs : 0 ≤ s ∧ s ≤ 2432
 case neg => (
 obtain rfl : ce = 9 := by rw [HC.out]; simp [hs]
 have he : blkE s ≠ 0 := by unfold blkE; split; omega; split <;> omega
 have HE := HBL (w.alloc (.cells #[.int .i64 s, .slice a n c] 45)) HI.out.2
 obtain ⟨b1, hb1⟩ := exa (blkV s)
 obtain ⟨b2, hb2⟩ := exa (blkM s)
 obtain ⟨b3, hb3⟩ := exa (blkE s)
 rw [← hb1, ← hb2, ← hb3] at HE
 rw [← hb3] at he
 clear HBL hb1 hb2 hb3 hs
 go_enter Tryz.func98, Tryz.ntmps98
 go_wp2_with fail
 refine HE.mono ?_
 rintro e w1 ⟨rfl, rfl⟩
 go_wp2
 go_ret
 exact ⟨rfl, HW.out⟩)
 obtain ⟨e1, e2, e3⟩ := blk_in hs
 have HE := HBL (w.alloc (.cells #[.int .i64 s, .slice a n c] 45)) HI.out.2
 rw [e1, e2, e3] at HE
 have hN := blkN_in hs
 have HC2 : Hid (ce = if okB s 0 l = true then 0 else 9) := by (
 have := HC.out
 rw [decide_eq_true hs, Bool.true_and] at this
 exact this)
 have HOK : Hid (∀ next k p, l[k]? = some p → okB s next (l.drop k) = (decide (next ≤ p.1) && decide (p.1 < blkN s) && stand p s && okB s (p.1 + 1) (l.drop (k + 1)))) := fun next k p hp => by (
 obtain ⟨h1, h2⟩ := List.getElem?_eq_some_iff.1 hp
 rw [List.drop_eq_getElem_cons h1, h2]
 rfl)
 have HND : Hid (∀ next, okB s next (l.drop n) = true) := fun next => by rw [HN.out, List.drop_length]; rfl
 obtain ⟨m, hmm⟩ := exa (indM (blkN s))
 obtain ⟨N, hNN⟩ := exa (blkN s)
 rw [← hNN] at HE hN HOK hmm
 rw [← hmm] at HE
 clear HBL HC e1 e2 e3 hmm hNN
 go_enter Tryz.func98, Tryz.ntmps98
 go_wp2_with fail
 refine HE.mono ?_
 rintro e w1 ⟨rfl, rfl⟩
 clear HE
 go_wp2
 go_loopw [6, 21] (fun x i wr => ∃ (k : Nat) (next : Int), k ≤ n ∧ i = .int .i64 k ∧ x = .int .i64 next ∧ 0 ≤ next ∧ next ≤ 76 ∧ Hid (okB s 0 l = okB s next (l.drop k)) ∧ Below w.heap.size w wr ∧ Box wr w.heap.size 45 #[.int .i64 s, .slice a n c]) (fun _ i _ => n - (intOf i).toNat)
 case atStart => exact ⟨0, 0, Nat.zero_le _, rfl, rfl, by omega, by omega, rfl, HW.out, Box.new _ _ _⟩
 case round => (
 obtain ⟨k, next, hk, rfl, rfl, hx0, hx1, HK, hbel, hbx⟩ := hrel
 by_cases hlt : k < n
 · obtain ⟨p, hp⟩ := get_lt (l := l) (k := k) (by rw [← HN.out]; exact hlt)
   obtain ⟨b, o, x, cap, hix, g0, g1, hA, hpi, _⟩ := bks_atN (bksN.below HI.out.1 hbel) k p hp
   have HO := HOK.out next k p hp
   obtain ⟨W, hW⟩ := exa (wr.alloc (.cells #[.int .i64 p.1, .slice x p.2.length cap] 51))
   have hbW : Below wr.heap.size wr W := by rw [hW]; exact (Below.refl _ _).alloc (Nat.le_refl _) _
   have hAW : Arg n0 W (.slice x p.2.length cap) p.2 := hA.below hbW
   obtain ⟨q0, q1, _, _⟩ := (hbx.below hbW hbx.lt).two
   have HBW : Hid (Below w.heap.size w W ∧ Box W w.heap.size 45 #[.int .i64 s, .slice a n c]) := ⟨below_any hbel hbW, hbx.below hbW hbx.lt⟩
   have hP : Box W wr.heap.size 51 #[.int .i64 p.1, .slice x p.2.length cap] := by rw [hW]; exact Box.new _ _ _
   obtain ⟨r0, r1, _, _⟩ := hP.two
   obtain ⟨pi, pd⟩ := p
   simp only at g0 g1 HO hW hAW hpi r0 r1 hP
   unfold I64 at hpi
   have hki : (k : Int) < (n : Int) := by omega
   by_cases h1 : next ≤ pi
   case neg => (
 obtain rfl : ce = 9 := by rw [HC2.out, HK.out, HO]; simp [h1]
 rw [hW] at HBW
 clear hA hAW hp HO hbW q0 q1 hbel hbx r0 r1 hW hP
 go_wp2
 go_ret
 exact ⟨rfl, HBW.out.1⟩)
   by_cases h2 : pi < N
   case neg => (
 obtain rfl : ce = 9 := by rw [HC2.out, HK.out, HO]; simp [h2]
 rw [hW] at HBW
 clear hA hAW hp HO hbW q0 q1 hbel hbx r0 r1 hW hP
 go_wp2
 go_ret
 exact ⟨rfl, HBW.out.1⟩)
   have HS := stand_any n0 x cap pi pd s W (by omega) (by omega) hAW
   rw [decide_eq_true h1, decide_eq_true h2] at HO
   obtain ⟨len, hlen⟩ := exa (pd.length)
   rw [← hlen] at hW g1 r1 HS hP
   have HOH : Hid (okB s next (l.drop k) = (true && true && stand (pi, pd) s && okB s (pi + 1) (l.drop (k + 1)))) := HO
   clear hA hAW hp hbW hlen hbel hbx HO
   rw [hW] at q0 q1 r0 r1
   cases hst : stand (pi, pd) s
   case false => (
 rw [hst] at HS
 obtain rfl : ce = 9 := by rw [HC2.out, HK.out, HOH.out, hst]; rfl
 go_wp2_with fail
 rw [← hW]
 clear hW
 refine HS.mono ?_
 rintro e w2 ⟨rfl, hb2⟩
 go_wp2
 go_ret
 exact ⟨rfl, below_any HBW.out.1 hb2⟩)
   case true => (
 rw [hst] at HS
 go_wp2_with fail
 rw [← hW]
 refine HS.mono ?_
 rintro e w2 ⟨rfl, hb2⟩
 obtain ⟨t0, t1, _, _⟩ := (hP.below hb2 hP.lt).two
 have HB2 : Hid (Below w.heap.size w w2 ∧ Box w2 w.heap.size 45 #[.int .i64 s, .slice a n c]) := ⟨below_any HBW.out.1 hb2, HBW.out.2.below hb2 HBW.out.2.lt⟩
 have HK2 : Hid (okB s 0 l = okB s (pi + 1) (l.drop (k + 1))) := by
   show _ = _
   rw [HK.out, HOH.out, hst]; simp
 clear hb2 hP HS hst hW q0 q1 r0 r1 g0 g1
 go_wp2
 go_roundw
 case rel => exact ⟨k + 1, pi + 1, by omega, by go_num, by go_num, by omega, by omega, HK2, HB2.out.1, HB2.out.2⟩
 case measure => simp [intOf]; omega)
 · obtain rfl : k = n := by omega
   obtain rfl : ce = 0 := by rw [HC2.out, HK.out, HND.out]; rfl
   go_wp2
   go_ret
   exact ⟨rfl, hbel⟩)
end Go.Proofs.YtopcefhncildnaaGreatDoor.F
