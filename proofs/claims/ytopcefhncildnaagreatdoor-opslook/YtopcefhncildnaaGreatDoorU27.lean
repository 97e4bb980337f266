/-
  What clear does to the end of a row of octets.
  What Truncate makes of a file.
-/
import Derived.Test.YtopcefhncildnaaGreatDoorU25
import Derived.Laws.IdiomCopy
set_option maxRecDepth 100000
set_option maxHeartbeats 4000000
namespace Go.Proofs.YtopcefhncildnaaGreatDoor.F
open Go.RowKit
def sets : Array Value → Nat → List Value → Array Value
 | cs, _, [] => cs
 | cs, o, v :: r => sets (cs.setIfInBounds o v) (o + 1) r
theorem sets_size : ∀ (vs : List Value) (cs : Array Value) (o : Nat), (sets cs o vs).size = cs.size
 | [], _, _ => rfl
 | v :: r, cs, o => by rw [sets, sets_size r]; simp
theorem sets_get : ∀ (vs : List Value) (cs : Array Value) (o i : Nat), o + vs.length ≤ cs.size → (sets cs o vs)[i]? = if o ≤ i ∧ i < o + vs.length then vs[i - o]? else cs[i]?
 | [], cs, o, i, _ => by rw [sets, if_neg (by simp)]
 | v :: r, cs, o, i, h => by (
 simp only [List.length_cons] at h
 rw [sets, sets_get r _ (o + 1) i (by simp; omega), Array.getElem?_setIfInBounds]
 simp only [List.length_cons]
 by_cases h1 : o + 1 ≤ i ∧ i < o + 1 + r.length
 · rw [if_pos h1, if_pos (by omega), show i - o = (i - (o + 1)) + 1 by omega]
   simp
 · rw [if_neg h1]
   by_cases h2 : o = i
   · subst h2
     rw [if_pos rfl, if_pos (by omega), if_pos (by omega)]
     simp
   · rw [if_neg h2, if_neg (by omega)])
end Go.Proofs.YtopcefhncildnaaGreatDoor.F
namespace Go.Proofs.YtopcefhncildnaaGreatDoor
open Go.RowKit
open F
theorem Box.setCells {t : TypeId} {B : Nat} : ∀ (vs : List Value) (o : Nat) {w : World} {cs : Array Value}, Box w B t cs → Box (w.setCells B o vs) B t (sets cs o vs)
 | [], _, _, _, h => h
 | v :: r, o, _, _, h => Box.setCells r (o + 1) (h.set o v)
end Go.Proofs.YtopcefhncildnaaGreatDoor
namespace Go.Proofs.YtopcefhncildnaaGreatDoor.F
open Go.RowKit
theorem grown_setCells {B : Nat} : ∀ (vs : List Value) (o : Nat) (w : World), w.grownBy (w.setCells B o vs) (some B)
 | [], _, _ => ⟨rfl, rfl, rfl, Nat.le_refl _, fun _ _ _ => rfl⟩
 | v :: r, o, w => (grown_set w B o v).trans (grown_setCells r (o + 1) _)
theorem zero_cells (k : Nat) : (Builtin.zeroCells (Value.int .u8 0).cells k).toList = List.replicate k (.int .u8 0) := by
 apply List.ext_getElem?
 intro i
 by_cases h : i < k
 · simp [Builtin.zeroCells, Value.cells, h, Nat.mod_one]
 · simp [Builtin.zeroCells, Value.cells, h]
theorem run_clear (w : World) (ty : TypeId) (g m : Nat) (l : List Int) (h : Row w g l) (hm : m ≤ 32) :
   ∃ a n c W', (∀ W, (Instr.slice 25 (rowV g) (some (.int .i64 m)) none none).run Tryz.prog W = .ok (.slice a n c) W) ∧ (Builtin.clear_ #[25] ty #[.slice a n c]).run Tryz.prog w = .ok (.tuple #[]) W' ∧ Row W' g (clr l m) ∧ w.grownBy W' (some g) := by
 have hl := h.2.1
 by_cases e : m = 32
 · subst e
   refine ⟨some ⟨g, 0, none⟩, 0, 0, w, fun W => ?_, ?_, ?_, ⟨rfl, rfl, rfl, Nat.le_refl _, fun _ _ _ => rfl⟩⟩
   · unfold rowV
     rw [run_slice_l W 25 (some ⟨g, 0, none⟩) 32 32 elem25 .i64 _ (by omega) (by omega), size5]
     simp [Result.andThen, sliced]
   · simp [Builtin.clear_, run_underlying Tryz.underlying25]
   · rw [show clr l 32 = l from alike (clr_length _ _) fun i hi => by
       rw [clr_length] at hi
       rw [clr_get _ _ _ hi, if_pos (by omega)]]
     exact h
 · have hst := run_storeCells_cells (P := Tryz.prog) g m (List.replicate (32 - m) (.int .u8 0)) 0 w (fun j hj => by
       rw [List.length_replicate] at hj
       have : w.cell? ⟨g, m + j, none⟩ = some (.int .u8 (l.getD (m + j) 0)) := by (
 have hx : (l.map (Value.int .u8))[m + j]? = some (.int .u8 (l.getD (m + j) 0)) := by
   have : m + j < l.length := by omega
   simp [this]
 simp [World.cell?, h.1, hx])
       simp [this]) (fun j _ => by simp [World.frozen?, h.1]) (fun v hv => by rw [(List.mem_replicate.1 hv).2]; rfl)
   simp only [Nat.add_zero] at hst
   refine ⟨some ⟨g, m, none⟩, 32 - m, 32 - m, w.setCells g m (List.replicate (32 - m) (.int .u8 0)), fun W => ?_, ?_, ⟨?_, by rw [clr_length]; exact hl, clr_oct h.2.2 _⟩, grown_setCells _ _ _⟩
   · unfold rowV
     rw [run_slice_l W 25 (some ⟨g, 0, none⟩) 32 32 elem25 .i64 _ (by omega) (by omega), size5]
     simp only [Result.andThen, sliced, Int.toNat_natCast]
     rw [if_neg (by omega)]
     simp [add_plain]
   · obtain ⟨k, hk⟩ : ∃ k, 32 - m = k + 1 := ⟨31 - m, by omega⟩
     rw [hk] at hst ⊢
     simp [Builtin.clear_, run_underlying Tryz.underlying25, zero_cells, hst]
   · have hbx := Box.setCells (t := 5) (B := g) (List.replicate (32 - m) (.int .u8 0)) m (w := w) (cs := (l.map (Value.int .u8)).toArray) h.1
     have : sets (l.map (Value.int .u8)).toArray m (List.replicate (32 - m) (.int .u8 0)) = ((clr l m).map (Value.int .u8)).toArray := by (
 apply Array.ext'
 apply List.ext_getElem?
 intro i
 rw [Array.getElem?_toList, sets_get _ _ _ _ (by simp; omega), List.length_replicate]
 by_cases hi : i < 32
 · have hc : (clr l m)[i]? = some ((clr l m).getD i 0) := by
     have : i < (clr l m).length := by rw [clr_length]; omega
     simp [this]
   simp only [List.getElem?_toArray, List.getElem?_map, hc, Option.map_some]
   rw [clr_get _ _ _ (by omega)]
   by_cases hc2 : i < m
   · rw [if_neg (by omega), if_pos hc2]
     have : i < l.length := by omega
     simp [this]
   · rw [if_pos (by omega), if_neg hc2]
     rw [List.getElem?_replicate, if_pos (by omega)]
 · rw [if_neg (by omega)]
   have h1 : l.length ≤ i := by omega
   have h2 : (clr l m).length ≤ i := by rw [clr_length]; omega
   simp [h1, h2])
     rw [this] at hbx
     exact hbx
end Go.Proofs.YtopcefhncildnaaGreatDoor.F
namespace Go.Proofs.YtopcefhncildnaaGreatDoor.F
open Go.RowKit
def cutB (T : Nat → List Int) (n : Nat) (left : Nat → Bool) : Nat → List Int := fun j => if left j then T j else clr (T j) (ins j n)
theorem cutB_step (T : Nat → List Int) (n : Nat) (left : Nat → Bool) (j : Nat) : upd (cutB T n left) j (clr (T j) (ins j n)) = cutB T n (fun i => left i && !decide (i = j)) := by
 funext i
 unfold upd cutB
 by_cases e : i = j
 · subst e; simp
 · simp [e]
theorem cutB_at {T : Nat → List Int} {n : Nat} {left : Nat → Bool} {j : Nat} (h : left j = true) : cutB T n left j = T j := by unfold cutB; rw [if_pos h]
theorem cutB_done {T : Nat → List Int} {n : Nat} {left : Nat → Bool} (h : ∀ j, left j = false) : cutB T n left = fun j => clr (T j) (ins j n) := by
 funext j
 unfold cutB
 rw [if_neg (by rw [h j]; simp)]
theorem cutB_start {T : Nat → List Int} {n : Nat} {M : Nat → Option Nat} (h : ∀ j, M j = none → T j = zs) : cutB T n (fun j => (M j).isSome) = T := by
 funext j
 unfold cutB
 cases hm : M j with
 | none => rw [h j hm, clr_zs]; split <;> rfl
 | some g => rw [if_pos (show (M j).isSome = true by rw [hm]; rfl)]
theorem trunc_any (n0 : Nat) (us : List Value) (f : Fl) (m : Int) (w : World) (h : flN.lies n0 w us f) (hmI : I64 m) :
   Calls Tryz.prog 253 #[.agg us.toArray, .int .i64 m] w fun e w' => (∃ us', e = .returned (.tuple #[.agg us'.toArray, .int .i64 (trE f m)]) ∧ flN.lies w.heap.size w' us' (trF f m)) ∧ Below w.heap.size w w' := by
 obtain ⟨a, c, rfl, hL, hi, hm⟩ := fl_viewN h
 obtain ⟨s, l⟩ := f
 simp only at hL hi hm ⊢
 unfold maxLen at hm
 have HBK := fun V => blocks_any m V hmI
 unfold I64 at hmI
 obtain ⟨W, hW⟩ := exa ((w.alloc (.cells #[.int .i64 s, .slice a l.length c] 45)).alloc (.cells #[.int .i64 0, .slice none 0 0] 45))
 have hT : Two w W s (.slice a l.length c) := by rw [hW]; exact Two.start _ _ _
 have HC := check_any n0 [.int .i64 s, .slice a l.length c] (s, l) W (flN.below h hT.1)
 have HT : Hid (Two w W s (.slice a l.length c)) := hT
 have HL : Hid (flN.lies n0 w [.int .i64 s, .slice a l.length c] (s, l)) := h
 obtain ⟨g0, g1, _⟩ := hT.cells
 rw [hW] at g0 g1
 obtain ⟨n, hn⟩ := exa (l.length)
 rw [← hn] at hW HT HL HC g0 g1 ⊢
 clear h hL hi hT hm hn
 cases hck : chk (s, l)
 case false => (
 rw [show cerr (s, l) = 9 by unfold cerr; rw [hck]; rfl] at HC
 have e1 : trE (s, l) m = 9 := if_pos hck
 have e2 : trF (s, l) m = (0, []) := if_neg (by rw [e1]; omega)
 rw [e1, e2]
 clear HBK e1 e2
 go_enter Tryz.func253, Tryz.ntmps253
 go_wp2_with fail
 rw [← hW]
 clear hW g0 g1
 refine HC.mono ?_
 rintro e w1 ⟨rfl, hb1⟩
 have HT1 : Hid (Two w w1 s (.slice a n c)) := HT.out.below hb1
 obtain ⟨_, _, t0, t1, f0, f1⟩ := HT1.out.cells
 go_wp2
 refine bodyPost_ret (v := .tuple #[.agg #[.int .i64 0, .slice none 0 0], .int .i64 9]) (by simp [results, Tryz.results253, go_sem, *]) rfl ⟨⟨[_, _], rfl, fl_nilN _ _⟩, below_set2 HT1.out.1 (by omega) _ _⟩)
 rw [show cerr (s, l) = 0 by unfold cerr; rw [hck]; rfl] at HC
 by_cases hm0 : m < 0
 · have e1 : trE (s, l) m = 4 := by unfold trE; rw [if_neg (by rw [hck]; simp), if_pos hm0]
   have e2 : trF (s, l) m = (0, []) := if_neg (by rw [e1]; omega)
   rw [e1, e2]
   obtain ⟨z1, z2, z3⟩ := blk_low hm0
   rw [z1, z2, z3] at HBK
   clear e1 e2 z1 z2 z3
   go_enter Tryz.func253, Tryz.ntmps253
   go_wp2_with fail
   rw [← hW]
   clear hW g0 g1
   refine HC.mono ?_
   rintro e w1 ⟨rfl, hb1⟩
   have HT1 : Hid (Two w w1 s (.slice a n c)) := HT.out.below hb1
   obtain ⟨_, _, t0, t1, f0, f1⟩ := HT1.out.cells
   clear HC hb1
   go_wp2_with fail
   refine (HBK _).mono ?_
   rintro e w2 ⟨rfl, rfl⟩
   clear HBK
   go_wp2
   refine bodyPost_ret (v := .tuple #[.agg #[.int .i64 0, .slice none 0 0], .int .i64 4]) (by simp [results, Tryz.results253, go_sem, *]) rfl ⟨⟨[_, _], rfl, fl_nilN _ _⟩, below_set2 HT1.out.1 (by omega) _ _⟩
 by_cases hm1 : 2432 < m
 · have e1 : trE (s, l) m = 107 := by unfold trE; rw [if_neg (by rw [hck]; simp), if_neg hm0, if_pos hm1]
   have e2 : trF (s, l) m = (0, []) := if_neg (by rw [e1]; omega)
   rw [e1, e2]
   obtain ⟨z1, z2, z3⟩ := blk_high hm1
   rw [z1, z2, z3] at HBK
   clear e1 e2 z1 z2 z3
   go_enter Tryz.func253, Tryz.ntmps253
   go_wp2_with fail
   rw [← hW]
   clear hW g0 g1
   refine HC.mono ?_
   rintro e w1 ⟨rfl, hb1⟩
   have HT1 : Hid (Two w w1 s (.slice a n c)) := HT.out.below hb1
   obtain ⟨_, _, t0, t1, f0, f1⟩ := HT1.out.cells
   clear HC hb1
   go_wp2_with fail
   refine (HBK _).mono ?_
   rintro e w2 ⟨rfl, rfl⟩
   clear HBK
   go_wp2
   refine bodyPost_ret (v := .tuple #[.agg #[.int .i64 0, .slice none 0 0], .int .i64 107]) (by simp [results, Tryz.results253, go_sem, *]) rfl ⟨⟨[_, _], rfl, fl_nilN _ _⟩, below_set2 HT1.out.1 (by omega) _ _⟩
 obtain ⟨p, rfl⟩ : ∃ p : Nat, m = p := ⟨m.toNat, by omega⟩
 have hp : p ≤ 2432 := by omega
 have e1 : trE (s, l) (p : Int) = 0 := by unfold trE; rw [if_neg (by rw [hck]; simp), if_neg hm0, if_neg hm1]
 have e2 : trF (s, l) (p : Int) = ((p : Int), mkL (fun j => clr (bd l j) (ins j p)) 76) := by (
 unfold trF
 rw [if_pos e1, Int.toNat_natCast]
 rw [show mkL (fun j => clr (bd l j) (ins j p)) 76 = (mk (cutT (txt (s, l)) p)).2 from clr_done hck]
 refine Prod.ext ?_ rfl
 show ((cutT (txt (s, l)) p).length : Int) = _
 rw [cutT_length])
 rw [e1, e2]
 obtain ⟨z1, z2, z3⟩ := blk_in (s := (p : Int)) (by omega)
 rw [z1, z2, z3] at HBK
 obtain ⟨y1, hy1⟩ := exa (blkN (p : Int))
 obtain ⟨y2, hy2⟩ := exa (indM (blkN (p : Int)))
 rw [← hy2, ← hy1] at HBK
 have HSP : Hid (∀ V, Two w V s (.slice a n c) → Calls Tryz.prog 100 #[.agg #[.int .i64 s, .slice a n c]] V fun e w' => (∃ b M c, e = .returned (.map (some b)) ∧ MT V.heap.size c w' b M (bd l) ∧ c ≤ 76) ∧ Below V.heap.size V w') := fun V hV =>
   spread_any n0 [.int .i64 s, .slice a n c] (s, l) V (flN.below HL.out hV.1) hck
 have HTL : Hid (∀ j, (bd l j).length = 32) := fun j => bd_length hck j
 obtain ⟨R, hR⟩ := exa (mkL (fun j => clr (bd l j) (ins j p)) 76)
 have HR : Hid (R = mkL (fun j => clr (bd l j) (ins j p)) 76) := hR
 rw [← hR]
 clear e1 e2 z1 z2 z3 hy1 hy2 hck hR HL hm0 hm1 hmI
 go_enter Tryz.func253, Tryz.ntmps253
 go_wp2_with fail
 rw [← hW]
 clear hW g0 g1
 refine HC.mono ?_
 rintro e w1 ⟨rfl, hb1⟩
 have HT1 : Hid (Two w w1 s (.slice a n c)) := HT.out.below hb1
 obtain ⟨r0, r1, _⟩ := HT1.out.cells
 clear HC hb1
 go_wp2_with fail
 refine (HBK _).mono ?_
 rintro e w2 ⟨rfl, rfl⟩
 clear HBK
 go_wp2_with fail
 refine (HSP.out _ HT1.out).mono ?_
 rintro e w2 ⟨⟨b, M, c0, rfl, hMT, hc0⟩, hb2⟩
 obtain ⟨w3, cnt0, hrange, hRG, hg3, hs3⟩ := hMT.range
 have hT2 := HT1.out.below hb2
 have HT2 : Hid (RG w1.heap.size c0 w3 b w2.heap.size M (cutB (bd l) p fun j => (M j).isSome) (fun j => (M j).isSome) cnt0 ∧ Two w w3 s (.slice a n c) ∧ c0 ≤ 76 ∧ w1.heap.size ≤ w2.heap.size) := by (
 refine ⟨?_, ⟨hT2.1.grown hg3 hT2.1.size (fun _ h => by cases h), hT2.2.1.grown hg3 (by simp), hT2.2.2.grown hg3 (by simp)⟩, hc0, hb2.size⟩
 rw [cutB_start fun j hj => hMT.zero hj]
 exact hRG)
 clear hMT hc0 hb2 r0 r1 hT2 hRG hg3 hs3
 go_wp2
 go_loopw [11] (fun _ wr => ∃ (left : Nat → Bool) (cnt : Nat), RG w1.heap.size c0 wr b w2.heap.size M (cutB (bd l) p left) left cnt ∧ Two w wr s (.slice a n c)) (fun _ wr => wr.rangeLeft b w2.heap.size)
 case atStart => exact ⟨_, cnt0, HT2.out.1, HT2.out.2.1⟩
 case round => (
 obtain ⟨left, cnt, hRG, hTV⟩ := hrel
 rcases hRG.next 0 with ⟨hl, hrun⟩ | ⟨j, g, w4, cnt4, hj, hlj, hrun, hRG4, hlt, hg4, hs4, hen⟩
 · have hnx : ∀ ty, (Instr.next (.pointer (some ⟨w2.heap.size, 0, none⟩)) false ty).run Tryz.prog wr = .ok (.tuple #[.bool false]) wr := fun _ => hrun
   have HG := gather_any w1.heap.size c0 (p : Int) b M _ wr hRG.mt (by unfold I64; omega) (by have := HT2.out.2.2.1; omega)
   rw [cutB_done hl, ← HR.out] at HG
   have HTV : Hid (Two w wr s (.slice a n c)) := hTV
   clear hRG hl hrun hTV
   go_wp2_with fail
   refine HG.mono ?_
   rintro e w5 ⟨⟨us5, rfl, hu5⟩, hb5⟩
   have HT5 : Hid (Two w w5 s (.slice a n c)) := HTV.out.below hb5
   obtain ⟨y0, y1, y2, y3, y4, y5⟩ := HT5.out.cells
   obtain ⟨a3, c3, rfl, _⟩ := fl_viewN hu5
   simp only at hu5 ⊢
   obtain ⟨rl, hrl⟩ := exa (R.length)
   rw [← hrl] at hu5 ⊢
   have HU5 : Hid (flN.lies w1.heap.size w5 [.int .i64 (p : Int), .slice a3 rl c3] ((p : Int), R)) := hu5
   clear hu5 hb5 HG hrl hnx
   go_wp2
   refine bodyPost_ret (v := .tuple #[.agg #[.int .i64 (p : Int), .slice a3 rl c3], .int .i64 0]) (by simp [results, Tryz.results253, go_sem, *]) rfl ?_
   obtain ⟨h1, h2⟩ := HT5.out.ends HT1.out.lt HU5.out (.int .i64 (p : Int)) (.slice a3 rl c3)
   exact ⟨⟨_, rfl, h1⟩, h2⟩
 · have hnx : ∀ ty, (Instr.next (.pointer (some ⟨w2.heap.size, 0, none⟩)) false ty).run Tryz.prog wr = .ok (.tuple #[.bool true, .int .i64 j, rowV g]) w4 := fun _ => hrun
   obtain ⟨h76, hng, hrow⟩ := hRG4.mt.row hj
   rw [cutB_at hlj] at hrow
   have HI := inside_any j p w4 (by omega) (by omega)
   have hin : ins j p ≤ 32 := by unfold ins; omega
   obtain ⟨xa, xn, xc, W5, hcut, hclr, hrow5, hg5⟩ := run_clear w4 0 g (ins j p) (bd l j) hrow hin
   have hcl : ∀ ty, (Builtin.clear_ #[25] ty #[.slice xa xn xc]).run Tryz.prog w4 = .ok (.tuple #[]) W5 := fun _ => hclr
   have hRG5 := hRG4.over hj hg5 hrow5
   rw [cutB_step] at hRG5
   have hT5 : Two w W5 s (.slice a n c) := (hTV.grown hg4 (by have := HT1.out.lt; have := HT2.out.2.2.2; omega)).grown hg5 (by have := HT1.out.lt; omega)
   have HLE : Hid (RG w1.heap.size c0 W5 b w2.heap.size M (cutB (bd l) p fun i => left i && !decide (i = j)) (fun i => left i && !decide (i = j)) cnt4 ∧ Two w W5 s (.slice a n c) ∧ wr.rangeLeft b w2.heap.size = cnt ∧ cnt4 < cnt) := ⟨hRG5, hT5, hRG.left_eq, hlt⟩
   unfold rowV at hnx hen hcut
   obtain ⟨ij, hij⟩ := exa (ins j p)
   rw [← hij] at HI hcut
   clear hRG hTV hrun hRG4 hlt hg4 hs4 hrow hrow5 hg5 hRG5 hT5 hclr hij hin
   go_wp2_with fail
   refine HI.mono ?_
   rintro e w6 ⟨rfl, rfl⟩
   clear HI
   go_wp2
   go_roundw
   case rel => exact ⟨_, cnt4, HLE.out.1, HLE.out.2.1⟩
   case measure => rw [HLE.out.1.left_eq, HLE.out.2.2.1]; exact HLE.out.2.2.2)
end Go.Proofs.YtopcefhncildnaaGreatDoor.F
