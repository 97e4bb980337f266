/-
  What the parts of a path hand out: all that stands between slashes and is not empty, in order; for whatever loop body.
  What the functions of paths answer, as plain functions of texts.
-/
import Derived.Test.YtopcefhncildnaaGreatDoorZ30
import Derived.RangeFuncBox
import Derived.RangeFuncNested
import Derived.RangeFuncBound
import Derived.RangeFuncCalls
import Derived.RangeFuncLeaves
import Derived.Shelf.Abstract
import Derived.Shelf.RegionOpen
import Derived.OwnWalkIn
import Derived.TacticsInMore
import Derived.LoopNIn
import Derived.LoopIn
set_option maxRecDepth 100000
set_option maxHeartbeats 2000000
namespace Go.Proofs.YtopcefhncildnaaGreatDoor.P
open Go.Proofs.YtopcefhncildnaaGreatDoor.D (nameOk nerr two name_any num_any anyL anyL_ren empty_iff)
open Go.RowKit Go.Shelf
attribute [local go_sem] Oper.semAt_some
def pts (s : ByteArray) : List ByteArray := (prts s.data.toList).map bk
theorem grown_drewN (w : World) (q : Nat) : w.grownBy (w.drewN q) none := ⟨rfl, rfl, rfl, by simp, fun k _ _ => by simp⟩
def szOf : Value → Nat
 | .string s => s.size
 | _ => 0
theorem parts_stops (n : Nat) (hn : 2 ≤ n) (n₀ Bs : Nat) (s : ByteArray) (w0 : World) (hs : s.size ≤ 128) (hBs : Bs < w0.heap.size) (hc : w0.cell? ⟨Bs, 0, none⟩ = some (.string s)) :
   SeqStopsK Fence.wide n Tryz.prog 276 #[.pointer (some ⟨Bs, 0, none⟩)] (fun x : ByteArray => #[Value.string x]) (Below n₀) (fun xs => xs = pts s) (fun pre => pre <+: pts s) 128 w0 := by
 intro l J Jx W hbW hJ hJx hY h0
 have HL : Hid ((pts s).length ≤ 128) := by (
 show _ ≤ _
 have := prts_count s.data.toList
 rw [pts, List.length_map]
 rw [← Lib.size_eq] at this
 omega)
 have hcw : W.cell? ⟨Bs, 0, none⟩ = some (.string s) := (hbW.cell (p := ⟨Bs, 0, none⟩) hBs).trans hc
 have HY : Hid (∀ pre x W1, J pre W1 → pre.length < 128 → YieldAt Fence.wide (n - 1) Tryz.prog l #[Value.string x] W1 fun e W' =>
     (e = .returned (.bool true) ∧ J (pre ++ [x]) W' ∧ Below n₀ W1 W') ∨ (e = .returned (.bool false) ∧ Jx (pre ++ [x]) W')) := hY
 have HJ : Hid (AbidesFrom W.heap.size J) := hJ
 clear hY hJ hJx hbW hc
 have hn1' : 1 ≤ n := by omega
 change CallsIn Fence.wide n Tryz.prog 276 #[.func (.yield l) #[] #[], .pointer (some ⟨Bs, 0, none⟩)] W _
 refine callsIn_of_wp Tryz.func276 rfl trivial ?_ rfl
 simp only [Tryz.ntmps276, List.size_toArray, List.length_cons, List.length_nil, Nat.reduceAdd, Nat.reduceSub, Array.replicate_succ, Array.replicate_zero, List.push_toArray, List.append_toArray, List.nil_append, List.cons_append]
 gi_wp2
 gi_loopw [3] (fun v wr => ∃ (r : ByteArray) (pre : List ByteArray), v = .string r ∧ r.size ≤ 128 ∧ pts s = pre ++ pts r ∧ J pre wr) (fun v _ => szOf v)
 case atStart => exact ⟨s, [], rfl, hs, rfl, h0⟩
 case round => (
 obtain ⟨r, pre, rfl, hr, hpre, hJs⟩ := hrel
 have HP : Hid (pts s = pre ++ pts r ∧ J pre wr) := ⟨hpre, hJs⟩
 clear hpre hJs
 by_cases hz : r.size = 0
 · have hemp : r.toList.isEmpty = true := by rw [empty_iff]; simp [hz]
   have HE : Hid (pre = pts s) := by (
 show _ = _
 have h1 : r.data.toList = [] := List.eq_nil_of_length_eq_zero (by rw [← Lib.size_eq]; exact hz)
 rw [HP.out.1, pts, h1]
 simp [prts, prtsGo, flush])
   gi_wp2
   go_end0
   exact ⟨⟨_, rfl⟩, .inl ⟨pre, HE.out, HP.out.2⟩⟩
 · have hemp : r.toList.isEmpty = false := by rw [empty_iff]; simp [hz]
   have hne : r.data.toList ≠ [] := fun e => hz (by rw [Lib.size_eq, e]; rfl)
   by_cases hs1 : sl r < 0
   · have hcut := cut_none r wr hs1
     have HE : Hid (pts s = pre ++ [r]) := by (
 show _ = _
 rw [HP.out.1, pts, prts_plain (sl_none hs1), flush_ne hne]
 simp [bk_of])
     obtain ⟨fn, tmps, assign, body, hy, hR⟩ := HY.out pre r wr HP.out.2 (by have := HL.out; rw [HE.out, List.length_append] at this; simp at this; omega)
     clear hne hs1
     gi_wp2
     refine ⟨trivial, (callsIn_wide.2 hcut).mono ?_⟩
     rintro e w5 ⟨rfl, rfl⟩
     clear hcut
     gi_wp2
     refine hR.mono ?_
     rintro e W3 (⟨rfl, hJ3, hk3⟩ | ⟨rfl, hJx3⟩)
     · clear hy hR
       gi_wp2
       go_roundw
       case rel => exact ⟨⟨#[]⟩, pre ++ [r], rfl, by decide, by rw [HE.out]; simp [pts, prts, prtsGo, flush], hJ3⟩
       case measure => simp only [szOf]; show 0 < r.size; omega
     · clear hy hR
       gi_wp2
       refine bodyPost_ret (results_none rfl _ _ _) rfl ?_
       exact ⟨⟨_, rfl⟩, .inr ⟨_, by rw [HE.out]; exact List.prefix_rfl, hJx3⟩⟩
   · obtain ⟨o, ho⟩ : ∃ o : Nat, sl r = o := ⟨(sl r).toNat, by omega⟩
     have hcut := cut_some r o wr ho hr
     obtain ⟨ho1, ho2, ho3⟩ := sl_some ho
     obtain ⟨p, hp⟩ := exa (r.data.toList.take o)
     obtain ⟨d, hd⟩ := exa (r.data.toList.drop (o + 1))
     rw [← hp, ← hd] at hcut ho2
     rw [← hp] at ho3
     have HS : Hid ((bk d).size < r.size) := by (
 show _ < _
 rw [bk_size, hd, List.length_drop, ← Lib.size_eq]; omega)
     have HE : Hid (pts s = pre ++ (flush p).map bk ++ pts (bk d)) := by (
 show _ = _
 rw [HP.out.1, pts, ho2, prts_slash ho3, List.map_append, List.append_assoc]
 congr 2)
     clear hne hs1 hp hd ho ho2 ho3 ho1
     by_cases hpe : p = []
     · have hemp2 : (bk p).toList.isEmpty = true := by rw [empty_iff, bk_size, hpe]; rfl
       have HE2 : Hid (pts s = pre ++ pts (bk d)) := by (
 show _ = _
 rw [HE.out, hpe]; simp [flush])
       clear hpe
       gi_wp2
       refine ⟨trivial, (callsIn_wide.2 hcut).mono ?_⟩
       rintro e w5 ⟨rfl, q, hq⟩
       clear hcut
       have HJ5 : Hid (J pre w5) := HJ.out pre wr w5 none HP.out.2 (by rw [hq]; exact grown_drewN _ _) (fun r e => by cases e)
       clear hq
       gi_wp2
       refine ⟨fun _ h => (by cases h), ?_⟩
       gi_wp2
       go_roundw
       case rel => exact ⟨bk d, pre, rfl, by have := HS.out; omega, HE2.out, HJ5.out⟩
       case measure => simp only [szOf]; exact HS.out
     · have hemp2 : (bk p).toList.isEmpty = false := by rw [empty_iff, bk_size]; simp; exact hpe
       have HE2 : Hid (pts s = pre ++ [bk p] ++ pts (bk d)) := by (
 show _ = _
 rw [HE.out, flush_ne hpe]; rfl)
       clear hpe
       gi_wp2
       refine ⟨trivial, (callsIn_wide.2 hcut).mono ?_⟩
       rintro e w5 ⟨rfl, q, hq⟩
       clear hcut
       have HJ5 : Hid (J pre w5) := HJ.out pre wr w5 none HP.out.2 (by rw [hq]; exact grown_drewN _ _) (fun r e => by cases e)
       clear hq
       obtain ⟨fn, tmps, assign, body, hy, hR⟩ := HY.out pre (bk p) w5 HJ5.out (by have := HL.out; rw [HE2.out, List.length_append, List.length_append] at this; simp at this; omega)
       gi_wp2
       refine hR.mono ?_
       rintro e W3 (⟨rfl, hJ3, hk3⟩ | ⟨rfl, hJx3⟩)
       · clear hy hR
         gi_wp2
         go_roundw
         case rel => exact ⟨bk d, pre ++ [bk p], rfl, by have := HS.out; omega, HE2.out, hJ3⟩
         case measure => simp only [szOf]; exact HS.out
       · clear hy hR
         gi_wp2
         refine bodyPost_ret (results_none rfl _ _ _) rfl ?_
         exact ⟨⟨_, rfl⟩, .inr ⟨_, by rw [HE2.out]; exact List.prefix_append _ _, hJx3⟩⟩)
end Go.Proofs.YtopcefhncildnaaGreatDoor.P
namespace Go.Proofs.YtopcefhncildnaaGreatDoor.P
open Go.Proofs.YtopcefhncildnaaGreatDoor.D (nameOk nerr two name_any num_any anyL anyL_ren empty_iff)
open Go.RowKit Go.Shelf Go.Lib
def serr (s : ByteArray) : Int := if 128 < s.size then 5 else if rooted s = false then 106 else if (pts s).all nameOk = false then 106 else if 8 < (pts s).length then 5 else 0
def sval (s : ByteArray) : List ByteArray := if serr s = 0 then pts s else []
theorem nerr_zero {s : ByteArray} : nerr s = 0 ↔ nameOk s = true := by
 unfold nerr
 split
 · rename_i h; simp [h]
 · rename_i h; simp [h]
theorem nerr_bad {s : ByteArray} (h : nameOk s = false) : nerr s = 106 := by simp [nerr, h]
theorem name_size {s : ByteArray} (h : nameOk s = true) : s.size ≤ 16 ∧ 1 ≤ s.size := by
 simp [nameOk] at h
 omega
end Go.Proofs.YtopcefhncildnaaGreatDoor.P
