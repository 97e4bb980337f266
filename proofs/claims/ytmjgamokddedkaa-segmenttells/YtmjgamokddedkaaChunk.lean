/-
  What slices.Chunk hands out: pieces of six octets, in order; for whatever loop body that leaves what it reads as it was.
-/
import Derived.Test.YtmjgamokddedkaaPart
import Derived.RangeFuncBox
import Derived.RangeFuncNested
import Derived.RangeFuncBound
import Derived.RangeFuncCalls
import Derived.RangeFuncLeaves
import Derived.Shelf.Abstract
import Derived.Shelf.RegionOpen
import Derived.OwnWalkIn
import Derived.TacticsInMore
import Derived.LoopNIn
import Derived.LoopIn
namespace Go.Proofs.Ytmjgamokddedkaa
open Go.RowKit Go.Shelf
attribute [local go_sem] Oper.semAt_some

/-- What lies below nb, and every variable but those of G and the blocks' own, is as it was. -/
def KpA (nb : Nat) (G : List Nat) (W W' : World) : Prop := Below nb W W' ∧ ∀ k cs t fr, W.heap[k]? = some (.cells cs t fr) → k ∉ G → t ≠ 58 → W'.heap[k]? = some (.cells cs t fr)
theorem KpA.trans {nb : Nat} {G : List Nat} {A B C : World} (h : KpA nb G A B) (k : KpA nb G B C) : KpA nb G A C := ⟨h.1.trans k.1, fun i cs t fr h1 h2 h3 => k.2 i cs t fr (h.2 i cs t fr h1 h2 h3) h2 h3⟩
theorem KpA.refl (nb : Nat) (G : List Nat) (W : World) : KpA nb G W W := ⟨Below.refl _ _, fun _ _ _ _ h _ _ => h⟩
theorem KpA.of_below {nb : Nat} {G : List Nat} {W W' : World} (h : Below W.heap.size W W') (hn : nb ≤ W.heap.size) : KpA nb G W W' := ⟨h.mono hn, fun k _ _ _ h1 _ _ => (h.block k (Array.getElem?_eq_some_iff.1 h1).1).trans h1⟩
theorem KpA.put {nb : Nat} {G : List Nat} {W : World} {l : Nat} {o : Obj} (o' : Obj) (hl : W.heap[l]? = some o) (ho : o.isCells = false) (hn : nb ≤ l) : KpA nb G W (W.putObj l o') := by
  have hlt := (Array.getElem?_eq_some_iff.1 hl).1
  refine ⟨(Below.refl nb W).grown (grownBy_putObj' W l o') (by omega) (fun k e => by cases e; omega), fun k cs t fr h1 _ _ => ?_⟩
  have hne : k ≠ l := fun e => by
    subst e
    rw [hl] at h1
    cases h1
    cases ho
  exact (World.putObj_heap_other hne).trans h1
theorem KpA.box {nb : Nat} {G : List Nat} {W W' : World} (h : KpA nb G W W') {B : Nat} {t : TypeId} {cs : Array Value} (hB : Box W B t cs) (hG : B ∉ G) (ht : t ≠ 58) : Box W' B t cs := h.2 B cs t (0, 0) hB hG ht

theorem grown_drew (w : World) : w.grownBy w.drew none := ⟨rfl, rfl, rfl, Nat.le_refl _, fun _ _ _ => rfl⟩
theorem grown_drewN (w : World) (q : Nat) : w.grownBy (w.drewN q) none := ⟨rfl, rfl, rfl, by simp, fun k _ _ => by simp⟩

abbrev Ix (m : Nat) := { k : Nat // k < m }
def chV (a : Option Addr) (k : Nat) : Value := sliced a (k * 6) (k * 6 + 6) (k * 6 + 6) 1

set_option maxHeartbeats 1000000 in
theorem chunk_any (a : Option Addr) (ln cap : Nat) (w : World) : Calls Try.prog 61 #[.slice a ln cap, .int .i64 6] w fun e w' =>
    e = .returned (.func (.func 74) #[] #[.pointer (some ⟨w.heap.size, 0, none⟩), .pointer (some ⟨w.heap.size + 1, 0, none⟩)]) ∧ w' = (w.alloc (.cells #[.slice a ln cap] 25)).alloc (.cells #[.int .i64 6] 3) := by
  have h1 := Box.new (w.alloc (.cells #[.slice a ln cap] 25)) 3 #[.int .i64 6]
  rw [World.size_alloc] at h1
  have h2 := h1.cell 0 rfl
  clear h1
  go_enter Try.func61, Try.ntmps61
  go_wp2
  go_ret
  exact ⟨rfl, rfl⟩

theorem range_snoc {m k : Nat} (xs : List (Ix m)) (h : xs.map (fun x => x.1) = List.range k) (hk : k < m) : (xs ++ [(⟨k, hk⟩ : Ix m)]).map (fun x => x.1) = List.range (k + 1) := by
  rw [List.map_append, h, List.range_succ]
  rfl
theorem range_prefix {k m : Nat} (h : k ≤ m) : List.range k <+: List.range m := by
  rw [List.prefix_iff_eq_take, List.length_range, List.take_range, Nat.min_eq_left h]

set_option maxRecDepth 100000 in
set_option maxHeartbeats 4000000 in
theorem chunk_stops (n : Nat) (hn : 2 ≤ n) (nb : Nat) (G : List Nat) (Bs Bn : Nat) (a : Option Addr) (cap : Nat) (l : List Int) (m : Nat) (w0 : World) (hl : l.length = 6 * m) (hm : m ≤ 8) (hA : Arg 0 w0 (.slice a l.length cap) l) (hBs : Box w0 Bs 25 #[.slice a l.length cap]) (hBn : Box w0 Bn 3 #[.int .i64 6]) (hGs : Bs ∉ G) (hGn : Bn ∉ G) :
    SeqStopsK Fence.wide n Try.prog 74 #[.pointer (some ⟨Bs, 0, none⟩), .pointer (some ⟨Bn, 0, none⟩)] (fun x : Ix m => #[chV a x.1]) (KpA nb G) (fun xs => xs.map (·.1) = List.range m) (fun pre => pre.map (·.1) <+: List.range m) 8 w0 := by
  intro lo J Jx W hbW hJ hJx hY h0
  have hx1 : Box W Bs 25 #[.slice a l.length cap] := hBs.below hbW hBs.lt
  have hx2 : Box W Bn 3 #[.int .i64 6] := hBn.below hbW hBn.lt
  obtain ⟨_, _, hv, hcap, _⟩ := hA.shape
  obtain ⟨-, -, rfl⟩ := Value.slice.inj hv
  have HY : Hid (∀ pre x W1, J pre W1 → pre.length < 8 → YieldAt Fence.wide (n - 1) Try.prog lo #[chV a (x : Ix m).1] W1 fun e W' =>
      (e = .returned (.bool true) ∧ J (pre ++ [x]) W' ∧ KpA nb G W1 W') ∨ (e = .returned (.bool false) ∧ Jx (pre ++ [x]) W')) := hY
  have HJ : Hid (AbidesFrom W.heap.size J) := hJ
  have HG : Hid (Bs ∉ G ∧ Bn ∉ G) := ⟨hGs, hGn⟩
  have HL : Hid (l.length = 6 * m ∧ l.length ≤ cap) := ⟨hl, hcap⟩
  obtain ⟨ln, hln⟩ : ∃ ln, ln = l.length := ⟨_, rfl⟩
  rw [← hln] at hx1 HL
  have hl1 := run_len Try.underlying25 a ln cap
  clear hY hJ hJx hbW hBs hBn hA hGs hGn hl hv hcap hln
  have hn1' : 1 ≤ n := by omega
  change CallsIn Fence.wide n Try.prog 74 #[.func (.yield lo) #[] #[], .pointer (some ⟨Bs, 0, none⟩), .pointer (some ⟨Bn, 0, none⟩)] W _
  refine callsIn_of_wp Try.func74 rfl trivial ?_ rfl
  simp only [Try.ntmps74, List.size_toArray, List.length_cons, List.length_nil, Nat.reduceAdd, Nat.reduceSub, Array.replicate_succ, Array.replicate_zero, List.push_toArray, List.append_toArray, List.nil_append, List.cons_append]
  gi_wp2
  gi_loopw [4] (fun v wr => ∃ (k : Nat) (pre : List (Ix m)), k ≤ m ∧ v = .int .i64 ((k * 6 : Nat) : Int) ∧ Hid (pre.map (·.1) = List.range k ∧ J pre wr ∧ Box wr Bs 25 #[.slice a ln cap] ∧ Box wr Bn 3 #[.int .i64 6])) (fun v _ => m * 6 - (intOf v).toNat)
  case atStart => exact ⟨0, [], Nat.zero_le _, rfl, rfl, h0, hx1, hx2⟩
  case round =>
    obtain ⟨k, pre, hk, rfl, HP⟩ := hrel
    have c1 := HP.out.2.2.1.cell 0 rfl
    have c2 := HP.out.2.2.2.cell 0 rfl
    by_cases hlt : k < m
    · obtain ⟨i, hi⟩ : ∃ i, i = k * 6 := ⟨_, rfl⟩
      rw [← hi]
      have HI : Hid (i = k * 6) := hi
      have hib : i + 6 ≤ ln := by have := HL.out.1; omega
      have hki : (i : Int) < (ln : Int) := by omega
      have hs1 : ∀ X, (Instr.slice 25 (.slice a ln cap) (some (.int .i64 (i : Int))) none none).run Try.prog X = .ok (.slice (if cap = i then a else a.map (·.add (i * 1))) (ln - i) (cap - i)) X := fun X => by
        rw [run_slice_l X 25 a ln cap elem25 .i64 (i : Int) (by omega) (by omega), size5]
        simp [Result.andThen, sliced]
      obtain ⟨a1, ha1⟩ : ∃ a1, a1 = (if cap = i then a else a.map (·.add (i * 1))) := ⟨_, rfl⟩
      rw [← ha1] at hs1
      have hl2 := run_len Try.underlying25 a1 (ln - i) (cap - i)
      have hmin : min (6 : Int) ((ln - i : Nat) : Int) = 6 := by omega
      have hs2 : ∀ X, (Instr.slice 25 (.slice a ln cap) (some (.int .i64 (i : Int))) (some (.int .i64 ((i : Int) + 6))) (some (.int .i64 ((i : Int) + 6)))).run Try.prog X = .ok (chV a k) X := fun X => by
        rw [run_slice_lhm X 25 a ln cap elem25 .i64 .i64 .i64 (i : Int) ((i : Int) + 6) ((i : Int) + 6) (by omega) (by omega) (by omega) (by have := HL.out; omega), size5]
        simp only [Result.andThen, chV, ← hi]
        congr 2
      have hsm : i ≤ 48 := by omega
      clear ha1 hi
      have hmix : Try.prog.follows .mixedOrders = true := by kernel_rfl
      gi_wp2
      gi_region_o
      have hJd : J pre wr.drew := HJ.out pre wr wr.drew none HP.out.2.1 (grown_drew wr) (fun r e => by cases e)
      have hlen : pre.length < 8 := by have h1 := congrArg List.length HP.out.1; simp at h1; omega
      obtain ⟨fn, tmps, assign, body, hy, hR⟩ := HY.out pre ⟨k, hlt⟩ wr.drew hJd hlen
      dsimp only at hy
      clear hmix hJd hlen
      gi_wp2
      refine hR.mono ?_
      rintro e W3 (⟨rfl, hJ3, hk3⟩ | ⟨rfl, hJx3⟩)
      · have hb1 : Box W3 Bs 25 #[.slice a ln cap] := hk3.box (W := wr.drew) HP.out.2.2.1 HG.out.1 (by decide)
        have hb2 : Box W3 Bn 3 #[.int .i64 6] := hk3.box (W := wr.drew) HP.out.2.2.2 HG.out.2 (by decide)
        have HP3 : Hid ((pre ++ [(⟨k, hlt⟩ : Ix m)]).map (·.1) = List.range (k + 1) ∧ J (pre ++ [⟨k, hlt⟩]) W3 ∧ Box W3 Bs 25 #[.slice a ln cap] ∧ Box W3 Bn 3 #[.int .i64 6]) := ⟨range_snoc pre HP.out.1 hlt, hJ3, hb1, hb2⟩
        have c3 := hb2.cell 0 rfl
        clear hy hR hJ3 hk3 hb1 hb2 c1 c2 hs1 hs2 hl2 hmin
        gi_wp2
        go_roundw
        case rel => exact ⟨k + 1, _, by omega, by rw [HI.out]; go_num, HP3⟩
        case measure => have := HI.out; simp [intOf]; omega
      · have HX : Hid (Jx (pre ++ [⟨k, hlt⟩]) W3 ∧ (pre ++ [(⟨k, hlt⟩ : Ix m)]).map (·.1) <+: List.range m) := ⟨hJx3, by rw [range_snoc pre HP.out.1 hlt]; exact range_prefix hlt⟩
        clear hy hR hJx3
        gi_wp2
        refine bodyPost_ret (results_none rfl _ _ _) rfl ?_
        exact ⟨⟨_, rfl⟩, .inr ⟨_, HX.out.2, HX.out.1⟩⟩
    · obtain rfl : k = m := by omega
      have hki : ¬ ((k * 6 : Nat) : Int) < (ln : Int) := by have := HL.out.1; omega
      gi_wp2
      go_end0
      exact ⟨⟨_, rfl⟩, .inl ⟨pre, HP.out.1, HP.out.2.1⟩⟩

end Go.Proofs.Ytmjgamokddedkaa
