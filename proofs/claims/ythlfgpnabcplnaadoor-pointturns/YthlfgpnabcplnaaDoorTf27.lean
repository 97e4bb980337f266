import Derived.Test.YthlfgpnabcplnaaDoorTf16
import Derived.RangeFuncNested
import Derived.RangeFuncBound
import Derived.RangeFuncCalls
import Derived.RangeFuncLeaves
import Derived.Shelf.Abstract
import Derived.Shelf.RegionOpen
import Derived.OwnWalkIn
import Derived.TacticsInMore
import Derived.LoopNIn
import Derived.LoopIn
/-
  What written hands out: all sectors in order, then each write of the cache that lands, in order; for whatever loop body that keeps the disk.
-/
namespace Go.Proofs.YthlfgpnabcplnaaDoor.Dk
open Go.RowKit Go.Shelf
set_option maxRecDepth 100000
attribute [local go_sem] Oper.semAt_some

/-- One that is handed out: a sector's number, and its octets. -/
structure Item (n0 n : Nat) (wb : World) where
  i : Nat
  a : Option Addr
  cap : Nat
  l : List Int
  lt : i < n
  arg : Arg n0 wb (.slice a 64 cap) l
  len : l.length = 64

def encs {n0 n : Nat} {wb : World} (x : Item n0 n wb) : Array Value := #[.int .i64 (x.i : Int), .slice x.a 64 x.cap]
def proj {n0 n : Nat} {wb : World} (x : Item n0 n wb) : Nat × List Int := (x.i, x.l)

def first (S : St) (k : Nat) : List (Nat × List Int) := (List.range k).map fun i => (i, S.secs.getD i [])
def write (S : St) (j : Nat) : Nat × List Int := ((S.cache.getD j (0, [])).1.toNat, (S.cache.getD j (0, [])).2)
def landed (S : St) (lands : Nat → Bool) : Nat → List (Nat × List Int)
  | 0 => []
  | j + 1 => landed S lands j ++ (if lands j then [write S j] else [])
def items (S : St) (lands : Nat → Bool) : List (Nat × List Int) := first S S.secs.length ++ landed S lands S.cache.length

theorem first_succ (S : St) (k : Nat) (l : List Int) (h : S.secs[k]? = some l) : first S (k + 1) = first S k ++ [(k, l)] := by
  simp [first, List.range_succ, h]
theorem first_length (S : St) (k : Nat) : (first S k).length = k := by simp [first]
theorem landed_length (S : St) (lands : Nat → Bool) : ∀ j, (landed S lands j).length ≤ j
  | 0 => by simp [landed]
  | j + 1 => by
    have := landed_length S lands j
    simp only [landed, List.length_append]
    split <;> simp <;> omega

/-- All blocks below n₁ but those of G are as they were. -/
structure Keep (G : Nat → Prop) (n₁ : Nat) (A B : World) : Prop where
  size : A.heap.size ≤ B.heap.size
  same : ∀ k, k < n₁ → ¬ G k → B.heap[k]? = A.heap[k]?
theorem Keep.refl (G : Nat → Prop) (n₁ : Nat) (A : World) : Keep G n₁ A A := ⟨Nat.le_refl _, fun _ _ _ => rfl⟩
theorem Keep.trans {G : Nat → Prop} {n₁ : Nat} {A B C : World} (h : Keep G n₁ A B) (k : Keep G n₁ B C) : Keep G n₁ A C := ⟨Nat.le_trans h.size k.size, fun i hi hg => (k.same i hi hg).trans (h.same i hi hg)⟩
theorem Keep.below {G : Nat → Prop} {n₁ m : Nat} {A B : World} (h : Below m A B) (hm : n₁ ≤ m) : Keep G n₁ A B := ⟨h.size, fun k hk _ => h.block k (by omega)⟩
theorem Keep.box {G : Nat → Prop} {n₁ B : Nat} {A A' : World} {t : TypeId} {u v : Value} (k : Keep G n₁ A A') (h : Box A B t u v) (hB : B < n₁ ∧ ¬ G B) : Box A' B t u v := h.kept (k.same B hB.1 hB.2)
theorem Keep.cell {G : Nat → Prop} {n₁ : Nat} {A A' : World} {a : Addr} {v : Value} (k : Keep G n₁ A A') (h : A.cell? a = some v) (hB : a.block < n₁ ∧ ¬ G a.block) : A'.cell? a = some v := by
  rw [World.cell?_of_block (k.same a.block hB.1 hB.2)]; exact h

set_option maxHeartbeats 2000000 in
theorem iter_stops (n : Nat) (hn : 2 ≤ n) (G : Nat → Prop) (n₁ n0 Bs Bl : Nat) (wb w0 : World) (S : St) (a1 a2 : Option Addr) (c1 c2 gl : Nat) (lb : Array Value) (lands : Nat → Bool)
    (hS : chk S = true) (hL : Lists n0 wb (.slice a1 S.secs.length c1) S.secs) (hW : Writes n0 wb (.slice a2 S.cache.length c2) S.cache)
    (hG : ∀ k, G k → wb.heap.size ≤ k) (hwb : wb.heap.size ≤ n₁) (hBs : Bs < n₁ ∧ ¬ G Bs) (hBl : Bl < n₁ ∧ ¬ G Bl) (hn1 : n₁ ≤ w0.heap.size)
    (hbe : ∀ k, k < wb.heap.size → w0.heap[k]? = wb.heap[k]?)
    (hbox : Box w0 Bs 40 (.slice a1 S.secs.length c1) (.slice a2 S.cache.length c2)) (hfun : w0.cell? ⟨Bl, 0, none⟩ = some (.func (.func gl) #[] lb))
    (heg : ∀ args w, (callFunc gl args).run Tryd.prog w = .ok (.enter gl args) w)
    (hlands : ∀ (W : World) (j : Nat), Keep G n₁ w0 W → Calls Tryd.prog gl (#[.int .i64 (j : Int)] ++ lb) W fun e w' => e = .returned (.bool (lands j)) ∧ W = w') :
    SeqStopsK Fence.wide n Tryd.prog 58 #[.pointer (some ⟨Bs, 0, none⟩), .pointer (some ⟨Bl, 0, none⟩)] (encs (n0 := n0) (n := S.secs.length) (wb := wb)) (Keep G n₁) (fun xs => xs.map proj = items S lands) (fun _ => True) (S.secs.length + S.cache.length) w0 := by
  intro l J Jx W hbW hJ hJx hY h0
  obtain ⟨k1, k2, k3, k4, k5, k6⟩ := chk_facts hS
  obtain ⟨i6, hi6, hz60, hz61, hz62⟩ := info_parts Tryd.info81
  have HKW : Hid (Keep G n₁ w0 W) := Keep.below hbW hn1
  have hb := HKW.out.box hbox hBs
  have hl := HKW.out.cell hfun hBl
  have HFA : Hid ((∀ l ∈ S.secs, l.length = 64) ∧ (∀ q ∈ S.cache, q.2.length = 64) ∧ ∀ q ∈ S.cache, 0 ≤ q.1 ∧ q.1 < S.secs.length) := ⟨k4, k5, k6⟩
  have HY : Hid (∀ pre x W1, J pre W1 → pre.length < S.secs.length + S.cache.length → YieldAt Fence.wide (n - 1) Tryd.prog l (encs (n0 := n0) (n := S.secs.length) (wb := wb) x) W1 fun e W' =>
      (e = .returned (.bool true) ∧ J (pre ++ [x]) W' ∧ Keep G n₁ W1 W') ∨ (e = .returned (.bool false) ∧ Jx (pre ++ [x]) W')) := hY
  have HL : Hid (Lists n0 wb (.slice a1 S.secs.length c1) S.secs ∧ Writes n0 wb (.slice a2 S.cache.length c2) S.cache) := ⟨hL, hW⟩
  have HBE : Hid (∀ W, Keep G n₁ w0 W → ∀ k, k < wb.heap.size → W.heap[k]? = wb.heap[k]?) := fun W hk k hlt =>
    (hk.same k (by omega) (fun h => by have := hG k h; omega)).trans (hbe k hlt)
  have HBX : Hid (∀ W, Keep G n₁ w0 W → Box W Bs 40 (.slice a1 S.secs.length c1) (.slice a2 S.cache.length c2) ∧ W.cell? ⟨Bl, 0, none⟩ = some (.func (.func gl) #[] lb)) := fun W hk => ⟨hk.box hbox hBs, hk.cell hfun hBl⟩
  have HLA : Hid (∀ (W : World) (j : Nat), Keep G n₁ w0 W → Calls Tryd.prog gl (#[.int .i64 (j : Int)] ++ lb) W fun e w' => e = .returned (.bool (lands j)) ∧ W = w') := hlands
  have HJ : Hid (AbidesFrom W.heap.size J) := hJ
  obtain ⟨N, hN⟩ : ∃ x, x = S.secs.length := ⟨_, rfl⟩
  obtain ⟨M, hM⟩ : ∃ x, x = S.cache.length := ⟨_, rfl⟩
  have HNM : Hid (N = S.secs.length ∧ M = S.cache.length) := ⟨hN, hM⟩
  have q0 := hb.cell0
  have q1 := hb.cell1
  rw [← hN] at q0 k1 k2
  rw [← hM] at q1 k3
  have hl1 := run_len Tryd.underlying37 a1 N c1
  have hl2 := run_len Tryd.underlying38 a2 M c2
  clear hL hW hY hb hl hbe hbox hfun hlands k4 k5 k6 hbW hJ hJx hG hN hM
  have hn1' : 1 ≤ n := by omega
  change CallsIn Fence.wide n Tryd.prog 58 #[.func (.yield l) #[] #[], .pointer (some ⟨Bs, 0, none⟩), .pointer (some ⟨Bl, 0, none⟩)] W _
  refine callsIn_of_wp Tryd.func58 rfl trivial ?_ rfl
  simp only [Tryd.ntmps58, List.size_toArray, List.length_cons, List.length_nil, Nat.reduceAdd, Nat.reduceSub, Array.replicate_succ, Array.replicate_zero, List.push_toArray, List.append_toArray, List.nil_append, List.cons_append]
  gi_wp2
  gi_loopw [11] (fun i wr => ∃ (k : Nat) (pre : List (Item n0 S.secs.length wb)), k ≤ N ∧ i = .int .i64 k ∧ pre.map proj = first S k ∧ J pre wr ∧ Keep G n₁ w0 wr ∧ W.heap.size ≤ wr.heap.size) (fun i _ => N - (intOf i).toNat)
  case atStart => exact ⟨0, [], Nat.zero_le _, rfl, rfl, h0, HKW.out, Nat.le_refl _⟩
  case round =>
    obtain ⟨k, pre, hk, rfl, hpre, hJs, hkp, hsz⟩ := hrel
    have q0 := (HBX.out wr hkp).1.cell0
    have q1 := (HBX.out wr hkp).1.cell1
    rw [← HNM.out.1] at q0
    rw [← HNM.out.2] at q1
    have HKP : Hid (Keep G n₁ w0 wr) := hkp
    have HPR : Hid (pre.map proj = first S k ∧ J pre wr) := ⟨hpre, hJs⟩
    by_cases hlt : k < N
    · obtain ⟨x, hx⟩ := get_lt (l := S.secs) (k := k) (by rw [← HNM.out.1]; exact hlt)
      obtain ⟨b, o, a, cap, hix, _, hc, hA⟩ := HL.out.1.at k x hx
      have h64 := HFA.out.1 x (List.mem_of_getElem? hx)
      rw [h64] at hc hA
      rw [← HNM.out.1] at hix
      have hcr : wr.cell? ⟨b, o, none⟩ = some (.slice a 64 cap) := by rw [World.cell?_of_block (HBE.out wr hkp b (cell_lt hc))]; exact hc
      obtain ⟨it, e1, e2, e3, e4⟩ : ∃ it : Item n0 S.secs.length wb, it.i = k ∧ it.a = a ∧ it.cap = cap ∧ it.l = x := ⟨⟨k, a, cap, x, by rw [← HNM.out.1]; exact hlt, hA, h64⟩, rfl, rfl, rfl, rfl⟩
      obtain ⟨fn, tmps, assign, body, hy, hR⟩ := HY.out pre it wr hJs (by have := congrArg List.length hpre; rw [List.length_map, first_length] at this; have := HNM.out; omega)
      have HF : Hid (first S (k + 1) = first S k ++ [proj it]) := by show _ = _; rw [proj, e1, e4]; exact first_succ S k x hx
      unfold encs at hy
      rw [e1, e2, e3] at hy
      have hki : (k : Int) < (N : Int) := by omega
      clear hx hc hA h64 hpre hJs hkp e1 e2 e3 e4
      gi_wp2
      refine hR.mono ?_
      rintro e W3 (⟨rfl, hJ3, hk3⟩ | ⟨rfl, hJx3⟩)
      · have HJ3 : Hid (J (pre ++ [it]) W3 ∧ Keep G n₁ wr W3) := ⟨hJ3, hk3⟩
        clear hJ3 hk3
        gi_wp2
        go_roundw
        case rel => exact ⟨k + 1, _, by omega, by simp, by rw [HF.out, List.map_append, HPR.out.1, List.map_cons, List.map_nil], HJ3.out.1, HKP.out.trans HJ3.out.2, Nat.le_trans hsz HJ3.out.2.size⟩
        case measure => simp [intOf]; omega
      · gi_wp2
        refine bodyPost_ret (results_none rfl _ _ _) rfl ?_
        exact ⟨⟨_, rfl⟩, .inr ⟨_, trivial, hJx3⟩⟩
    · obtain rfl : k = N := by omega
      clear hpre hJs hkp hlt hk
      gi_wp2
      gi_loopw [25] (fun i wr => ∃ (j : Nat) (pre : List (Item n0 S.secs.length wb)), j ≤ M ∧ i = .int .i64 j ∧ pre.map proj = first S k ++ landed S lands j ∧ J pre wr ∧ Keep G n₁ w0 wr ∧ W.heap.size ≤ wr.heap.size) (fun i _ => M - (intOf i).toNat)
      case atStart => exact ⟨0, pre, Nat.zero_le _, rfl, by rw [HPR.out.1]; simp [landed], HPR.out.2, HKP.out, hsz⟩
      case round =>
        clear HPR HKP q0 q1 hsz
        obtain ⟨j, pre, hj, rfl, hpre, hJs, hkp, hsz⟩ := hrel
        have q0 := (HBX.out wr hkp).1.cell0
        have q1 := (HBX.out wr hkp).1.cell1
        have q2 := (HBX.out wr hkp).2
        rw [← HNM.out.1] at q0
        rw [← HNM.out.2] at q1
        have HKP : Hid (Keep G n₁ w0 wr) := hkp
        have HPR : Hid (pre.map proj = first S k ++ landed S lands j ∧ J pre wr) := ⟨hpre, hJs⟩
        by_cases hlt : j < M
        · obtain ⟨q, hq⟩ := get_lt (l := S.cache) (k := j) (by rw [← HNM.out.2]; exact hlt)
          obtain ⟨b, o, a, cap, hix, _, hc0, hc1, hA, hr⟩ := HL.out.2.at Tryd.underlying38 hi6 hz61 j q hq
          have h64 := HFA.out.2.1 q (List.mem_of_getElem? hq)
          have hsc := HFA.out.2.2 q (List.mem_of_getElem? hq)
          rw [h64] at hc1 hA
          rw [← HNM.out.2] at hix
          have hcr0 : wr.cell? ⟨b, o, none⟩ = some (.int .i64 q.1) := by rw [World.cell?_of_block (HBE.out wr hkp b (cell_lt hc0))]; exact hc0
          have hcr1 : wr.cell? ⟨b, o + 1, none⟩ = some (.slice a 64 cap) := by rw [World.cell?_of_block (HBE.out wr hkp b (cell_lt hc1))]; exact hc1
          obtain ⟨W4, hW4⟩ : ∃ W4, W4 = wr.alloc (.cells #[.int .i64 q.1, .slice a 64 cap] 81) := ⟨_, rfl⟩
          have HK4 : Hid (Keep G n₁ w0 W4 ∧ J pre W4 ∧ W.heap.size ≤ W4.heap.size ∧ Keep G n₁ wr W4) := by
            have hbw : Below wr.heap.size wr W4 := by rw [hW4]; exact (Below.refl _ _).alloc (Nat.le_refl _) _
            have hkk : Keep G n₁ wr W4 := Keep.below hbw (Nat.le_trans hn1 hkp.size)
            exact ⟨hkp.trans hkk, HJ.out pre wr W4 none hJs (by rw [hW4]; exact World.grownBy_alloc _ _ _) (fun r e => by cases e), Nat.le_trans hsz hbw.size, hkk⟩
          have c0 : W4.cell? ⟨wr.heap.size, 0, none⟩ = some (.int .i64 q.1) := by rw [hW4]; exact (Box.new wr 81 _ _).cell0
          have c1' : W4.cell? ⟨wr.heap.size, 1, none⟩ = some (.slice a 64 cap) := by rw [hW4]; exact (Box.new wr 81 _ _).cell1
          have q3 := (HBX.out W4 HK4.out.1).2
          have hla := HLA.out W4 j HK4.out.1
          obtain ⟨sn, hsn⟩ : ∃ sn : Nat, q.1 = (sn : Int) := ⟨q.1.toNat, by omega⟩
          obtain ⟨it, e1, e2, e3, e4⟩ : ∃ it : Item n0 S.secs.length wb, it.i = sn ∧ it.a = a ∧ it.cap = cap ∧ it.l = q.2 := ⟨⟨sn, a, cap, q.2, by omega, hA, h64⟩, rfl, rfl, rfl, rfl⟩
          have HIT : Hid (proj it = write S j) := by
            show _ = _
            rw [proj, e1, e4, write, show S.cache.getD j (0, []) = q by simp [List.getD, hq], hsn]; simp
          obtain ⟨fn, tmps, assign, body, hy, hR⟩ := HY.out pre it W4 HK4.out.2.1 (by
            have h1 := congrArg List.length hpre
            rw [List.length_map, List.length_append, first_length] at h1
            have h2 := landed_length S lands j
            have := HNM.out
            omega)
          unfold encs at hy
          rw [e1, e2, e3] at hy
          rw [hsn] at c0 hcr0 hW4
          have hki : (j : Int) < (M : Int) := by omega
          rw [hW4] at hy hR hla q3 c0 c1' HK4
          clear hq hc0 hc1 hA h64 hpre hJs hkp e1 e2 e3 e4 hsn hr hsc hW4 W4
          gi_wp2
          refine ⟨trivial, (callsIn_wide.2 hla).mono ?_⟩
          rintro e w5 ⟨rfl, rfl⟩
          clear hla
          cases hlj : lands j
          · have HLJ : Hid (landed S lands (j + 1) = landed S lands j) := by show _ = _; simp [landed, hlj]
            clear hy hR
            gi_wp2
            refine ⟨fun _ h => (by cases h), ?_⟩
            gi_wp2
            go_roundw
            case rel => exact ⟨j + 1, pre, by omega, by simp, by rw [HLJ.out]; exact HPR.out.1, HK4.out.2.1, HK4.out.1, HK4.out.2.2.1⟩
            case measure => simp [intOf]; omega
          · have HLJ : Hid (landed S lands (j + 1) = landed S lands j ++ [proj it]) := by show _ = _; rw [HIT.out]; simp [landed, hlj]
            gi_wp2
            refine hR.mono ?_
            rintro e W3 (⟨rfl, hJ3, hk3⟩ | ⟨rfl, hJx3⟩)
            · have HJ3 : Hid (J (pre ++ [it]) W3 ∧ Keep G n₁ (wr.alloc (.cells #[.int .i64 (sn : Int), .slice a 64 cap] 81)) W3) := ⟨hJ3, hk3⟩
              clear hJ3 hk3
              gi_wp2
              go_roundw
              case rel => exact ⟨j + 1, _, by omega, by simp, by rw [HLJ.out, List.map_append, HPR.out.1, List.map_cons, List.map_nil, List.append_assoc], HJ3.out.1, HK4.out.1.trans HJ3.out.2, Nat.le_trans HK4.out.2.2.1 HJ3.out.2.size⟩
              case measure => simp [intOf]; omega
            · gi_wp2
              refine bodyPost_ret (results_none rfl _ _ _) rfl ?_
              exact ⟨⟨_, rfl⟩, .inr ⟨_, trivial, hJx3⟩⟩
        · obtain rfl : j = M := by omega
          clear hpre hJs hkp hlt hj
          gi_wp2
          go_end0
          refine ⟨⟨_, rfl⟩, .inl ⟨pre, ?_, HPR.out.2⟩⟩
          rw [HPR.out.1, items, ← HNM.out.1, ← HNM.out.2]

end Go.Proofs.YthlfgpnabcplnaaDoor.Dk

/-
  What settle makes of any disk: the error, or the sectors behind the writes that land, and an empty cache.
-/
namespace Go.Proofs.YthlfgpnabcplnaaDoor.Dk
open Go.RowKit Go.Shelf
set_option maxRecDepth 100000
attribute [local go_sem] Oper.semAt_some

set_option maxHeartbeats 400000 in
theorem written_any (a1 a2 : Option Addr) (n c1 m c2 : Nat) (lf : Fn) (x lb : Array Value) (w : World) :
    Calls Tryd.prog 48 #[.agg #[.slice a1 n c1, .slice a2 m c2], .func lf x lb] w fun e w' => e = .returned (.func (.func 58) #[] #[.pointer (some ⟨w.heap.size, 0, none⟩), .pointer (some ⟨w.heap.size + 1, 0, none⟩)]) ∧
      w' = (w.alloc (.cells #[.slice a1 n c1, .slice a2 m c2] 40)).alloc (.cells #[.func lf x lb] 84) := by
  go_enter Tryd.func48, Tryd.ntmps48
  go_wp2
  go_ret
  exact ⟨rfl, rfl⟩

/-- What stands behind those that were handed out. -/
def fill (init : List (List Int)) (ps : List (Nat × List Int)) : List (List Int) := ps.foldl (fun acc p => acc.set p.1 p.2) init

theorem fill_length (init : List (List Int)) (ps : List (Nat × List Int)) : (fill init ps).length = init.length := by
  unfold fill
  induction ps generalizing init with
  | nil => rfl
  | cons p ps ih => rw [List.foldl_cons, ih, List.length_set]
theorem fill_snoc (init : List (List Int)) (ps : List (Nat × List Int)) (p : Nat × List Int) : fill init (ps ++ [p]) = (fill init ps).set p.1 p.2 := by
  unfold fill; rw [List.foldl_append]; rfl
theorem cell_one {w : World} {B : Nat} {t : TypeId} {v : Value} (h : w.heap[B]? = some (.cells #[v] t (0, 0))) : w.cell? ⟨B, 0, none⟩ = some v := by simp [World.cell?, h]

/-- The rows, their blocks named. -/
def GridAt (bs : List Nat) (base : Nat) (w : World) (v : Value) (ls : List (List Int)) : Prop :=
  w.ownsRow base 22 1 v ls.length (bs.map fun b => Value.slice (some ⟨b, 0, none⟩) 64 64) ∧ bs.Nodup ∧
    Each (fun b l => base ≤ b ∧ l.length = 64 ∧ Oct l ∧ w.heap[b]? = some (.cells (l.map (Value.int .u8)).toArray 5 (0, 0))) bs ls
theorem GridAt.grid {bs : List Nat} {base : Nat} {w : World} {v : Value} {ls : List (List Int)} (h : GridAt bs base w v ls) : Grid base w v ls := ⟨bs, h⟩

theorem cells_kept {W W' : World} {row : Option Nat} {k : Nat} {cs : Array Value} {t : TypeId} {fr : Nat × Nat} (h : W.heap[k]? = some (.cells cs t fr)) (hg : W.grownBy W' row) (hr : ∀ r, row = some r → ∃ o : Obj, W.heap[r]? = some o ∧ o.isCells = false) : W'.heap[k]? = some (.cells cs t fr) := by
  rw [hg.block k (Array.getElem?_eq_some_iff.1 h).1 (fun e => by
    obtain ⟨o, ho, hc⟩ := hr k e.symm
    rw [h] at ho; cases ho; cases hc)]
  exact h

theorem GridAt.kept {bs : List Nat} {base : Nat} {W W' : World} {v : Value} {ls : List (List Int)} {row : Option Nat} (h : GridAt bs base W v ls) (hg : W.grownBy W' row) (hr : ∀ r, row = some r → ∃ o : Obj, W.heap[r]? = some o ∧ o.isCells = false) : GridAt bs base W' v ls := by
  obtain ⟨⟨h1, h2⟩, h3, h4⟩ := h
  refine ⟨⟨h1, ?_⟩, h3, h4.mono fun b l h => ⟨h.1, h.2.1, h.2.2.1, cells_kept h.2.2.2 hg hr⟩⟩
  rcases h2 with h | ⟨g, cap, cur, a, b, c, d⟩
  · exact .inl h
  · exact .inr ⟨g, cap, cur, a, b, cells_kept c hg hr, d⟩

/-- One row is written over. -/
theorem GridAt.put {bs : List Nat} {base : Nat} {W W' : World} {v : Value} {ls : List (List Int)} {i g : Nat} {l : List Int} (h : GridAt bs base W v ls) (hi : bs[i]? = some g) (hl : l.length = 64) (ho : Oct l) (hg : W.grownBy W' (some g)) (hw : W'.heap[g]? = some (.cells (l.map (Value.int .u8)).toArray 5 (0, 0))) : GridAt bs base W' v (ls.set i l) := by
  obtain ⟨h1, h3, h4⟩ := h
  have hgb : base ≤ g ∧ ∃ x, W.heap[g]? = some (.cells x 5 (0, 0)) := by
    have hlt : i < ls.length := by rw [← h4.length]; exact (List.getElem?_eq_some_iff.1 hi).1
    obtain ⟨b, hb, hx⟩ := h4.get (List.getElem?_eq_getElem hlt)
    rw [hi] at hb; cases hb
    exact ⟨hx.1, _, hx.2.2.2⟩
  refine ⟨?_, h3, ?_⟩
  · rw [List.length_set]
    refine h1.kept hg ?_
    rcases h1.2 with ⟨rfl, _⟩ | ⟨g', cap, cur, rfl, _, hg', _⟩
    · exact .inl rfl
    · refine .inr fun e => ?_
      have : g' = g := by simpa [Value.ownBlock] using e
      subst this
      obtain ⟨_, x, hx⟩ := hgb
      rw [hx] at hg'
      simp at hg'
  · refine each_of (by rw [List.length_set]; exact h4.length) fun j b l' hb hl' => ?_
    by_cases e : i = j
    · subst e
      rw [hi] at hb; cases hb
      have hlt : i < ls.length := by rw [← h4.length]; exact (List.getElem?_eq_some_iff.1 hi).1
      rw [List.getElem?_set_self hlt] at hl'
      cases hl'
      exact ⟨hgb.1, hl, ho, hw⟩
    · rw [List.getElem?_set_ne e] at hl'
      obtain ⟨b', hb', hx⟩ := h4.get hl'
      rw [hb] at hb'; cases hb'
      refine ⟨hx.1, hx.2.1, hx.2.2.1, ?_⟩
      rw [hg.block b (Array.getElem?_eq_some_iff.1 hx.2.2.2).1 (fun e' => ?_)]
      · exact hx.2.2.2
      · cases e'
        exact e (by
          have hi' := (List.getElem?_eq_some_iff.1 hi)
          have hb'' := (List.getElem?_eq_some_iff.1 hb)
          obtain ⟨p1, p2⟩ := hi'
          obtain ⟨p3, p4⟩ := hb''
          exact (List.getElem_inj h3).1 (p2.trans p4.symm))

theorem splice_all (cur l : List Value) (h : cur.length = l.length) : splice cur 0 l = l := by
  simp [splice, h]

set_option maxHeartbeats 2000000 in
theorem settle_good (n0 : Nat) (v : Value) (S : St) (gl : Nat) (lb : Array Value) (lands : Nat → Bool) (w : World) (h : Disk n0 w v S) (hS : chk S = true)
    (heg : ∀ args w, (callFunc gl args).run Tryd.prog w = .ok (.enter gl args) w)
    (hlands : ∀ (W : World) (j : Nat), (∀ k, k < w.heap.size → W.heap[k]? = w.heap[k]?) → Calls Tryd.prog gl (#[.int .i64 (j : Int)] ++ lb) W fun e w' => e = .returned (.bool (lands j)) ∧ W = w') :
    Calls Tryd.prog 46 #[v, .func (.func gl) #[] lb] w fun e w' => ∃ vs, e = .returned (.tuple #[.agg #[vs, .slice none 0 0], .int .i64 0]) ∧ Grid w.heap.size w' vs (fill (List.replicate S.secs.length zeros) (items S lands)) ∧ Below w.heap.size w w' := by
  refine (callsIn_wide (n := 5)).1 ?_
  obtain ⟨a1, c1, a2, c2, rfl, hL, hW⟩ := h.shape
  obtain ⟨k1, k2, k3, k4, k5, k6⟩ := chk_facts hS
  have HD : Hid (Disk n0 w (.agg #[.slice a1 S.secs.length c1, .slice a2 S.cache.length c2]) S) := h
  have HLW : Hid (Lists n0 w (.slice a1 S.secs.length c1) S.secs ∧ Writes n0 w (.slice a2 S.cache.length c2) S.cache) := ⟨hL, hW⟩
  have HLA : Hid (∀ (W : World) (j : Nat), (∀ k, k < w.heap.size → W.heap[k]? = w.heap[k]?) → Calls Tryd.prog gl (#[.int .i64 (j : Int)] ++ lb) W fun e w' => e = .returned (.bool (lands j)) ∧ W = w') := hlands
  have hl1 := run_len Tryd.underlying37 a1 S.secs.length c1
  obtain ⟨n, hn⟩ : ∃ n, n = S.secs.length := ⟨_, rfl⟩
  obtain ⟨m, hm⟩ : ∃ n, n = S.cache.length := ⟨_, rfl⟩
  rw [← hn] at HD HLW hl1 k1 k2 ⊢
  rw [← hm] at HD HLW k3 ⊢
  have HN : Hid (n = S.secs.length ∧ m = S.cache.length) := ⟨hn, hm⟩
  clear hn hm h hL hW k4 k5 k6 hlands
  refine callsIn_of_wp_marks Tryd.func46 rfl trivial ?_ rfl
  simp only [Tryd.ntmps46, List.size_toArray, List.length_cons, List.length_nil, Nat.reduceAdd, Nat.reduceSub, Array.replicate_succ, Array.replicate_zero, List.push_toArray, List.append_toArray, List.nil_append, List.cons_append]
  gi_wp2_with fail
  refine ⟨trivial, (callsIn_wide.2 (check_any n0 _ S _ (HD.out.below (((Below.refl _ w).alloc (Nat.le_refl _) _).alloc (by simp) _)))).mono ?_⟩
  rintro e w1 ⟨rfl, hb1⟩
  have hP1 : Box w1 w.heap.size 40 (.slice a1 n c1) (.slice a2 m c2) := ((Box.new w 40 _ _).alloc _).below hb1 (by simp; omega)
  have hR1 : Box w1 (w.heap.size + 1) 40 (.slice none 0 0) (.slice none 0 0) := by
    have := Box.new (w.alloc (.cells #[.slice a1 n c1, .slice a2 m c2] 40)) 40 (.slice none 0 0) (.slice none 0 0)
    rw [World.size_alloc] at this
    exact this.below hb1 (by simp)
  have hbe1 : Below w.heap.size w w1 := below_any (((Below.refl _ w).alloc (Nat.le_refl _) _).alloc (by simp) _) hb1
  have HB1 : Hid (Box w1 w.heap.size 40 (.slice a1 n c1) (.slice a2 m c2) ∧ Box w1 (w.heap.size + 1) 40 (.slice none 0 0) (.slice none 0 0) ∧ Below w.heap.size w w1) := ⟨hP1, hR1, hbe1⟩
  have g0 := hP1.cell0
  have g1 := hP1.cell1
  have hce : cerr S = 0 := by simp [cerr, hS]
  rw [hce]
  clear hb1 hbe1 hP1 hR1 hce
  gi_wp2_with fail
  refine ⟨trivial, (callsIn_wide.2 (blank_any n w1 k2)).mono ?_⟩
  rintro e w2 ⟨vg, rfl, hG, hb2⟩
  obtain ⟨bs, hgr⟩ := hG
  have hGA : GridAt bs w1.heap.size w2 vg (List.replicate n zeros) := hgr
  have hown := hgr.1
  rw [List.length_replicate] at hown
  obtain ⟨g, cap, rfl, hgl, hgs⟩ := hown.form (by omega)
  have hP2 := HB1.out.1.below hb2 HB1.out.1.lt
  have hR2 := HB1.out.2.1.below hb2 HB1.out.2.1.lt
  clear g0 g1 hown hgr
  have g0 := hP2.cell0
  have g1 := hP2.cell1
  obtain ⟨W, hW⟩ : ∃ W, W = w2.alloc (.cells #[.slice (some ⟨g, 0, none⟩) n cap, .slice none 0 0] 40) := ⟨_, rfl⟩
  have hbW : Below w2.heap.size w2 W := by rw [hW]; exact (Below.refl _ _).alloc (Nat.le_refl _) _
  have hXW : Box W w2.heap.size 40 (.slice (some ⟨g, 0, none⟩) n cap) (.slice none 0 0) := by rw [hW]; exact Box.new _ _ _ _
  have hsW : W.heap.size = w2.heap.size + 1 := by rw [hW]; simp
  have hPW := hP2.below hbW hP2.lt
  have hRW := hR2.below hbW hR2.lt
  have HW : Hid (Box W w2.heap.size 40 (.slice (some ⟨g, 0, none⟩) n cap) (.slice none 0 0) ∧ Box W (w.heap.size + 1) 40 (.slice none 0 0) (.slice none 0 0) ∧ GridAt bs w1.heap.size W (.slice (some ⟨g, 0, none⟩) n cap) (List.replicate n zeros) ∧ Below w.heap.size w W ∧ W.heap.size = w2.heap.size + 1 ∧ w.heap.size + 1 < w1.heap.size ∧ w1.heap.size ≤ w2.heap.size ∧ ∀ b ∈ bs, b < w2.heap.size) := by
    refine ⟨hXW, hRW, hGA.kept (row := none) ⟨hbW.os, hbW.tape, hbW.output, hbW.size, fun k hk _ => hbW.block k hk⟩ (fun r e => by cases e), below_any (below_any HB1.out.2.2 hb2) hbW, hsW, HB1.out.2.1.lt, hb2.size, fun b hb => ?_⟩
    obtain ⟨i, hi, rfl⟩ := List.mem_iff_getElem.1 hb
    have hlt : i < (List.replicate n zeros).length := by rw [← hGA.2.2.length]; exact hi
    obtain ⟨b', hb', hx⟩ := hGA.2.2.get (List.getElem?_eq_getElem hlt)
    rw [List.getElem?_eq_getElem hi] at hb'; cases hb'
    exact (Array.getElem?_eq_some_iff.1 hx.2.2.2).1
  have g2 := hPW.cell0
  have g3 := hPW.cell1
  have hwr := written_any a1 a2 n c1 m c2 (.func gl) #[] lb W
  rw [hW] at g2 g3
  clear hP2 hR2 hbW hXW hsW hPW hRW hGA hb2
  gi_wp2_with fail
  rw [← hW]
  refine ⟨trivial, (callsIn_wide.2 hwr).mono ?_⟩
  rintro e w4 ⟨rfl, hw4⟩
  clear hwr g0 g1 g2 g3 hW
  gi_wp2_with fail
  obtain ⟨wL, hwL⟩ : ∃ wL, wL = (W.alloc (.cells #[.slice a1 n c1, .slice a2 m c2] 40)).alloc (.cells #[.func (.func gl) #[] lb] 84) := ⟨_, rfl⟩
  rw [← hwL]
  have hbL : Below W.heap.size W wL := by rw [hwL]; exact ((Below.refl _ _).alloc (Nat.le_refl _) _).alloc (by simp) _
  have hsL : wL.heap.size = W.heap.size + 2 := by rw [hwL]; simp
  have hBsL : Box wL W.heap.size 40 (.slice a1 n c1) (.slice a2 m c2) := by rw [hwL]; exact (Box.new W 40 _ _).alloc _
  have hBlL : wL.cell? ⟨W.heap.size + 1, 0, none⟩ = some (.func (.func gl) #[] lb) := by
    rw [hwL]
    have := heap_alloc_new (W.alloc (.cells #[.slice a1 n c1, .slice a2 m c2] 40)) (.cells #[.func (.func gl) #[] lb] 84)
    rw [World.size_alloc] at this
    exact cell_one this
  have hwwL : Below w.heap.size w wL := below_any HW.out.2.2.2.1 hbL
  have HLT : Hid (wL.heap.size = w2.heap.size + 3 ∧ w.heap.size + 1 < w1.heap.size ∧ w1.heap.size ≤ w2.heap.size ∧ ∀ b ∈ bs, b < w2.heap.size) := ⟨by have := HW.out.2.2.2.2.1; omega, HW.out.2.2.2.2.2⟩
  have hbase : ∀ b ∈ bs, w1.heap.size ≤ b := fun b hb => by
    obtain ⟨i, hi, rfl⟩ := List.mem_iff_getElem.1 hb
    have hlt : i < (List.replicate n zeros).length := by rw [← HW.out.2.2.1.2.2.length]; exact hi
    obtain ⟨b', hb', hx⟩ := HW.out.2.2.1.2.2.get (List.getElem?_eq_getElem hlt)
    rw [List.getElem?_eq_getElem hi] at hb'; cases hb'
    exact hx.1
  have hsW : W.heap.size = w2.heap.size + 1 := HW.out.2.2.2.2.1
  have hit := iter_stops 4 (by omega) (fun k => k ∈ bs) wL.heap.size n0 W.heap.size (W.heap.size + 1) w wL S a1 a2 c1 c2 gl lb lands hS (by rw [← HN.out.1]; exact HLW.out.1) (by rw [← HN.out.2]; exact HLW.out.2)
    (fun k hk => by have := hbase k hk; have := HLT.out; omega) (by have := HLT.out; omega)
    ⟨by omega, fun hk => by have := HLT.out.2.2.2 _ hk; omega⟩ ⟨by omega, fun hk => by have := HLT.out.2.2.2 _ hk; omega⟩ (Nat.le_refl _) (fun k hk => hwwL.block k hk)
    (by rw [← HN.out.1, ← HN.out.2]; exact hBsL) hBlL heg
    (fun W' j hk => HLA.out W' j fun k hlt => (hk.same k (by have := HLT.out; omega) (fun hm => by have := hbase k hm; have := HLT.out; omega)).trans (hwwL.block k hlt))
  rw [← HN.out.1, ← HN.out.2] at hit
  obtain ⟨i2, hi2, hz20, hz21, hz22⟩ := info_parts Tryd.info22
  have hkt : ∀ {A B C : World}, Keep (fun k => k ∈ bs) wL.heap.size A B → Keep (fun k => k ∈ bs) wL.heap.size B C → Keep (fun k => k ∈ bs) wL.heap.size A C := fun h k => h.trans k
  have hkb : ∀ (W' : World) (l : Nat) (o o' : Obj), wL.heap.size ≤ l → W'.heap[l]? = some o → o.isCells = false → o.isWalk = false → Keep (fun k => k ∈ bs) wL.heap.size W' (W'.putObj l o') := fun W' l o o' hl h1 _ _ =>
    ⟨(grownBy_putObj' W' l o').size, fun k hk _ => (grownBy_putObj' W' l o').block k (by have := (Array.getElem?_eq_some_iff.1 h1).1; omega) (fun e => by cases e; omega)⟩
  refine wpIn_rangeFunc_ownF rfl (by omega) (gf := 58) (lb := #[.pointer (some ⟨W.heap.size, 0, none⟩), .pointer (some ⟨W.heap.size + 1, 0, none⟩)]) rfl trivial (enters_of Tryd.func58 (by kernel_rfl) rfl) hit hkt hkb (Below.refl _ _) (fun _ => rfl)
    (fun pre W' => Box W' w2.heap.size 40 (.slice (some ⟨g, 0, none⟩) n cap) (.slice none 0 0) ∧ Box W' (w.heap.size + 1) 40 (.slice none 0 0) (.slice none 0 0) ∧ GridAt bs w1.heap.size W' (.slice (some ⟨g, 0, none⟩) n cap) (fill (List.replicate n zeros) (pre.map proj)) ∧ Below w.heap.size w W' ∧ wL.heap.size ≤ W'.heap.size)
    (fun _ _ _ => False)
    (fun s A B row hs hg hr => ⟨cells_kept hs.1 hg (fun r e => (hr r e).2), cells_kept hs.2.1 hg (fun r e => (hr r e).2), hs.2.2.1.kept hg (fun r e => (hr r e).2), hs.2.2.2.1.grown hg hs.2.2.2.1.size (fun k e => by have := (hr k e).1; have := HLT.out; omega), Nat.le_trans hs.2.2.2.2 hg.size⟩)
    (fun _ _ _ _ _ hs _ _ => hs)
    ⟨HW.out.1.below hbL HW.out.1.lt, HW.out.2.1.below hbL HW.out.2.1.lt, HW.out.2.2.1.kept (row := none) ⟨hbL.os, hbL.tape, hbL.output, hbL.size, fun k hk _ => hbL.block k hk⟩ (fun r e => by cases e), hwwL, Nat.le_refl _⟩
    (fun x => { tmps := #[.agg #[.slice a1 n c1, .slice a2 m c2], .func (.func gl) #[] lb, .pointer (some ⟨w.heap.size, 0, none⟩), undef, .pointer (some ⟨w.heap.size + 1, 0, none⟩), .int .i64 0, .int .i64 0, .pointer (some ⟨w2.heap.size, 0, none⟩), .int .i64 (x.i : Int), .slice x.a 64 x.cap,
          .agg #[.slice a1 n c1, .slice a2 m c2], .int .i64 0, .int .i64 0, .bool false, undef, undef, .pointer (some ⟨w.heap.size, 0, none⟩), .slice a1 n c1, .int .i64 (n : Int), .agg #[.slice (some ⟨g, 0, none⟩) n cap, .slice none 0 0], .agg #[.slice a1 n c1, .slice a2 m c2], .func (.func gl) #[] lb,
          .func (.func 58) #[] #[.pointer (some ⟨W.heap.size, 0, none⟩), .pointer (some ⟨W.heap.size + 1, 0, none⟩)], .int .i64 (x.i : Int), .slice x.a 64 x.cap, undef, undef, undef, undef, undef, undef, undef, undef], defers := [] }) ?assign ?body ?done ?stop
  case assign =>
    intro l x W' K hK
    clear hit hkt hkb hsW hsL hbase hbL hBsL hBlL hwwL hwL
    unfold encs
    gi_wp2
    exact hK
  case body =>
    rintro l pre x W' ⟨hbo, hbr, hgr, hbe, hle⟩ _
    have hlen : (fill (List.replicate n zeros) (pre.map proj)).length = n := by rw [fill_length, List.length_replicate]
    obtain ⟨l0, hl0⟩ := get_lt (l := fill (List.replicate n zeros) (pre.map proj)) (k := x.i) (by rw [hlen]; exact x.lt)
    obtain ⟨b, hb, hbb, hl64, _, hheap⟩ := hgr.2.2.get hl0
    have hcb : W'.cell? ⟨g, x.i, none⟩ = some (.slice (some ⟨b, 0, none⟩) 64 64) := by
      have := hgr.1.cells (g := g) rfl x.i (.slice (some ⟨b, 0, none⟩) 64 64) (by simp [hb])
      rwa [add_plain, Nat.zero_add] at this
    have hix : ∀ W, (Instr.indexAt 37 (.slice (some ⟨g, 0, none⟩) n cap) (.int .i64 (x.i : Int))).run Tryd.prog W = .ok (.pointer (some ⟨g, x.i, none⟩)) W := fun W => by
      have := run_index Tryd.underlying37 hi2 hz21 g 0 n cap x.i x.lt W
      rwa [Nat.mul_one, Nat.zero_add] at this
    have hA : Arg n0 W' (.slice x.a x.l.length x.cap) x.l := by rw [x.len]; exact x.arg.below hbe
    obtain ⟨W2, hrun, hg2, hgrow, hsz2⟩ := run_copy_into W' b 0 64 64 x.a x.cap x.l (l0.map (Value.int .u8)) 5 hheap hA (by rw [x.len]; omega) (by rw [x.len, List.length_map, hl64]; omega)
    rw [x.len] at hrun
    rw [splice_all _ _ (by rw [List.length_map, List.length_map, hl64, x.len])] at hg2
    have hcc := hbo.cell0
    have hmem : b ∈ bs := List.mem_of_getElem? hb
    have hne1 : some w2.heap.size ≠ some b := fun e => by cases e; have := HLT.out.2.2.2 _ hmem; omega
    have hne2 : some (w.heap.size + 1) ≠ some b := fun e => by cases e; have := hbase _ hmem; have := HLT.out; omega
    have HFIN : Hid (KeepsOthers W' W2 ∧ Keep (fun k => k ∈ bs) wL.heap.size W' W2 ∧ (Box W2 w2.heap.size 40 (.slice (some ⟨g, 0, none⟩) n cap) (.slice none 0 0) ∧ Box W2 (w.heap.size + 1) 40 (.slice none 0 0) (.slice none 0 0) ∧ GridAt bs w1.heap.size W2 (.slice (some ⟨g, 0, none⟩) n cap) (fill (List.replicate n zeros) ((pre ++ [x]).map proj)) ∧ Below w.heap.size w W2 ∧ wL.heap.size ≤ W2.heap.size)) := by
      refine ⟨KeepsOthers.of_grownBy hgrow (fun j o ej hj => by cases ej; rw [hheap] at hj; cases hj; rfl), ⟨hgrow.size, fun k hk hne => hgrow.block k (by omega) (fun e => by cases e; exact hne hmem)⟩, hbo.grown hgrow hne1, hbr.grown hgrow hne2, ?_, hbe.grown hgrow hbe.size (fun k e => by cases e; have := HLT.out; omega), by omega⟩
      rw [List.map_append, List.map_cons, List.map_nil, fill_snoc]
      exact hgr.put hb x.len x.arg.2 hgrow hg2
    clear hit hkt hkb hsW hsL hbase hbL hBsL hBlL hwwL hwL hbo hbr hgr hbe hlen hl0 hheap hA hgrow hg2 hb hbb hl64 hne1 hne2 hmem
    gi_wp2
    exact HFIN.out
  case done =>
    rintro D ys W' hD hys ⟨hbo, hbr, hgr, hbe, hle⟩ hK
    have hDne : D ≠ w.heap.size + 1 := by have := HLT.out; omega
    have hK' : ((W'.setCell ⟨w.heap.size + 1, 0, none⟩ (.slice (some ⟨g, 0, none⟩) n cap)).setCell ⟨w.heap.size + 1, 1, none⟩ (.slice none 0 0)).heap[D]? = some (.deferred (some [])) := by rw [heap_set2 _ _ _ _ _ hDne]; exact hK
    have hbf : Box (((W'.setCell ⟨w.heap.size + 1, 0, none⟩ (.slice (some ⟨g, 0, none⟩) n cap)).setCell ⟨w.heap.size + 1, 1, none⟩ (.slice none 0 0)).putObj D (.deferred none)) (w.heap.size + 1) 40 (.slice (some ⟨g, 0, none⟩) n cap) (.slice none 0 0) :=
      Box.kept ((hbr.set0 _).set1 _) (World.putObj_heap_other hDne.symm)
    have f0 := hbf.cell0
    have f1 := hbf.cell1
    have c0 := hbo.cell0
    have c1' := hbo.cell1
    have d0 := hbr.cell0
    have d1 := hbr.cell1
    have d2 := hbr.frozen0
    have d3 := hbr.frozen1
    have HFIN : Hid (Grid w.heap.size (((W'.setCell ⟨w.heap.size + 1, 0, none⟩ (.slice (some ⟨g, 0, none⟩) n cap)).setCell ⟨w.heap.size + 1, 1, none⟩ (.slice none 0 0)).putObj D (.deferred none)) (.slice (some ⟨g, 0, none⟩) n cap) (fill (List.replicate n zeros) (items S lands)) ∧
        Below w.heap.size w (((W'.setCell ⟨w.heap.size + 1, 0, none⟩ (.slice (some ⟨g, 0, none⟩) n cap)).setCell ⟨w.heap.size + 1, 1, none⟩ (.slice none 0 0)).putObj D (.deferred none))) := by
      have hys' : ys.map proj = items S lands := hys
      rw [hys'] at hgr
      constructor
      · obtain ⟨bs', hgr'⟩ := Grid.set (B := w.heap.size + 1) (i := 1) (x := .slice none 0 0) (Grid.set (B := w.heap.size + 1) (i := 0) (x := .slice (some ⟨g, 0, none⟩) n cap) hgr.grid (by have := HLT.out; omega)) (by have := HLT.out; omega)
        have hga : GridAt bs' w1.heap.size _ _ _ := hgr'
        exact Grid.weaken (hga.kept (grownBy_putObj' _ D (.deferred none)) (fun r e => by cases e; exact ⟨_, hK', rfl⟩)).grid (by have := HLT.out; omega)
      · exact (below_set2 hbe (Nat.le_succ _) _ _).trans (belowK_b (w := w) (Nat.le_refl _) _ D _ _ (by have := HLT.out; omega) hK' rfl rfl)
    clear hit hkt hkb hsW hsL hbase hbL hBsL hBlL hwwL hwL hbo hbr hgr hbe hle hbf hys hD hDne
    gi_wp2
    refine ⟨by simp, .inl ⟨_, _, rfl, run_takeDeferred hK', ?_⟩⟩
    exact ⟨.tuple #[.agg #[.slice (some ⟨g, 0, none⟩) n cap, .slice none 0 0], .int .i64 0], by simp [results, Tryd.results46, go_sem, *], ⟨_, rfl, HFIN.out⟩⟩
  case stop =>
    rintro D c pre W' _ _ h _
    exact h.elim

def stand (S : St) (lands : Nat → Bool) : St := if chk S = true then ⟨fill (List.replicate S.secs.length zeros) (items S lands), []⟩ else none0

set_option maxHeartbeats 1000000 in
theorem settle_bad (n0 : Nat) (v lf : Value) (S : St) (w : World) (h : Disk n0 w v S) (hS : chk S = false) :
    Calls Tryd.prog 46 #[v, lf] w fun e w' => e = .returned (.tuple #[.agg #[.slice none 0 0, .slice none 0 0], .int .i64 9]) ∧ Below w.heap.size w w' := by
  obtain ⟨a1, c1, a2, c2, rfl, hL, hW⟩ := h.shape
  have HD : Hid (Disk n0 w (.agg #[.slice a1 S.secs.length c1, .slice a2 S.cache.length c2]) S) := h
  obtain ⟨n, hn⟩ : ∃ n, n = S.secs.length := ⟨_, rfl⟩
  obtain ⟨m, hm⟩ : ∃ n, n = S.cache.length := ⟨_, rfl⟩
  rw [← hn, ← hm] at HD ⊢
  clear h hL hW hn hm
  go_enter Tryd.func46, Tryd.ntmps46
  go_wp2_with fail
  refine (check_any n0 _ S _ (HD.out.below (((Below.refl _ w).alloc (Nat.le_refl _) _).alloc (by simp) _))).mono ?_
  rintro e w1 ⟨rfl, hb1⟩
  have hR1 : Box w1 (w.heap.size + 1) 40 (.slice none 0 0) (.slice none 0 0) := by
    have := Box.new (w.alloc (.cells #[.slice a1 n c1, .slice a2 m c2] 40)) 40 (.slice none 0 0) (.slice none 0 0)
    rw [World.size_alloc] at this
    exact this.below hb1 (by simp)
  have HB : Hid (Below w.heap.size w w1) := below_any (((Below.refl _ w).alloc (Nat.le_refl _) _).alloc (by simp) _) hb1
  have g2 := hR1.cell0
  have g3 := hR1.cell1
  have g4 := hR1.frozen0
  have g5 := hR1.frozen1
  have hce : cerr S = 9 := by simp [cerr, hS]
  rw [hce]
  clear hb1 hR1 hce
  go_wp2
  refine bodyPost_ret (v := .tuple #[.agg #[.slice none 0 0, .slice none 0 0], .int .i64 9]) (by simp [results, Tryd.results46, go_sem, *]) rfl ⟨rfl, ?_⟩
  exact below_set2 HB.out (Nat.le_succ _) _ _

theorem stand_good {S : St} {lands : Nat → Bool} (h : chk S = true) : stand S lands = ⟨fill (List.replicate S.secs.length zeros) (items S lands), []⟩ := by rw [stand, if_pos h]
theorem stand_bad {S : St} {lands : Nat → Bool} (h : chk S = false) : stand S lands = none0 := by rw [stand, if_neg (by simp [h])]

theorem Grid.disk {base : Nat} {w : World} {v : Value} {ls : List (List Int)} (h : Grid base w v ls) : Disk base w (.agg #[v, .slice none 0 0]) ⟨ls, []⟩ :=
  ⟨_, _, rfl, h.lists, ⟨[], ⟨by simp [flat], .inl ⟨rfl, rfl⟩⟩, trivial⟩⟩

theorem settle_any (n0 : Nat) (v : Value) (S : St) (gl : Nat) (lb : Array Value) (lands : Nat → Bool) (w : World) (h : Disk n0 w v S)
    (heg : ∀ args w, (callFunc gl args).run Tryd.prog w = .ok (.enter gl args) w)
    (hlands : ∀ (W : World) (j : Nat), (∀ k, k < w.heap.size → W.heap[k]? = w.heap[k]?) → Calls Tryd.prog gl (#[.int .i64 (j : Int)] ++ lb) W fun e w' => e = .returned (.bool (lands j)) ∧ W = w') :
    Calls Tryd.prog 46 #[v, .func (.func gl) #[] lb] w fun e w' => ∃ v', e = .returned (.tuple #[v', .int .i64 (cerr S)]) ∧ Disk w.heap.size w' v' (stand S lands) ∧ Below w.heap.size w w' := by
  cases hS : chk S
  · have hc : cerr S = 9 := by simp [cerr, hS]
    rw [hc, stand_bad hS]
    exact (settle_bad n0 v _ S w h hS).mono fun e w' ⟨he, hb⟩ => ⟨_, he, (own_zero _ _ 64).disk, hb⟩
  · have hc : cerr S = 0 := by simp [cerr, hS]
    rw [hc, stand_good hS]
    exact (settle_good n0 v S gl lb lands w h hS heg hlands).mono fun e w' ⟨vs, he, hG, hb⟩ => ⟨_, he, hG.disk, hb⟩

end Go.Proofs.YthlfgpnabcplnaaDoor.Dk

/-
  Plain mathematics: octets of rows of 64 laid one behind another; what a copy of a row over its place makes of them.
-/
namespace Go.Proofs.YthlfgpnabcplnaaDoor.Dk
open Go.RowKit
set_option maxRecDepth 100000

def all64 (ls : List (List Int)) : Prop := ∀ l ∈ ls, l.length = 64

theorem flatten_length64 : ∀ (ls : List (List Int)), all64 ls → ls.flatten.length = 64 * ls.length
  | [], _ => rfl
  | l :: ls, h => by
    have h1 := h l (List.mem_cons_self ..)
    have h2 := flatten_length64 ls (fun x hx => h x (List.mem_cons_of_mem _ hx))
    rw [List.flatten_cons, List.length_append, h1, h2, List.length_cons]; omega

theorem splice_shift (a b l : List Int) (off : Nat) : splice (a ++ b) (a.length + off) l = a ++ splice b off l := by
  unfold splice
  rw [List.take_append, List.take_of_length_le (by omega), show a.length + off - a.length = off by omega, Nat.add_assoc, List.drop_append, List.drop_of_length_le (by omega), show a.length + (off + l.length) - a.length = off + l.length by omega]
  simp

theorem splice_head (a b l : List Int) (h : a.length = l.length) : splice (a ++ b) 0 l = l ++ b := by
  unfold splice
  rw [List.take_zero, List.nil_append, Nat.zero_add, ← h, List.drop_left]

theorem flatten_set (l : List Int) (hl : l.length = 64) : ∀ (ls : List (List Int)) (j : Nat), all64 ls → j < ls.length → (ls.set j l).flatten = splice ls.flatten (64 * j) l
  | [], j, _, h => by simp at h
  | x :: ls, 0, h, _ => by
    rw [List.set_cons_zero, List.flatten_cons, List.flatten_cons, Nat.mul_zero, splice_head _ _ _ (by rw [h x (List.mem_cons_self ..), hl])]
  | x :: ls, j + 1, h, hj => by
    have hx := h x (List.mem_cons_self ..)
    have ih := flatten_set l hl ls j (fun y hy => h y (List.mem_cons_of_mem _ hy)) (by simpa using hj)
    rw [List.set_cons_succ, List.flatten_cons, List.flatten_cons, ih, show 64 * (j + 1) = x.length + 64 * j by rw [hx]; omega, splice_shift]

/-- So many rows, from one on, one behind another. -/
def window (rows : List (List Int)) (s k : Nat) : List Int := ((rows.drop s).take k).flatten

theorem all64_window {rows : List (List Int)} (h : all64 rows) (s k : Nat) : all64 ((rows.drop s).take k) := fun l hl => h l (List.mem_of_mem_drop (List.mem_of_mem_take hl))
theorem window_length (rows : List (List Int)) (s k : Nat) (h : all64 rows) (hs : s + k ≤ rows.length) : (window rows s k).length = 64 * k := by
  rw [window, flatten_length64 _ (all64_window h s k), List.length_take, List.length_drop]; omega

theorem window_out (rows : List (List Int)) (s k i : Nat) (l : List Int) (h : i < s ∨ s + k ≤ i) : window (rows.set i l) s k = window rows s k := by
  unfold window
  congr 1
  apply List.ext_getElem?
  intro j
  rw [List.getElem?_take, List.getElem?_take]
  split
  · rw [List.getElem?_drop, List.getElem?_drop, List.getElem?_set_ne (by omega)]
  · rfl

theorem window_in (rows : List (List Int)) (s k i : Nat) (l : List Int) (hr : all64 rows) (hl : l.length = 64) (hs : s + k ≤ rows.length) (h1 : s ≤ i) (h2 : i < s + k) : window (rows.set i l) s k = splice (window rows s k) (64 * (i - s)) l := by
  unfold window
  rw [← flatten_set l hl _ _ (all64_window hr s k) (by rw [List.length_take, List.length_drop]; omega)]
  congr 1
  apply List.ext_getElem?
  intro j
  by_cases e : i = s + j
  · subst e
    rw [show s + j - s = j by omega, List.getElem?_set_self (by rw [List.length_take, List.length_drop]; omega), List.getElem?_take, if_pos (by omega), List.getElem?_drop, List.getElem?_set_self (by omega)]
  · rw [List.getElem?_set_ne (show i - s ≠ j by omega), List.getElem?_take, List.getElem?_take]
    split
    · rw [List.getElem?_drop, List.getElem?_drop, List.getElem?_set_ne (by omega)]
    · rfl

theorem all64_fill : ∀ (ps : List (Nat × List Int)) (init : List (List Int)), all64 init → (∀ p ∈ ps, p.2.length = 64) → all64 (fill init ps)
  | [], _, h, _ => h
  | p :: ps, init, h, hp => by
    refine all64_fill ps (init.set p.1 p.2) (fun l hl => ?_) (fun q hq => hp q (List.mem_cons_of_mem _ hq))
    rcases List.mem_or_eq_of_mem_set hl with h1 | h1
    · exact h l h1
    · rw [h1]; exact hp p (List.mem_cons_self ..)
theorem all64_zeros (n : Nat) : all64 (List.replicate n zeros) := fun l hl => by rw [(List.mem_replicate.1 hl).2]; simp [zeros]

theorem window_zeros (n s k : Nat) (h : s + k ≤ n) : window (List.replicate n zeros) s k = List.replicate (64 * k) 0 := by
  unfold window
  rw [List.drop_replicate, List.take_replicate, Nat.min_eq_left (by omega), zeros, List.flatten_replicate_replicate, Nat.mul_comm]

theorem oct_splice {a b : List Int} {off : Nat} (ha : Oct a) (hb : Oct b) : Oct (splice a off b) := by
  intro x hx
  unfold splice at hx
  rcases List.mem_append.1 hx with h | h
  · exact ha x (List.mem_of_mem_take h)
  · rcases List.mem_append.1 h with h | h
    · exact hb x h
    · exact ha x (List.mem_of_mem_drop h)

theorem splice_map (a b : List Int) (off : Nat) (f : Int → Value) : splice (a.map f) off (b.map f) = (splice a off b).map f := by
  simp [splice, List.map_take, List.map_drop]

end Go.Proofs.YthlfgpnabcplnaaDoor.Dk

/-
  What GetAll and Get answer of any disk: the error by the document's order, or the octets of the sectors as all writes left them.
-/
namespace Go.Proofs.YthlfgpnabcplnaaDoor.Dk
open Go.RowKit Go.Shelf
set_option maxRecDepth 100000
attribute [local go_sem] Oper.semAt_some

def full (S : St) : List (List Int) := fill (List.replicate S.secs.length zeros) (items S fun _ => true)
def gerr (S : St) (s k : Int) : Int := if chk S = false then 9 else if reach S.secs.length s k = false then 41 else 0
def gout (S : St) (s k : Int) : List Int := if gerr S s k = 0 then window (full S) s.toNat k.toNat else []

def zrow (A : Nat) : List Value := (List.replicate A (0 : Int)).map (Value.int .u8)

theorem made_many (A : Nat) : madeCells #[Value.int .u8 0] A = (zrow A).toArray := by
  apply Array.ext'
  rw [toList_madeCells_one, zrow, List.map_replicate]

theorem make_many (A : Nat) (h : A ≤ 281474976710656) (W : World) : (Instr.makeSlice 22 (.int .i64 (A : Int)) (.int .i64 (A : Int))).run Tryd.prog W = .ok (.slice (some ⟨W.heap.size, 0, none⟩) A A) (W.alloc (.cells (zrow A).toArray 5)) := by
  have := run_make_row' (P := Tryd.prog) 22 5 (.int .u8 0) 1 Tryd.underlying22 Tryd.info5 rfl .i64 .i64 A (by omega) (by omega) W
  rw [made_many] at this
  exact this

/-- Block B is a variable of one cell. -/
def One (w : World) (B : Nat) (t : TypeId) (v : Value) : Prop := w.heap[B]? = some (.cells #[v] t (0, 0))
theorem One.cell {w : World} {B : Nat} {t : TypeId} {v : Value} (h : One w B t v) : w.cell? ⟨B, 0, none⟩ = some v := cell_one h
theorem One.lt {w : World} {B : Nat} {t : TypeId} {v : Value} (h : One w B t v) : B < w.heap.size := (Array.getElem?_eq_some_iff.1 h).1
theorem One.new (w : World) (t : TypeId) (v : Value) : One (w.alloc (.cells #[v] t)) w.heap.size t v := heap_alloc_new w _
theorem One.below {w w' : World} {B n : Nat} {t : TypeId} {v : Value} (h : One w B t v) (hb : Below n w w') (hn : B < n) : One w' B t v := (hb.block B hn).trans h
theorem One.alloc {w : World} {B : Nat} {t : TypeId} {v : Value} (h : One w B t v) (o : Obj) : One (w.alloc o) B t v := (Below.heap_alloc w o B h.lt).trans h
theorem One.grown {w w' : World} {row : Option Nat} {B : Nat} {t : TypeId} {v : Value} (h : One w B t v) (hg : w.grownBy w' row) (hne : some B ≠ row) : One w' B t v := (hg.block B h.lt hne).trans h

theorem wrap_in' (x : Int) (h : -9223372036854775808 ≤ x ∧ x ≤ 9223372036854775807) : IntKind.i64.wrap x = x := by rw [IntKind.wrap_i64]; omega
theorem wrap_to' (x y : Int) (e : x = y) (h : -9223372036854775808 ≤ x ∧ x ≤ 9223372036854775807) : IntKind.i64.wrap x = y := by rw [wrap_in' x h, e]
theorem elem22' : Tryd.prog.underlying 22 = some (.slice (Tryd.prog.elem 22)) := by kernel_rfl
theorem elem22_is' : Tryd.prog.elem 22 = 5 := by kernel_rfl
theorem size5' (W : World) : (sizeOf (Tryd.prog.elem 22)).run Tryd.prog W = .ok 1 W := by
  obtain ⟨i0, hi, hz0, hz1, hz2⟩ := info_parts Tryd.info5
  rw [elem22_is']
  simp [sizeOf, typeInfo, hi, hz1]

theorem items_len {S : St} (hS : chk S = true) (lands : Nat → Bool) : ∀ p ∈ items S lands, p.1 < S.secs.length ∧ p.2.length = 64 := by
  obtain ⟨_, _, _, k4, k5, k6⟩ := chk_facts hS
  intro p hp
  rcases List.mem_append.1 hp with h | h
  · obtain ⟨i, hi, rfl⟩ := List.mem_map.1 h
    have hlt := List.mem_range.1 hi
    refine ⟨hlt, ?_⟩
    simp only [List.getD, List.getElem?_eq_getElem hlt, Option.getD_some]
    exact k4 _ (List.getElem_mem hlt)
  · have aux : ∀ j, j ≤ S.cache.length → ∀ p ∈ landed S lands j, p.1 < S.secs.length ∧ p.2.length = 64 := by
      intro j
      induction j with
      | zero => intro _ p hp; simp [landed] at hp
      | succ j ih =>
        intro hj p hp
        rcases List.mem_append.1 hp with h | h
        · exact ih (by omega) p h
        · split at h
          · obtain rfl : p = write S j := by simpa using h
            have hlt : j < S.cache.length := hj
            have hm := List.getElem_mem hlt
            simp only [write, List.getD, List.getElem?_eq_getElem hlt, Option.getD_some]
            have := k6 _ hm
            exact ⟨by omega, k5 _ hm⟩
          · simp at h
    exact aux _ (Nat.le_refl _) p h

theorem full_64 {S : St} (hS : chk S = true) (lands : Nat → Bool) : all64 (fill (List.replicate S.secs.length zeros) (items S lands)) := all64_fill _ _ (all64_zeros _) fun p hp => (items_len hS lands p hp).2

set_option maxHeartbeats 2000000 in
theorem getAll_good (n0 : Nat) (v : Value) (S : St) (sn kn : Nat) (w : World) (h : Disk n0 w v S) (hS : chk S = true) (hr : sn + kn ≤ S.secs.length) :
    Calls Tryd.prog 31 #[v, .int .i64 (sn : Int), .int .i64 (kn : Int)] w fun e w' => ∃ v', e = .returned (.tuple #[v', .int .i64 0]) ∧ w'.ownsRow w.heap.size 5 1 v' (64 * kn) ((window (full S) sn kn).map (Value.int .u8)) ∧ Below w.heap.size w w' := by
  refine (callsIn_wide (n := 5)).1 ?_
  obtain ⟨a1, c1, a2, c2, rfl, hL, hW⟩ := h.shape
  obtain ⟨k1, k2, k3, k4, k5, k6⟩ := chk_facts hS
  have HD : Hid (Disk n0 w (.agg #[.slice a1 S.secs.length c1, .slice a2 S.cache.length c2]) S) := h
  have HLW : Hid (Lists n0 w (.slice a1 S.secs.length c1) S.secs ∧ Writes n0 w (.slice a2 S.cache.length c2) S.cache) := ⟨hL, hW⟩
  have hrt : reach S.secs.length (sn : Int) (kn : Int) = true := by simp [reach]; omega
  obtain ⟨n, hn⟩ : ∃ n, n = S.secs.length := ⟨_, rfl⟩
  obtain ⟨m, hm⟩ : ∃ n, n = S.cache.length := ⟨_, rfl⟩
  have HFL : Hid (full S = fill (List.replicate n zeros) (items S fun _ => true)) := by show _ = _; rw [hn]; rfl
  rw [← hn] at HD HLW k1 k2 hr hrt ⊢
  rw [← hm] at HD HLW k3 ⊢
  have HN : Hid (n = S.secs.length ∧ m = S.cache.length) := ⟨hn, hm⟩
  obtain ⟨A, hA⟩ : ∃ A, A = 64 * kn := ⟨_, rfl⟩
  rw [← hA]
  have HA : Hid (A = 64 * kn) := hA
  have hwm : IntKind.i64.wrap ((kn : Int) * 64) = (A : Int) := by rw [IntKind.wrap_i64]; omega
  have hmk := make_many A (by omega)
  clear hn hm h hL hW k4 k5 k6 hA
  refine callsIn_of_wp_marks Tryd.func31 rfl trivial ?_ rfl
  simp only [Tryd.ntmps31, List.size_toArray, List.length_cons, List.length_nil, Nat.reduceAdd, Nat.reduceSub, Array.replicate_succ, Array.replicate_zero, List.push_toArray, List.append_toArray, List.nil_append, List.cons_append]
  gi_wp2_with fail
  refine ⟨trivial, (callsIn_wide.2 (check_any n0 _ S _ (HD.out.below ((((Below.refl _ w).alloc (Nat.le_refl _) _).alloc (by simp) _).alloc (by simp; omega) _)))).mono ?_⟩
  rintro e w1 ⟨rfl, hb1⟩
  have hP1 : Box w1 w.heap.size 40 (.slice a1 n c1) (.slice a2 m c2) := (((Box.new w 40 _ _).alloc _).alloc _).below hb1 (by simp; omega)
  have hO1 : One w1 (w.heap.size + 1) 3 (.int .i64 (sn : Int)) := by
    have := (One.new (w.alloc (.cells #[.slice a1 n c1, .slice a2 m c2] 40)) 3 (.int .i64 (sn : Int))).alloc (.cells #[.int .i64 (kn : Int)] 3)
    rw [World.size_alloc] at this
    exact this.below hb1 (by simp)
  have hO2 : One w1 (w.heap.size + 2) 3 (.int .i64 (kn : Int)) := by
    have := One.new ((w.alloc (.cells #[.slice a1 n c1, .slice a2 m c2] 40)).alloc (.cells #[.int .i64 (sn : Int)] 3)) 3 (.int .i64 (kn : Int))
    rw [World.size_alloc, World.size_alloc] at this
    exact this.below hb1 (by simp)
  have HB1 : Hid (Box w1 w.heap.size 40 (.slice a1 n c1) (.slice a2 m c2) ∧ One w1 (w.heap.size + 1) 3 (.int .i64 (sn : Int)) ∧ One w1 (w.heap.size + 2) 3 (.int .i64 (kn : Int)) ∧ Below w.heap.size w w1) := ⟨hP1, hO1, hO2, below_any ((((Below.refl _ w).alloc (Nat.le_refl _) _).alloc (by simp) _).alloc (by simp; omega) _) hb1⟩
  have g0 := hP1.cell0
  have g1 := hP1.cell1
  have g2 := hO1.cell
  have g3 := hO2.cell
  have hce : cerr S = 0 := by simp [cerr, hS]
  rw [hce]
  clear hb1 hP1 hO1 hO2 hce
  gi_wp2_with fail
  refine ⟨trivial, (callsIn_wide.2 (reaches_any a1 a2 n c1 m c2 sn kn w1 (by unfold maxLen; omega) (by omega))).mono ?_⟩
  rw [hrt]
  rintro e w2 ⟨rfl, hb2⟩
  have hP2 := HB1.out.1.below hb2 HB1.out.1.lt
  have hO1 := HB1.out.2.1.below hb2 HB1.out.2.1.lt
  have hO2 := HB1.out.2.2.1.below hb2 HB1.out.2.2.1.lt
  have HLT1 : Hid (w.heap.size + 2 < w2.heap.size) := hO2.lt
  clear g0 g1 g2 g3
  have g0 := hP2.cell0
  have g1 := hP2.cell1
  have g2 := hO1.cell
  have g3 := hO2.cell
  obtain ⟨W, hW⟩ : ∃ W, W = (w2.alloc (.cells (zrow A).toArray 5)).alloc (.cells #[.slice (some ⟨w2.heap.size, 0, none⟩) A A] 22) := ⟨_, rfl⟩
  have hbW : Below w2.heap.size w2 W := by rw [hW]; exact ((Below.refl _ _).alloc (Nat.le_refl _) _).alloc (by simp) _
  have hgW : W.heap[w2.heap.size]? = some (.cells (zrow A).toArray 5 (0, 0)) := by
    rw [hW, Below.heap_alloc _ _ _ (by simp)]
    exact heap_alloc_new w2 _
  have hXW : One W (w2.heap.size + 1) 22 (.slice (some ⟨w2.heap.size, 0, none⟩) A A) := by
    rw [hW]
    have := One.new (w2.alloc (.cells (zrow A).toArray 5)) 22 (.slice (some ⟨w2.heap.size, 0, none⟩) A A)
    rw [World.size_alloc] at this
    exact this
  have hsW : W.heap.size = w2.heap.size + 2 := by rw [hW]; simp
  have hPW := hP2.below hbW hP2.lt
  have HW : Hid (One W (w.heap.size + 1) 3 (.int .i64 (sn : Int)) ∧ One W (w.heap.size + 2) 3 (.int .i64 (kn : Int)) ∧ One W (w2.heap.size + 1) 22 (.slice (some ⟨w2.heap.size, 0, none⟩) A A) ∧ W.heap[w2.heap.size]? = some (.cells (zrow A).toArray 5 (0, 0)) ∧ Below w.heap.size w W ∧ W.heap.size = w2.heap.size + 2) :=
    ⟨hO1.below hbW hO1.lt, hO2.below hbW hO2.lt, hXW, hgW, below_any (below_any HB1.out.2.2.2 hb2) hbW, hsW⟩
  have g4 := hPW.cell0
  have g5 := hPW.cell1
  have hwr := written_any a1 a2 n c1 m c2 (.func 47) #[] #[] W
  rw [hW] at g4 g5
  clear hP2 hO1 hO2 hbW hgW hXW hsW hPW hb2
  gi_wp2_with fail
  rw [← hW]
  refine ⟨trivial, (callsIn_wide.2 hwr).mono ?_⟩
  rintro e w4 ⟨rfl, hw4⟩
  clear hwr g0 g1 g2 g3 g4 g5 hW hmk hwm
  gi_wp2_with fail
  obtain ⟨wL, hwL⟩ : ∃ wL, wL = (W.alloc (.cells #[.slice a1 n c1, .slice a2 m c2] 40)).alloc (.cells #[.func (.func 47) #[] #[]] 84) := ⟨_, rfl⟩
  rw [← hwL]
  have hbL : Below W.heap.size W wL := by rw [hwL]; exact ((Below.refl _ _).alloc (Nat.le_refl _) _).alloc (by simp) _
  have hsL : wL.heap.size = W.heap.size + 2 := by rw [hwL]; simp
  have hBsL : Box wL W.heap.size 40 (.slice a1 n c1) (.slice a2 m c2) := by rw [hwL]; exact (Box.new W 40 _ _).alloc _
  have hBlL : wL.cell? ⟨W.heap.size + 1, 0, none⟩ = some (.func (.func 47) #[] #[]) := by
    rw [hwL]
    have := heap_alloc_new (W.alloc (.cells #[.slice a1 n c1, .slice a2 m c2] 40)) (.cells #[.func (.func 47) #[] #[]] 84)
    rw [World.size_alloc] at this
    exact cell_one this
  have hwwL : Below w.heap.size w wL := below_any HW.out.2.2.2.2.1 hbL
  have hsW : W.heap.size = w2.heap.size + 2 := HW.out.2.2.2.2.2
  have HLT : Hid (wL.heap.size = w2.heap.size + 4 ∧ w.heap.size + 2 < w2.heap.size) := ⟨by omega, HLT1.out⟩
  have hit := iter_stops 4 (by omega) (fun k => k = w2.heap.size) wL.heap.size n0 W.heap.size (W.heap.size + 1) w wL S a1 a2 c1 c2 47 #[] (fun _ => true) hS (by rw [← HN.out.1]; exact HLW.out.1) (by rw [← HN.out.2]; exact HLW.out.2)
    (fun k hk => by have := HLT.out; omega) (by have := HLT.out; omega) ⟨by omega, by omega⟩ ⟨by omega, by omega⟩ (Nat.le_refl _) (fun k hk => hwwL.block k hk)
    (by rw [← HN.out.1, ← HN.out.2]; exact hBsL) hBlL (enters_of Tryd.func47 (by kernel_rfl) rfl) (fun W' j _ => every_any j W')
  rw [← HN.out.1, ← HN.out.2] at hit
  obtain ⟨i2, hi2, hz20, hz21, hz22⟩ := info_parts Tryd.info22
  have hkt : ∀ {A B C : World}, Keep (fun k => k = w2.heap.size) wL.heap.size A B → Keep (fun k => k = w2.heap.size) wL.heap.size B C → Keep (fun k => k = w2.heap.size) wL.heap.size A C := fun h k => h.trans k
  have hkb : ∀ (W' : World) (l : Nat) (o o' : Obj), wL.heap.size ≤ l → W'.heap[l]? = some o → o.isCells = false → o.isWalk = false → Keep (fun k => k = w2.heap.size) wL.heap.size W' (W'.putObj l o') := fun W' l o o' hl h1 _ _ =>
    ⟨(grownBy_putObj' W' l o').size, fun k hk _ => (grownBy_putObj' W' l o').block k (by have := (Array.getElem?_eq_some_iff.1 h1).1; omega) (fun e => by cases e; omega)⟩
  refine wpIn_rangeFunc_ownF rfl (by omega) (gf := 58) (lb := #[.pointer (some ⟨W.heap.size, 0, none⟩), .pointer (some ⟨W.heap.size + 1, 0, none⟩)]) rfl trivial (enters_of Tryd.func58 (by kernel_rfl) rfl) hit hkt hkb (Below.refl _ _) (fun _ => rfl)
    (fun pre W' => One W' (w.heap.size + 1) 3 (.int .i64 (sn : Int)) ∧ One W' (w.heap.size + 2) 3 (.int .i64 (kn : Int)) ∧ One W' (w2.heap.size + 1) 22 (.slice (some ⟨w2.heap.size, 0, none⟩) A A) ∧ W'.heap[w2.heap.size]? = some (.cells ((window (fill (List.replicate n zeros) (pre.map proj)) sn kn).map (Value.int .u8)).toArray 5 (0, 0)) ∧ Below w.heap.size w W' ∧ wL.heap.size ≤ W'.heap.size)
    (fun _ _ _ => False)
    (fun s A B row hs hg hr => ⟨cells_kept hs.1 hg (fun r e => (hr r e).2), cells_kept hs.2.1 hg (fun r e => (hr r e).2), cells_kept hs.2.2.1 hg (fun r e => (hr r e).2), cells_kept hs.2.2.2.1 hg (fun r e => (hr r e).2), hs.2.2.2.2.1.grown hg hs.2.2.2.2.1.size (fun k e => by have := (hr k e).1; have := HLT.out; omega), Nat.le_trans hs.2.2.2.2.2 hg.size⟩)
    (fun _ _ _ _ _ hs _ _ => hs)
    ⟨HW.out.1.below hbL HW.out.1.lt, HW.out.2.1.below hbL HW.out.2.1.lt, HW.out.2.2.1.below hbL HW.out.2.2.1.lt, by
      rw [hbL.block _ (by omega), HW.out.2.2.2.1, List.map_nil, show fill (List.replicate n zeros) [] = List.replicate n zeros from rfl, window_zeros n sn kn hr, ← HA.out]
      rfl, hwwL, Nat.le_refl _⟩
    (fun x => { tmps := #[.agg #[.slice a1 n c1, .slice a2 m c2], .int .i64 (sn : Int), .int .i64 (kn : Int), .pointer (some ⟨w.heap.size, 0, none⟩), .pointer (some ⟨w.heap.size + 1, 0, none⟩), .pointer (some ⟨w.heap.size + 1 + 1, 0, none⟩), .slice none 0 0, .int .i64 0, .int .i64 0, .pointer (some ⟨w2.heap.size + 1, 0, none⟩), .int .i64 (x.i : Int), .slice x.a 64 x.cap,
          .agg #[.slice a1 n c1, .slice a2 m c2], .int .i64 0, .int .i64 0, .bool false, undef, .agg #[.slice a1 n c1, .slice a2 m c2], .int .i64 (sn : Int), .int .i64 (kn : Int), .bool true, .bool false, .int .i64 (kn : Int), .int .i64 (A : Int), .slice (some ⟨w2.heap.size, 0, none⟩) A A, .agg #[.slice a1 n c1, .slice a2 m c2],
          .func (.func 58) #[] #[.pointer (some ⟨W.heap.size, 0, none⟩), .pointer (some ⟨W.heap.size + 1, 0, none⟩)], .int .i64 (x.i : Int), .slice x.a 64 x.cap, undef, undef, undef, undef, undef, undef, undef, undef, undef, undef, undef, undef, undef, undef, undef, undef, undef, undef, undef], defers := [] }) ?assign ?body ?done ?stop
  case assign =>
    intro l x W' K hK
    clear hit hkt hkb hsW hsL hbL hBsL hBlL hwwL hwL
    unfold encs
    gi_wp2
    exact hK
  case body =>
    rintro l pre x W' ⟨ho1, ho2, ho3, hheap, hbe, hle⟩ _
    have hc1 := ho1.cell
    have hc2 := ho2.cell
    have hc3 := ho3.cell
    have ha64 : all64 (fill (List.replicate n zeros) (pre.map proj)) := all64_fill _ _ (all64_zeros n) (fun q hq => by
      obtain ⟨y, _, rfl⟩ := List.mem_map.1 hq
      exact y.len)
    have hlen : (fill (List.replicate n zeros) (pre.map proj)).length = n := by rw [fill_length, List.length_replicate]
    have hwin := window_length _ sn kn ha64 (by rw [hlen]; exact hr)
    have HXL : Hid (x.i < n) := x.lt
    have hws : IntKind.i64.wrap ((sn : Int) + (kn : Int)) = (sn : Int) + (kn : Int) := wrap_in' _ (by omega)
    by_cases h1 : (sn : Int) ≤ (x.i : Int)
    case neg =>
      have HFIN : Hid (KeepsOthers W' W' ∧ Keep (fun k => k = w2.heap.size) wL.heap.size W' W' ∧ (One W' (w.heap.size + 1) 3 (.int .i64 (sn : Int)) ∧ One W' (w.heap.size + 2) 3 (.int .i64 (kn : Int)) ∧ One W' (w2.heap.size + 1) 22 (.slice (some ⟨w2.heap.size, 0, none⟩) A A) ∧ W'.heap[w2.heap.size]? = some (.cells ((window (fill (List.replicate n zeros) ((pre ++ [x]).map proj)) sn kn).map (Value.int .u8)).toArray 5 (0, 0)) ∧ Below w.heap.size w W' ∧ wL.heap.size ≤ W'.heap.size)) := by
        refine ⟨KeepsOthers.refl _, Keep.refl _ _ _, ho1, ho2, ho3, ?_, hbe, hle⟩
        rw [List.map_append, List.map_cons, List.map_nil, fill_snoc, window_out _ _ _ _ _ (by show x.i < sn ∨ _; omega)]
        exact hheap
      clear hit hkt hkb hsW hsL hbL hBsL hBlL hwwL hwL ho1 ho2 ho3 hheap hbe hle ha64 hlen hwin
      gi_wp2
      exact HFIN.out
    by_cases h2 : (x.i : Int) < (sn : Int) + (kn : Int)
    case neg =>
      have HFIN : Hid (KeepsOthers W' W' ∧ Keep (fun k => k = w2.heap.size) wL.heap.size W' W' ∧ (One W' (w.heap.size + 1) 3 (.int .i64 (sn : Int)) ∧ One W' (w.heap.size + 2) 3 (.int .i64 (kn : Int)) ∧ One W' (w2.heap.size + 1) 22 (.slice (some ⟨w2.heap.size, 0, none⟩) A A) ∧ W'.heap[w2.heap.size]? = some (.cells ((window (fill (List.replicate n zeros) ((pre ++ [x]).map proj)) sn kn).map (Value.int .u8)).toArray 5 (0, 0)) ∧ Below w.heap.size w W' ∧ wL.heap.size ≤ W'.heap.size)) := by
        refine ⟨KeepsOthers.refl _, Keep.refl _ _ _, ho1, ho2, ho3, ?_, hbe, hle⟩
        rw [List.map_append, List.map_cons, List.map_nil, fill_snoc, window_out _ _ _ _ _ (by show _ ∨ sn + kn ≤ x.i; omega)]
        exact hheap
      clear hit hkt hkb hsW hsL hbL hBsL hBlL hwwL hwL ho1 ho2 ho3 hheap hbe hle ha64 hlen hwin
      gi_wp2
      exact HFIN.out
    obtain ⟨off, hoff⟩ : ∃ off, off = 64 * (x.i - sn) := ⟨_, rfl⟩
    have hw1 : IntKind.i64.wrap ((x.i : Int) - (sn : Int)) = (((x.i - sn : Nat)) : Int) := wrap_to' _ _ (by omega) (by omega)
    obtain ⟨ds, hds⟩ : ∃ ds, ds = x.i - sn := ⟨_, rfl⟩
    rw [← hds] at hw1 hoff
    have hw2 : IntKind.i64.wrap ((ds : Int) * 64) = (off : Int) := wrap_to' _ _ (by omega) (by omega)
    have hoA : off + 64 ≤ A := by have := HA.out; omega
    have hsl : ∀ W, (Instr.slice 22 (.slice (some ⟨w2.heap.size, 0, none⟩) A A) (some (.int .i64 (off : Int))) none none).run Tryd.prog W = .ok (.slice (some ⟨w2.heap.size, off, none⟩) (A - off) (A - off)) W := fun W => by
      rw [run_slice_l W 22 (some ⟨w2.heap.size, 0, none⟩) A A elem22' .i64 off (by omega) (by omega), size5']
      simp only [Result.andThen, sliced]
      rw [if_neg (by omega)]
      simp [add_plain]
    have hA : Arg n0 W' (.slice x.a x.l.length x.cap) x.l := by rw [x.len]; exact x.arg.below hbe
    obtain ⟨W2, hrun, hg2, hgrow, hsz2⟩ := run_copy_into W' w2.heap.size off (A - off) (A - off) x.a x.cap x.l _ 5 hheap hA (by rw [x.len]; omega) (by rw [x.len, List.length_map, hwin]; have := HA.out; omega)
    rw [x.len] at hrun
    rw [splice_map] at hg2
    have HFIN : Hid (KeepsOthers W' W2 ∧ Keep (fun k => k = w2.heap.size) wL.heap.size W' W2 ∧ (One W2 (w.heap.size + 1) 3 (.int .i64 (sn : Int)) ∧ One W2 (w.heap.size + 2) 3 (.int .i64 (kn : Int)) ∧ One W2 (w2.heap.size + 1) 22 (.slice (some ⟨w2.heap.size, 0, none⟩) A A) ∧ W2.heap[w2.heap.size]? = some (.cells ((window (fill (List.replicate n zeros) ((pre ++ [x]).map proj)) sn kn).map (Value.int .u8)).toArray 5 (0, 0)) ∧ Below w.heap.size w W2 ∧ wL.heap.size ≤ W2.heap.size)) := by
      refine ⟨KeepsOthers.of_grownBy hgrow (fun j o ej hj => by cases ej; rw [hheap] at hj; cases hj; rfl), ⟨hgrow.size, fun k hk hne => hgrow.block k (by omega) (fun e => by cases e; exact hne rfl)⟩, ho1.grown hgrow (by simp; have := HLT.out; omega), ho2.grown hgrow (by simp; have := HLT.out; omega), ho3.grown hgrow (by simp), ?_, hbe.grown hgrow hbe.size (fun k e => by cases e; have := HLT.out; omega), by omega⟩
      rw [List.map_append, List.map_cons, List.map_nil, fill_snoc, hg2]
      show _ = some (Obj.cells ((window ((fill (List.replicate n zeros) (pre.map proj)).set x.i x.l) sn kn).map (Value.int .u8)).toArray 5 (0, 0))
      rw [window_in _ sn kn x.i x.l ha64 x.len (by rw [hlen]; exact hr) (by omega) (by omega), ← hds, ← hoff]
    clear hit hkt hkb hsW hsL hbL hBsL hBlL hwwL hwL ho1 ho2 ho3 hheap hbe hle ha64 hlen hwin hA hgrow hg2 hsz2 hds hoff hoA
    gi_wp2
    exact HFIN.out
  case done =>
    rintro D ys W' hD hys ⟨ho1, ho2, ho3, hheap, hbe, hle⟩ hK
    have hys' : ys.map proj = items S fun _ => true := hys
    rw [hys', ← HFL.out] at hheap
    have hc3 := ho3.cell
    have hwl : (window (full S) sn kn).length = A := by
      unfold full
      rw [window_length _ sn kn (full_64 hS _) (by rw [fill_length, List.length_replicate, ← HN.out.1]; exact hr), ← HA.out]
    have HFIN : Hid ((W'.putObj D (.deferred none)).ownsRow w.heap.size 5 1 (.slice (some ⟨w2.heap.size, 0, none⟩) A A) A ((window (full S) sn kn).map (Value.int .u8)) ∧ Below w.heap.size w (W'.putObj D (.deferred none))) := by
      constructor
      · refine row_own ?_ (by have := HLT.out; omega) (by rw [List.length_map]; exact hwl) (by have := HA.out; unfold maxLen; omega)
        rw [World.putObj_heap_other (by have := HLT.out; omega)]
        exact hheap
      · exact hbe.trans (belowK_b (w := w) (Nat.le_refl _) _ D _ _ (by have := HLT.out; omega) hK rfl rfl)
    clear hit hkt hkb hsW hsL hbL hBsL hBlL hwwL hwL ho1 ho2 ho3 hheap hbe hle hys hys' hD hwl
    gi_wp2
    refine ⟨by simp, .inl ⟨_, _, rfl, run_takeDeferred hK, ?_⟩⟩
    exact ⟨.tuple #[.slice (some ⟨w2.heap.size, 0, none⟩) A A, .int .i64 0], by simp [results, Tryd.results31, go_sem, *], ⟨_, rfl, HFIN.out⟩⟩
  case stop =>
    rintro D c pre W' _ _ h _
    exact h.elim

set_option maxHeartbeats 1000000 in
theorem getAll_bad (n0 : Nat) (v : Value) (S : St) (s k : Int) (w : World) (h : Disk n0 w v S) (hs : -9223372036854775808 ≤ s ∧ s ≤ 9223372036854775807) (hb : chk S = false ∨ reach S.secs.length s k = false) :
    Calls Tryd.prog 31 #[v, .int .i64 s, .int .i64 k] w fun e w' => e = .returned (.tuple #[.slice none 0 0, .int .i64 (if chk S = false then 9 else 41)]) ∧ Below w.heap.size w w' := by
  obtain ⟨a1, c1, a2, c2, rfl, hL, hW⟩ := h.shape
  obtain ⟨_, _, _, _, hm1, _⟩ := hL.shape
  have HD : Hid (Disk n0 w (.agg #[.slice a1 S.secs.length c1, .slice a2 S.cache.length c2]) S) := h
  obtain ⟨n, hn⟩ : ∃ n, n = S.secs.length := ⟨_, rfl⟩
  obtain ⟨m, hm⟩ : ∃ n, n = S.cache.length := ⟨_, rfl⟩
  rw [← hn, ← hm] at HD ⊢
  rw [← hn] at hm1 hb
  obtain ⟨ee, hee⟩ : ∃ x : Int, x = if chk S = false then 9 else 41 := ⟨_, rfl⟩
  rw [← hee]
  have HE : Hid (ee = if chk S = false then 9 else 41) := hee
  clear h hL hW hn hm hee
  go_enter Tryd.func31, Tryd.ntmps31
  go_wp2_with fail
  refine (check_any n0 _ S _ (HD.out.below ((((Below.refl _ w).alloc (Nat.le_refl _) _).alloc (by simp) _).alloc (by simp; omega) _))).mono ?_
  rintro e w1 ⟨rfl, hb1⟩
  have hP1 : Box w1 w.heap.size 40 (.slice a1 n c1) (.slice a2 m c2) := (((Box.new w 40 _ _).alloc _).alloc _).below hb1 (by simp; omega)
  have hO1 : One w1 (w.heap.size + 1) 3 (.int .i64 s) := by
    have := (One.new (w.alloc (.cells #[.slice a1 n c1, .slice a2 m c2] 40)) 3 (.int .i64 s)).alloc (.cells #[.int .i64 k] 3)
    rw [World.size_alloc] at this
    exact this.below hb1 (by simp)
  have hO2 : One w1 (w.heap.size + 2) 3 (.int .i64 k) := by
    have := One.new ((w.alloc (.cells #[.slice a1 n c1, .slice a2 m c2] 40)).alloc (.cells #[.int .i64 s] 3)) 3 (.int .i64 k)
    rw [World.size_alloc, World.size_alloc] at this
    exact this.below hb1 (by simp)
  have HB : Hid (Below w.heap.size w w1) := below_any ((((Below.refl _ w).alloc (Nat.le_refl _) _).alloc (by simp) _).alloc (by simp; omega) _) hb1
  have g0 := hP1.cell0
  have g1 := hP1.cell1
  have g2 := hO1.cell
  have g3 := hO2.cell
  unfold cerr
  clear hb1 hP1 hO1 hO2
  cases hS : chk S
  · have he : ee = 9 := by rw [HE.out, if_pos hS]
    subst he
    clear hb
    go_wp2
    go_ret2
    exact ⟨rfl, HB.out⟩
  · have he : ee = 41 := by rw [HE.out, if_neg (by simp [hS])]
    subst he
    have hrf : reach n s k = false := hb.resolve_left (by simp [hS])
    clear hb
    go_wp2_with fail
    refine (reaches_any a1 a2 n c1 m c2 s k w1 hm1 hs).mono ?_
    rw [hrf]
    rintro e w2 ⟨rfl, hb2⟩
    have HB2 : Hid (Below w.heap.size w w2) := below_any HB.out hb2
    clear hb2 g0 g1 g2 g3
    go_wp2
    go_ret2
    exact ⟨rfl, HB2.out⟩

theorem getAll_any (n0 : Nat) (v : Value) (S : St) (s k : Int) (w : World) (h : Disk n0 w v S) (hs : -9223372036854775808 ≤ s ∧ s ≤ 9223372036854775807) :
    Calls Tryd.prog 31 #[v, .int .i64 s, .int .i64 k] w fun e w' => ∃ v', e = .returned (.tuple #[v', .int .i64 (gerr S s k)]) ∧ w'.ownsRow w.heap.size 5 1 v' (gout S s k).length ((gout S s k).map (Value.int .u8)) ∧ Below w.heap.size w w' := by
  by_cases hb : chk S = false ∨ reach S.secs.length s k = false
  · have e1 : gerr S s k = if chk S = false then 9 else 41 := by
      unfold gerr
      split
      · rfl
      · rename_i h0
        rw [if_pos (hb.resolve_left h0)]
    have e2 : gout S s k = [] := by rw [gout, if_neg (by rw [e1]; split <;> omega)]
    rw [e1, e2]
    exact (getAll_bad n0 v S s k w h hs hb).mono fun e w' ⟨he, hbl⟩ => ⟨_, he, World.ownsRow_nil _ _ _ _, hbl⟩
  · have hS : chk S = true := by
      cases hc : chk S
      · exact absurd (.inl hc) hb
      · rfl
    have hr : reach S.secs.length s k = true := by
      cases hc : reach S.secs.length s k
      · exact absurd (.inr hc) hb
      · rfl
    have e1 : gerr S s k = 0 := by rw [gerr, if_neg (by simp [hS]), if_neg (by simp [hr])]
    simp [reach] at hr
    obtain ⟨sn, rfl⟩ : ∃ sn : Nat, s = (sn : Int) := ⟨s.toNat, by omega⟩
    obtain ⟨kn, rfl⟩ : ∃ kn : Nat, k = (kn : Int) := ⟨k.toNat, by omega⟩
    have e2 : gout S (sn : Int) (kn : Int) = window (full S) sn kn := by rw [gout, if_pos e1]; simp
    have e3 : (window (full S) sn kn).length = 64 * kn := by
      unfold full
      exact window_length _ sn kn (full_64 hS _) (by rw [fill_length, List.length_replicate]; omega)
    rw [e1, e2, e3]
    exact getAll_good n0 v S sn kn w h hS (by omega)


end Go.Proofs.YthlfgpnabcplnaaDoor.Dk

/-
  Plain mathematics: what stands behind writes, row by row; a text laid into sectors, octet by octet.
-/
namespace Go.Proofs.YthlfgpnabcplnaaDoor.Dk
open Go.RowKit
set_option maxRecDepth 100000

theorem fill_append (init : List (List Int)) (a b : List (Nat × List Int)) : fill init (a ++ b) = fill (fill init a) b := by unfold fill; rw [List.foldl_append]

theorem fill_first (S : St) (init : List (List Int)) (h : init.length = S.secs.length) : ∀ k, k ≤ S.secs.length → fill init (first S k) = S.secs.take k ++ init.drop k
  | 0, _ => by simp [first, fill]
  | k + 1, hk => by
    have hlt : k < S.secs.length := hk
    rw [first_succ S k S.secs[k] (List.getElem?_eq_getElem hlt), fill_snoc, fill_first S init h k (by omega)]
    apply List.ext_getElem?
    intro j
    have hl1 : (S.secs.take k).length = k := by rw [List.length_take]; omega
    have hl2 : (S.secs.take (k + 1)).length = k + 1 := by rw [List.length_take]; omega
    by_cases e : k = j
    · subst e
      rw [List.getElem?_set_self (by rw [List.length_append, hl1, List.length_drop]; omega), List.getElem?_append_left (by rw [hl2]; omega), List.getElem?_take, if_pos (by omega), List.getElem?_eq_getElem hlt]
    · rw [List.getElem?_set_ne e]
      by_cases hj : j < k
      · rw [List.getElem?_append_left (by omega), List.getElem?_append_left (by omega), List.getElem?_take, List.getElem?_take, if_pos hj, if_pos (by omega)]
      · rw [List.getElem?_append_right (by omega), List.getElem?_append_right (by omega), hl1, hl2, List.getElem?_drop, List.getElem?_drop]
        congr 1
        omega

theorem fill_all (S : St) (lands : Nat → Bool) : fill (List.replicate S.secs.length zeros) (items S lands) = fill S.secs (landed S lands S.cache.length) := by
  rw [items, fill_append, fill_first S _ (by simp) _ (Nat.le_refl _)]
  simp

theorem fill_set_get (ls : List (List Int)) (ps : List (Nat × List Int)) (j : Nat) (hj : j < ls.length) (f : Nat → List Int) (sn k : Nat) (hp : ps = (List.range k).map fun (i : Nat) => (sn + i, f i)) :
    (fill ls ps)[j]? = if sn ≤ j ∧ j < sn + k then some (f (j - sn)) else ls[j]? := by
  subst hp
  induction k with
  | zero => simp [fill]; omega
  | succ k ih =>
    rw [List.range_succ, List.map_append, List.map_cons, List.map_nil, fill_snoc]
    by_cases e : sn + k = j
    · subst e
      rw [List.getElem?_set_self (by rw [fill_length]; exact hj), if_pos (by omega), show sn + k - sn = k by omega]
    · rw [List.getElem?_set_ne (show sn + k ≠ j from e), ih]
      by_cases h : sn ≤ j ∧ j < sn + k
      · rw [if_pos h, if_pos (by omega)]
      · rw [if_neg h, if_neg (by omega)]

theorem getD_left (a b : List Int) (i : Nat) (h : i < a.length) : (a ++ b).getD i 0 = a.getD i 0 := by simp [List.getD, List.getElem?_append_left h]
theorem getD_right (a b : List Int) (i : Nat) (h : a.length ≤ i) : (a ++ b).getD i 0 = b.getD (i - a.length) 0 := by simp [List.getD, List.getElem?_append_right h]

theorem flatten_get : ∀ (rows : List (List Int)), all64 rows → ∀ i, rows.flatten.getD i 0 = (rows.getD (i / 64) []).getD (i % 64) 0
  | [], _, i => by simp
  | l :: rows, h, i => by
    have hl := h l (List.mem_cons_self ..)
    rw [List.flatten_cons]
    by_cases hi : i < 64
    · rw [getD_left _ _ _ (by omega), show i / 64 = 0 by omega, show i % 64 = i by omega]; simp
    · rw [getD_right _ _ _ (by omega), hl, flatten_get rows (fun x hx => h x (List.mem_cons_of_mem _ hx)) (i - 64), show i / 64 = (i - 64) / 64 + 1 by omega, show (i - 64) % 64 = i % 64 by omega]
      simp

theorem pad_get (l : List Int) (i : Nat) : (pad l).getD i 0 = l.getD i 0 := by
  unfold pad
  by_cases h : i < l.length
  · rw [getD_left _ _ _ h]
  · rw [getD_right _ _ _ (by omega)]
    simp only [List.getD, List.getElem?_eq_none (Nat.le_of_not_lt h), Option.getD_none]
    by_cases h2 : i - l.length < 64 - l.length
    · simp [h2]
    · simp [h2]

theorem piece_get (d : List Int) (j r : Nat) (hr : r < 64) : (piece d j).getD r 0 = d.getD (64 * j + r) 0 := by
  unfold piece
  simp only [List.getD, List.getElem?_take, if_pos hr, List.getElem?_drop]

/-- A disk of n sectors of zeros behind a text put from a sector on. -/
def Tx (n sn : Nat) (d : List Int) : St := ⟨List.replicate n zeros, pieces (sn : Int) d⟩

theorem landed_all (S : St) : ∀ j, landed S (fun _ => true) j = (List.range j).map (write S)
  | 0 => rfl
  | j + 1 => by rw [landed, landed_all S j, List.range_succ, List.map_append]; rfl

theorem pieces_length (s : Int) (d : List Int) : (pieces s d).length = need d := by simp [pieces]
theorem pieces_get (s : Int) (d : List Int) (i : Nat) (h : i < need d) : (pieces s d).getD i (0, []) = (s + (i : Int), pad (piece d i)) := by
  simp [pieces, h]

theorem tx_full (n sn : Nat) (d : List Int) (j : Nat) (hj : j < n) : (full (Tx n sn d))[j]? = if sn ≤ j ∧ j < sn + need d then some (pad (piece d (j - sn))) else some zeros := by
  have e : landed (Tx n sn d) (fun _ => true) (Tx n sn d).cache.length = (List.range (need d)).map fun (i : Nat) => (sn + i, pad (piece d i)) := by
    rw [landed_all, show (Tx n sn d).cache.length = need d from pieces_length _ _]
    refine List.map_congr_left fun i hi => ?_
    have := List.mem_range.1 hi
    rw [write, show (Tx n sn d).cache = pieces (sn : Int) d from rfl, pieces_get _ _ _ this]
    simp only [Prod.mk.injEq, and_true]
    omega
  rw [full, fill_all, e, fill_set_get _ _ j (by simpa [Tx] using hj) (fun i => pad (piece d i)) sn (need d) rfl]
  split
  · rfl
  · simp [Tx, hj]

theorem tx_length (n sn : Nat) (d : List Int) : (full (Tx n sn d)).length = n := by rw [full, fill_length]; simp [Tx]

theorem tx_chk (n sn : Nat) (d : List Int) (h1 : 1 ≤ n) (h2 : n ≤ 20) (h3 : sn + need d ≤ n) : chk (Tx n sn d) = true := by
  have hp := pieces_length (sn : Int) d
  simp only [chk, Bool.and_eq_true, decide_eq_true_eq, List.all_eq_true]
  refine ⟨⟨⟨⟨by simpa [Tx] using h1, by simp [Tx]; omega⟩, by rw [show (Tx n sn d).cache = pieces (sn : Int) d from rfl, hp]; omega⟩, fun l hl => ?_⟩, fun q hq => ?_⟩
  · rw [(List.mem_replicate.1 hl).2]; rfl
  · obtain ⟨i, hi, rfl⟩ := List.mem_map.1 hq
    have hlt := List.mem_range.1 hi
    simp only [okWrite, Bool.and_eq_true, decide_eq_true_eq, beq_iff_eq]
    refine ⟨⟨by omega, ?_⟩, pad_length _ (piece_le d i)⟩
    show (sn : Int) + i < ((List.replicate n zeros).length : Int)
    rw [List.length_replicate]
    omega

theorem tx_get (n sn : Nat) (d : List Int) (h1 : 1 ≤ n) (h2 : n ≤ 20) (h3 : sn + need d ≤ n) (s k i : Nat) (hsk : s + k ≤ n) (hi : i < 64 * k) :
    (window (full (Tx n sn d)) s k).getD i 0 = if 64 * sn ≤ 64 * s + i ∧ 64 * s + i < 64 * (sn + need d) then d.getD (64 * s + i - 64 * sn) 0 else 0 := by
  have h64 : all64 (full (Tx n sn d)) := full_64 (tx_chk n sn d h1 h2 h3) _
  rw [window, flatten_get _ (all64_window h64 s k)]
  have hrow : (((full (Tx n sn d)).drop s).take k).getD (i / 64) [] = if sn ≤ s + i / 64 ∧ s + i / 64 < sn + need d then pad (piece d (s + i / 64 - sn)) else zeros := by
    simp only [List.getD, List.getElem?_take, if_pos (show i / 64 < k by omega), List.getElem?_drop]
    rw [tx_full n sn d (s + i / 64) (by omega)]
    split <;> rfl
  rw [hrow]
  by_cases h : sn ≤ s + i / 64 ∧ s + i / 64 < sn + need d
  · rw [if_pos h, if_pos (by omega), pad_get, piece_get d _ _ (by omega)]
    congr 1
    omega
  · rw [if_neg h, if_neg (by omega)]
    simp only [zeros, List.getD, List.getElem?_replicate]
    split <;> rfl

def OctS (S : St) : Prop := (∀ l ∈ S.secs, Oct l) ∧ ∀ q ∈ S.cache, Oct q.2

theorem items_mem (S : St) (lands : Nat → Bool) : ∀ p ∈ items S lands, p.2 ∈ S.secs ∨ ∃ q ∈ S.cache, p.2 = q.2 := by
  intro p hp
  rcases List.mem_append.1 hp with h | h
  · obtain ⟨i, hi, rfl⟩ := List.mem_map.1 h
    have hlt := List.mem_range.1 hi
    left
    simp only [List.getD, List.getElem?_eq_getElem hlt, Option.getD_some]
    exact List.getElem_mem hlt
  · right
    have aux : ∀ j, j ≤ S.cache.length → ∀ p ∈ landed S lands j, ∃ q ∈ S.cache, p.2 = q.2 := by
      intro j
      induction j with
      | zero => intro _ p hp; simp [landed] at hp
      | succ j ih =>
        intro hj p hp
        rcases List.mem_append.1 hp with h | h
        · exact ih (by omega) p h
        · split at h
          · obtain rfl : p = write S j := by simpa using h
            have hlt : j < S.cache.length := hj
            refine ⟨_, List.getElem_mem hlt, ?_⟩
            simp only [write, List.getD, List.getElem?_eq_getElem hlt, Option.getD_some]
          · simp at h
    exact aux _ (Nat.le_refl _) p h

theorem oct_fill : ∀ (ps : List (Nat × List Int)) (init : List (List Int)), (∀ l ∈ init, Oct l) → (∀ p ∈ ps, Oct p.2) → ∀ l ∈ fill init ps, Oct l
  | [], _, h, _ => h
  | p :: ps, init, h, hp => by
    refine oct_fill ps (init.set p.1 p.2) (fun l hl => ?_) (fun q hq => hp q (List.mem_cons_of_mem _ hq))
    rcases List.mem_or_eq_of_mem_set hl with h1 | h1
    · exact h l h1
    · rw [h1]; exact hp p (List.mem_cons_self ..)

theorem oct_stand {S : St} (h : OctS S) (lands : Nat → Bool) : ∀ l ∈ fill (List.replicate S.secs.length zeros) (items S lands), Oct l := by
  refine oct_fill _ _ (fun l hl => by rw [(List.mem_replicate.1 hl).2]; exact zeros_oct) (fun p hp => ?_)
  rcases items_mem S lands p hp with h1 | ⟨q, hq, e⟩
  · exact h.1 _ h1
  · rw [e]; exact h.2 q hq

theorem oct_window {rows : List (List Int)} (h : ∀ l ∈ rows, Oct l) (s k : Nat) : Oct (window rows s k) := fun x hx => by
  obtain ⟨l, hl, hxl⟩ := List.mem_flatten.1 hx
  exact h l (List.mem_of_mem_drop (List.mem_of_mem_take hl)) x hxl

theorem Lists.oct {n0 : Nat} {w : World} {v : Value} {ls : List (List Int)} (h : Lists n0 w v ls) : ∀ l ∈ ls, Oct l := fun l hl => by
  obtain ⟨i, hi, rfl⟩ := List.mem_iff_getElem.1 hl
  obtain ⟨us, _, h2⟩ := h
  obtain ⟨_, _, ha⟩ := h2.get (List.getElem?_eq_getElem hi)
  exact ha.2
theorem Writes.oct {n0 : Nat} {w : World} {v : Value} {ws : List (Int × List Int)} (h : Writes n0 w v ws) : ∀ q ∈ ws, Oct q.2 := fun q hq => by
  obtain ⟨i, hi, rfl⟩ := List.mem_iff_getElem.1 hq
  obtain ⟨us, _, h2⟩ := h
  obtain ⟨_, _, ha⟩ := h2.get (List.getElem?_eq_getElem hi)
  exact ha.2.1.2
theorem Disk.oct {n0 : Nat} {w : World} {v : Value} {S : St} (h : Disk n0 w v S) : OctS S := by
  obtain ⟨vs, vc, _, h2, h3⟩ := h
  exact ⟨h2.oct, h3.oct⟩

end Go.Proofs.YthlfgpnabcplnaaDoor.Dk
