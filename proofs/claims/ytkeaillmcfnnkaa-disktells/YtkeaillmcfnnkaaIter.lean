/-
  What written hands out: all sectors in order, then each write of the cache that lands, in order; for whatever loop body that keeps the disk.
-/
import Derived.Test.YtkeaillmcfnnkaaPut
import Derived.RangeFuncNested
import Derived.RangeFuncBound
import Derived.RangeFuncCalls
import Derived.RangeFuncLeaves
import Derived.Shelf.Abstract
import Derived.Shelf.RegionOpen
import Derived.OwnWalkIn
import Derived.TacticsInMore
import Derived.LoopNIn
import Derived.LoopIn
namespace Go.Proofs.Ytkeaillmcfnnkaa
open Go.RowKit Go.Shelf
attribute [local go_sem] Oper.semAt_some

/-- One that is handed out: a sector's number, and its octets. -/
structure Item (n0 n : Nat) (wb : World) where
  i : Nat
  a : Option Addr
  cap : Nat
  l : List Int
  lt : i < n
  arg : Arg n0 wb (.slice a 64 cap) l
  len : l.length = 64

def encs {n0 n : Nat} {wb : World} (x : Item n0 n wb) : Array Value := #[.int .i64 (x.i : Int), .slice x.a 64 x.cap]
def proj {n0 n : Nat} {wb : World} (x : Item n0 n wb) : Nat × List Int := (x.i, x.l)

def first (S : St) (k : Nat) : List (Nat × List Int) := (List.range k).map fun i => (i, S.secs.getD i [])
def write (S : St) (j : Nat) : Nat × List Int := ((S.cache.getD j (0, [])).1.toNat, (S.cache.getD j (0, [])).2)
def landed (S : St) (lands : Nat → Bool) : Nat → List (Nat × List Int)
  | 0 => []
  | j + 1 => landed S lands j ++ (if lands j then [write S j] else [])
def items (S : St) (lands : Nat → Bool) : List (Nat × List Int) := first S S.secs.length ++ landed S lands S.cache.length

theorem first_succ (S : St) (k : Nat) (l : List Int) (h : S.secs[k]? = some l) : first S (k + 1) = first S k ++ [(k, l)] := by
  simp [first, List.range_succ, h]
theorem first_length (S : St) (k : Nat) : (first S k).length = k := by simp [first]
theorem landed_length (S : St) (lands : Nat → Bool) : ∀ j, (landed S lands j).length ≤ j
  | 0 => by simp [landed]
  | j + 1 => by
    have := landed_length S lands j
    simp only [landed, List.length_append]
    split <;> simp <;> omega

/-- All blocks below n₁ but those of G are as they were. -/
structure Keep (G : Nat → Prop) (n₁ : Nat) (A B : World) : Prop where
  size : A.heap.size ≤ B.heap.size
  same : ∀ k, k < n₁ → ¬ G k → B.heap[k]? = A.heap[k]?
theorem Keep.refl (G : Nat → Prop) (n₁ : Nat) (A : World) : Keep G n₁ A A := ⟨Nat.le_refl _, fun _ _ _ => rfl⟩
theorem Keep.trans {G : Nat → Prop} {n₁ : Nat} {A B C : World} (h : Keep G n₁ A B) (k : Keep G n₁ B C) : Keep G n₁ A C := ⟨Nat.le_trans h.size k.size, fun i hi hg => (k.same i hi hg).trans (h.same i hi hg)⟩
theorem Keep.below {G : Nat → Prop} {n₁ m : Nat} {A B : World} (h : Below m A B) (hm : n₁ ≤ m) : Keep G n₁ A B := ⟨h.size, fun k hk _ => h.block k (by omega)⟩
theorem Keep.box {G : Nat → Prop} {n₁ B : Nat} {A A' : World} {t : TypeId} {u v : Value} (k : Keep G n₁ A A') (h : Box A B t u v) (hB : B < n₁ ∧ ¬ G B) : Box A' B t u v := h.kept (k.same B hB.1 hB.2)
theorem Keep.cell {G : Nat → Prop} {n₁ : Nat} {A A' : World} {a : Addr} {v : Value} (k : Keep G n₁ A A') (h : A.cell? a = some v) (hB : a.block < n₁ ∧ ¬ G a.block) : A'.cell? a = some v := by
  rw [World.cell?_of_block (k.same a.block hB.1 hB.2)]; exact h

set_option maxRecDepth 100000 in
set_option maxHeartbeats 2000000 in
theorem iter_stops (n : Nat) (hn : 2 ≤ n) (G : Nat → Prop) (n₁ n0 Bs Bl : Nat) (wb w0 : World) (S : St) (a1 a2 : Option Addr) (c1 c2 gl : Nat) (lb : Array Value) (lands : Nat → Bool)
    (hS : chk S = true) (hL : Lists n0 wb (.slice a1 S.secs.length c1) S.secs) (hW : Writes n0 wb (.slice a2 S.cache.length c2) S.cache)
    (hG : ∀ k, G k → wb.heap.size ≤ k) (hwb : wb.heap.size ≤ n₁) (hBs : Bs < n₁ ∧ ¬ G Bs) (hBl : Bl < n₁ ∧ ¬ G Bl) (hn1 : n₁ ≤ w0.heap.size)
    (hbe : ∀ k, k < wb.heap.size → w0.heap[k]? = wb.heap[k]?)
    (hbox : Box w0 Bs 30 (.slice a1 S.secs.length c1) (.slice a2 S.cache.length c2)) (hfun : w0.cell? ⟨Bl, 0, none⟩ = some (.func (.func gl) #[] lb))
    (heg : ∀ args w, (callFunc gl args).run Try.prog w = .ok (.enter gl args) w)
    (hlands : ∀ (W : World) (j : Nat), Keep G n₁ w0 W → Calls Try.prog gl (#[.int .i64 (j : Int)] ++ lb) W fun e w' => e = .returned (.bool (lands j)) ∧ W = w') :
    SeqStopsK Fence.wide n Try.prog 46 #[.pointer (some ⟨Bs, 0, none⟩), .pointer (some ⟨Bl, 0, none⟩)] (encs (n0 := n0) (n := S.secs.length) (wb := wb)) (Keep G n₁) (fun xs => xs.map proj = items S lands) (fun _ => True) (S.secs.length + S.cache.length) w0 := by
  intro l J Jx W hbW hJ hJx hY h0
  obtain ⟨k1, k2, k3, k4, k5, k6⟩ := chk_facts hS
  obtain ⟨i6, hi6, hz60, hz61, hz62⟩ := info_parts Try.info64
  have HKW : Hid (Keep G n₁ w0 W) := Keep.below hbW hn1
  have hb := HKW.out.box hbox hBs
  have hl := HKW.out.cell hfun hBl
  have HFA : Hid ((∀ l ∈ S.secs, l.length = 64) ∧ (∀ q ∈ S.cache, q.2.length = 64) ∧ ∀ q ∈ S.cache, 0 ≤ q.1 ∧ q.1 < S.secs.length) := ⟨k4, k5, k6⟩
  have HY : Hid (∀ pre x W1, J pre W1 → pre.length < S.secs.length + S.cache.length → YieldAt Fence.wide (n - 1) Try.prog l (encs (n0 := n0) (n := S.secs.length) (wb := wb) x) W1 fun e W' =>
      (e = .returned (.bool true) ∧ J (pre ++ [x]) W' ∧ Keep G n₁ W1 W') ∨ (e = .returned (.bool false) ∧ Jx (pre ++ [x]) W')) := hY
  have HL : Hid (Lists n0 wb (.slice a1 S.secs.length c1) S.secs ∧ Writes n0 wb (.slice a2 S.cache.length c2) S.cache) := ⟨hL, hW⟩
  have HBE : Hid (∀ W, Keep G n₁ w0 W → ∀ k, k < wb.heap.size → W.heap[k]? = wb.heap[k]?) := fun W hk k hlt =>
    (hk.same k (by omega) (fun h => by have := hG k h; omega)).trans (hbe k hlt)
  have HBX : Hid (∀ W, Keep G n₁ w0 W → Box W Bs 30 (.slice a1 S.secs.length c1) (.slice a2 S.cache.length c2) ∧ W.cell? ⟨Bl, 0, none⟩ = some (.func (.func gl) #[] lb)) := fun W hk => ⟨hk.box hbox hBs, hk.cell hfun hBl⟩
  have HLA : Hid (∀ (W : World) (j : Nat), Keep G n₁ w0 W → Calls Try.prog gl (#[.int .i64 (j : Int)] ++ lb) W fun e w' => e = .returned (.bool (lands j)) ∧ W = w') := hlands
  have HJ : Hid (AbidesFrom W.heap.size J) := hJ
  obtain ⟨N, hN⟩ : ∃ x, x = S.secs.length := ⟨_, rfl⟩
  obtain ⟨M, hM⟩ : ∃ x, x = S.cache.length := ⟨_, rfl⟩
  have HNM : Hid (N = S.secs.length ∧ M = S.cache.length) := ⟨hN, hM⟩
  have q0 := hb.cell0
  have q1 := hb.cell1
  rw [← hN] at q0 k1 k2
  rw [← hM] at q1 k3
  have hl1 := run_len Try.underlying22 a1 N c1
  have hl2 := run_len Try.underlying28 a2 M c2
  clear hL hW hY hb hl hbe hbox hfun hlands k4 k5 k6 hbW hJ hJx hG hN hM
  have hn1' : 1 ≤ n := by omega
  change CallsIn Fence.wide n Try.prog 46 #[.func (.yield l) #[] #[], .pointer (some ⟨Bs, 0, none⟩), .pointer (some ⟨Bl, 0, none⟩)] W _
  refine callsIn_of_wp Try.func46 rfl trivial ?_ rfl
  simp only [Try.ntmps46, List.size_toArray, List.length_cons, List.length_nil, Nat.reduceAdd, Nat.reduceSub, Array.replicate_succ, Array.replicate_zero, List.push_toArray, List.append_toArray, List.nil_append, List.cons_append]
  gi_wp2
  gi_loopw [11] (fun i wr => ∃ (k : Nat) (pre : List (Item n0 S.secs.length wb)), k ≤ N ∧ i = .int .i64 k ∧ pre.map proj = first S k ∧ J pre wr ∧ Keep G n₁ w0 wr ∧ W.heap.size ≤ wr.heap.size) (fun i _ => N - (intOf i).toNat)
  case atStart => exact ⟨0, [], Nat.zero_le _, rfl, rfl, h0, HKW.out, Nat.le_refl _⟩
  case round =>
    obtain ⟨k, pre, hk, rfl, hpre, hJs, hkp, hsz⟩ := hrel
    have q0 := (HBX.out wr hkp).1.cell0
    have q1 := (HBX.out wr hkp).1.cell1
    rw [← HNM.out.1] at q0
    rw [← HNM.out.2] at q1
    have HKP : Hid (Keep G n₁ w0 wr) := hkp
    have HPR : Hid (pre.map proj = first S k ∧ J pre wr) := ⟨hpre, hJs⟩
    by_cases hlt : k < N
    · obtain ⟨x, hx⟩ := get_lt (l := S.secs) (k := k) (by rw [← HNM.out.1]; exact hlt)
      obtain ⟨b, o, a, cap, hix, _, hc, hA⟩ := HL.out.1.at k x hx
      have h64 := HFA.out.1 x (List.mem_of_getElem? hx)
      rw [h64] at hc hA
      rw [← HNM.out.1] at hix
      have hcr : wr.cell? ⟨b, o, none⟩ = some (.slice a 64 cap) := by rw [World.cell?_of_block (HBE.out wr hkp b (cell_lt hc))]; exact hc
      obtain ⟨it, e1, e2, e3, e4⟩ : ∃ it : Item n0 S.secs.length wb, it.i = k ∧ it.a = a ∧ it.cap = cap ∧ it.l = x := ⟨⟨k, a, cap, x, by rw [← HNM.out.1]; exact hlt, hA, h64⟩, rfl, rfl, rfl, rfl⟩
      obtain ⟨fn, tmps, assign, body, hy, hR⟩ := HY.out pre it wr hJs (by have := congrArg List.length hpre; rw [List.length_map, first_length] at this; have := HNM.out; omega)
      have HF : Hid (first S (k + 1) = first S k ++ [proj it]) := by show _ = _; rw [proj, e1, e4]; exact first_succ S k x hx
      unfold encs at hy
      rw [e1, e2, e3] at hy
      have hki : (k : Int) < (N : Int) := by omega
      clear hx hc hA h64 hpre hJs hkp e1 e2 e3 e4
      gi_wp2
      refine hR.mono ?_
      rintro e W3 (⟨rfl, hJ3, hk3⟩ | ⟨rfl, hJx3⟩)
      · have HJ3 : Hid (J (pre ++ [it]) W3 ∧ Keep G n₁ wr W3) := ⟨hJ3, hk3⟩
        clear hJ3 hk3
        gi_wp2
        go_roundw
        case rel => exact ⟨k + 1, _, by omega, by simp, by rw [HF.out, List.map_append, HPR.out.1, List.map_cons, List.map_nil], HJ3.out.1, HKP.out.trans HJ3.out.2, Nat.le_trans hsz HJ3.out.2.size⟩
        case measure => simp [intOf]; omega
      · gi_wp2
        refine bodyPost_ret (results_none rfl _ _ _) rfl ?_
        exact ⟨⟨_, rfl⟩, .inr ⟨_, trivial, hJx3⟩⟩
    · obtain rfl : k = N := by omega
      clear hpre hJs hkp hlt hk
      gi_wp2
      gi_loopw [25] (fun i wr => ∃ (j : Nat) (pre : List (Item n0 S.secs.length wb)), j ≤ M ∧ i = .int .i64 j ∧ pre.map proj = first S k ++ landed S lands j ∧ J pre wr ∧ Keep G n₁ w0 wr ∧ W.heap.size ≤ wr.heap.size) (fun i _ => M - (intOf i).toNat)
      case atStart => exact ⟨0, pre, Nat.zero_le _, rfl, by rw [HPR.out.1]; simp [landed], HPR.out.2, HKP.out, hsz⟩
      case round =>
        clear HPR HKP q0 q1 hsz
        obtain ⟨j, pre, hj, rfl, hpre, hJs, hkp, hsz⟩ := hrel
        have q0 := (HBX.out wr hkp).1.cell0
        have q1 := (HBX.out wr hkp).1.cell1
        have q2 := (HBX.out wr hkp).2
        rw [← HNM.out.1] at q0
        rw [← HNM.out.2] at q1
        have HKP : Hid (Keep G n₁ w0 wr) := hkp
        have HPR : Hid (pre.map proj = first S k ++ landed S lands j ∧ J pre wr) := ⟨hpre, hJs⟩
        by_cases hlt : j < M
        · obtain ⟨q, hq⟩ := get_lt (l := S.cache) (k := j) (by rw [← HNM.out.2]; exact hlt)
          obtain ⟨b, o, a, cap, hix, _, hc0, hc1, hA, hr⟩ := HL.out.2.at Try.underlying28 hi6 hz61 j q hq
          have h64 := HFA.out.2.1 q (List.mem_of_getElem? hq)
          have hsc := HFA.out.2.2 q (List.mem_of_getElem? hq)
          rw [h64] at hc1 hA
          rw [← HNM.out.2] at hix
          have hcr0 : wr.cell? ⟨b, o, none⟩ = some (.int .i64 q.1) := by rw [World.cell?_of_block (HBE.out wr hkp b (cell_lt hc0))]; exact hc0
          have hcr1 : wr.cell? ⟨b, o + 1, none⟩ = some (.slice a 64 cap) := by rw [World.cell?_of_block (HBE.out wr hkp b (cell_lt hc1))]; exact hc1
          obtain ⟨W4, hW4⟩ : ∃ W4, W4 = wr.alloc (.cells #[.int .i64 q.1, .slice a 64 cap] 64) := ⟨_, rfl⟩
          have HK4 : Hid (Keep G n₁ w0 W4 ∧ J pre W4 ∧ W.heap.size ≤ W4.heap.size ∧ Keep G n₁ wr W4) := by
            have hbw : Below wr.heap.size wr W4 := by rw [hW4]; exact (Below.refl _ _).alloc (Nat.le_refl _) _
            have hkk : Keep G n₁ wr W4 := Keep.below hbw (Nat.le_trans hn1 hkp.size)
            exact ⟨hkp.trans hkk, HJ.out pre wr W4 none hJs (by rw [hW4]; exact World.grownBy_alloc _ _ _) (fun r e => by cases e), Nat.le_trans hsz hbw.size, hkk⟩
          have c0 : W4.cell? ⟨wr.heap.size, 0, none⟩ = some (.int .i64 q.1) := by rw [hW4]; exact (Box.new wr 64 _ _).cell0
          have c1' : W4.cell? ⟨wr.heap.size, 1, none⟩ = some (.slice a 64 cap) := by rw [hW4]; exact (Box.new wr 64 _ _).cell1
          have q3 := (HBX.out W4 HK4.out.1).2
          have hla := HLA.out W4 j HK4.out.1
          obtain ⟨sn, hsn⟩ : ∃ sn : Nat, q.1 = (sn : Int) := ⟨q.1.toNat, by omega⟩
          obtain ⟨it, e1, e2, e3, e4⟩ : ∃ it : Item n0 S.secs.length wb, it.i = sn ∧ it.a = a ∧ it.cap = cap ∧ it.l = q.2 := ⟨⟨sn, a, cap, q.2, by omega, hA, h64⟩, rfl, rfl, rfl, rfl⟩
          have HIT : Hid (proj it = write S j) := by
            show _ = _
            rw [proj, e1, e4, write, show S.cache.getD j (0, []) = q by simp [List.getD, hq], hsn]; simp
          obtain ⟨fn, tmps, assign, body, hy, hR⟩ := HY.out pre it W4 HK4.out.2.1 (by
            have h1 := congrArg List.length hpre
            rw [List.length_map, List.length_append, first_length] at h1
            have h2 := landed_length S lands j
            have := HNM.out
            omega)
          unfold encs at hy
          rw [e1, e2, e3] at hy
          rw [hsn] at c0 hcr0 hW4
          have hki : (j : Int) < (M : Int) := by omega
          rw [hW4] at hy hR hla q3 c0 c1' HK4
          clear hq hc0 hc1 hA h64 hpre hJs hkp e1 e2 e3 e4 hsn hr hsc hW4 W4
          gi_wp2
          refine ⟨trivial, (callsIn_wide.2 hla).mono ?_⟩
          rintro e w5 ⟨rfl, rfl⟩
          clear hla
          cases hlj : lands j
          · have HLJ : Hid (landed S lands (j + 1) = landed S lands j) := by show _ = _; simp [landed, hlj]
            clear hy hR
            gi_wp2
            refine ⟨fun _ h => (by cases h), ?_⟩
            gi_wp2
            go_roundw
            case rel => exact ⟨j + 1, pre, by omega, by simp, by rw [HLJ.out]; exact HPR.out.1, HK4.out.2.1, HK4.out.1, HK4.out.2.2.1⟩
            case measure => simp [intOf]; omega
          · have HLJ : Hid (landed S lands (j + 1) = landed S lands j ++ [proj it]) := by show _ = _; rw [HIT.out]; simp [landed, hlj]
            gi_wp2
            refine hR.mono ?_
            rintro e W3 (⟨rfl, hJ3, hk3⟩ | ⟨rfl, hJx3⟩)
            · have HJ3 : Hid (J (pre ++ [it]) W3 ∧ Keep G n₁ (wr.alloc (.cells #[.int .i64 (sn : Int), .slice a 64 cap] 64)) W3) := ⟨hJ3, hk3⟩
              clear hJ3 hk3
              gi_wp2
              go_roundw
              case rel => exact ⟨j + 1, _, by omega, by simp, by rw [HLJ.out, List.map_append, HPR.out.1, List.map_cons, List.map_nil, List.append_assoc], HJ3.out.1, HK4.out.1.trans HJ3.out.2, Nat.le_trans HK4.out.2.2.1 HJ3.out.2.size⟩
              case measure => simp [intOf]; omega
            · gi_wp2
              refine bodyPost_ret (results_none rfl _ _ _) rfl ?_
              exact ⟨⟨_, rfl⟩, .inr ⟨_, trivial, hJx3⟩⟩
        · obtain rfl : j = M := by omega
          clear hpre hJs hkp hlt hj
          gi_wp2
          go_end0
          refine ⟨⟨_, rfl⟩, .inl ⟨pre, ?_, HPR.out.2⟩⟩
          rw [HPR.out.1, items, ← HNM.out.1, ← HNM.out.2]

end Go.Proofs.Ytkeaillmcfnnkaa
