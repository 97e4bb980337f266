/-
  NetCounts, proved: for every number and list of steps (as great as the form reads them): the call returns true, and changes nothing that was in memory. No condition of its own.
-/
import Derived.Test.YtpecniajamgjiaaCountsCut
import Derived.Test.YtpecniajamgjiaaAlive
import Derived.Test.YtpecniajamgjiaaFrame
import Derived.Deep.DeepCutAuto
namespace Go.Proofs.Ytpecniajamgjiaa.netCounts
open Go.ChangeShapes Go.WideShapes Go.ChangeAt Go.RowKit
set_option linter.unusedVariables false

attribute [local go_sem ↓] Go.wp_at_zero Go.wp_at_succ

theorem info65 : (Try.prog.info? 65).map (fun i => (i.zero, i.size, i.bytes)) = some (some (.agg #[.int .i64 0, .int .i64 0]), 2, 16) := by kernel_rfl
theorem cells62 : Try.prog.cellsOf 62 = 1 := by kernel_rfl
def stepS : Shape (Int × Int) := (i64S.and i64S.only).struct 65 ⟨_, Try.underlying65, rfl, rfl⟩ (by kernel_rfl)
def stepsS : Shape (List (Int × Int)) := stepS.list 62 Try.underlying62 cells62
theorem steps_at {n : Nat} {w : World} {v : Value} {l : List (Int × Int)} (h : stepsS.lies n w [v] l) (i : Nat) (p : Int × Int) (hp : l[i]? = some p) :
    ∃ b o, (∀ W, (Instr.indexAt 62 v (.int .i64 i)).run Try.prog W = .ok (.pointer (some ⟨b, o, none⟩)) W) ∧ w.cell? ⟨b, o, none⟩ = some (.int .i64 p.1) ∧ w.cell? ⟨b, o + 1, none⟩ = some (.int .i64 p.2) := by
  obtain ⟨i0, hi0, _, hz, _⟩ := info_parts info65
  obtain ⟨b, o, us, hix, _, hc, hl⟩ := Shape.list_at (S := stepS) (ht := Try.underlying62) (hc := cells62) h (by decide) hi0 hz i p hp
  obtain ⟨u1, u2, rfl, ⟨rfl, _⟩, rfl, _⟩ := hl
  exact ⟨b, o, hix, hc 0 _ rfl, hc 1 _ rfl⟩

theorem byte_at {n0 : Nat} {w : World} {v : Value} {l : List Int} (h : Arg n0 w v l) (i : Nat) (x : Int) (hx : l[i]? = some x) :
    ∃ b o, (∀ W, (Instr.indexAt 25 v (.int .i64 i)).run Try.prog W = .ok (.pointer (some ⟨b, o, none⟩)) W) ∧ w.cell? ⟨b, o, none⟩ = some (.int .u8 x) := by
  obtain ⟨i0, hi0, _, hz, _⟩ := info_parts Try.info5
  obtain ⟨b, o, hix, _, hc, _⟩ := Leaf.row_at (L := u8L) (ht := Try.underlying25) h hi0 hz i x hx
  exact ⟨b, o, hix, hc⟩
theorem net_at {n0 : Nat} {w : World} {N : Int} {sa : Option Addr} {n sc : Nat} {want : List Int} (hn : n = want.length) (h : stN.lies n0 w [.int .i64 N, .slice sa n sc] (N, PS want)) (k : Nat) (x : Int) (hx : want[k]? = some x) :
    ∃ b o a cap b' o', (∀ W, (Instr.indexAt 28 (.slice sa n sc) (.int .i64 k)).run Try.prog W = .ok (.pointer (some ⟨b, o, none⟩)) W) ∧ w.cell? ⟨b, o + 2, none⟩ = some (.slice a 1 cap) ∧
      (∀ W, (Builtin.len_ #[25] 3 #[.slice a 1 cap]).run Try.prog W = .ok (.int .i64 1) W) ∧ (∀ W, (Instr.indexAt 25 (.slice a 1 cap) (.int .i64 0)).run Try.prog W = .ok (.pointer (some ⟨b', o', none⟩)) W) ∧ w.cell? ⟨b', o', none⟩ = some (.int .u8 x) := by
  obtain ⟨a1, c1, e1, hL, _, _⟩ := st_viewN h
  simp only [PS_length, ← hn] at e1 hL
  have e2 : Value.slice sa n sc = Value.slice a1 n c1 := by simpa using e1
  rw [← e2] at hL
  obtain ⟨b, o, a, cap, hix, _, _, g2, hA, _, _⟩ := pks_atN hL k _ (PS_get hx)
  obtain ⟨b', o', hi', hc'⟩ := byte_at hA 0 x rfl
  exact ⟨b, o, a, cap, b', o', hix, g2, run_len Try.underlying25 a 1 cap, hi', hc'⟩

/-- The network and the list beside it. -/
def Inv (w0 : World) (B N : Nat) (v : Value) (wr : World) : Prop := ∃ (want : List Int) (sa : Option Addr) (sc : Nat), want.length ≤ N ∧ Box wr B 30 #[.int .i64 N, .slice sa want.length sc] ∧ stN.lies 0 wr [.int .i64 N, .slice sa want.length sc] (N, PS want) ∧ Own1 w0.heap.size wr v want ∧ Below w0.heap.size w0 wr

theorem u8_in {j : Nat} (h : j < 200) : IntKind.u8.wrap (j : Int) = (j : Int) := by
  simp [IntKind.wrap, IntKind.bits, IntKind.signed]
  omega
theorem wf8 {j : Nat} (h : j < 200) : (Lit.int .u8 (j : Int)).wf = true := by
  simp [Lit.wf, IntKind.min, IntKind.max, IntKind.signed, IntKind.bits]
  omega
theorem one_i64 : I64 1 := ⟨by omega, by omega⟩
theorem two_i64 : I64 2 := ⟨by omega, by omega⟩

/-- The new network lies in the box, in blocks from S on. -/
def St1 (S : Nat) (w0 W : World) (B N : Nat) (a : Option Addr) (m c : Nat) (want : List Int) : Prop := m = want.length ∧ m ≤ N ∧ Box W B 30 #[.int .i64 N, .slice a m c] ∧ stN.owns S W [.int .i64 N, .slice a m c] (N, PS want) ∧ Below w0.heap.size w0 W ∧ w0.heap.size ≤ S ∧ S ≤ W.heap.size
theorem mid_store {S : Nat} {w0 w1 : World} {B N : Nat} {a : Option Addr} {m c : Nat} {want : List Int} {u v : Value} (hB : w0.heap.size ≤ B) (hBS : B < S) (hS : S ≤ w1.heap.size) (hS0 : w0.heap.size ≤ S) (hm : m = want.length) (hl : m ≤ N) (hb : Below w0.heap.size w0 w1) (hx : Box w1 B 30 #[u, v])
    (ho : stN.owns S w1 [.int .i64 N, .slice a m c] (N, PS want)) (o : Obj) :
    St1 S w0 (((w1.alloc o).setCell ⟨B, 0, none⟩ (.int .i64 N)).setCell ⟨B, 1, none⟩ (.slice a m c)) B N a m c want := by
  refine ⟨hm, hl, ?_, stN.osame ho (Same.trans (.alloc _ _ _) (by simp) (.set2 hBS)), below_set2 (hb.alloc hb.size _) hB _ _, hS0, by simp [World.setCell]; omega⟩
  have := ((hx.alloc o).set 0 (.int .i64 N)).set 1 (.slice a m c)
  simpa using this
theorem own_store {base : Nat} {w1 : World} {B : Nat} {u' v' : Value} {v : Value} {l : List Int} (h : Own1 base w1 v l) (hx : Box w1 B 30 #[u', v']) (o : Obj) (u x : Value) : Own1 base (((w1.alloc o).setCell ⟨B, 0, none⟩ u).setCell ⟨B, 1, none⟩ x) v l :=
  bytesS.ogrown (bytesS.ogrown (bytesS.osame h (.alloc _ _ _)) (grown_set _ B 0 u) ((hx.alloc o).clear (by decide))) (grown_set _ B 1 x) (((hx.alloc o).set 0 u).clear (by decide))
theorem mid_inv {S : Nat} {w0 W : World} {B N : Nat} {a : Option Addr} {m c : Nat} {want : List Int} {v : Value} (hm : St1 S w0 W B N a m c want) (hw : Own1 w0.heap.size W v want) : Inv w0 B N v W := by
  obtain ⟨rfl, hl, hbx, ho, hb, h0, h1⟩ := hm
  exact ⟨want, a, c, hl, hbx, stN.weaken (stN.olies ho) (Nat.zero_le _), hw, hb⟩
theorem mid_push {S : Nat} {w0 W w' : World} {B N : Nat} {a : Option Addr} {m c : Nat} {want : List Int} {x : Int} {va : Option Addr} {n vc : Nat} {v' : Value} {o : Obj} (hm : St1 S w0 W B N a m c (want ++ [x])) (hx8 : (Lit.int .u8 x).wf = true) (hn : n = want.length) (hw : Own1 w0.heap.size W (.slice va n vc) want) (hlt : ∀ g, (Value.slice va n vc).ownBlock = some g → g < S)
    (hg : (W.alloc o).grownBy w' (Value.slice va n vc).ownBlock) (hown : w'.ownsRow w0.heap.size 5 1 v' (n + 1) (want.map (Value.int .u8) ++ [.int .u8 x])) : Inv w0 B N v' w' := by
  obtain ⟨hm, hl, hbx, ho, hb, h0, h1⟩ := hm
  subst hm hn
  have hwA : Own1 w0.heap.size (W.alloc o) (.slice va want.length vc) want := bytesS.osame hw (.alloc _ _ _)
  refine ⟨want ++ [x], a, c, hl, (hbx.alloc o).grown hg ((hbx.alloc o).apart hwA.row (by decide)), stN.weaken (stN.olies (stN.osame ho ?_)) (Nat.zero_le _), .mk ?_ ?_, (hb.alloc hb.size o).grown hg (by have := hb.size; simp; omega) (fun i hi => (hwA.row.lt i hi).1)⟩
  · exact Same.trans (.alloc _ _ _) (by simp) (fun k hk hs => hg.block k hs (fun e => by have := hlt k e.symm; omega))
  · simpa using hown
  · intro y hy
    rcases List.mem_append.1 hy with h | h
    · exact hw.arg.oct y h
    · obtain rfl : y = x := by simpa using h
      exact hx8
theorem own_lit (w : World) (x : Int) (h : (Lit.int .u8 x).wf = true) (base : Nat) (hb : base ≤ w.heap.size) : Own1 base (w.alloc (.cells #[.int .u8 x] 5)) (.slice (some ⟨w.heap.size, 0, none⟩) 1 1) [x] :=
  .mk (World.ownsRow_lit w #[.int .u8 x] 1 hb (by unfold maxLen; omega) rfl) (fun y hy => by rw [List.mem_singleton.1 hy]; exact h)

set_option maxRecDepth 100000 in
set_option maxHeartbeats 8000000 in
theorem walk (lim0 : Int) (v : Value) (l : List (Int × Int)) (w : World) (h : stepsS.lies 0 w [v] l) :
    Calls Try.prog 4 #[.int .i64 lim0, v] w fun e w' => e = .returned (.bool true) ∧ Below w.heap.size w w' := by
  obtain ⟨la, lc, hv, _, hm, _⟩ := Shape.list_len (S := stepS) (ht := Try.underlying62) (hc := cells62) h
  obtain rfl : v = _ := by simpa using hv
  have HL : Hid (stepsS.lies 0 w [.slice la l.length lc] l) := h
  obtain ⟨ln, hln⟩ : ∃ n, n = l.length := ⟨_, rfl⟩
  have HN : Hid (ln = l.length) := hln
  rw [← hln] at HL hm ⊢
  unfold maxLen at hm
  obtain ⟨N, hN1, hN2, hN⟩ := mod20 lim0
  have hl1 := run_len Try.underlying62 la ln lc
  clear h hv hln
  go_enter Try.func4, Try.ntmps4
  go_wp2_with fail
  refine (alive_any _).mono ?_
  rintro e w1 ⟨rfl, hb1⟩
  go_wp2_with fail
  refine (new_any N w1 (by omega) (by omega)).mono ?_
  rintro e w2 ⟨rfl, hb2⟩
  obtain ⟨W, hW⟩ : ∃ W, W = w2.alloc (.cells #[.int .i64 N, .slice none 0 0] 30) := ⟨_, rfl⟩
  have hbW : Below w.heap.size w W := by rw [hW]; exact (below_any hb1 hb2).alloc (below_any hb1 hb2).size _
  have hBW : Box W w2.heap.size 30 #[.int .i64 N, .slice none 0 0] := by rw [hW]; exact Box.new _ _ _
  have HW : Hid (Below w.heap.size w W ∧ Box W w2.heap.size 30 #[.int .i64 N, .slice none 0 0] ∧ w.heap.size ≤ w2.heap.size) := ⟨hbW, hBW, (below_any hb1 hb2).size⟩
  clear hb1 hb2 hbW hBW
  obtain ⟨B, hB⟩ : ∃ B, B = w2.heap.size := ⟨_, rfl⟩
  have HIN : Hid (Inv w B N (.slice none 0 0) W) := by
    refine ⟨[], none, 0, Nat.zero_le _, by rw [hB]; exact HW.out.2.1, stN.weaken (stN.olies (st_newN N ⟨by omega, by omega⟩ 0 W)) (Nat.zero_le _), .mk (World.ownsRow_nil _ _ _ _) (fun _ h => by cases h), HW.out.1⟩
  have HBB : Hid (w.heap.size ≤ B) := by rw [hB]; exact HW.out.2.2
  go_wp2_with (go_at_call 20; refine (num_any _ _).mono ?_; rintro e w20 ⟨rfl, rfl⟩)
  rw [← hW, ← hB]
  clear hW HW hB
  go_loopw [7, 8] (fun v i wr => ∃ j : Nat, j ≤ 200 ∧ j ≤ ln ∧ i = .int .i64 j ∧ Inv w B N v wr) (fun _ i _ => 200 - (intOf i).toNat)
  case atStart => exact ⟨0, by omega, by omega, rfl, HIN.out⟩
  case round =>
    obtain ⟨j, hj, hjl, rfl, hinv⟩ := hrel
    have HI : Hid (Inv w B N u7 wr) := hinv
    clear hinv HIN
    by_cases hlt : j < ln
    case neg =>
      obtain rfl : j = ln := by omega
      go_wp2
      go_ret
      obtain ⟨_, _, _, _, _, _, _, hb⟩ := HI.out
      exact ⟨rfl, hb⟩
    by_cases h200 : j < 200
    case neg =>
      go_wp2
      go_ret
      obtain ⟨_, _, _, _, _, _, _, hb⟩ := HI.out
      exact ⟨rfl, hb⟩
    obtain ⟨q, hq⟩ := get_lt (l := l) (k := j) (by rw [← HN.out]; exact hlt)
    obtain ⟨what, N'⟩ := q
    obtain ⟨want, sa, sc, hwl, hbx, hst, hown, hbel⟩ := HI.out
    obtain ⟨b0, o0, hix, c0, c1⟩ := steps_at (stepsS.below HL.out hbel) j _ hq
    simp only at c0 c1
    obtain ⟨va, vc, rfl⟩ := hown.shape
    obtain ⟨r, hr4, hr⟩ := mod4 what
    have HC : Hid (want.length ≤ N ∧ Box wr B 30 #[.int .i64 N, .slice sa want.length sc] ∧ stN.lies 0 wr [.int .i64 N, .slice sa want.length sc] (N, PS want) ∧ Own1 w.heap.size wr (.slice va want.length vc) want ∧ Below w.heap.size w wr) := ⟨hwl, hbx, hst, hown, hbel⟩
    obtain ⟨n, hn⟩ : ∃ n, n = want.length := ⟨_, rfl⟩
    have HNW : Hid (n = want.length) := hn
    rw [← hn] at HC ⊢
    rw [← hn] at hwl
    have hl2 := run_len Try.underlying25 va n vc
    clear HI hq hbx hst hown hbel hn
    have hji : (j : Int) < (ln : Int) := by omega
    go_upto_if 60 with fail
    go_cut [7] (fun v wx => Inv w B N v wx)
    case first =>
      obtain ⟨g0, g1, f0, f1⟩ := HC.out.2.1.two
      obtain ⟨i5, hi5, hz0, hz1, hz2⟩ := info_parts Try.info5
      by_cases h0 : r = 0
      · as_aux_lemma =>
          subst h0
          have hw8 := u8_in h200
          go_wp2_with fail
          clear hw8 g0 g1 f0 f1 c0 c1 hix hr hr4
          obtain ⟨W0, hW0⟩ : ∃ W0, W0 = wr.alloc (.cells #[.int .u8 j] 5) := ⟨_, rfl⟩
          have hbW0 : Below wr.heap.size wr W0 := by rw [hW0]; exact (Below.refl _ wr).alloc (Nat.le_refl _) _
          have hpk : pkF.lies 0 W0 [.int .i64 1, .int .i64 2, .slice (some ⟨wr.heap.size, 0, none⟩) 1 1] (mkp j) := by
            rw [hW0]
            exact pk_mk (p := mkp j) (own_lit wr j (wf8 h200) 0 (Nat.zero_le _)).arg one_i64 two_i64
          rw [← hW0]
          refine (send_any 0 0 [.int .i64 N, .slice sa n sc] [.int .i64 1, .int .i64 2, .slice (some ⟨wr.heap.size, 0, none⟩) 1 1] (N, PS want) (mkp j) W0 (stN.below HC.out.2.2.1 hbW0) hpk).mono ?_
          rintro e w1 ⟨⟨us', rfl, ho⟩, hb1⟩
          obtain ⟨q1, q2, q3⟩ := send_PS (N := N) (want := want) (j : Int) hN1 hN2 (by rw [← HNW.out]; exact hwl)
          rw [q3] at ho
          rw [q1, q2, ← HNW.out]
          obtain ⟨a', c', rfl, hL, _⟩ := st_ownN ho
          have hb01 : Below wr.heap.size wr w1 := below_any hbW0 hb1
          have hsz : wr.heap.size < w1.heap.size := by have := hb1.size; rw [hW0] at this; simp at this; omega
          have ho' := stN.oweaken ho hbW0.size
          clear q1 q2 q3 hpk hW0 hbW0 hb1 hL ho
          obtain ⟨W2, hW2⟩ : ∃ W2, W2 = (if want.length < N then want ++ [(j : Int)] else want) := ⟨_, rfl⟩
          rw [← hW2] at ho' ⊢
          simp only [PS_length] at ho' ⊢
          obtain ⟨m, hm⟩ : ∃ m, m = W2.length := ⟨_, rfl⟩
          rw [← hm] at ho' ⊢
          have hm2 : m ≤ N := by
            rw [hm, hW2]
            have := HNW.out
            split
            · simp; omega
            · omega
          have hBlt := HC.out.2.1.lt
          have hBX : Box w1 B 30 #[.int .i64 N, .slice sa n sc] := HC.out.2.1.below hb01 hBlt
          have hbe : Below w.heap.size w w1 := below_any HC.out.2.2.2.2 hb01
          have hws := HC.out.2.2.2.2.size
          have HS : Hid (∀ o, St1 wr.heap.size w (((w1.alloc o).setCell ⟨B, 0, none⟩ (.int .i64 N)).setCell ⟨B, 1, none⟩ (.slice a' m c')) B N a' m c' W2) := fun o => mid_store HBB.out hBlt (by omega) hws hm hm2 hbe hBX ho' o
          have HO : Hid (∀ o, Own1 w.heap.size (((w1.alloc o).setCell ⟨B, 0, none⟩ (.int .i64 N)).setCell ⟨B, 1, none⟩ (.slice a' m c')) (.slice va n vc) want) := fun o => own_store (bytesS.obelow HC.out.2.2.2.1 hb01) hBX o _ _
          have HLT : Hid (∀ g, (Value.slice va n vc).ownBlock = some g → g < wr.heap.size) := fun g hg => (HC.out.2.2.2.1.row.lt g hg).2
          have HW2 : Hid (W2 = if n < N then want ++ [(j : Int)] else want) := by rw [HNW.out]; exact hW2
          obtain ⟨W1, hW1⟩ : ∃ W1, W1 = w1.alloc (.cells #[.int .i64 N, .slice a' m c'] 30) := ⟨_, rfl⟩
          have HBN : Hid (Box W1 w1.heap.size 30 #[.int .i64 N, .slice a' m c'] ∧ Box W1 B 30 #[.int .i64 N, .slice sa n sc]) := by rw [hW1]; exact ⟨Box.new _ _ _, hBX.alloc _⟩
          have hWs : w.heap.size ≤ W1.heap.size := by rw [hW1]; simp; omega
          have HS' : Hid (St1 wr.heap.size w ((W1.setCell ⟨B, 0, none⟩ (.int .i64 N)).setCell ⟨B, 1, none⟩ (.slice a' m c')) B N a' m c' W2 ∧ Own1 w.heap.size ((W1.setCell ⟨B, 0, none⟩ (.int .i64 N)).setCell ⟨B, 1, none⟩ (.slice a' m c')) (.slice va n vc) want) := by rw [hW1]; exact ⟨HS.out _, HO.out _⟩
          have HNB : Hid (∀ o, (((W1.setCell ⟨B, 0, none⟩ (.int .i64 N)).setCell ⟨B, 1, none⟩ (.slice a' m c')).alloc o).heap[W1.heap.size]? = some o) := fun o => by
            have := heap_alloc_new ((W1.setCell ⟨B, 0, none⟩ (.int .i64 N)).setCell ⟨B, 1, none⟩ (.slice a' m c')) o
            rwa [World.size_setCell, World.size_setCell] at this
          clear hBX hbe ho' hm hBlt hm2 hW2 HS HO
          by_cases hnN : n < N
          · have hni : (n : Int) < (N : Int) := by omega
            go_wp2_with fail
            rw [← hW1]
            clear hW1
            refine (num_any _ _).mono ?_
            rintro e w20 ⟨rfl, rfl⟩
            obtain ⟨p0, p1, _, _⟩ := HBN.out.1.two
            obtain ⟨g0, g1, f0, f1⟩ := HBN.out.2.two
            have hw8 := u8_in h200
            rw [if_pos hnN] at HW2
            go_wp2_with (at_builtin; refine wpList_append_own _ rfl _ _ 25 rfl w.heap.size 5 i5 (.int .u8 0) 1 1 Try.underlying25 hi5 hz0 hz1 hz2 rfl (by decide) (.slice va n vc) n (want.map (Value.int .u8)) rfl (by have := (bytesS.osame HS'.out.2 (.alloc _ _ (.cells #[.int .u8 (j : Int)] 5))); have := Own1.row this; rw [← HNW.out] at this; exact this) _ 1 1 [.int .u8 (j : Int)] rfl rfl (World.news_of_block (cs := #[.int .u8 (j : Int)]) (t := 5) (fr := (0, 0)) (HNB.out _)) (by simp [Value.oneCell']) (by unfold maxLen; omega) (by omega) (by simp [World.setCell]; omega) ?_; intro v' w3 hown hgrow _)
            have HE : Hid (Inv w B N v' w3) := mid_push (by have := HS'.out.1; rw [HW2.out] at this; exact this) (wf8 h200) HNW.out HS'.out.2 HLT.out hgrow hown
            clear hown hgrow p0 p1 g0 g1 f0 f1 hw8
            go_wp2_with fail
            go_meet
            case rel => exact HE.out
          · have hni : ¬ (n : Int) < (N : Int) := by omega
            go_wp2_with fail
            rw [← hW1]
            clear hW1
            refine (num_any _ _).mono ?_
            rintro e w20 ⟨rfl, rfl⟩
            obtain ⟨p0, p1, _, _⟩ := HBN.out.1.two
            obtain ⟨g0, g1, f0, f1⟩ := HBN.out.2.two
            rw [if_neg hnN] at HW2
            go_wp2_with fail
            go_meet
            case rel => exact mid_inv HS'.out.1 (by rw [HW2.out]; exact HS'.out.2)
      have hr0 : ¬ (r : Int) = 0 := by omega
      by_cases hn0 : n = 0
      · subst hn0
        go_wp2_with fail
        go_meet
        case rel => exact ⟨want, sa, sc, by rw [← HNW.out]; exact hwl, by rw [← HNW.out]; exact HC.out.2.1, by rw [← HNW.out]; exact HC.out.2.2.1, HC.out.2.2.2.1, HC.out.2.2.2.2⟩
      have hni : (0 : Int) < (n : Int) := by omega
      have hnz : ¬ (n : Int) = 0 := by omega
      obtain ⟨k, hk, hke⟩ := mod_pos N' n (by omega) (by omega)
      obtain ⟨a1, e1, a2, e2, hcut1, hcut2, hce1, hce2⟩ := cut_two HNW.out HC.out.2.2.2.1.arg k hk
      obtain ⟨x, hx⟩ := get_lt (l := want) (k := k) (by rw [← HNW.out]; exact hk)
      obtain ⟨bx, ox, hixx, cx⟩ := byte_at HC.out.2.2.2.1.arg k x hx
      have HCE : Hid ((∀ (t : Nat) (u : Value), ((want.take k).map (Value.int .u8))[t]? = some u → wr.cell? (a1.add t) = some u) ∧ (∀ (t : Nat) (u : Value), ((want.drop (k + 1)).map (Value.int .u8))[t]? = some u → wr.cell? (a2.add t) = some u)) := ⟨hce1, hce2⟩
      have HX : Hid (want[k]? = some x) := hx
      clear hce1 hce2 hx f0 f1
      have hki : (k : Int) < (n : Int) := by omega
      have HK1 : Hid (wrap64 ((k : Int) + 1) = (k : Int) + 1) := wrap64_in' _ (by omega)
      have HK2 : Hid (((want.drop (k + 1)).map (Value.int .u8)).length = (n - (k + 1)) * 1 ∧ k + (n - (k + 1)) ≤ maxLen ∧ (k + (n - (k + 1))) * 1 ≤ 140737488355328) := by
        refine ⟨?_, ?_, ?_⟩
        · have := HNW.out
          simp
          omega
        · unfold maxLen
          omega
        · omega
      go_wp2_with (at_builtin; refine wpList_append_own _ rfl _ _ 25 rfl wr.heap.size 5 i5 (.int .u8 0) 1 1 Try.underlying25 hi5 hz0 hz1 hz2 rfl (by decide) (.slice none 0 0) 0 [] rfl (World.ownsRow_nil _ _ _ _) a1 k e1 ((want.take k).map (Value.int .u8)) rfl (by have := HNW.out; simp; omega) HCE.out.1 (one_cells _) (by unfold maxLen; omega) (by omega) (Nat.le_refl _) ?_)
      intro v4 w4 hown4 hgrow4 _
      have hb4 : Below wr.heap.size wr w4 := (Below.refl _ _).grown hgrow4 (Nat.le_refl _) (fun _ h => by cases h)
      have HO4 : Hid (w4.ownsRow wr.heap.size 5 1 v4 k ((want.take k).map (Value.int .u8)) ∧ Below wr.heap.size wr w4) := ⟨by simpa using hown4, hb4⟩
      clear hown4 hgrow4 hb4
      have hk1 := HK1.out
      go_wp2_with (at_builtin; refine wpList_append_own _ rfl _ _ 25 rfl wr.heap.size 5 i5 (.int .u8 0) 1 1 Try.underlying25 hi5 hz0 hz1 hz2 rfl (by decide) v4 k ((want.take k).map (Value.int .u8)) rfl HO4.out.1 a2 (n - (k + 1)) e2 ((want.drop (k + 1)).map (Value.int .u8)) rfl HK2.out.1 (fun t u ht => by have h1 := HCE.out.2 t u ht; rw [HO4.out.2.cell (cell_lt h1)]; exact h1) (one_cells _) HK2.out.2.1 HK2.out.2.2 HO4.out.2.size ?_)
      clear hk1
      intro v5 w5 hown5 hgrow5 _
      have hb5 : Below wr.heap.size wr w5 := HO4.out.2.grown hgrow5 HO4.out.2.size (fun i hi => (HO4.out.1.lt i hi).1)
      have HO5 : Hid (Own1 wr.heap.size w5 v5 (want.eraseIdx k) ∧ Below wr.heap.size wr w5) := by
        refine ⟨.mk ?_ ?_, hb5⟩
        · have e : (want.eraseIdx k).length = k + (n - (k + 1)) := by have := HNW.out; rw [erase_two]; simp; omega
          rw [e, erase_two, List.map_append, List.map_take, List.map_drop]
          exact hown5
        · intro y hy
          exact HC.out.2.2.2.1.arg.oct y (List.mem_of_mem_eraseIdx hy)
      have hBlt := HC.out.2.1.lt
      have hBX : Box w5 B 30 #[.int .i64 N, .slice sa n sc] := HC.out.2.1.below hb5 hBlt
      have HB5 : Hid (Box w5 B 30 #[.int .i64 N, .slice sa n sc] ∧ stN.lies 0 w5 [.int .i64 N, .slice sa n sc] (N, PS want) ∧ Own1 w.heap.size w5 (.slice va n vc) want ∧ Below w.heap.size w w5 ∧ B < wr.heap.size ∧ w.heap.size ≤ wr.heap.size ∧ wr.heap.size ≤ w5.heap.size) := ⟨hBX, stN.below HC.out.2.2.1 hb5, bytesS.obelow HC.out.2.2.2.1 hb5, below_any HC.out.2.2.2.2 hb5, hBlt, HC.out.2.2.2.2.size, hb5.size⟩
      have HLT : Hid (∀ g, (Value.slice va n vc).ownBlock = some g → g < wr.heap.size) := fun g hg => (HC.out.2.2.2.1.row.lt g hg).2
      have c0' : w5.cell? ⟨b0, o0, none⟩ = some (.int .i64 what) := by rw [hb5.cell (cell_lt c0)]; exact c0
      obtain ⟨g0', g1', f0, f1⟩ := hBX.two
      have kI : I64 (k : Int) := ⟨by omega, by omega⟩
      have HW8 : Hid ((Lit.int .u8 x).wf = true) := HC.out.2.2.2.1.arg.oct x (List.mem_of_getElem? HX.out)
      clear hown5 hgrow5 hb5 hBX hBlt c0 c1 g0 g1 cx hixx hcut1 hcut2 hke HCE HO4
      obtain rfl | rfl | rfl : r = 1 ∨ r = 2 ∨ r = 3 := by omega
      · as_aux_lemma =>
          go_wp2_with fail
          refine (take_any 0 [.int .i64 N, .slice sa n sc] (N, PS want) k w5 HB5.out.2.1 kI).mono ?_
          rintro e w6 ⟨⟨us', ps', rfl, ho, hp⟩, hb6⟩
          obtain ⟨q1, q2, q3⟩ := take_PS hN1 hN2 (by rw [← HNW.out]; exact hwl) HX.out
          rw [q2] at ho
          rw [q3] at hp
          rw [q1]
          obtain ⟨a', c', rfl, _, _⟩ := st_ownN ho
          obtain ⟨pa, pc, rfl, hpo, _, _⟩ := pk_own hp
          simp only [PS_length] at ho ⊢
          simp only [mkp, List.length_cons, List.length_nil, Nat.zero_add] at hpo ⊢
          obtain ⟨b', o', hi', hc'⟩ := byte_at hpo.arg 0 x rfl
          have hix0 : ∀ W, (Instr.indexAt 25 (.slice pa 1 pc) (.int .i64 0)).run Try.prog W = .ok (.pointer (some ⟨b', o', none⟩)) W := hi'
          have hl6 := run_len Try.underlying25 pa 1 pc
          obtain ⟨m, hm⟩ : ∃ m, m = (want.eraseIdx k).length := ⟨_, rfl⟩
          rw [← hm] at ho ⊢
          have hm2 : m ≤ N := by
            rw [hm]
            have := HNW.out
            have := List.length_eraseIdx_le want k
            omega
          have hs6 := hb6.size
          obtain ⟨u1, u2, u3, u4', u5', u6, u7'⟩ := HB5.out
          have hBX : Box w6 B 30 #[.int .i64 N, .slice sa n sc] := u1.below hb6 u1.lt
          obtain ⟨W1, hW1⟩ : ∃ W1, W1 = (w6.alloc (.cells #[.int .i64 N, .slice a' m c'] 30)).alloc (.cells #[.int .i64 1, .int .i64 2, .slice pa 1 pc] 32) := ⟨_, rfl⟩
          have HBN : Hid (Box W1 w6.heap.size 30 #[.int .i64 N, .slice a' m c'] ∧ Box W1 B 30 #[.int .i64 N, .slice sa n sc] ∧ Box W1 (w6.heap.size + 1) 32 #[.int .i64 1, .int .i64 2, .slice pa 1 pc] ∧ W1.cell? ⟨b', o', none⟩ = some (.int .u8 x)) := by
            rw [hW1]
            refine ⟨(Box.new _ _ _).alloc _, (hBX.alloc _).alloc _, ?_, ?_⟩
            · have := Box.new (w6.alloc (.cells #[.int .i64 N, .slice a' m c'] 30)) 32 #[.int .i64 1, .int .i64 2, .slice pa 1 pc]
              rwa [World.size_alloc] at this
            · have := Same.cell (Same.trans (Same.alloc 0 w6 (.cells #[.int .i64 N, .slice a' m c'] 30)) (by simp) (Same.alloc 0 _ (.cells #[.int .i64 1, .int .i64 2, .slice pa 1 pc] 32))) (Nat.zero_le _) hc'
              exact this
          have HS' : Hid (St1 wr.heap.size w ((W1.setCell ⟨B, 0, none⟩ (.int .i64 N)).setCell ⟨B, 1, none⟩ (.slice a' m c')) B N a' m c' (want.eraseIdx k) ∧ Own1 w.heap.size ((W1.setCell ⟨B, 0, none⟩ (.int .i64 N)).setCell ⟨B, 1, none⟩ (.slice a' m c')) v5 (want.eraseIdx k)) := by
            rw [hW1]
            refine ⟨mid_store HBB.out u5' (by simp; omega) u6 hm hm2 ((below_any u4' hb6).alloc (by omega) _) (hBX.alloc _) (stN.osame (stN.oweaken ho u7') (.alloc _ _ _)) _, own_store (bytesS.osame (bytesS.obelow (bytesS.oweaken HO5.out.1 u6) hb6) (.alloc _ _ _)) (hBX.alloc _) _ _ _⟩
          clear hBX ho hp hpo hm hm2 hs6 hb6 hi' hc' q1 q2 q3 u1 u2 u3 u4' u5' u6 u7' c0' g0' g1' f0 f1
          go_wp2_with fail
          rw [← hW1]
          clear hW1
          refine (num_any _ _).mono ?_
          rintro e w20 ⟨rfl, rfl⟩
          obtain ⟨p0, p1, _, _⟩ := HBN.out.1.two
          obtain ⟨g0, g1, f0, f1⟩ := HBN.out.2.1.two
          obtain ⟨r0, r1, r2, _, _, _⟩ := HBN.out.2.2.1.three
          have cx := HBN.out.2.2.2
          go_wp2_with fail
          go_meet
          case rel => exact mid_inv HS'.out.1 HS'.out.2
      · as_aux_lemma =>
          go_wp2_with fail
          refine (drop_any 0 [.int .i64 N, .slice sa n sc] (N, PS want) k w5 HB5.out.2.1 kI).mono ?_
          rintro e w6 ⟨⟨us', rfl, ho⟩, hb6⟩
          obtain ⟨q1, q2, q3⟩ := take_PS hN1 hN2 (by rw [← HNW.out]; exact hwl) HX.out
          rw [q2] at ho
          rw [q1]
          obtain ⟨a', c', rfl, _, _⟩ := st_ownN ho
          simp only [PS_length] at ho ⊢
          obtain ⟨m, hm⟩ : ∃ m, m = (want.eraseIdx k).length := ⟨_, rfl⟩
          rw [← hm] at ho ⊢
          have hm2 : m ≤ N := by
            rw [hm]
            have := HNW.out
            have := List.length_eraseIdx_le want k
            omega
          have hs6 := hb6.size
          obtain ⟨u1, u2, u3, u4', u5', u6, u7'⟩ := HB5.out
          have hBX : Box w6 B 30 #[.int .i64 N, .slice sa n sc] := u1.below hb6 u1.lt
          obtain ⟨W1, hW1⟩ : ∃ W1, W1 = w6.alloc (.cells #[.int .i64 N, .slice a' m c'] 30) := ⟨_, rfl⟩
          have HBN : Hid (Box W1 w6.heap.size 30 #[.int .i64 N, .slice a' m c'] ∧ Box W1 B 30 #[.int .i64 N, .slice sa n sc]) := by
            rw [hW1]
            exact ⟨Box.new _ _ _, hBX.alloc _⟩
          have HS' : Hid (St1 wr.heap.size w ((W1.setCell ⟨B, 0, none⟩ (.int .i64 N)).setCell ⟨B, 1, none⟩ (.slice a' m c')) B N a' m c' (want.eraseIdx k) ∧ Own1 w.heap.size ((W1.setCell ⟨B, 0, none⟩ (.int .i64 N)).setCell ⟨B, 1, none⟩ (.slice a' m c')) v5 (want.eraseIdx k)) := by
            rw [hW1]
            refine ⟨mid_store HBB.out u5' (by omega) u6 hm hm2 (below_any u4' hb6) hBX (stN.oweaken ho u7') _, own_store (bytesS.obelow (bytesS.oweaken HO5.out.1 u6) hb6) hBX _ _ _⟩
          clear hBX ho hm hm2 hs6 hb6 q1 q2 q3 u1 u2 u3 u4' u5' u6 u7' c0' g0' g1' f0 f1
          go_wp2_with fail
          rw [← hW1]
          clear hW1
          refine (num_any _ _).mono ?_
          rintro e w20 ⟨rfl, rfl⟩
          obtain ⟨p0, p1, _, _⟩ := HBN.out.1.two
          obtain ⟨g0, g1, f0, f1⟩ := HBN.out.2.two
          go_wp2_with fail
          go_meet
          case rel => exact mid_inv HS'.out.1 HS'.out.2
      · as_aux_lemma =>
          go_wp2_with fail
          refine (double_any 0 [.int .i64 N, .slice sa n sc] (N, PS want) k w5 HB5.out.2.1 kI).mono ?_
          rintro e w6 ⟨⟨us', rfl, ho⟩, hb6⟩
          obtain ⟨q1, q2, q3⟩ := double_PS hN1 hN2 (by rw [← HNW.out]; exact hwl) HX.out
          rw [q3] at ho
          rw [q1, q2, ← HNW.out]
          obtain ⟨a', c', rfl, _, _⟩ := st_ownN ho
          obtain ⟨W2, hW2⟩ : ∃ W2, W2 = (if want.length < N then want ++ [x] else want) := ⟨_, rfl⟩
          rw [← hW2] at ho ⊢
          simp only [PS_length] at ho ⊢
          obtain ⟨m, hm⟩ : ∃ m, m = W2.length := ⟨_, rfl⟩
          rw [← hm] at ho ⊢
          have hm2 : m ≤ N := by
            rw [hm, hW2]
            have := HNW.out
            split
            · simp; omega
            · omega
          have hs6 := hb6.size
          obtain ⟨u1, u2, u3, u4', u5', u6, u7'⟩ := HB5.out
          have hBX : Box w6 B 30 #[.int .i64 N, .slice sa n sc] := u1.below hb6 u1.lt
          have HW2 : Hid (W2 = if n < N then want ++ [x] else want) := by rw [HNW.out]; exact hW2
          obtain ⟨W1, hW1⟩ : ∃ W1, W1 = w6.alloc (.cells #[.int .i64 N, .slice a' m c'] 30) := ⟨_, rfl⟩
          have HBN : Hid (Box W1 w6.heap.size 30 #[.int .i64 N, .slice a' m c'] ∧ Box W1 B 30 #[.int .i64 N, .slice sa n sc]) := by
            rw [hW1]
            exact ⟨Box.new _ _ _, hBX.alloc _⟩
          have hWs : w.heap.size ≤ W1.heap.size := by rw [hW1]; simp; omega
          have HS' : Hid (St1 wr.heap.size w ((W1.setCell ⟨B, 0, none⟩ (.int .i64 N)).setCell ⟨B, 1, none⟩ (.slice a' m c')) B N a' m c' W2 ∧ Own1 w.heap.size ((W1.setCell ⟨B, 0, none⟩ (.int .i64 N)).setCell ⟨B, 1, none⟩ (.slice a' m c')) (.slice va n vc) want) := by
            rw [hW1]
            refine ⟨mid_store HBB.out u5' (by omega) u6 hm hm2 (below_any u4' hb6) hBX (stN.oweaken ho u7') _, own_store (bytesS.obelow u3 hb6) hBX _ _ _⟩
          have HNB : Hid (∀ o, (((W1.setCell ⟨B, 0, none⟩ (.int .i64 N)).setCell ⟨B, 1, none⟩ (.slice a' m c')).alloc o).heap[W1.heap.size]? = some o) := fun o => by
            have := heap_alloc_new ((W1.setCell ⟨B, 0, none⟩ (.int .i64 N)).setCell ⟨B, 1, none⟩ (.slice a' m c')) o
            rwa [World.size_setCell, World.size_setCell] at this
          clear hBX ho hm hm2 hs6 hb6 q1 q2 q3 u1 u2 u3 u4' u5' u6 u7' c0' g0' g1' f0 f1 hW2
          by_cases hnN : n < N
          · have hni' : (n : Int) < (N : Int) := by omega
            go_wp2_with fail
            rw [← hW1]
            clear hW1
            refine (num_any _ _).mono ?_
            rintro e w20 ⟨rfl, rfl⟩
            obtain ⟨p0, p1, _, _⟩ := HBN.out.1.two
            obtain ⟨g0, g1, f0, f1⟩ := HBN.out.2.two
            rw [if_pos hnN] at HW2
            go_wp2_with (at_builtin; refine wpList_append_own _ rfl _ _ 25 rfl w.heap.size 5 i5 (.int .u8 0) 1 1 Try.underlying25 hi5 hz0 hz1 hz2 rfl (by decide) (.slice va n vc) n (want.map (Value.int .u8)) rfl (by have := (bytesS.osame HS'.out.2 (.alloc _ _ (.cells #[.int .u8 x] 5))); have := Own1.row this; rw [← HNW.out] at this; exact this) _ 1 1 [.int .u8 x] rfl rfl (World.news_of_block (cs := #[.int .u8 x]) (t := 5) (fr := (0, 0)) (HNB.out _)) (by simp [Value.oneCell']) (by unfold maxLen; omega) (by omega) (by simp [World.setCell]; omega) ?_; intro v' w3 hown hgrow _)
            have HE : Hid (Inv w B N v' w3) := mid_push (by have := HS'.out.1; rw [HW2.out] at this; exact this) HW8.out HNW.out HS'.out.2 HLT.out hgrow hown
            clear hown hgrow p0 p1 g0 g1 f0 f1
            go_wp2_with fail
            go_meet
            case rel => exact HE.out
          · have hni' : ¬ (n : Int) < (N : Int) := by omega
            go_wp2_with fail
            rw [← hW1]
            clear hW1
            refine (num_any _ _).mono ?_
            rintro e w20 ⟨rfl, rfl⟩
            obtain ⟨p0, p1, _, _⟩ := HBN.out.1.two
            obtain ⟨g0, g1, f0, f1⟩ := HBN.out.2.two
            rw [if_neg hnN] at HW2
            go_wp2_with fail
            go_meet
            case rel => exact mid_inv HS'.out.1 (by rw [HW2.out]; exact HS'.out.2)
    case rest =>
      clear HC HNW hl2 c0 c1 hix hr hr4 hwl
      obtain ⟨want', sa', sc', hwl', hbx', hst', hown', hbel'⟩ := hcut
      obtain ⟨va', vc', rfl⟩ := hown'.shape
      have HI' : Hid (Inv w B N (.slice va' want'.length vc') wc) := ⟨want', sa', sc', hwl', hbx', hst', hown', hbel'⟩
      obtain ⟨m, hm'⟩ : ∃ m, m = want'.length := ⟨_, rfl⟩
      rw [← hm'] at hbx' hst' hown' hwl' HI' ⊢
      have HC' : Hid (m = want'.length ∧ stN.lies 0 wc [.int .i64 N, .slice sa' m sc'] (N, PS want') ∧ Own1 w.heap.size wc (.slice va' m vc') want' ∧ Below w.heap.size w wc) := ⟨hm', hst', hown', hbel'⟩
      obtain ⟨g0, g1, _, _⟩ := hbx'.two
      have hl3 := run_len Try.underlying25 va' m vc'
      have hl4 := run_len Try.underlying28 sa' m sc'
      clear hm' hst' hown' hbel' hbx' want
      go_wp2_with fail
      go_loopw [24] (fun i wq => ∃ k : Nat, k ≤ m ∧ i = .int .i64 k ∧ ∃ q, wq = wc.drewN q) (fun i _ => m - (intOf i).toNat)
      case atStart => exact ⟨0, Nat.zero_le _, rfl, 0, rfl⟩
      case round =>
        obtain ⟨k, hk, rfl, q, rfl⟩ := hrel
        by_cases hkm : k < m
        · obtain ⟨x, hx⟩ := get_lt (l := want') (k := k) (by rw [← HC'.out.1]; exact hkm)
          obtain ⟨b1, o1, a1, c1, b2, o2, hix1, p1, hl5, hix2, p2⟩ := net_at HC'.out.1 HC'.out.2.1 k x hx
          obtain ⟨b3, o3, hix3, p3⟩ := byte_at HC'.out.2.2.1.arg k x hx
          clear hx
          have hki : (k : Int) < (m : Int) := by omega
          go_wp2
          go_quiet (fail)
          go_wp2
          go_roundw
          case rel => exact ⟨k + 1, by omega, by go_num, _, rfl⟩
          case measure => simp [intOf]; omega
        · obtain rfl : k = m := by omega
          go_wp2
          go_roundw
          case rel => 
            obtain ⟨want2, sa2, sc2, i1, i2, i3, i4, i5⟩ := HI'.out
            exact ⟨j + 1, by omega, by omega, by go_num, want2, sa2, sc2, i1, i2, stN.keep i3 (fun _ _ _ => rfl), bytesS.osame i4 (fun _ _ _ => rfl), below_drewN i5 q⟩
          case measure => simp [intOf]; omega

end Go.Proofs.Ytpecniajamgjiaa.netCounts
