/-
  What Seal answers: a segment as octets.
-/
import Derived.Test.YtkpckadicjdieabGSMath
import Derived.Test.YtkpckadicjdieabGFill
import Derived.Test.YtkpckadicjdieabZ15
import Derived.Deep.DeepCutAuto
namespace Go.Proofs.Ytkpckadicjdieab
open Go.RowKit
open O (oct need nv)

theorem Cells.box {n0 : Nat} {w : World} {B : Nat} {t : TypeId} {cs : Array Value} {n : Nat} (h : Box w B t cs) (hn : cs.size = n) (hm : n ≤ maxLen) (hb : n0 ≤ B) : Cells n0 w 1 (.slice (some ⟨B, 0, none⟩) n n) n cs.toList := by
  refine ⟨by simp [hn], .inr ⟨⟨B, 0, none⟩, n, rfl, Nat.le_refl _, hm, hb, fun j u hu => ?_⟩⟩
  rw [add_plain, Nat.zero_add]
  exact h.cell j (by simpa using hu)

/-- Two of a region may come up. -/
theorem AnyBut.gtwo {P : Program} {ops : Array Oper} {Q : Exit → Act → World → Prop} {md : Region.Mode} {S : World → Prop} {t : Nat} {i j : Nat} {oi oj : Oper} {f : Nat} {listed : Array Bool} {a : Act} {w : World} (hr : Region.ready md ops listed = [i, j]) (ho : ops[i]? = some oi) (ho2 : ops[j]? = some oj)
    (h : ∀ K : Act → World → Prop, Shut (∀ a w, S w → AnyBut P md ops Q S t f (listed.setIfInBounds i true) a w → K a w) → if Region.wanted oi (yielded ops a.tmps) = true then Oper.wp P oi a w K Q else K (a.put oi.dst undef) w)
    (h2 : ∀ K : Act → World → Prop, Shut (∀ a w, S w → AnyBut P md ops Q S t f (listed.setIfInBounds j true) a w → K a w) → if Region.wanted oj (yielded ops a.tmps) = true then Oper.wp P oj a w K Q else K (a.put oj.dst undef) w) : AnyBut P md ops Q S t (f + 1) listed a w := by
  refine ⟨fun h0 => (by rw [hr] at h0; cases h0), fun k hk => ?_⟩
  rw [hr] at hk
  rcases List.mem_cons.1 hk with rfl | hk
  · exact wpOp_step ho fun K hK => h K fun a w hS hA => hK a w ⟨fun _ => hS, hA⟩
  · obtain rfl := List.mem_singleton.1 hk
    exact wpOp_step ho2 fun K hK => h2 K fun a w hS hA => hK a w ⟨fun _ => hS, hA⟩

/-- The mark, as it is laid. -/
theorem mark_arg (w : World) : Arg w.heap.size (w.alloc (.cells #[.int .u8 115, .int .u8 101, .int .u8 103, .int .u8 49] 5)) (.slice (some ⟨w.heap.size, 0, none⟩) 4 4) [115, 101, 103, 49] :=
  Arg.mk (Cells.box (Box.new w 5 #[.int .u8 115, .int .u8 101, .int .u8 103, .int .u8 49]) rfl (by decide) (Nat.le_refl _)) (fun x hx => by
    simp at hx
    rcases hx with rfl | rfl | rfl | rfl <;> decide)

/-- The conversion of a constant's octets: the row is marked, no cell is another one. -/
theorem gconv_mark (V : World) (g n c : Nat) (C : Array Value) (h : V.heap[g]? = some (.cells C 5 (0, 0))) :
    ∃ V', (convert 46 46 (.slice (some ⟨g, 0, none⟩) n c)).run Try.prog V = .ok (.slice (some ⟨g, 0, none⟩) n c) V' ∧ Below g V V' ∧ (∀ p, V'.cell? p = V.cell? p) := by
  have hsh : V.shape? g = some (5, C.size) := by
    unfold World.shape?
    rw [h]
  have hlt : g < V.heap.size := (Array.getElem?_eq_some_iff.1 h).1
  have hblk : ∀ k, k ≠ g → (V.freeze ⟨g, C.size, none⟩ 1).heap[k]? = V.heap[k]? := fun k hk => by
    unfold World.freeze
    rw [if_neg (by decide)]
    show (V.heap.modify g _)[k]? = _
    rw [Array.getElem?_modify, if_neg (Ne.symm hk)]
  have hown : (V.freeze ⟨g, C.size, none⟩ 1).heap[g]? = some (.cells C 5 (C.size, C.size + 1)) := by
    unfold World.freeze
    rw [if_neg (by decide)]
    show (V.heap.modify g _)[g]? = _
    rw [Array.getElem?_modify, if_pos rfl, h]
    rfl
  refine ⟨V.freeze ⟨g, C.size, none⟩ 1, ?_, ⟨?_, ?_, ?_, ?_, fun k hk => hblk k (by omega)⟩, fun p => ?_⟩
  · simp [convert, run_underlying Try.underlying46, run_underlying Try.underlying5, markStringish, hsh]
  · unfold World.freeze; rw [if_neg (by decide)]
  · unfold World.freeze; rw [if_neg (by decide)]
  · unfold World.freeze; rw [if_neg (by decide)]
  · unfold World.freeze; rw [if_neg (by decide)]; simp
  · by_cases hp : p.block = g
    · unfold World.cell?
      rw [hp, hown, h]
    · unfold World.cell?
      rw [hblk _ hp]
theorem Arg.same {n0 : Nat} {V V' : World} {v : Value} {l : List Int} (h : Arg n0 V v l) (hc : ∀ p, V'.cell? p = V.cell? p) : Arg n0 V' v l := by
  refine Arg.mk ?_ h.oct
  obtain ⟨h1, h2⟩ := h.cells
  refine ⟨h1, h2.imp id ?_⟩
  rintro ⟨x, cap, rfl, a1, a2, a3, a4⟩
  exact ⟨x, cap, rfl, a1, a2, a3, fun j u hu => by rw [hc]; exact a4 j u hu⟩

set_option maxRecDepth 100000 in
set_option maxHeartbeats 8000000 in
theorem gseal_any (n0 : Nat) (us : List Value) (s : Sg) (w : World) (h : sgN.lies n0 w us s) :
    Calls Try.prog 25 #[.agg us.toArray] w fun e w' => (∃ v, e = .returned (.tuple #[v, .int .i64 (cerr s)]) ∧ Own1 w.heap.size w' v (sealV s)) ∧ Below w.heap.size w w' := by
  obtain ⟨a, c, rfl, hL, hi, hm⟩ := sg_viewN h
  obtain ⟨q, l⟩ := s
  simp only at hL hi hm
  obtain ⟨post, hpost⟩ : ∃ post : Ending → World → Prop, post = fun e w' => (∃ v, e = .returned (.tuple #[v, .int .i64 (cerr (q, l))]) ∧ Own1 w.heap.size w' v (sealV (q, l))) ∧ Below w.heap.size w w' := ⟨_, rfl⟩
  have HNo : Hid (∀ w', ¬ Chk (q, l) → Below w.heap.size w w' → post (.returned (.tuple #[.slice none 0 0, .int .i64 9])) w') := fun w' h1 h2 => by
    rw [hpost, cerr_bad h1, seal_bad h1]
    exact ⟨⟨_, rfl, Own1.mk (World.ownsRow_nil _ _ _ _) (fun _ h => by cases h)⟩, h2⟩
  have HYes : Hid (∀ v w', Chk (q, l) → Own1 w.heap.size w' v (sealO (q, l)) → Below w.heap.size w w' → post (.returned (.tuple #[v, .int .i64 0])) w') := fun v w' h1 h2 h3 => by
    rw [hpost, cerr_ok h1, seal_ok h1]
    exact ⟨⟨_, rfl, h2⟩, h3⟩
  rw [← hpost]
  clear hpost
  obtain ⟨W, hW⟩ : ∃ W, W = w.alloc (.cells #[.int .i64 q, .slice a l.length c] 45) := ⟨_, rfl⟩
  have hb : Below w.heap.size w W := by rw [hW]; exact (Below.refl _ w).alloc (Nat.le_refl _) _
  have hP : Box W w.heap.size 45 #[.int .i64 q, .slice a l.length c] := by rw [hW]; exact Box.new w _ _
  have HW : Hid (Below w.heap.size w W ∧ W.heap.size = w.heap.size + 1 ∧ bksN.lies n0 W [.slice a l.length c] l) := ⟨hb, by rw [hW]; simp, bksN.below hL hb⟩
  have HC := check_any n0 [.int .i64 q, .slice a l.length c] (q, l) W (sg_mkN (s := (q, l)) (bksN.below hL hb) hi)
  obtain ⟨n, hn⟩ : ∃ n, n = l.length := ⟨_, rfl⟩
  have HN : Hid (n = l.length) := hn
  simp only
  rw [← hn] at HC hW hP HW ⊢
  have HSB : Hid (∀ V, Below W.heap.size W V → V.cell? ⟨w.heap.size, 0, none⟩ = some (.int .i64 q) ∧ V.cell? ⟨w.heap.size, 1, none⟩ = some (.slice a n c)) := fun V hV => by
    obtain ⟨g0, g1, -, -⟩ := (hP.below hV hP.lt).two
    exact ⟨g0, g1⟩
  obtain ⟨g0, g1, _, _⟩ := hP.two
  rw [hW] at g0 g1
  obtain ⟨ce, hce⟩ : ∃ x, x = cerr (q, l) := ⟨_, rfl⟩
  have HCE : Hid (ce = cerr (q, l)) := hce
  rw [← hce] at HC
  have hl1 := run_len Try.underlying29 a n c
  unfold maxLen at hm
  clear h hL hi hb hP hn hce hm
  go_enter Try.func25, Try.ntmps25
  go_wp2_with fail
  rw [← hW]
  clear hW g0 g1
  refine HC.mono ?_
  rintro e w1 ⟨rfl, hb1⟩
  have HB1 : Hid (Below W.heap.size W w1) := hb1
  clear hb1 HC
  by_cases hce0 : ce = 0
  case neg =>
    have hcb : ¬ Chk (q, l) := fun h => hce0 (HCE.out.trans (cerr_ok h))
    obtain rfl : ce = 9 := HCE.out.trans (cerr_bad hcb)
    have HZ : Hid (post (.returned (.tuple #[.slice none 0 0, .int .i64 9])) w1) := HNo.out _ hcb (below_any HW.out.1 HB1.out)
    clear hcb
    go_wp2
    exact HZ.out
  subst hce0
  have HK : Hid (Chk (q, l)) := cerr_zero.1 HCE.out.symm
  have HQ : Hid (1 ≤ q ∧ q ≤ 1099511627776 ∧ 1 ≤ n ∧ n ≤ 8) := ⟨HK.out.1.1, HK.out.1.2, by have := HK.out.2.1; have := HN.out; simp only at *; omega, by have := HK.out.2.1; have := HN.out; simp only at *; omega⟩
  obtain ⟨qn, hqn⟩ : ∃ qn : Nat, qn = q.toNat := ⟨_, rfl⟩
  have hqi : q = (qn : Int) := by have := HQ.out; omega
  have HQN : Hid (qn = q.toNat ∧ qn < 1099511627777) := ⟨hqn, by have := HQ.out; omega⟩
  subst hqi
  clear hqn
  have HLQ : Hid (∀ V, Calls Try.prog 59 #[.int .i64 qn, .int .i64 8] V fun e w' => (∃ v, e = .returned v ∧ Own1 V.heap.size w' v (oct qn 8)) ∧ Below V.heap.size V w') := fun V => laid_any qn 8 V (by have := HQN.out.2; omega) (by omega) (need_le (by have := HQN.out.2; omega))
  have HLN : Hid (∀ V, Calls Try.prog 59 #[.int .i64 n, .int .i64 1] V fun e w' => (∃ v, e = .returned v ∧ Own1 V.heap.size w' v (oct n 1)) ∧ Below V.heap.size V w') := fun V => laid_any n 1 V (by have := HQ.out; omega) (by omega) (need_le (by have := HQ.out; omega))
  obtain ⟨base, hbase⟩ : ∃ b, b = W.heap.size := ⟨_, rfl⟩
  have HBS : Hid (base = W.heap.size) := hbase
  have HCC : Hid (∀ V va vb vc, Below W.heap.size W V → Arg 0 V va [115, 101, 103, 49] → Arg 0 V vb (oct qn 8) → Arg 0 V vc (oct n 1) → Calls Try.prog 58 #[.slice (some ⟨V.heap.size, 0, none⟩) 3 3] (V.alloc (.cells #[va, vb, vc] 46)) fun e w' => (∃ v, e = .returned v ∧ Own1 base w' v (pre qn n)) ∧ Below W.heap.size W w') := fun V va vb vc hV h1 h2 h3 => by
    have hbA : Below V.heap.size V (V.alloc (.cells #[va, vb, vc] 46)) := (Below.refl _ V).alloc (Nat.le_refl _) _
    have := concat_any 0 0 (.slice (some ⟨V.heap.size, 0, none⟩) 3 3) [va, vb, vc] [[115, 101, 103, 49], oct qn 8, oct n 1] (V.alloc (.cells #[va, vb, vc] 46)) (Cells.box (Box.new V 46 #[va, vb, vc]) rfl (by decide) (Nat.zero_le _)) ⟨h1.below hbA, h2.below hbA, h3.below hbA, trivial⟩ (by simp) (by simp)
    refine this.mono fun e w' hh => ⟨?_, below_any (below_any hV hbA) hh.2⟩
    obtain ⟨v, rfl, hv⟩ := hh.1
    refine ⟨v, rfl, ?_⟩
    have he : pre qn n = [[115, 101, 103, 49], oct qn 8, oct n 1].flatten := by simp [pre]
    rw [he]
    exact bytesS.oweaken hv (by rw [hbase]; have := hV.size; simp; omega)
  clear hbase
  go_upto_region 4 with fail
  go_cut [5] (fun v wx => Hid (Own1 base wx v (pre qn n) ∧ Below W.heap.size W wx))
  case first =>
    rename_i J K1 hJ hM
    refine AnyBut.begin (fun V => V.cell? ⟨w.heap.size, 0, none⟩ = some (.int .i64 qn) ∧ V.cell? ⟨w.heap.size, 1, none⟩ = some (.slice a n c)) 1000 (by kernel_rfl) ?_
    have hb0 : Below W.heap.size W w1.drew := below_any HB1.out (Below.refl _ w1).drew
    have hSS := HSB.out w1.drew hb0
    refine tx 2 17 hSS ?_
    simp only [ua, ub, uc, ud]
    refine tx 3 18 hSS ?_
    simp only [ua, ub, uc, ud]
    refine tx 5 20 hSS ?_
    simp only [ua, ub, uc, ud]
    refine tx 6 21 hSS ?_
    simp only [ua, ub, uc, ud]
    refine tx 7 22 hSS ?_
    simp only [ua, ub, uc, ud]
    obtain ⟨V0, hV0⟩ : ∃ V, V = w1.drew := ⟨_, rfl⟩
    rw [← hV0] at hSS hb0 ⊢
    clear hV0
    refine AnyBut.gtwo (i := 0) (j := 4) (by kernel_rfl) rfl rfl (fun K hK => ?_) (fun K hK => ?_)
    · skip
      go_simp
      obtain ⟨V1, hV1⟩ : ∃ V, V = V0.alloc (.cells #[.int .u8 115, .int .u8 101, .int .u8 103, .int .u8 49] 5) := ⟨_, rfl⟩
      obtain ⟨gm, hgm⟩ : ∃ g, g = V0.heap.size := ⟨_, rfl⟩
      have hs1 : Below V0.heap.size V0 V1 := by rw [hV1]; exact (Below.refl _ _).alloc (Nat.le_refl _) _
      have hA1 : Arg 0 V1 (.slice (some ⟨gm, 0, none⟩) 4 4) [115, 101, 103, 49] := by rw [hV1, hgm]; exact (mark_arg V0).weaken (Nat.zero_le _)
      have hx1 : Box V1 gm 5 #[.int .u8 115, .int .u8 101, .int .u8 103, .int .u8 49] := by rw [hV1, hgm]; exact Box.new _ _ _
      have hb1 : Below W.heap.size W V1 := below_any hb0 hs1
      have hgW : W.heap.size ≤ gm := by rw [hgm]; exact hb0.size
      rw [← hV1, ← hgm]
      clear hV1 hgm
      refine hK.out _ _ (HSB.out V1 hb1) ?_
      clear hK hSS
      have hSS := HSB.out V1 hb1
      refine AnyBut.gtwo (i := 1) (j := 4) (by kernel_rfl) rfl rfl (fun K hK => ?_) (fun K hK => ?_)
      · skip
        obtain ⟨V2, hcv2, hs2, hce2⟩ := gconv_mark V1 gm 4 4 _ hx1
        have hb2 : Below W.heap.size W V2 := hb1.trans (hs2.mono hgW)
        go_simp
        refine hK.out _ _ (HSB.out V2 hb2) ?_
        clear hK hSS
        have hSS := HSB.out V2 hb2
        refine AnyBut.step (i := 4) (by kernel_rfl) rfl (fun K hK => ?_)
        go_simp
        refine Calls.mono (HLQ.out V2) ?_
        rintro e V3 ⟨⟨vb, rfl, hv3⟩, hs3⟩
        obtain ⟨vbx, vbc, rfl⟩ := hv3.shape
        rw [oct_length] at hv3 ⊢
        have hA3 := hv3.arg.weaken (Nat.zero_le _)
        have hb3 : Below W.heap.size W V3 := below_any hb2 hs3
        dsimp only
        refine hK.out _ _ (HSB.out V3 hb3) ?_
        clear hK hSS
        have hSS := HSB.out V3 hb3
        refine AnyBut.step (i := 8) (by kernel_rfl) rfl (fun K hK => ?_)
        go_simp
        refine Calls.mono (HLN.out V3) ?_
        rintro e V4 ⟨⟨vc, rfl, hv4⟩, hs4⟩
        obtain ⟨vcx, vcc, rfl⟩ := hv4.shape
        rw [oct_length] at hv4 ⊢
        have hA4 := hv4.arg.weaken (Nat.zero_le _)
        have hb4 : Below W.heap.size W V4 := below_any hb3 hs4
        dsimp only
        refine hK.out _ _ (HSB.out V4 hb4) ?_
        clear hK hSS
        have hSS := HSB.out V4 hb4
        refine AnyBut.step (i := 9) (by kernel_rfl) rfl (fun K hK => ?_)
        go_simp
        have hbz : Below W.heap.size W (V4.alloc (.cells #[(.slice (some ⟨gm, 0, none⟩) 4 4), (.slice vbx 8 vbc), (.slice vcx 1 vcc)] 46)) := hb4.alloc hb4.size _
        refine hK.out _ _ (HSB.out _ hbz) ?_
        clear hK hSS
        have hSS := HSB.out _ hbz
        refine AnyBut.step (i := 10) (by kernel_rfl) rfl (fun K hK => ?_)
        go_simp
        refine Calls.mono (HCC.out V4 (.slice (some ⟨gm, 0, none⟩) 4 4) (.slice vbx 8 vbc) (.slice vcx 1 vcc) hb4 (((Arg.same hA1 hce2).below hs3).below hs4) (hA3.below hs4) hA4) ?_
        rintro e Vc ⟨⟨v5, rfl, hv5⟩, hb5⟩
        dsimp only
        refine hK.out _ _ (HSB.out Vc hb5) ?_
        clear hK hSS
        have hSS := HSB.out Vc hb5
        refine AnyBut.step (i := 11) (by kernel_rfl) rfl (fun K hK => ?_)
        go_simp
        refine hK.out _ _ hSS ?_
        clear hK hSS
        refine AnyBut.done (by kernel_rfl) ?_
        refine hM _ _ (Go.Met.intro (hJ _ _ ?_))
        (repeat (refine Exists.intro ?_ ?_; rotate_left 1))
        refine ⟨?rel, ?fr⟩
        case fr => rfl
        case rel => exact ⟨hv5, hb5⟩
      · skip
        go_simp
        refine Calls.mono (HLQ.out V1) ?_
        rintro e V2 ⟨⟨vb, rfl, hv2⟩, hs2⟩
        obtain ⟨vbx, vbc, rfl⟩ := hv2.shape
        rw [oct_length] at hv2 ⊢
        have hA2 := hv2.arg.weaken (Nat.zero_le _)
        have hb2 : Below W.heap.size W V2 := below_any hb1 hs2
        dsimp only
        refine hK.out _ _ (HSB.out V2 hb2) ?_
        clear hK hSS
        have hSS := HSB.out V2 hb2
        refine AnyBut.gtwo (i := 1) (j := 8) (by kernel_rfl) rfl rfl (fun K hK => ?_) (fun K hK => ?_)
        · skip
          obtain ⟨V3, hcv3, hs3, hce3⟩ := gconv_mark V2 gm 4 4 _ (hx1.below hs2 hx1.lt)
          have hb3 : Below W.heap.size W V3 := hb2.trans (hs3.mono hgW)
          go_simp
          refine hK.out _ _ (HSB.out V3 hb3) ?_
          clear hK hSS
          have hSS := HSB.out V3 hb3
          refine AnyBut.step (i := 8) (by kernel_rfl) rfl (fun K hK => ?_)
          go_simp
          refine Calls.mono (HLN.out V3) ?_
          rintro e V4 ⟨⟨vc, rfl, hv4⟩, hs4⟩
          obtain ⟨vcx, vcc, rfl⟩ := hv4.shape
          rw [oct_length] at hv4 ⊢
          have hA4 := hv4.arg.weaken (Nat.zero_le _)
          have hb4 : Below W.heap.size W V4 := below_any hb3 hs4
          dsimp only
          refine hK.out _ _ (HSB.out V4 hb4) ?_
          clear hK hSS
          have hSS := HSB.out V4 hb4
          refine AnyBut.step (i := 9) (by kernel_rfl) rfl (fun K hK => ?_)
          go_simp
          have hbz : Below W.heap.size W (V4.alloc (.cells #[(.slice (some ⟨gm, 0, none⟩) 4 4), (.slice vbx 8 vbc), (.slice vcx 1 vcc)] 46)) := hb4.alloc hb4.size _
          refine hK.out _ _ (HSB.out _ hbz) ?_
          clear hK hSS
          have hSS := HSB.out _ hbz
          refine AnyBut.step (i := 10) (by kernel_rfl) rfl (fun K hK => ?_)
          go_simp
          refine Calls.mono (HCC.out V4 (.slice (some ⟨gm, 0, none⟩) 4 4) (.slice vbx 8 vbc) (.slice vcx 1 vcc) hb4 ((Arg.same (hA1.below hs2) hce3).below hs4) ((Arg.same hA2 hce3).below hs4) hA4) ?_
          rintro e Vc ⟨⟨v5, rfl, hv5⟩, hb5⟩
          dsimp only
          refine hK.out _ _ (HSB.out Vc hb5) ?_
          clear hK hSS
          have hSS := HSB.out Vc hb5
          refine AnyBut.step (i := 11) (by kernel_rfl) rfl (fun K hK => ?_)
          go_simp
          refine hK.out _ _ hSS ?_
          clear hK hSS
          refine AnyBut.done (by kernel_rfl) ?_
          refine hM _ _ (Go.Met.intro (hJ _ _ ?_))
          (repeat (refine Exists.intro ?_ ?_; rotate_left 1))
          refine ⟨?rel, ?fr⟩
          case fr => rfl
          case rel => exact ⟨hv5, hb5⟩
        · skip
          go_simp
          refine Calls.mono (HLN.out V2) ?_
          rintro e V3 ⟨⟨vc, rfl, hv3⟩, hs3⟩
          obtain ⟨vcx, vcc, rfl⟩ := hv3.shape
          rw [oct_length] at hv3 ⊢
          have hA3 := hv3.arg.weaken (Nat.zero_le _)
          have hb3 : Below W.heap.size W V3 := below_any hb2 hs3
          dsimp only
          refine hK.out _ _ (HSB.out V3 hb3) ?_
          clear hK hSS
          have hSS := HSB.out V3 hb3
          refine AnyBut.step (i := 1) (by kernel_rfl) rfl (fun K hK => ?_)
          obtain ⟨V4, hcv4, hs4, hce4⟩ := gconv_mark V3 gm 4 4 _ ((hx1.below hs2 hx1.lt).below hs3 (hx1.below hs2 hx1.lt).lt)
          have hb4 : Below W.heap.size W V4 := hb3.trans (hs4.mono hgW)
          go_simp
          refine hK.out _ _ (HSB.out V4 hb4) ?_
          clear hK hSS
          have hSS := HSB.out V4 hb4
          refine AnyBut.step (i := 9) (by kernel_rfl) rfl (fun K hK => ?_)
          go_simp
          have hbz : Below W.heap.size W (V4.alloc (.cells #[(.slice (some ⟨gm, 0, none⟩) 4 4), (.slice vbx 8 vbc), (.slice vcx 1 vcc)] 46)) := hb4.alloc hb4.size _
          refine hK.out _ _ (HSB.out _ hbz) ?_
          clear hK hSS
          have hSS := HSB.out _ hbz
          refine AnyBut.step (i := 10) (by kernel_rfl) rfl (fun K hK => ?_)
          go_simp
          refine Calls.mono (HCC.out V4 (.slice (some ⟨gm, 0, none⟩) 4 4) (.slice vbx 8 vbc) (.slice vcx 1 vcc) hb4 (Arg.same ((hA1.below hs2).below hs3) hce4) (Arg.same (hA2.below hs3) hce4) (Arg.same hA3 hce4)) ?_
          rintro e Vc ⟨⟨v5, rfl, hv5⟩, hb5⟩
          dsimp only
          refine hK.out _ _ (HSB.out Vc hb5) ?_
          clear hK hSS
          have hSS := HSB.out Vc hb5
          refine AnyBut.step (i := 11) (by kernel_rfl) rfl (fun K hK => ?_)
          go_simp
          refine hK.out _ _ hSS ?_
          clear hK hSS
          refine AnyBut.done (by kernel_rfl) ?_
          refine hM _ _ (Go.Met.intro (hJ _ _ ?_))
          (repeat (refine Exists.intro ?_ ?_; rotate_left 1))
          refine ⟨?rel, ?fr⟩
          case fr => rfl
          case rel => exact ⟨hv5, hb5⟩
    · skip
      go_simp
      refine Calls.mono (HLQ.out V0) ?_
      rintro e V1 ⟨⟨vb, rfl, hv1⟩, hs1⟩
      obtain ⟨vbx, vbc, rfl⟩ := hv1.shape
      rw [oct_length] at hv1 ⊢
      have hA1 := hv1.arg.weaken (Nat.zero_le _)
      have hb1 : Below W.heap.size W V1 := below_any hb0 hs1
      dsimp only
      refine hK.out _ _ (HSB.out V1 hb1) ?_
      clear hK hSS
      have hSS := HSB.out V1 hb1
      refine AnyBut.gtwo (i := 0) (j := 8) (by kernel_rfl) rfl rfl (fun K hK => ?_) (fun K hK => ?_)
      · skip
        go_simp
        obtain ⟨V2, hV2⟩ : ∃ V, V = V1.alloc (.cells #[.int .u8 115, .int .u8 101, .int .u8 103, .int .u8 49] 5) := ⟨_, rfl⟩
        obtain ⟨gm, hgm⟩ : ∃ g, g = V1.heap.size := ⟨_, rfl⟩
        have hs2 : Below V1.heap.size V1 V2 := by rw [hV2]; exact (Below.refl _ _).alloc (Nat.le_refl _) _
        have hA2 : Arg 0 V2 (.slice (some ⟨gm, 0, none⟩) 4 4) [115, 101, 103, 49] := by rw [hV2, hgm]; exact (mark_arg V1).weaken (Nat.zero_le _)
        have hx2 : Box V2 gm 5 #[.int .u8 115, .int .u8 101, .int .u8 103, .int .u8 49] := by rw [hV2, hgm]; exact Box.new _ _ _
        have hb2 : Below W.heap.size W V2 := below_any hb1 hs2
        have hgW : W.heap.size ≤ gm := by rw [hgm]; exact hb1.size
        rw [← hV2, ← hgm]
        clear hV2 hgm
        refine hK.out _ _ (HSB.out V2 hb2) ?_
        clear hK hSS
        have hSS := HSB.out V2 hb2
        refine AnyBut.gtwo (i := 1) (j := 8) (by kernel_rfl) rfl rfl (fun K hK => ?_) (fun K hK => ?_)
        · skip
          obtain ⟨V3, hcv3, hs3, hce3⟩ := gconv_mark V2 gm 4 4 _ hx2
          have hb3 : Below W.heap.size W V3 := hb2.trans (hs3.mono hgW)
          go_simp
          refine hK.out _ _ (HSB.out V3 hb3) ?_
          clear hK hSS
          have hSS := HSB.out V3 hb3
          refine AnyBut.step (i := 8) (by kernel_rfl) rfl (fun K hK => ?_)
          go_simp
          refine Calls.mono (HLN.out V3) ?_
          rintro e V4 ⟨⟨vc, rfl, hv4⟩, hs4⟩
          obtain ⟨vcx, vcc, rfl⟩ := hv4.shape
          rw [oct_length] at hv4 ⊢
          have hA4 := hv4.arg.weaken (Nat.zero_le _)
          have hb4 : Below W.heap.size W V4 := below_any hb3 hs4
          dsimp only
          refine hK.out _ _ (HSB.out V4 hb4) ?_
          clear hK hSS
          have hSS := HSB.out V4 hb4
          refine AnyBut.step (i := 9) (by kernel_rfl) rfl (fun K hK => ?_)
          go_simp
          have hbz : Below W.heap.size W (V4.alloc (.cells #[(.slice (some ⟨gm, 0, none⟩) 4 4), (.slice vbx 8 vbc), (.slice vcx 1 vcc)] 46)) := hb4.alloc hb4.size _
          refine hK.out _ _ (HSB.out _ hbz) ?_
          clear hK hSS
          have hSS := HSB.out _ hbz
          refine AnyBut.step (i := 10) (by kernel_rfl) rfl (fun K hK => ?_)
          go_simp
          refine Calls.mono (HCC.out V4 (.slice (some ⟨gm, 0, none⟩) 4 4) (.slice vbx 8 vbc) (.slice vcx 1 vcc) hb4 ((Arg.same hA2 hce3).below hs4) ((Arg.same (hA1.below hs2) hce3).below hs4) hA4) ?_
          rintro e Vc ⟨⟨v5, rfl, hv5⟩, hb5⟩
          dsimp only
          refine hK.out _ _ (HSB.out Vc hb5) ?_
          clear hK hSS
          have hSS := HSB.out Vc hb5
          refine AnyBut.step (i := 11) (by kernel_rfl) rfl (fun K hK => ?_)
          go_simp
          refine hK.out _ _ hSS ?_
          clear hK hSS
          refine AnyBut.done (by kernel_rfl) ?_
          refine hM _ _ (Go.Met.intro (hJ _ _ ?_))
          (repeat (refine Exists.intro ?_ ?_; rotate_left 1))
          refine ⟨?rel, ?fr⟩
          case fr => rfl
          case rel => exact ⟨hv5, hb5⟩
        · skip
          go_simp
          refine Calls.mono (HLN.out V2) ?_
          rintro e V3 ⟨⟨vc, rfl, hv3⟩, hs3⟩
          obtain ⟨vcx, vcc, rfl⟩ := hv3.shape
          rw [oct_length] at hv3 ⊢
          have hA3 := hv3.arg.weaken (Nat.zero_le _)
          have hb3 : Below W.heap.size W V3 := below_any hb2 hs3
          dsimp only
          refine hK.out _ _ (HSB.out V3 hb3) ?_
          clear hK hSS
          have hSS := HSB.out V3 hb3
          refine AnyBut.step (i := 1) (by kernel_rfl) rfl (fun K hK => ?_)
          obtain ⟨V4, hcv4, hs4, hce4⟩ := gconv_mark V3 gm 4 4 _ (hx2.below hs3 hx2.lt)
          have hb4 : Below W.heap.size W V4 := hb3.trans (hs4.mono hgW)
          go_simp
          refine hK.out _ _ (HSB.out V4 hb4) ?_
          clear hK hSS
          have hSS := HSB.out V4 hb4
          refine AnyBut.step (i := 9) (by kernel_rfl) rfl (fun K hK => ?_)
          go_simp
          have hbz : Below W.heap.size W (V4.alloc (.cells #[(.slice (some ⟨gm, 0, none⟩) 4 4), (.slice vbx 8 vbc), (.slice vcx 1 vcc)] 46)) := hb4.alloc hb4.size _
          refine hK.out _ _ (HSB.out _ hbz) ?_
          clear hK hSS
          have hSS := HSB.out _ hbz
          refine AnyBut.step (i := 10) (by kernel_rfl) rfl (fun K hK => ?_)
          go_simp
          refine Calls.mono (HCC.out V4 (.slice (some ⟨gm, 0, none⟩) 4 4) (.slice vbx 8 vbc) (.slice vcx 1 vcc) hb4 (Arg.same (hA2.below hs3) hce4) (Arg.same ((hA1.below hs2).below hs3) hce4) (Arg.same hA3 hce4)) ?_
          rintro e Vc ⟨⟨v5, rfl, hv5⟩, hb5⟩
          dsimp only
          refine hK.out _ _ (HSB.out Vc hb5) ?_
          clear hK hSS
          have hSS := HSB.out Vc hb5
          refine AnyBut.step (i := 11) (by kernel_rfl) rfl (fun K hK => ?_)
          go_simp
          refine hK.out _ _ hSS ?_
          clear hK hSS
          refine AnyBut.done (by kernel_rfl) ?_
          refine hM _ _ (Go.Met.intro (hJ _ _ ?_))
          (repeat (refine Exists.intro ?_ ?_; rotate_left 1))
          refine ⟨?rel, ?fr⟩
          case fr => rfl
          case rel => exact ⟨hv5, hb5⟩
      · skip
        go_simp
        refine Calls.mono (HLN.out V1) ?_
        rintro e V2 ⟨⟨vc, rfl, hv2⟩, hs2⟩
        obtain ⟨vcx, vcc, rfl⟩ := hv2.shape
        rw [oct_length] at hv2 ⊢
        have hA2 := hv2.arg.weaken (Nat.zero_le _)
        have hb2 : Below W.heap.size W V2 := below_any hb1 hs2
        dsimp only
        refine hK.out _ _ (HSB.out V2 hb2) ?_
        clear hK hSS
        have hSS := HSB.out V2 hb2
        refine AnyBut.step (i := 0) (by kernel_rfl) rfl (fun K hK => ?_)
        go_simp
        obtain ⟨V3, hV3⟩ : ∃ V, V = V2.alloc (.cells #[.int .u8 115, .int .u8 101, .int .u8 103, .int .u8 49] 5) := ⟨_, rfl⟩
        obtain ⟨gm, hgm⟩ : ∃ g, g = V2.heap.size := ⟨_, rfl⟩
        have hs3 : Below V2.heap.size V2 V3 := by rw [hV3]; exact (Below.refl _ _).alloc (Nat.le_refl _) _
        have hA3 : Arg 0 V3 (.slice (some ⟨gm, 0, none⟩) 4 4) [115, 101, 103, 49] := by rw [hV3, hgm]; exact (mark_arg V2).weaken (Nat.zero_le _)
        have hx3 : Box V3 gm 5 #[.int .u8 115, .int .u8 101, .int .u8 103, .int .u8 49] := by rw [hV3, hgm]; exact Box.new _ _ _
        have hb3 : Below W.heap.size W V3 := below_any hb2 hs3
        have hgW : W.heap.size ≤ gm := by rw [hgm]; exact hb2.size
        rw [← hV3, ← hgm]
        clear hV3 hgm
        refine hK.out _ _ (HSB.out V3 hb3) ?_
        clear hK hSS
        have hSS := HSB.out V3 hb3
        refine AnyBut.step (i := 1) (by kernel_rfl) rfl (fun K hK => ?_)
        obtain ⟨V4, hcv4, hs4, hce4⟩ := gconv_mark V3 gm 4 4 _ hx3
        have hb4 : Below W.heap.size W V4 := hb3.trans (hs4.mono hgW)
        go_simp
        refine hK.out _ _ (HSB.out V4 hb4) ?_
        clear hK hSS
        have hSS := HSB.out V4 hb4
        refine AnyBut.step (i := 9) (by kernel_rfl) rfl (fun K hK => ?_)
        go_simp
        have hbz : Below W.heap.size W (V4.alloc (.cells #[(.slice (some ⟨gm, 0, none⟩) 4 4), (.slice vbx 8 vbc), (.slice vcx 1 vcc)] 46)) := hb4.alloc hb4.size _
        refine hK.out _ _ (HSB.out _ hbz) ?_
        clear hK hSS
        have hSS := HSB.out _ hbz
        refine AnyBut.step (i := 10) (by kernel_rfl) rfl (fun K hK => ?_)
        go_simp
        refine Calls.mono (HCC.out V4 (.slice (some ⟨gm, 0, none⟩) 4 4) (.slice vbx 8 vbc) (.slice vcx 1 vcc) hb4 (Arg.same hA3 hce4) (Arg.same ((hA1.below hs2).below hs3) hce4) (Arg.same (hA2.below hs3) hce4)) ?_
        rintro e Vc ⟨⟨v5, rfl, hv5⟩, hb5⟩
        dsimp only
        refine hK.out _ _ (HSB.out Vc hb5) ?_
        clear hK hSS
        have hSS := HSB.out Vc hb5
        refine AnyBut.step (i := 11) (by kernel_rfl) rfl (fun K hK => ?_)
        go_simp
        refine hK.out _ _ hSS ?_
        clear hK hSS
        refine AnyBut.done (by kernel_rfl) ?_
        refine hM _ _ (Go.Met.intro (hJ _ _ ?_))
        (repeat (refine Exists.intro ?_ ?_; rotate_left 1))
        refine ⟨?rel, ?fr⟩
        case fr => rfl
        case rel => exact ⟨hv5, hb5⟩
  case rest =>
    have HR := hcut
    obtain ⟨w2, hw2⟩ : ∃ V, V = wc := ⟨_, rfl⟩
    rw [← hw2] at HR ⊢
    clear hw2 hcut HLQ HLN HCC
    obtain ⟨g0, g1⟩ := HSB.out w2 HR.out.2
    have HBD : Hid (base ≤ W.heap.size ∧ W.heap.size ≤ base) := by have := HBS.out; exact ⟨by omega, by omega⟩
    have hn8 : n ≤ 8 := HQ.out.2.2.2
    go_wp2
    clear g0 g1
    go_loopw [5, 29] (fun v i wr => ∃ k : Nat, k ≤ n ∧ i = .int .i64 k ∧ Hid (Own1 base wr v (pre qn n ++ hds (l.take k))) ∧ Hid (Below W.heap.size W wr)) (fun _ i _ => n - (intOf i).toNat)
    case atStart => exact ⟨0, Nat.zero_le _, rfl, by show Own1 _ _ _ _; simpa [hds] using HR.out.1, HR.out.2⟩
    case round =>
      obtain ⟨k, hk, rfl, HO, HB⟩ := hrel
      obtain ⟨g0, g1⟩ := HSB.out wr HB.out
      by_cases hlt : k < n
      · obtain ⟨p, hp⟩ := get_lt (l := l) (k := k) (by rw [← HN.out]; exact hlt)
        obtain ⟨b, o, x, cap, hix, c0, c1, c2, hA, _⟩ := bks_atN (bksN.below HW.out.2.2 HB.out) k p hp
        have HMY := may_iff.1 (List.all_eq_true.1 HK.out.2.2 p (List.mem_of_getElem? hp))
        have hTK : l.take (k + 1) = l.take k ++ [p] := take_snoc hp
        obtain ⟨po, pi, pd⟩ := p
        simp only at c0 c1 c2 HMY
        obtain ⟨pn, hpn⟩ : ∃ m : Nat, m = po.toNat := ⟨_, rfl⟩
        obtain ⟨px, hpx⟩ : ∃ m : Nat, m = pi.toNat := ⟨_, rfl⟩
        obtain ⟨pm, hpm⟩ : ∃ m : Nat, m = pd.length := ⟨_, rfl⟩
        obtain rfl : po = (pn : Int) := by omega
        obtain rfl : pi = (px : Int) := by omega
        rw [← hpm] at c2 HMY
        have HL1 := fun V => laid_any pn 4 V (by omega) (by omega) (need_le (by omega))
        have HL2 := fun V => laid_any px 1 V (by omega) (by omega) (need_le (by omega))
        have HL3 := fun V => laid_any pm 1 V (by omega) (by omega) (need_le (by omega))
        have HLL : Hid ((∀ V, Calls Try.prog 59 #[.int .i64 pn, .int .i64 4] V fun e w' => (∃ v, e = .returned v ∧ Own1 V.heap.size w' v (oct pn 4)) ∧ Below V.heap.size V w') ∧ (∀ V, Calls Try.prog 59 #[.int .i64 px, .int .i64 1] V fun e w' => (∃ v, e = .returned v ∧ Own1 V.heap.size w' v (oct px 1)) ∧ Below V.heap.size V w') ∧ (∀ V, Calls Try.prog 59 #[.int .i64 pm, .int .i64 1] V fun e w' => (∃ v, e = .returned v ∧ Own1 V.heap.size w' v (oct pm 1)) ∧ Below V.heap.size V w')) := ⟨HL1, HL2, HL3⟩
        have HTK : Hid (hds (l.take (k + 1)) = hds (l.take k) ++ (oct pn 4 ++ oct px 1 ++ oct pm 1)) := by
          show _ = _
          rw [hTK, hds_snoc]
          simp [hd, hpm]
        have HLE : Hid ((hds (l.take k)).length ≤ 48) := by
          show _ ≤ 48
          rw [hds_length, List.length_take]
          have := HQ.out
          omega
        clear HL1 HL2 HL3 hpn hpx hpm hTK hp hA HMY
        obtain ⟨X, hX⟩ : ∃ X, X = wr.alloc (.cells #[.int .i64 pn, .int .i64 px, .slice x pm cap] 48) := ⟨_, rfl⟩
        have hbX : Below wr.heap.size wr X := by rw [hX]; exact (Below.refl _ wr).alloc (Nat.le_refl _) _
        have hBX : Box X wr.heap.size 48 #[.int .i64 pn, .int .i64 px, .slice x pm cap] := by rw [hX]; exact Box.new _ _ _
        obtain ⟨L0, hL0⟩ : ∃ L, L = pre qn n ++ hds (l.take k) := ⟨_, rfl⟩
        have HL0 : Hid (L0 = pre qn n ++ hds (l.take k) ∧ L0.length ≤ 61) := ⟨hL0, by rw [hL0, List.length_append, pre_length]; have := HLE.out; omega⟩
        rw [← hL0] at HO
        have H0 : Hid (Own1 base X u5 L0 ∧ Box X wr.heap.size 48 #[.int .i64 pn, .int .i64 px, .slice x pm cap] ∧ Below W.heap.size W X) := ⟨Own1.mk (own_below HO.out.row hbX) HO.out.oct, hBX, below_any HB.out hbX⟩
        obtain ⟨ua0, uc0, rfl⟩ := HO.out.shape
        have hki : (k : Int) < (n : Int) := by omega
        have hlx := run_len Try.underlying46 x pm cap
        obtain ⟨m0, hm0⟩ : ∃ m, m = L0.length := ⟨_, rfl⟩
        rw [← hm0] at H0 ⊢
        obtain ⟨y0, y1, y2, -⟩ := hBX.three
        rw [hX] at y0 y1 y2
        clear hL0 HO hbX hBX hm0
        go_wp2_with fail
        rw [← hX]
        clear hX y0 y1 y2 c0 c1 c2 g0 g1
        refine (HLL.out.1 X).mono ?_
        rintro e V1 ⟨⟨va, rfl, hva⟩, hs1⟩
        obtain ⟨vax, vac, rfl⟩ := hva.shape
        rw [oct_length] at hva ⊢
        have H1' : Hid (Own1 base V1 (.slice ua0 m0 uc0) L0 ∧ Box V1 wr.heap.size 48 #[.int .i64 pn, .int .i64 px, .slice x pm cap] ∧ Below W.heap.size W V1 ∧ Arg 0 V1 (.slice vax 4 vac) (oct pn 4)) := ⟨Own1.mk (own_below H0.out.1.row hs1) H0.out.1.oct, H0.out.2.1.below hs1 H0.out.2.1.lt, below_any H0.out.2.2 hs1, hva.arg.weaken (Nat.zero_le _)⟩
        obtain ⟨y0, y1, y2, -⟩ := H1'.out.2.1.three
        clear hva hs1
        go_wp2_with (at_builtin; refine push_bytes (by rfl) _ _ (by rfl) base 0 _ _ L0 (oct pn 4) V1 (by rfl) H1'.out.1 (by rfl) H1'.out.2.2.2 (by rw [oct_length]; have := HL0.out.2; omega) (by have := H1'.out.2.2.1.size; have := HBD.out; omega) ?_; intro v1 w1a hO1 hg1; have hBn := H1'.out.2.1.grown hg1 (Box.apart H1'.out.2.1 H1'.out.1.row (by decide)); have hbn : Below W.heap.size W w1a := H1'.out.2.2.1.grown hg1 H1'.out.2.2.1.size (fun j hj => by have := (H1'.out.1.row.lt j hj).1; have := HBD.out; omega); obtain ⟨ua1, uc1, rfl⟩ := hO1.shape; obtain ⟨m1, hm1⟩ : ∃ m, m = (L0 ++ oct pn 4).length := ⟨_, rfl⟩; rw [← hm1] at hO1 ⊢; have H1 : Hid (Own1 base w1a (.slice ua1 m1 uc1) (L0 ++ oct pn 4) ∧ Box w1a wr.heap.size 48 #[.int .i64 pn, .int .i64 px, .slice x pm cap] ∧ Below W.heap.size W w1a) := ⟨hO1, hBn, hbn⟩; clear y0 y1 y2 hO1 hg1 hm1; obtain ⟨y0, y1, y2, -⟩ := hBn.three; clear hBn hbn)
        refine (HLL.out.2.1 w1a).mono ?_
        rintro e V2 ⟨⟨va, rfl, hva⟩, hs2⟩
        obtain ⟨vax, vac, rfl⟩ := hva.shape
        rw [oct_length] at hva ⊢
        have H2' : Hid (Own1 base V2 (.slice ua1 m1 uc1) (L0 ++ oct pn 4) ∧ Box V2 wr.heap.size 48 #[.int .i64 pn, .int .i64 px, .slice x pm cap] ∧ Below W.heap.size W V2 ∧ Arg 0 V2 (.slice vax 1 vac) (oct px 1)) := ⟨Own1.mk (own_below H1.out.1.row hs2) H1.out.1.oct, H1.out.2.1.below hs2 H1.out.2.1.lt, below_any H1.out.2.2 hs2, hva.arg.weaken (Nat.zero_le _)⟩
        obtain ⟨y0, y1, y2, -⟩ := H2'.out.2.1.three
        clear hva hs2
        go_wp2_with (at_builtin; refine push_bytes (by rfl) _ _ (by rfl) base 0 _ _ (L0 ++ oct pn 4) (oct px 1) V2 (by rfl) H2'.out.1 (by rfl) H2'.out.2.2.2 (by rw [oct_length]; have := HL0.out.2; simp only [List.length_append, oct_length]; omega) (by have := H2'.out.2.2.1.size; have := HBD.out; omega) ?_; intro v2 w2a hO2 hg2; have hBn := H2'.out.2.1.grown hg2 (Box.apart H2'.out.2.1 H2'.out.1.row (by decide)); have hbn : Below W.heap.size W w2a := H2'.out.2.2.1.grown hg2 H2'.out.2.2.1.size (fun j hj => by have := (H2'.out.1.row.lt j hj).1; have := HBD.out; omega); obtain ⟨ua2, uc2, rfl⟩ := hO2.shape; obtain ⟨m2, hm2⟩ : ∃ m, m = ((L0 ++ oct pn 4) ++ oct px 1).length := ⟨_, rfl⟩; rw [← hm2] at hO2 ⊢; have H2 : Hid (Own1 base w2a (.slice ua2 m2 uc2) ((L0 ++ oct pn 4) ++ oct px 1) ∧ Box w2a wr.heap.size 48 #[.int .i64 pn, .int .i64 px, .slice x pm cap] ∧ Below W.heap.size W w2a) := ⟨hO2, hBn, hbn⟩; clear y0 y1 y2 hO2 hg2 hm2; obtain ⟨y0, y1, y2, -⟩ := hBn.three; clear hBn hbn)
        refine (HLL.out.2.2 w2a).mono ?_
        rintro e V3 ⟨⟨va, rfl, hva⟩, hs3⟩
        obtain ⟨vax, vac, rfl⟩ := hva.shape
        rw [oct_length] at hva ⊢
        have H3' : Hid (Own1 base V3 (.slice ua2 m2 uc2) ((L0 ++ oct pn 4) ++ oct px 1) ∧ Box V3 wr.heap.size 48 #[.int .i64 pn, .int .i64 px, .slice x pm cap] ∧ Below W.heap.size W V3 ∧ Arg 0 V3 (.slice vax 1 vac) (oct pm 1)) := ⟨Own1.mk (own_below H2.out.1.row hs3) H2.out.1.oct, H2.out.2.1.below hs3 H2.out.2.1.lt, below_any H2.out.2.2 hs3, hva.arg.weaken (Nat.zero_le _)⟩
        obtain ⟨y0, y1, y2, -⟩ := H3'.out.2.1.three
        clear hva hs3
        go_wp2_with (at_builtin; refine push_bytes (by rfl) _ _ (by rfl) base 0 _ _ ((L0 ++ oct pn 4) ++ oct px 1) (oct pm 1) V3 (by rfl) H3'.out.1 (by rfl) H3'.out.2.2.2 (by rw [oct_length]; have := HL0.out.2; simp only [List.length_append, oct_length]; omega) (by have := H3'.out.2.2.1.size; have := HBD.out; omega) ?_; intro v3 w3a hO3 hg3; have hBn := H3'.out.2.1.grown hg3 (Box.apart H3'.out.2.1 H3'.out.1.row (by decide)); have hbn : Below W.heap.size W w3a := H3'.out.2.2.1.grown hg3 H3'.out.2.2.1.size (fun j hj => by have := (H3'.out.1.row.lt j hj).1; have := HBD.out; omega); obtain ⟨ua3, uc3, rfl⟩ := hO3.shape; obtain ⟨m3, hm3⟩ : ∃ m, m = (((L0 ++ oct pn 4) ++ oct px 1) ++ oct pm 1).length := ⟨_, rfl⟩; rw [← hm3] at hO3 ⊢; have H3 : Hid (Own1 base w3a (.slice ua3 m3 uc3) (((L0 ++ oct pn 4) ++ oct px 1) ++ oct pm 1) ∧ Box w3a wr.heap.size 48 #[.int .i64 pn, .int .i64 px, .slice x pm cap] ∧ Below W.heap.size W w3a) := ⟨hO3, hBn, hbn⟩; clear y0 y1 y2 hO3 hg3 hm3; obtain ⟨y0, y1, y2, -⟩ := hBn.three; clear hBn hbn)
        clear y0 y1 y2
        go_roundw
        case rel => exact ⟨k + 1, by omega, by go_num, by show Own1 _ _ _ _; rw [HTK.out, ← List.append_assoc, ← List.append_assoc, ← List.append_assoc, ← HL0.out.1]; exact H3.out.1, H3.out.2.2⟩
        case measure => simp [intOf]; omega
      · obtain rfl : k = n := by omega
        have hT : l.take k = l := by rw [HN.out]; simp
        rw [hT] at HO
        have HDL : Hid (∀ j, (dts (l.take j)).length ≤ 256) := fun j => by
          have h1 := dts_le (l := l.take j) (by
            rw [List.all_eq_true]
            exact fun p hp => List.all_eq_true.1 HK.out.2.2 p (List.mem_of_mem_take hp))
          rw [List.length_take] at h1
          have := HQ.out
          have := HN.out
          omega
        have HHL : Hid ((hds l).length ≤ 48) := by
          show _ ≤ 48
          rw [hds_length, ← HN.out]
          omega
        clear hT
        go_wp2
        clear g0 g1
        go_loopw [5, 53] (fun v i wq => ∃ j : Nat, j ≤ k ∧ i = .int .i64 j ∧ Hid (Own1 base wq v (pre qn k ++ hds l ++ dts (l.take j))) ∧ Hid (Below W.heap.size W wq)) (fun _ i _ => k - (intOf i).toNat)
        case atStart => exact ⟨0, Nat.zero_le _, rfl, by show Own1 _ _ _ _; simpa [dts] using HO.out, HB⟩
        case round =>
          rename World => wq
          obtain ⟨j, hj, rfl, HO2, HB2⟩ := hrel
          obtain ⟨g0, g1⟩ := HSB.out wq HB2.out
          obtain ⟨L0, hL0⟩ : ∃ L, L = pre qn k ++ hds l ++ dts (l.take j) := ⟨_, rfl⟩
          have HL0 : Hid (L0 = pre qn k ++ hds l ++ dts (l.take j) ∧ L0.length ≤ 317 ∧ 13 ≤ L0.length) := ⟨hL0, by
            rw [hL0, List.length_append, List.length_append, pre_length]; have := HHL.out; have := HDL.out j; omega, by rw [hL0, List.length_append, List.length_append, pre_length]; omega⟩
          rw [← hL0] at HO2
          clear hL0
          by_cases hlt2 : j < k
          · obtain ⟨p, hp⟩ := get_lt (l := l) (k := j) (by rw [← HN.out]; exact hlt2)
            obtain ⟨b, o, x, cap, hix, c0, c1, c2, hA, _⟩ := bks_atN (bksN.below HW.out.2.2 HB2.out) j p hp
            have HMY := may_iff.1 (List.all_eq_true.1 HK.out.2.2 p (List.mem_of_getElem? hp))
            have hTK : l.take (j + 1) = l.take j ++ [p] := take_snoc hp
            obtain ⟨po, pi, pd⟩ := p
            simp only at c0 c1 c2 HMY hA
            have HTK : Hid (dts (l.take (j + 1)) = dts (l.take j) ++ pd ∧ pd.length ≤ 32) := ⟨by rw [hTK, dts_snoc], HMY.2.2⟩
            obtain ⟨X, hX⟩ : ∃ X, X = wq.alloc (.cells #[.int .i64 po, .int .i64 pi, .slice x pd.length cap] 48) := ⟨_, rfl⟩
            have hbX : Below wq.heap.size wq X := by rw [hX]; exact (Below.refl _ wq).alloc (Nat.le_refl _) _
            have hBX : Box X wq.heap.size 48 #[.int .i64 po, .int .i64 pi, .slice x pd.length cap] := by rw [hX]; exact Box.new _ _ _
            have H0 : Hid (Own1 base X u5 L0 ∧ Below W.heap.size W X ∧ Arg n0 X (.slice x pd.length cap) pd) := ⟨Own1.mk (own_below HO2.out.row hbX) HO2.out.oct, below_any HB2.out hbX, hA.below hbX⟩
            obtain ⟨ua0, uc0, rfl⟩ := HO2.out.shape
            have hki : (j : Int) < (k : Int) := by omega
            obtain ⟨pm, hpm⟩ : ∃ m, m = pd.length := ⟨_, rfl⟩
            rw [← hpm] at H0 hX hBX c2
            obtain ⟨m0, hm0⟩ : ∃ m, m = L0.length := ⟨_, rfl⟩
            rw [← hm0] at H0 ⊢
            obtain ⟨y0, y1, y2, -⟩ := hBX.three
            rw [hX] at y0 y1 y2 H0
            clear HO2 hbX hBX hm0 hpm hTK HMY hp hA hX
            go_wp2_with (at_builtin; refine push_bytes (by rfl) _ _ (by rfl) base n0 _ _ L0 pd _ (by rfl) H0.out.1 (by rfl) H0.out.2.2 (by have := HL0.out.2.1; have := HTK.out.2; omega) (by have := H0.out.2.1.size; have := HBD.out; omega) ?_; intro v1 w1a hO1 hg1; have hbn : Below W.heap.size W w1a := H0.out.2.1.grown hg1 H0.out.2.1.size (fun j hj => by have := (H0.out.1.row.lt j hj).1; have := HBD.out; omega); have H1 : Hid (Own1 base w1a v1 (L0 ++ pd) ∧ Below W.heap.size W w1a) := ⟨hO1, hbn⟩; clear y0 y1 y2 hO1 hg1 hbn)
            go_roundw
            case rel => exact ⟨j + 1, by omega, by go_num, by show Own1 _ _ _ _; rw [HTK.out.1, ← List.append_assoc, ← HL0.out.1]; exact H1.out.1, H1.out.2⟩
            case measure => simp [intOf]; omega
          · obtain rfl : j = k := by omega
            have hL : L0 = bodyO ((qn : Int), l) := by
              rw [HL0.out.1, show l.take j = l by rw [HN.out]; simp]
              simp [bodyO, HN.out]
            obtain ⟨g, cp, rfl, hR⟩ := RowB.of HO2.out (by have := HL0.out.2.2; omega)
            obtain ⟨m0, hm0⟩ : ∃ m, m = L0.length := ⟨_, rfl⟩
            rw [← hm0] at hR ⊢
            have HF := filled_any base g m0 cp L0 wq hR (by have := HB2.out.size; have := HBD.out; omega) (by have := HL0.out.2.1; omega)
            have HFE : Hid (L0 ++ List.replicate (380 - m0) 0 = fullO ((qn : Int), l)) := by
              show _ = _
              rw [hm0, hL]; rfl
            rw [HFE.out] at HF
            clear hR HO2 hm0 hL
            go_wp2_with fail
            refine HF.mono ?_
            rintro e w3 ⟨⟨g3, c3, rfl, hR3⟩, hB3⟩
            have H3 : Hid (RowB base w3 g3 380 c3 (fullO ((qn : Int), l)) ∧ Below W.heap.size W w3) := ⟨hR3, HB2.out.trans (hB3.mono HBD.out.2)⟩
            have HS := C.sum_any _ _ w3 hR3.own.arg.toC
            obtain ⟨sm, hsm⟩ : ∃ z, z = C.sum (fullO ((qn : Int), l)) := ⟨_, rfl⟩
            rw [← hsm] at HS
            have HSM : Hid (sm = C.sum (fullO ((qn : Int), l)) ∧ sm < 4294967296) := ⟨hsm, by
              rw [hsm]
              refine C.ext_lt 0 _ (by decide) fun y hy => ?_
              have := hR3.own.oct y hy
              simp [Lit.wf, IntKind.min, IntKind.max, IntKind.signed, IntKind.bits] at this
              omega⟩
            clear hR3 hB3 HF hsm
            go_wp2_with fail
            refine HS.mono ?_
            rintro e w4 ⟨rfl, hb4⟩
            have H4 : Hid (Own1 base w4 (.slice (some ⟨g3, 0, none⟩) 380 c3) (fullO ((qn : Int), l)) ∧ Below W.heap.size W w4) := ⟨Own1.mk (own_below H3.out.1.own.row hb4) H3.out.1.own.oct, below_any H3.out.2 hb4⟩
            have HLS := laid_any sm 4 w4 (by have := HSM.out.2; omega) (by omega) (need_le (by have := HSM.out.2; omega))
            have hcv : IntKind.i64.wrap (sm : Int) = (sm : Int) := by have := HSM.out.2; rw [IntKind.wrap_i64]; omega
            have hsl : (sm : Int) < 4294967296 := by have := HSM.out.2; omega
            clear hb4 HS
            go_wp2_with fail
            refine HLS.mono ?_
            rintro e w5 ⟨⟨va, rfl, hva⟩, hb5⟩
            obtain ⟨vax, vac, rfl⟩ := hva.shape
            rw [oct_length] at hva ⊢
            have H5 : Hid (Own1 base w5 (.slice (some ⟨g3, 0, none⟩) 380 c3) (fullO ((qn : Int), l)) ∧ Below W.heap.size W w5 ∧ Arg 0 w5 (.slice vax 4 vac) (oct sm 4)) := ⟨Own1.mk (own_below H4.out.1.row hb5) H4.out.1.oct, below_any H4.out.2 hb5, hva.arg.weaken (Nat.zero_le _)⟩
            have HFL : Hid ((fullO ((qn : Int), l)).length = 380) := full_length HK.out
            clear hva hb5 HLS
            go_wp2_with (at_builtin; refine push_bytes (by rfl) _ _ (by rfl) base 0 _ _ (fullO ((qn : Int), l)) (oct sm 4) w5 (by rfl) H5.out.1 (by rfl) H5.out.2.2 (by rw [oct_length, HFL.out]; omega) (by have := H5.out.2.1.size; have := HBD.out; omega) ?_; intro v6 w6 hO6 hg6; have H6 : Hid (post (.returned (.tuple #[v6, .int .i64 0])) w6) := HYes.out _ _ HK.out (by rw [show sealO ((qn : Int), l) = fullO ((qn : Int), l) ++ oct sm 4 by rw [HSM.out.1]; rfl]; exact bytesS.oweaken hO6 (by have := HBD.out; have := HW.out.2.1; omega)) (below_any HW.out.1 (H5.out.2.1.grown hg6 H5.out.2.1.size (fun j hj => by have := (H5.out.1.row.lt j hj).1; have := HBD.out; omega))); clear hO6 hg6)
            exact H6.out

end Go.Proofs.Ytkpckadicjdieab
