import Derived.Test.YthlfgpnabcplnaaGreatDoorTe16
import Derived.Deep.RegionHeld3
import Derived.StillTail
import Derived.Test.YthlfgpnabcplnaaGreatDoorTe7
/-
  Regions that draw their order and end in one store that waits for all others: what may be read is taken first under a condition on memory that the store alone need not keep.
-/
namespace Go.Proofs.YthlfgpnabcplnaaGreatDoor.Dk
open Go
set_option maxRecDepth 100000

/-- Whatever order is picked; S holds behind every operation but number t. -/
def AnyBut (P : Program) (md : Region.Mode) (ops : Array Oper) (Q : Exit → Act → World → Prop) (S : World → Prop) (t : Nat) : Nat → Array Bool → Act → World → Prop
  | 0, listed, a, w => Region.ready md ops listed = [] ∧ Q .normal a w
  | f + 1, listed, a, w => (Region.ready md ops listed = [] → Q .normal a w) ∧
      ∀ i ∈ Region.ready md ops listed, wpOp P ops Q i (fun a' w' => (i ≠ t → S w') ∧ AnyBut P md ops Q S t f (listed.setIfInBounds i true) a' w') a w

theorem AnyBut.any {P : Program} {ops : Array Oper} {Q : Exit → Act → World → Prop} {md : Region.Mode} {S : World → Prop} {t : Nat} : ∀ (f : Nat) (listed : Array Bool) (a : Act) (w : World), AnyBut P md ops Q S t f listed a w → wpAny P md ops Q f listed a w
  | 0, _, _, _, h => h
  | f + 1, _, _, _, h => ⟨h.1, fun i hi => wpOp_mono (fun a' w' k => AnyBut.any f _ a' w' k.2) (h.2 i hi)⟩

theorem ready_waits {ops : Array Oper} {md : Region.Mode} {i : Nat} {listed : Array Bool} {oj : Oper} {j : Nat} (hr : i ∈ Region.ready md ops listed) (hj : j ∈ Region.ready md ops listed) (ho : ops[j]? = some oj) : ∀ e ∈ oj.after, Region.binds md e = true → e.on ≠ i := by
  intro e he hb heq
  obtain ⟨_, oj', ho', hall⟩ := mem_ready.1 hj
  obtain rfl : oj' = oj := by rw [ho] at ho'; exact (Option.some.inj ho').symm
  have h1 := hall e he hb
  have h0 := (mem_ready.1 hr).1
  rw [heq] at h1
  rcases Nat.lt_or_ge i listed.size with h' | h'
  · simp [h'] at h0 h1; rw [h0] at h1; cases h1
  · simp [Array.getElem?_eq_none h'] at h1

/-- What yields in every world that meets S may be taken first, if number t waits for it. -/
theorem AnyBut.first {P : Program} {ops : Array Oper} {Q : Exit → Act → World → Prop} {md : Region.Mode} {S : World → Prop} {t : Nat} {i : Nat} {oi : Oper} {v : Value} (hi : ops[i]? = some oi) (hs : Region.noSelect ops = true) (hit : i ≠ t) (hw : Region.waitsFor md ops t i = true)
    (hQ : ∀ c a w, Q (.panic c) (a.put oi.dst v) w → Q (.panic c) a w) (f : Nat) : ∀ (listed : Array Bool) (a : Act) (w : World), Region.free md ops listed i = true → i ∈ Region.ready md ops listed → YieldsIf P ops S oi v a → S w →
      AnyBut P md ops Q S t f (listed.setIfInBounds i true) (a.put oi.dst v) w → AnyBut P md ops Q S t (f + 1) listed a w := by
  induction f with
  | zero =>
    intro listed a w hf hr hy hS H
    refine ⟨fun h => (by rw [h] at hr; cases hr), fun j hj => ?_⟩
    by_cases hji : j = i
    · subst hji
      exact hy.wpOp hi hS ⟨fun _ => hS, H⟩
    · have := ready_mono hj hji
      rw [H.1] at this
      cases this
  | succ f ih =>
    intro listed a w hf hr hy hS H
    refine ⟨fun h => (by rw [h] at hr; cases hr), fun j hj => ?_⟩
    by_cases hji : j = i
    · subst hji
      exact hy.wpOp hi hS ⟨fun _ => hS, H⟩
    · obtain ⟨hun, oj, hoj, _⟩ := mem_ready.1 hj
      have hno := ready_waits hr hj hoj
      have hjt : j ≠ t := by
        rintro rfl
        obtain ⟨o', ho', e, he, hb, hon⟩ := Region.waitsFor_spec hw
        obtain rfl : o' = oj := by rw [hoj] at ho'; exact (Option.some.inj ho').symm
        exact hno e he hb hon
      have h2 := wpOp_putIf hoj (Region.free_spec hi hf j oj hoj hji hun hno) (fun cs b => Region.noSelect_spec hs i oi cs b hi) (fun cs b => Region.noSelect_spec hs j oj cs b hoj) hQ hy (H.2 j (ready_mono hj hji))
      refine wpOp_mono (fun a' w' k => ⟨fun _ => k.2.1 hjt, ?_⟩) h2
      refine ih (listed.setIfInBounds j true) a' w' ?_ (ready_mono hr (Ne.symm hji)) k.1 (k.2.1 hjt) ?_
      · unfold Region.free at hf ⊢
        rw [hi] at hf ⊢
        simp only [List.all_eq_true, List.mem_range, Bool.or_eq_true] at hf ⊢
        intro x hx
        rcases hf x hx with (h | h) | h
        · exact .inl (.inl h)
        · refine .inl (.inr ?_)
          by_cases hjx : j = x
          · subst hjx; rw [hun] at h; cases h
          · rw [getD_set_ne true hjx]; exact h
        · exact .inr h
      · rw [Array.setIfInBounds_comm _ _ hji]
        exact k.2.2

/-- A read is taken first. -/
theorem AnyBut.take {P : Program} {ops : Array Oper} {Q : Exit → Act → World → Prop} {md : Region.Mode} {S : World → Prop} {t : Nat} {i : Nat} (d : Option Tmp) {oi : Oper} {v : Value} {f : Nat} {listed : Array Bool} {a : Act} {w : World} (hi : ops[i]? = some oi) (hd : oi.dst = d) (hs : Region.noSelect ops = true) (hit : (i == t) = false) (hw : Region.waitsFor md ops t i = true)
    (hf : Region.free md ops listed i = true) (hr : (Region.ready md ops listed).contains i = true) (hQ : ∀ c a w, Q (.panic c) (a.put d v) w → Q (.panic c) a w) (hy : YieldsIf P ops S oi v a) (hS : S w)
    (h : AnyBut P md ops Q S t f (listed.setIfInBounds i true) (a.put d v) w) : AnyBut P md ops Q S t (f + 1) listed a w := by
  subst hd
  exact AnyBut.first hi hs (by simpa using hit) hw hQ f listed a w hf (by simpa using hr) hy hS h

/-- One alone may come up. -/
theorem AnyBut.step {P : Program} {ops : Array Oper} {Q : Exit → Act → World → Prop} {md : Region.Mode} {S : World → Prop} {t : Nat} {i : Nat} {o : Oper} {f : Nat} {listed : Array Bool} {a : Act} {w : World} (hr : Region.ready md ops listed = [i]) (ho : ops[i]? = some o)
    (h : ∀ K : Act → World → Prop, Shut (∀ a w, S w → AnyBut P md ops Q S t f (listed.setIfInBounds i true) a w → K a w) → if Region.wanted o (yielded ops a.tmps) = true then Oper.wp P o a w K Q else K (a.put o.dst undef) w) : AnyBut P md ops Q S t (f + 1) listed a w := by
  refine ⟨fun h0 => (by rw [hr] at h0; cases h0), fun j hj => ?_⟩
  rw [hr] at hj
  obtain rfl : j = i := by simpa using hj
  exact wpOp_step ho fun K hK => h K fun a w hS hA => hK a w ⟨fun _ => hS, hA⟩

/-- The last one. -/
theorem AnyBut.last {P : Program} {ops : Array Oper} {Q : Exit → Act → World → Prop} {md : Region.Mode} {S : World → Prop} {t : Nat} {o : Oper} {f : Nat} {listed : Array Bool} {a : Act} {w : World} (hr : Region.ready md ops listed = [t]) (hn : Region.ready md ops (listed.setIfInBounds t true) = []) (ho : ops[t]? = some o)
    (h : ∀ K : Act → World → Prop, Shut (∀ a w, Q .normal a w → K a w) → if Region.wanted o (yielded ops a.tmps) = true then Oper.wp P o a w K Q else K (a.put o.dst undef) w) : AnyBut P md ops Q S t (f + 1) listed a w := by
  refine ⟨fun h0 => (by rw [hr] at h0; cases h0), fun j hj => ?_⟩
  rw [hr] at hj
  obtain rfl : j = t := by simpa using hj
  refine wpOp_step ho fun K hK => h K fun a w hq => hK a w ⟨fun hne => absurd rfl hne, ?_⟩
  match f with
  | 0 => exact ⟨hn, hq⟩
  | f + 1 => exact ⟨fun _ => hq, by rw [hn]; simp⟩

theorem AnyBut.begin {P : Program} {ops : Array Oper} {Q : Exit → Act → World → Prop} {id : Nat} {a : Act} {w : World} (S : World → Prop) (t : Nat) (hm : P.follows .mixedOrders = true)
    (h : AnyBut P .any ops Q S t ops.size (Array.replicate ops.size false) a w.drew) : (Code.region id ops true).wp P Q a w :=
  wp_region_any hm (AnyBut.any _ _ _ _ h)

end Go.Proofs.YthlfgpnabcplnaaGreatDoor.Dk

/-
  What the document's Own makes of a disk: the same one in memory of its own.
-/
namespace Go.Proofs.YthlfgpnabcplnaaGreatDoor.Dk
open Go.RowKit
set_option maxRecDepth 100000

attribute [local go_sem ↓] Go.wp_at_zero Go.wp_at_succ

set_option maxHeartbeats 8000000 in
theorem rown_any (n0 : Nat) (v : Value) (S : St) (w : World) (h : Disk n0 w v S) (hn : S.secs.length ≤ 2048) (hm : S.cache.length ≤ 4096) (h64 : ∀ l ∈ S.secs, l.length = 64) (hc64 : ∀ q ∈ S.cache, q.2.length = 64) :
    Calls Tryz.prog 57 #[v] w fun e w' => ∃ v', e = .returned v' ∧ OwnDisk w.heap.size w' 87 v' S ∧ Below w.heap.size w w' := by
  obtain ⟨a1, c1, a2, c2, rfl, hL, hW⟩ := h.shape
  obtain ⟨i6, hi6, hz60, hz61, hz62⟩ := info_parts Tryz.info87
  obtain ⟨i2, hi2, hz20, hz21, hz22⟩ := info_parts Tryz.info22
  have HL : Hid (Lists n0 w (.slice a1 S.secs.length c1) S.secs) := hL
  have HW : Hid (Writes n0 w (.slice a2 S.cache.length c2) S.cache) := hW
  obtain ⟨n, hn'⟩ : ∃ n, n = S.secs.length := ⟨_, rfl⟩
  obtain ⟨m, hm'⟩ : ∃ n, n = S.cache.length := ⟨_, rfl⟩
  have HN : Hid (n = S.secs.length) := hn'
  have HM : Hid (m = S.cache.length) := hm'
  rw [← hn'] at HL hn ⊢
  rw [← hm'] at HW hm ⊢
  have H64 : Hid ((∀ l ∈ S.secs, l.length = 64) ∧ ∀ q ∈ S.cache, q.2.length = 64) := ⟨h64, hc64⟩
  clear h hL hW hn' hm' h64 hc64
  have hl1 := run_len Tryz.underlying44 a1 n c1
  have hl2 := run_len Tryz.underlying45 a2 m c2
  go_enter Tryz.func57, Tryz.ntmps57
  go_wp2
  go_loopw [4] (fun i wr => ∃ (k : Nat) (v : Value), k ≤ n ∧ i = .int .i64 k ∧ Box wr w.heap.size 47 (.slice a1 n c1) (.slice a2 m c2) ∧ Box wr (w.heap.size + 1) 47 (.slice none 0 0) (.slice none 0 0) ∧ Box wr (w.heap.size + 2) 47 v (.slice none 0 0) ∧
    OwnLists (w.heap.size + 3) wr v (S.secs.take k) ∧ Below w.heap.size w wr ∧ w.heap.size + 3 ≤ wr.heap.size) (fun i _ => n - (intOf i).toNat)
  case atStart =>
    refine ⟨0, _, Nat.zero_le _, rfl, ?_, ?_, ?_, ⟨[], World.ownsRow_nil _ _ _ _, trivial⟩, ?_, ?_⟩
    · exact ((Box.new w 47 _ _).alloc _).alloc _
    · have := (Box.new (w.alloc (.cells #[.slice a1 n c1, .slice a2 m c2] 47)) 47 (.slice none 0 0) (.slice none 0 0)).alloc (.cells #[.slice none 0 0, .slice none 0 0] 47)
      simpa using this
    · have := Box.new ((w.alloc (.cells #[.slice a1 n c1, .slice a2 m c2] 47)).alloc (.cells #[.slice none 0 0, .slice none 0 0] 47)) 47 (.slice none 0 0) (.slice none 0 0)
      simpa using this
    · exact (((Below.refl _ w).alloc (Nat.le_refl _) _).alloc (by simp) _).alloc (by simp; omega) _
    · simp
  case round =>
    obtain ⟨k, v, hk, rfl, hB0, hB1, hB2, hO, hbel, hsz⟩ := hrel
    by_cases hlt : k < n
    · obtain ⟨l, hl⟩ := get_lt (l := S.secs) (k := k) (by rw [← HN.out]; exact hlt)
      obtain ⟨b, o, a, cap, hix, _, hc, hA⟩ := HL.out.at k l hl
      have hl64 := H64.out.1 l (List.mem_of_getElem? hl)
      rw [hl64] at hc hA
      have HA : Hid (Arg n0 w (.slice a 64 cap) l ∧ l.length = 64) := ⟨hA, hl64⟩
      have HTK : Hid (S.secs.take (k + 1) = S.secs.take k ++ [l] ∧ (S.secs.take k).length = k) := ⟨take_snoc hl, by have := HN.out; rw [List.length_take]; omega⟩
      obtain ⟨us, hown, hE⟩ := hO
      rw [HTK.out.2] at hown
      obtain ⟨a', cap', rfl⟩ := own_shape hown
      have HBX : Hid (Box wr w.heap.size 47 (.slice a1 n c1) (.slice a2 m c2) ∧ Box wr (w.heap.size + 1) 47 (.slice none 0 0) (.slice none 0 0) ∧ Box wr (w.heap.size + 2) 47 (.slice a' k cap') (.slice none 0 0)) := ⟨hB0, hB1, hB2⟩
      have HE : Hid (Each (Own1 (w.heap.size + 3) wr) us (S.secs.take k)) := hE
      have HBL : Hid (Below w.heap.size w wr) := hbel
      have HO : Hid (wr.ownsRow (w.heap.size + 3) 22 1 (.slice a' k cap') k us) := hown
      have HC : Hid (Calls Tryz.prog 59 #[.slice a 64 cap] wr.drew fun e w' => (∃ v', e = .returned v' ∧ w'.ownsRow wr.heap.size 5 1 v' 64 (l.map (Value.int .u8))) ∧ Below wr.heap.size wr w') := by
        have := copied_any n0 (.slice a 64 cap) l wr.drew ((HA.out.1.below HBL.out).below (Below.refl _ _).drew) (by have := HA.out.2; omega)
        rw [HA.out.2] at this
        exact this.mono fun e w' h => ⟨h.1, ((Below.refl _ wr).drew).trans h.2⟩
      have HS : Hid (∀ V, Box V w.heap.size 47 (.slice a1 n c1) (.slice a2 m c2) → Box V (w.heap.size + 2) 47 (.slice a' k cap') (.slice none 0 0) → Below w.heap.size w V → V.cell? ⟨w.heap.size, 0, none⟩ = some (.slice a1 n c1) ∧ V.cell? ⟨w.heap.size + 2, 0, none⟩ = some (.slice a' k cap') ∧ V.cell? ⟨b, o, none⟩ = some (.slice a 64 cap)) := fun V h0 h2 hb => ⟨h0.cell0, h2.cell0, by rw [hb.cell (cell_lt hc)]; exact hc⟩
      have hki : (k : Int) < (n : Int) := by omega
      have q0 := hB0.cell0
      clear hA hl hB0 hB1 hB2 hE hbel hown hl64 hc
      go_wp2
      refine AnyBut.begin (fun W => W.cell? ⟨w.heap.size, 0, none⟩ = some (.slice a1 n c1) ∧ W.cell? ⟨w.heap.size + 2, 0, none⟩ = some (.slice a' k cap') ∧ W.cell? ⟨b, o, none⟩ = some (.slice a 64 cap)) 11 (by kernel_rfl) ?_
      have hSS := HS.out wr.drew HBX.out.1 HBX.out.2.2 HBL.out.drew
      refine AnyBut.take (i := 0) (some 13) (v := ?_) rfl rfl (by kernel_rfl) rfl (by kernel_rfl) (by kernel_rfl) (by kernel_rfl) (fun _ _ _ h => h) (.inl ⟨by rfl, ?_⟩) hSS ?_
      rotate_left
      · (intro W hSW; (try dsimp only at hSW); go_simp; try with_reducible rfl)
      simp only [Act.put, List.setIfInBounds_toArray, List.set_cons_zero, List.set_cons_succ]
      refine AnyBut.take (i := 1) (some 14) (v := ?_) rfl rfl (by kernel_rfl) rfl (by kernel_rfl) (by kernel_rfl) (by kernel_rfl) (fun _ _ _ h => h) (.inl ⟨by rfl, ?_⟩) hSS ?_
      rotate_left
      · (intro W hSW; (try dsimp only at hSW); go_simp; try with_reducible rfl)
      simp only [Act.put, List.setIfInBounds_toArray, List.set_cons_zero, List.set_cons_succ]
      refine AnyBut.take (i := 2) (some 15) (v := ?_) rfl rfl (by kernel_rfl) rfl (by kernel_rfl) (by kernel_rfl) (by kernel_rfl) (fun _ _ _ h => h) (.inl ⟨by rfl, ?_⟩) hSS ?_
      rotate_left
      · (intro W hSW; (try dsimp only at hSW); go_simp; try with_reducible rfl)
      simp only [Act.put, List.setIfInBounds_toArray, List.set_cons_zero, List.set_cons_succ]
      refine AnyBut.take (i := 3) (some 16) (v := ?_) rfl rfl (by kernel_rfl) rfl (by kernel_rfl) (by kernel_rfl) (by kernel_rfl) (fun _ _ _ h => h) (.inl ⟨by rfl, ?_⟩) hSS ?_
      rotate_left
      · (intro W hSW; (try dsimp only at hSW); go_simp; try with_reducible rfl)
      simp only [Act.put, List.setIfInBounds_toArray, List.set_cons_zero, List.set_cons_succ]
      refine AnyBut.take (i := 4) (some 17) (v := ?_) rfl rfl (by kernel_rfl) rfl (by kernel_rfl) (by kernel_rfl) (by kernel_rfl) (fun _ _ _ h => h) (.inl ⟨by rfl, ?_⟩) hSS ?_
      rotate_left
      · (intro W hSW; (try dsimp only at hSW); go_simp; try with_reducible rfl)
      simp only [Act.put, List.setIfInBounds_toArray, List.set_cons_zero, List.set_cons_succ]
      refine AnyBut.take (i := 5) (some 18) (v := ?_) rfl rfl (by kernel_rfl) rfl (by kernel_rfl) (by kernel_rfl) (by kernel_rfl) (fun _ _ _ h => h) (.inl ⟨by rfl, ?_⟩) hSS ?_
      rotate_left
      · (intro W hSW; (try dsimp only at hSW); go_simp; try with_reducible rfl)
      simp only [Act.put, List.setIfInBounds_toArray, List.set_cons_zero, List.set_cons_succ]
      refine AnyBut.take (i := 6) (some 19) (v := ?_) rfl rfl (by kernel_rfl) rfl (by kernel_rfl) (by kernel_rfl) (by kernel_rfl) (fun _ _ _ h => h) (.inl ⟨by rfl, ?_⟩) hSS ?_
      rotate_left
      · (intro W hSW; (try dsimp only at hSW); go_simp; try with_reducible rfl)
      simp only [Act.put, List.setIfInBounds_toArray, List.set_cons_zero, List.set_cons_succ]
      refine AnyBut.step (i := 7) (by kernel_rfl) rfl (fun K hK => ?_)
      go_simp
      refine Calls.mono HC.out ?_
      rintro e w2 ⟨⟨u2, rfl, hu2⟩, hb2⟩
      obtain ⟨ux, uc, rfl⟩ := own_shape hu2
      have hx0 := HBX.out.1.below hb2 HBX.out.1.lt
      have hx2 := HBX.out.2.2.below hb2 HBX.out.2.2.lt
      have hbw2 := below_any HBL.out hb2
      dsimp only
      refine hK.out _ _ (HS.out w2 hx0 hx2 hbw2) ?_
      clear hK hSS
      have hSS := (HS.out w2 hx0 hx2 hbw2)
      refine AnyBut.step (i := 8) (by kernel_rfl) rfl (fun K hK => ?_)
      go_simp
      refine hK.out _ _ (HS.out (w2.alloc (.cells #[.slice ux 64 uc] 22)) (hx0.alloc _) (hx2.alloc _) (hbw2.alloc (by have := hb2.size; omega) _)) ?_
      clear hK hSS
      have hSS := (HS.out (w2.alloc (.cells #[.slice ux 64 uc] 22)) (hx0.alloc _) (hx2.alloc _) (hbw2.alloc (by have := hb2.size; omega) _))
      refine AnyBut.step (i := 9) (by kernel_rfl) rfl (fun K hK => ?_)
      refine step_append_lies _ (by rfl) _ _ _ (by rfl) (w.heap.size + 3) 22 i2 _ 1 24 Tryz.underlying44 hi2 hz20 hz21 hz22 rfl (by omega) _ k _ (by rfl) ((own_below HO.out hb2).alloc _) ⟨w2.heap.size, 0, none⟩ 1 1 [.slice ux 64 uc] (by rfl) (by rfl)
          (World.news_of_block (cs := #[.slice ux 64 uc]) (t := 22) (fr := (0, 0)) (heap_alloc_new w2 _)) (by simp [Value.oneCell']) (by omega) (by unfold maxLen; omega) (by omega) (by have := hb2.size; simp; omega) (w2.heap.size + 1) (by simp) ?_
      intro gg cap3 w3 hown3 hgrow3 hat hltg
      have hbx0 : Box w3 w.heap.size 47 (.slice a1 n c1) (.slice a2 m c2) := Box.grown (hx0.alloc _) hgrow3 (row_ne HO.out (by omega))
      have hbx1 : Box w3 (w.heap.size + 1) 47 (.slice none 0 0) (.slice none 0 0) := Box.grown ((HBX.out.2.1.below hb2 (by omega)).alloc _) hgrow3 (row_ne HO.out (by omega))
      have hbx2 : Box w3 (w.heap.size + 2) 47 (.slice a' k cap') (.slice none 0 0) := Box.grown (hx2.alloc _) hgrow3 (row_ne HO.out (by omega))
      have hcc4 := hbx2.cell0
      have hff4 := hbx2.frozen0
      have hbe3 : Below w.heap.size w w3 := ((HBL.out.trans (hb2.mono (by omega))).alloc (by have := hb2.size; omega) _).grown hgrow3 (by have := hb2.size; simp; omega) (fun j hj => by have := (HO.out.lt j hj).1; omega)
      refine hK.out _ _ (HS.out w3 hbx0 hbx2 hbe3) ?_
      clear hK hSS
      have hSS := (HS.out w3 hbx0 hbx2 hbe3)
      refine AnyBut.take (i := 10) (some 23) (v := ?_) rfl rfl (by kernel_rfl) rfl (by kernel_rfl) (by kernel_rfl) (by kernel_rfl) (fun _ _ _ h => h) (.inl ⟨by rfl, ?_⟩) hSS ?_
      rotate_left
      · (intro W hSW; (try dsimp only at hSW); go_simp; try with_reducible rfl)
      refine AnyBut.last (by kernel_rfl) (by kernel_rfl) rfl (fun K hK => ?_)
      go_simp
      refine hK.out _ _ ?_
      clear hK hSS
      have hS2 : Same (w.heap.size + 3) wr (w2.alloc (.cells #[.slice ux 64 uc] 22)) := Same.trans (.of_below hb2) hb2.size (same_alloc _ _ _)
      have hG3 : OwnLists (w.heap.size + 3) w3 (.slice (some ⟨gg, 0, none⟩) (k + 1) cap3) (S.secs.take (k + 1)) := by
        rw [HTK.out.1]
        refine OwnLists.push HTK.out.2 (HE.out.mono fun _ _ h => h.same hS2) (own_same HO.out hS2) ⟨?_, HA.out.1.2⟩ hgrow3 hown3
        rw [HA.out.2]
        exact (own_weaken hu2 (by omega)).alloc _
      have HS3 : Hid (w.heap.size + 3 ≤ w3.heap.size) := by
        have := hgrow3.size
        have := hb2.size
        show _ ≤ _
        simp at *
        omega
      have HBB : Hid (Box w3 w.heap.size 47 (.slice a1 n c1) (.slice a2 m c2) ∧ Box w3 (w.heap.size + 1) 47 (.slice none 0 0) (.slice none 0 0) ∧ Box w3 (w.heap.size + 2) 47 (.slice a' k cap') (.slice none 0 0) ∧ OwnLists (w.heap.size + 3) w3 (.slice (some ⟨gg, 0, none⟩) (k + 1) cap3) (S.secs.take (k + 1)) ∧ Below w.heap.size w w3) := ⟨hbx0, hbx1, hbx2, hG3, hbe3⟩
      clear hown3 hgrow3 hat hltg hG3 hS2 hbx0 hbx1 hbx2 hu2 hbe3 hx0 hx2 hbw2 hcc4 hff4 q0 hix
      go_wp2
      go_roundw
      case rel =>
        exact ⟨k + 1, _, by omega, by go_num, HBB.out.1.other (by omega), HBB.out.2.1.other (by omega), HBB.out.2.2.1.set0 _, HBB.out.2.2.2.1.same (same_set (by omega)), HBB.out.2.2.2.2.setCell (p := ⟨w.heap.size + 2, 0, none⟩) (Nat.le_add_right _ _) _, by simpa [World.setCell] using HS3.out⟩
      case measure => simp [intOf]; omega
    · obtain rfl : k = n := by omega
      have hTA : S.secs.take k = S.secs := by rw [HN.out]; simp
      rw [hTA] at hO
      clear hTA
      obtain ⟨us, hown, hE⟩ := hO
      rw [← HN.out] at hown
      obtain ⟨va, vc, rfl⟩ := own_shape hown
      have HLS : Hid (OwnLists (w.heap.size + 3) wr (.slice va k vc) S.secs) := ⟨us, by rw [← HN.out]; exact hown, hE⟩
      have hd0 := hB0.cell1
      have hd1 := hB0.cell0
      have HBX : Hid (Box wr w.heap.size 47 (.slice a1 k c1) (.slice a2 m c2) ∧ Box wr (w.heap.size + 1) 47 (.slice none 0 0) (.slice none 0 0) ∧ Box wr (w.heap.size + 2) 47 (.slice va k vc) (.slice none 0 0)) := ⟨hB0, hB1, hB2⟩
      have HBL : Hid (Below w.heap.size w wr) := hbel
      have HSZ : Hid (w.heap.size + 3 ≤ wr.heap.size) := hsz
      clear hown hE hB0 hB1 hB2 hbel
      go_wp2
      go_loopw [5] (fun i wr => ∃ (j : Nat) (v : Value), j ≤ m ∧ i = .int .i64 j ∧ Box wr w.heap.size 47 (.slice a1 k c1) (.slice a2 m c2) ∧ Box wr (w.heap.size + 1) 47 (.slice none 0 0) (.slice none 0 0) ∧ Box wr (w.heap.size + 2) 47 (.slice va k vc) v ∧
        OwnLists (w.heap.size + 3) wr (.slice va k vc) S.secs ∧ OwnWrites (w.heap.size + 3) wr 87 v (S.cache.take j) ∧ Below w.heap.size w wr ∧ w.heap.size + 3 ≤ wr.heap.size) (fun i _ => m - (intOf i).toNat)
      case atStart => exact ⟨0, _, Nat.zero_le _, rfl, HBX.out.1, HBX.out.2.1, HBX.out.2.2, HLS.out, ⟨[], World.ownsRow_nil _ _ _ _, trivial⟩, HBL.out, HSZ.out⟩
      case round =>
        clear HLS HBX HBL HSZ hd0 hd1 hsz
        obtain ⟨j, v, hj, rfl, hB0, hB1, hB2, hLS, hO, hbel, hsz⟩ := hrel
        by_cases hlt : j < m
        · obtain ⟨q, hq⟩ := get_lt (l := S.cache) (k := j) (by rw [← HM.out]; exact hlt)
          obtain ⟨b, o, a, cap, hix, _, hc0, hc1, hA, hr⟩ := HW.out.at Tryz.underlying45 hi6 hz61 j q hq
          have hl64 := H64.out.2 q (List.mem_of_getElem? hq)
          rw [hl64] at hc1 hA
          have HTK : Hid (S.cache.take (j + 1) = S.cache.take j ++ [q] ∧ (S.cache.take j).length = j) := ⟨take_snoc hq, by have := HM.out; rw [List.length_take]; omega⟩
          obtain ⟨s, l⟩ := q
          simp only at hc0 hc1 hA hr hl64
          have HA : Hid (Arg n0 w (.slice a 64 cap) l ∧ l.length = 64) := ⟨hA, hl64⟩
          obtain ⟨ps, hown, hE⟩ := hO
          rw [HTK.out.2] at hown
          obtain ⟨a', cap', rfl⟩ := own_shape hown
          have HBX : Hid (Box wr w.heap.size 47 (.slice a1 k c1) (.slice a2 m c2) ∧ Box wr (w.heap.size + 1) 47 (.slice none 0 0) (.slice none 0 0) ∧ Box wr (w.heap.size + 2) 47 (.slice va k vc) (.slice a' j cap')) := ⟨hB0, hB1, hB2⟩
          have HE : Hid (Each (OwnW1 (w.heap.size + 3) wr) ps (S.cache.take j)) := hE
          have HLS : Hid (OwnLists (w.heap.size + 3) wr (.slice va k vc) S.secs) := hLS
          have HBL : Hid (Below w.heap.size w wr) := hbel
          have HO : Hid (wr.ownsRow (w.heap.size + 3) 87 2 (.slice a' j cap') j (flat ps)) := hown
          have HRR : Hid (-9223372036854775808 ≤ s ∧ s ≤ 9223372036854775807) := hr
          have HC : Hid (Calls Tryz.prog 59 #[.slice a 64 cap] wr.drew fun e w' => (∃ v', e = .returned v' ∧ w'.ownsRow wr.heap.size 5 1 v' 64 (l.map (Value.int .u8))) ∧ Below wr.heap.size wr w') := by
            have := copied_any n0 (.slice a 64 cap) l wr.drew ((HA.out.1.below HBL.out).below (Below.refl _ _).drew) (by have := HA.out.2; omega)
            rw [HA.out.2] at this
            exact this.mono fun e w' h => ⟨h.1, ((Below.refl _ wr).drew).trans h.2⟩
          have HS : Hid (∀ V, Box V w.heap.size 47 (.slice a1 k c1) (.slice a2 m c2) → Box V (w.heap.size + 2) 47 (.slice va k vc) (.slice a' j cap') → Below w.heap.size w V → V.cell? ⟨w.heap.size, 1, none⟩ = some (.slice a2 m c2) ∧ V.cell? ⟨w.heap.size + 2, 1, none⟩ = some (.slice a' j cap') ∧ V.cell? ⟨b, o, none⟩ = some (.int .i64 s) ∧ V.cell? ⟨b, o + 1, none⟩ = some (.slice a 64 cap)) := fun V h0 h2 hb => ⟨h0.cell1, h2.cell1, by rw [hb.cell (cell_lt hc0)]; exact hc0, by rw [hb.cell (cell_lt hc1)]; exact hc1⟩
          have hki : (j : Int) < (m : Int) := by omega
          have q0 := hB0.cell1
          clear hA hq hB0 hB1 hB2 hE hbel hown hl64 hLS hc0 hc1 hr
          go_wp2
          refine AnyBut.begin (fun W => W.cell? ⟨w.heap.size, 1, none⟩ = some (.slice a2 m c2) ∧ W.cell? ⟨w.heap.size + 2, 1, none⟩ = some (.slice a' j cap') ∧ W.cell? ⟨b, o, none⟩ = some (.int .i64 s) ∧ W.cell? ⟨b, o + 1, none⟩ = some (.slice a 64 cap)) 19 (by kernel_rfl) ?_
          have hSS := HS.out wr.drew HBX.out.1 HBX.out.2.2 HBL.out.drew
          refine AnyBut.take (i := 0) (some 31) (v := ?_) rfl rfl (by kernel_rfl) rfl (by kernel_rfl) (by kernel_rfl) (by kernel_rfl) (fun _ _ _ h => h) (.inl ⟨by rfl, ?_⟩) hSS ?_
          rotate_left
          · (intro W hSW; (try dsimp only at hSW); go_simp; try with_reducible rfl)
          simp only [Act.put, List.setIfInBounds_toArray, List.set_cons_zero, List.set_cons_succ]
          refine AnyBut.take (i := 1) (some 32) (v := ?_) rfl rfl (by kernel_rfl) rfl (by kernel_rfl) (by kernel_rfl) (by kernel_rfl) (fun _ _ _ h => h) (.inl ⟨by rfl, ?_⟩) hSS ?_
          rotate_left
          · (intro W hSW; (try dsimp only at hSW); go_simp; try with_reducible rfl)
          simp only [Act.put, List.setIfInBounds_toArray, List.set_cons_zero, List.set_cons_succ]
          refine AnyBut.take (i := 2) (some 33) (v := ?_) rfl rfl (by kernel_rfl) rfl (by kernel_rfl) (by kernel_rfl) (by kernel_rfl) (fun _ _ _ h => h) (.inl ⟨by rfl, ?_⟩) hSS ?_
          rotate_left
          · (intro W hSW; (try dsimp only at hSW); go_simp; try with_reducible rfl)
          simp only [Act.put, List.setIfInBounds_toArray, List.set_cons_zero, List.set_cons_succ]
          refine AnyBut.take (i := 3) (some 34) (v := ?_) rfl rfl (by kernel_rfl) rfl (by kernel_rfl) (by kernel_rfl) (by kernel_rfl) (fun _ _ _ h => h) (.inl ⟨by rfl, ?_⟩) hSS ?_
          rotate_left
          · (intro W hSW; (try dsimp only at hSW); go_simp; try with_reducible rfl)
          simp only [Act.put, List.setIfInBounds_toArray, List.set_cons_zero, List.set_cons_succ]
          refine AnyBut.take (i := 4) (some 35) (v := ?_) rfl rfl (by kernel_rfl) rfl (by kernel_rfl) (by kernel_rfl) (by kernel_rfl) (fun _ _ _ h => h) (.inl ⟨by rfl, ?_⟩) hSS ?_
          rotate_left
          · (intro W hSW; (try dsimp only at hSW); go_simp; try with_reducible rfl)
          simp only [Act.put, List.setIfInBounds_toArray, List.set_cons_zero, List.set_cons_succ]
          refine AnyBut.take (i := 5) (some 36) (v := ?_) rfl rfl (by kernel_rfl) rfl (by kernel_rfl) (by kernel_rfl) (by kernel_rfl) (fun _ _ _ h => h) (.inl ⟨by rfl, ?_⟩) hSS ?_
          rotate_left
          · (intro W hSW; (try dsimp only at hSW); go_simp; try with_reducible rfl)
          simp only [Act.put, List.setIfInBounds_toArray, List.set_cons_zero, List.set_cons_succ]
          refine AnyBut.take (i := 6) (some 37) (v := ?_) rfl rfl (by kernel_rfl) rfl (by kernel_rfl) (by kernel_rfl) (by kernel_rfl) (fun _ _ _ h => h) (.inl ⟨by rfl, ?_⟩) hSS ?_
          rotate_left
          · (intro W hSW; (try dsimp only at hSW); go_simp; try with_reducible rfl)
          simp only [Act.put, List.setIfInBounds_toArray, List.set_cons_zero, List.set_cons_succ]
          refine AnyBut.take (i := 7) (some 38) (v := ?_) rfl rfl (by kernel_rfl) rfl (by kernel_rfl) (by kernel_rfl) (by kernel_rfl) (fun _ _ _ h => h) (.inl ⟨by rfl, ?_⟩) hSS ?_
          rotate_left
          · (intro W hSW; (try dsimp only at hSW); go_simp; try with_reducible rfl)
          simp only [Act.put, List.setIfInBounds_toArray, List.set_cons_zero, List.set_cons_succ]
          refine AnyBut.take (i := 8) (some 39) (v := ?_) rfl rfl (by kernel_rfl) rfl (by kernel_rfl) (by kernel_rfl) (by kernel_rfl) (fun _ _ _ h => h) (.inl ⟨by rfl, ?_⟩) hSS ?_
          rotate_left
          · (intro W hSW; (try dsimp only at hSW); go_simp; try with_reducible rfl)
          simp only [Act.put, List.setIfInBounds_toArray, List.set_cons_zero, List.set_cons_succ]
          refine AnyBut.take (i := 9) (some 40) (v := ?_) rfl rfl (by kernel_rfl) rfl (by kernel_rfl) (by kernel_rfl) (by kernel_rfl) (fun _ _ _ h => h) (.inl ⟨by rfl, ?_⟩) hSS ?_
          rotate_left
          · (intro W hSW; (try dsimp only at hSW); go_simp; try with_reducible rfl)
          simp only [Act.put, List.setIfInBounds_toArray, List.set_cons_zero, List.set_cons_succ]
          refine AnyBut.take (i := 10) (some 41) (v := ?_) rfl rfl (by kernel_rfl) rfl (by kernel_rfl) (by kernel_rfl) (by kernel_rfl) (fun _ _ _ h => h) (.inl ⟨by rfl, ?_⟩) hSS ?_
          rotate_left
          · (intro W hSW; (try dsimp only at hSW); go_simp; try with_reducible rfl)
          simp only [Act.put, List.setIfInBounds_toArray, List.set_cons_zero, List.set_cons_succ]
          refine AnyBut.take (i := 11) (some 42) (v := ?_) rfl rfl (by kernel_rfl) rfl (by kernel_rfl) (by kernel_rfl) (by kernel_rfl) (fun _ _ _ h => h) (.inl ⟨by rfl, ?_⟩) hSS ?_
          rotate_left
          · (intro W hSW; (try dsimp only at hSW); go_simp; try with_reducible rfl)
          simp only [Act.put, List.setIfInBounds_toArray, List.set_cons_zero, List.set_cons_succ]
          refine AnyBut.take (i := 12) (some 43) (v := ?_) rfl rfl (by kernel_rfl) rfl (by kernel_rfl) (by kernel_rfl) (by kernel_rfl) (fun _ _ _ h => h) (.inl ⟨by rfl, ?_⟩) hSS ?_
          rotate_left
          · (intro W hSW; (try dsimp only at hSW); go_simp; try with_reducible rfl)
          simp only [Act.put, List.setIfInBounds_toArray, List.set_cons_zero, List.set_cons_succ]
          refine AnyBut.take (i := 13) (some 44) (v := ?_) rfl rfl (by kernel_rfl) rfl (by kernel_rfl) (by kernel_rfl) (by kernel_rfl) (fun _ _ _ h => h) (.inl ⟨by rfl, ?_⟩) hSS ?_
          rotate_left
          · (intro W hSW; (try dsimp only at hSW); go_simp; try with_reducible rfl)
          simp only [Act.put, List.setIfInBounds_toArray, List.set_cons_zero, List.set_cons_succ]
          refine AnyBut.step (i := 14) (by kernel_rfl) rfl (fun K hK => ?_)
          go_simp
          refine Calls.mono HC.out ?_
          rintro e w2 ⟨⟨u2, rfl, hu2⟩, hb2⟩
          obtain ⟨ux, uc, rfl⟩ := own_shape hu2
          have hx0 := HBX.out.1.below hb2 HBX.out.1.lt
          have hx2 := HBX.out.2.2.below hb2 HBX.out.2.2.lt
          have hbw2 := below_any HBL.out hb2
          dsimp only
          refine hK.out _ _ (HS.out w2 hx0 hx2 hbw2) ?_
          clear hK hSS
          have hSS := (HS.out w2 hx0 hx2 hbw2)
          refine AnyBut.take (i := 15) (some 46) (v := ?_) rfl rfl (by kernel_rfl) rfl (by kernel_rfl) (by kernel_rfl) (by kernel_rfl) (fun _ _ _ h => h) (.inl ⟨by rfl, ?_⟩) hSS ?_
          rotate_left
          · (intro W hSW; (try dsimp only at hSW); go_simp; try with_reducible rfl)
          simp only [Act.put, List.setIfInBounds_toArray, List.set_cons_zero, List.set_cons_succ]
          refine AnyBut.step (i := 16) (by kernel_rfl) rfl (fun K hK => ?_)
          go_simp
          refine hK.out _ _ (HS.out (w2.alloc (.cells #[.int .i64 s, .slice ux 64 uc] 87)) (hx0.alloc _) (hx2.alloc _) (hbw2.alloc (by have := hb2.size; omega) _)) ?_
          clear hK hSS
          have hSS := (HS.out (w2.alloc (.cells #[.int .i64 s, .slice ux 64 uc] 87)) (hx0.alloc _) (hx2.alloc _) (hbw2.alloc (by have := hb2.size; omega) _))
          refine AnyBut.step (i := 17) (by kernel_rfl) rfl (fun K hK => ?_)
          refine step_append_lies _ (by rfl) _ _ _ (by rfl) (w.heap.size + 3) 87 i6 _ 2 32 Tryz.underlying45 hi6 hz60 hz61 hz62 rfl (by omega) _ j _ (by rfl) ((own_below HO.out hb2).alloc _) ⟨w2.heap.size, 0, none⟩ 1 1 [.int .i64 s, .slice ux 64 uc] (by rfl) (by rfl)
              (World.news_of_block (cs := #[.int .i64 s, .slice ux 64 uc]) (t := 87) (fr := (0, 0)) (heap_alloc_new w2 _)) (by simp [Value.oneCell']) (by omega) (by unfold maxLen; omega) (by omega) (by have := hb2.size; simp; omega) (w2.heap.size + 1) (by simp) ?_
          intro gg cap3 w3 hown3 hgrow3 hat hltg
          have hbx0 : Box w3 w.heap.size 47 (.slice a1 k c1) (.slice a2 m c2) := Box.grown (hx0.alloc _) hgrow3 (row_ne HO.out (by omega))
          have hbx1 : Box w3 (w.heap.size + 1) 47 (.slice none 0 0) (.slice none 0 0) := Box.grown ((HBX.out.2.1.below hb2 (by omega)).alloc _) hgrow3 (row_ne HO.out (by omega))
          have hbx2 : Box w3 (w.heap.size + 2) 47 (.slice va k vc) (.slice a' j cap') := Box.grown (hx2.alloc _) hgrow3 (row_ne HO.out (by omega))
          have hcc4 := hbx2.cell1
          have hff4 := hbx2.frozen1
          have hbe3 : Below w.heap.size w w3 := ((HBL.out.trans (hb2.mono (by omega))).alloc (by have := hb2.size; omega) _).grown hgrow3 (by have := hb2.size; simp; omega) (fun j hj => by have := (HO.out.lt j hj).1; omega)
          refine hK.out _ _ (HS.out w3 hbx0 hbx2 hbe3) ?_
          clear hK hSS
          have hSS := (HS.out w3 hbx0 hbx2 hbe3)
          refine AnyBut.take (i := 18) (some 49) (v := ?_) rfl rfl (by kernel_rfl) rfl (by kernel_rfl) (by kernel_rfl) (by kernel_rfl) (fun _ _ _ h => h) (.inl ⟨by rfl, ?_⟩) hSS ?_
          rotate_left
          · (intro W hSW; (try dsimp only at hSW); go_simp; try with_reducible rfl)
          refine AnyBut.last (by kernel_rfl) (by kernel_rfl) rfl (fun K hK => ?_)
          go_simp
          refine hK.out _ _ ?_
          clear hK hSS
          have hS2 : Same (w.heap.size + 3) wr (w2.alloc (.cells #[.int .i64 s, .slice ux 64 uc] 87)) := Same.trans (.of_below hb2) hb2.size (same_alloc _ _ _)
          have hG3 : OwnWrites (w.heap.size + 3) w3 87 (.slice (some ⟨gg, 0, none⟩) (j + 1) cap3) (S.cache.take (j + 1)) := by
            rw [HTK.out.1]
            refine OwnWrites.push (by decide) HTK.out.2 (HE.out.mono fun _ _ h => ⟨h.1, h.2.1.same hS2, h.2.2⟩) (own_same HO.out hS2) ⟨?_, HA.out.1.2⟩ HRR.out hgrow3 hown3
            rw [HA.out.2]
            exact (own_weaken hu2 (by omega)).alloc _
          have hL3 : OwnLists (w.heap.size + 3) w3 (.slice va k vc) S.secs := OwnLists.beside (HLS.out.same hS2) (by decide) (by decide) (own_same HO.out hS2) hgrow3
          have HS3 : Hid (w.heap.size + 3 ≤ w3.heap.size) := by
            have := hgrow3.size
            have := hb2.size
            show _ ≤ _
            simp at *
            omega
          have HBB : Hid (Box w3 w.heap.size 47 (.slice a1 k c1) (.slice a2 m c2) ∧ Box w3 (w.heap.size + 1) 47 (.slice none 0 0) (.slice none 0 0) ∧ Box w3 (w.heap.size + 2) 47 (.slice va k vc) (.slice a' j cap') ∧ OwnLists (w.heap.size + 3) w3 (.slice va k vc) S.secs ∧ OwnWrites (w.heap.size + 3) w3 87 (.slice (some ⟨gg, 0, none⟩) (j + 1) cap3) (S.cache.take (j + 1)) ∧ Below w.heap.size w w3) := ⟨hbx0, hbx1, hbx2, hL3, hG3, hbe3⟩
          clear hown3 hgrow3 hat hltg hG3 hL3 hS2 hbx0 hbx1 hbx2 hu2 hbe3 hx0 hx2 hbw2 hcc4 hff4 q0 hix
          go_wp2
          go_roundw
          case rel =>
            exact ⟨j + 1, _, by omega, by go_num, HBB.out.1.other (by omega), HBB.out.2.1.other (by omega), HBB.out.2.2.1.set1 _, HBB.out.2.2.2.1.same (same_set (by omega)), HBB.out.2.2.2.2.1.same (same_set (by omega)), HBB.out.2.2.2.2.2.setCell (p := ⟨w.heap.size + 2, 1, none⟩) (Nat.le_add_right _ _) _, by simpa [World.setCell] using HS3.out⟩
          case measure => simp [intOf]; omega
        · obtain rfl : j = m := by omega
          have hTA : S.cache.take j = S.cache := by rw [HM.out]; simp
          rw [hTA] at hO
          obtain ⟨ps, hown, hE⟩ := hO
          rw [← HM.out] at hown
          obtain ⟨a', cap', rfl⟩ := own_shape hown
          have HO : Hid (OwnLists (w.heap.size + 3) wr (.slice va k vc) S.secs ∧ OwnWrites (w.heap.size + 3) wr 87 (.slice a' j cap') S.cache) := ⟨hLS, ps, by rw [← HM.out]; exact hown, hE⟩
          have hc0 := hB2.cell0
          have hc1 := hB2.cell1
          have hd0 := hB1.cell0
          have hd1 := hB1.cell1
          have hf0 := hB1.frozen0
          have hf1 := hB1.frozen1
          have he1 := hB0.cell1
          have HBL : Hid (Below w.heap.size w wr) := hbel
          clear hown hE hLS hTA hbel hB0 hB1 hB2
          go_wp2
          refine bodyPost_ret (v := .agg #[.slice va k vc, .slice a' j cap']) (by simp [results, Tryz.results57, go_sem, *]) rfl ⟨_, rfl, ⟨_, _, rfl, ?_, ?_⟩, ?_⟩
          · exact OwnLists.weaken (base := w.heap.size + 3) ((HO.out.1.same (same_set (by omega))).same (same_set (by omega))) (by omega)
          · exact OwnWrites.weaken (base := w.heap.size + 3) ((HO.out.2.same (same_set (by omega))).same (same_set (by omega))) (by omega)
          · exact below_set2 HBL.out (Nat.le_succ _) _ _

end Go.Proofs.YthlfgpnabcplnaaGreatDoor.Dk

/-
  What the document's PutAll tells: the disk with a write for each piece, in memory of its own, or an error.
-/
namespace Go.Proofs.YthlfgpnabcplnaaGreatDoor.Dk
open Go.RowKit
set_option maxRecDepth 100000

attribute [local go_sem ↓] Go.wp_at_zero Go.wp_at_succ

set_option maxHeartbeats 4000000 in
theorem rputAll_any (n0 n1 : Nat) (v dv : Value) (S : St) (s : Int) (d : List Int) (w : World) (h : Disk n0 w v S) (hs : -9223372036854775808 ≤ s ∧ s ≤ 9223372036854775807) (hd : Arg n1 w dv d) (hdb : d.length ≤ 140737488351232) :
    Calls Tryz.prog 28 #[v, .int .i64 s, dv] w fun e w' => ∃ v', e = .returned (.tuple #[v', .int .i64 (paerr S s d)]) ∧ OwnDisk w.heap.size w' 87 v' (past S s d) ∧ Below w.heap.size w w' := by
  obtain ⟨a1, c1, a2, c2, rfl, hL, hW⟩ := h.shape
  obtain ⟨ad, cd, rfl, _, hdm, _⟩ := hd.shape
  obtain ⟨i6, hi6, hz60, hz61, hz62⟩ := info_parts Tryz.info87
  obtain ⟨_, _, _, _, hm1, _⟩ := hL.shape
  have hl0 := run_len Tryz.underlying22 ad d.length cd
  have hl1 := run_len Tryz.underlying44 a1 S.secs.length c1
  have hl2 := run_len Tryz.underlying45 a2 S.cache.length c2
  have HD : Hid (Disk n0 w (.agg #[.slice a1 S.secs.length c1, .slice a2 S.cache.length c2]) S) := h
  have HA : Hid (Arg n1 w (.slice ad d.length cd) d) := hd
  obtain ⟨n, hn⟩ : ∃ n, n = S.secs.length := ⟨_, rfl⟩
  obtain ⟨m, hm⟩ : ∃ n, n = S.cache.length := ⟨_, rfl⟩
  obtain ⟨dl, hdl⟩ : ∃ n, n = d.length := ⟨_, rfl⟩
  obtain ⟨nd, hnd⟩ : ∃ n, n = need d := ⟨_, rfl⟩
  have HN : Hid (n = S.secs.length) := hn
  have HM : Hid (m = S.cache.length) := hm
  have HND : Hid (nd = need d) := hnd
  have hnd2 : nd = (dl + 63) / 64 := by rw [hnd, hdl]; rfl
  have HP : Hid (paerr S s d = if chk S = false then 9 else if reach n s nd = false then 41 else if 4096 < m + nd then 51 else 0) := by
    show _ = _
    rw [hn, hm, hnd]; rfl
  rw [← hn, ← hm] at HD ⊢
  rw [← hn] at hm1 hl1
  rw [← hm] at hl2
  rw [← hdl] at HA hl0 hdb ⊢
  unfold maxLen at hm1
  have HDL : Hid (dl = d.length) := hdl
  obtain ⟨pe, hpe⟩ : ∃ x, x = paerr S s d := ⟨_, rfl⟩
  have HPS : Hid (past S s d = if pe = 0 then ⟨S.secs, S.cache ++ pieces s d⟩ else none0) := by
    show _ = _
    rw [hpe]; rfl
  obtain ⟨PS, hPS⟩ : ∃ x, x = past S s d := ⟨_, rfl⟩
  rw [← hpe] at HP ⊢
  rw [← hPS] at HPS ⊢
  have hw3 : ((dl : Int) + 64 - 1) / 64 = (nd : Int) := by omega
  have hnb : nd ≤ 2199023255552 := by omega
  clear h hd hL hW hn hm hdl hpe hPS hnd hnd2
  go_enter Tryz.func28, Tryz.ntmps28
  go_wp2_with fail
  rw [hw3]
  refine (rcheck_any n0 _ S _ (HD.out.below (((Below.refl _ w).alloc (Nat.le_refl _) _).alloc (by simp) _))).mono ?_
  rintro e w1 ⟨rfl, hb1⟩
  have hP1 : Box w1 w.heap.size 47 (.slice a1 n c1) (.slice a2 m c2) := ((Box.new w 47 _ _).alloc _).below hb1 (by simp; omega)
  have hR1 : Box w1 (w.heap.size + 1) 47 (.slice none 0 0) (.slice none 0 0) := by
    have := Box.new (w.alloc (.cells #[.slice a1 n c1, .slice a2 m c2] 47)) 47 (.slice none 0 0) (.slice none 0 0)
    rw [World.size_alloc] at this
    exact this.below hb1 (by simp)
  have hbe1 : Below w.heap.size w w1 := below_any (((Below.refl _ w).alloc (Nat.le_refl _) _).alloc (by simp) _) hb1
  have HB1 : Hid (Box w1 w.heap.size 47 (.slice a1 n c1) (.slice a2 m c2) ∧ Box w1 (w.heap.size + 1) 47 (.slice none 0 0) (.slice none 0 0) ∧ Below w.heap.size w w1) := ⟨hP1, hR1, hbe1⟩
  have g0 := hP1.cell0
  have g1 := hP1.cell1
  have g2 := hR1.cell0
  have g3 := hR1.cell1
  have g4 := hR1.frozen0
  have g5 := hR1.frozen1
  clear hb1 hbe1 hP1 hR1 hw3
  unfold cerr
  cases hchk : chk S
  · have e1 : pe = 9 := by rw [HP.out, if_pos hchk]
    have e2 : PS = none0 := by rw [HPS.out, if_neg (by omega)]
    subst e1 e2
    go_wp2
    refine bodyPost_ret (v := .tuple #[.agg #[.slice none 0 0, .slice none 0 0], .int .i64 9]) (by simp [results, Tryz.results28, go_sem, *]) rfl ⟨_, rfl, own_zero _ _ _, ?_⟩
    exact below_set2 HB1.out.2.2 (Nat.le_succ _) _ _
  by_cases r1 : s < 0
  · have e1 : pe = 41 := by rw [HP.out, if_neg (by simp [hchk]), if_pos (by simp [reach]; omega)]
    have e2 : PS = none0 := by rw [HPS.out, if_neg (by omega)]
    subst e1 e2
    go_wp2
    refine bodyPost_ret (v := .tuple #[.agg #[.slice none 0 0, .slice none 0 0], .int .i64 41]) (by simp [results, Tryz.results28, go_sem, *]) rfl ⟨_, rfl, own_zero _ _ _, ?_⟩
    exact below_set2 HB1.out.2.2 (Nat.le_succ _) _ _
  by_cases r2 : (n : Int) < s
  · have e1 : pe = 41 := by rw [HP.out, if_neg (by simp [hchk]), if_pos (by simp [reach]; omega)]
    have e2 : PS = none0 := by rw [HPS.out, if_neg (by omega)]
    subst e1 e2
    go_wp2
    refine bodyPost_ret (v := .tuple #[.agg #[.slice none 0 0, .slice none 0 0], .int .i64 41]) (by simp [results, Tryz.results28, go_sem, *]) rfl ⟨_, rfl, own_zero _ _ _, ?_⟩
    exact below_set2 HB1.out.2.2 (Nat.le_succ _) _ _
  by_cases r3 : (n : Int) - s < (nd : Int)
  · have e1 : pe = 41 := by rw [HP.out, if_neg (by simp [hchk]), if_pos (by simp [reach]; omega)]
    have e2 : PS = none0 := by rw [HPS.out, if_neg (by omega)]
    subst e1 e2
    go_wp2
    refine bodyPost_ret (v := .tuple #[.agg #[.slice none 0 0, .slice none 0 0], .int .i64 41]) (by simp [results, Tryz.results28, go_sem, *]) rfl ⟨_, rfl, own_zero _ _ _, ?_⟩
    exact below_set2 HB1.out.2.2 (Nat.le_succ _) _ _
  obtain ⟨k1, k2, k3, k4, k5, k6⟩ := chk_facts hchk
  have hk2 : n ≤ 2048 := by rw [HN.out]; exact k2
  have hk3 : m ≤ 4096 := by rw [HM.out]; exact k3
  have hrc : ¬ reach n s nd = false := by simp [reach]; omega
  by_cases h4k : (4096 : Int) < (m : Int) + nd
  · have e1 : pe = 51 := by rw [HP.out, if_neg (by simp [hchk]), if_neg hrc, if_pos (by omega)]
    have e2 : PS = none0 := by rw [HPS.out, if_neg (by omega)]
    subst e1 e2
    clear k1 k2 k3 k4 k5 k6 hrc
    go_wp2
    refine bodyPost_ret (v := .tuple #[.agg #[.slice none 0 0, .slice none 0 0], .int .i64 51]) (by simp [results, Tryz.results28, go_sem, *]) rfl ⟨_, rfl, own_zero _ _ _, ?_⟩
    exact below_set2 HB1.out.2.2 (Nat.le_succ _) _ _
  have e1 : pe = 0 := by rw [HP.out, if_neg (by simp [hchk]), if_neg hrc, if_neg (by omega)]
  have e2 : PS = ⟨S.secs, S.cache ++ pieces s d⟩ := by rw [HPS.out, if_pos e1]
  subst e1 e2
  have HMN : Hid (m + nd ≤ 4096) := by show _ ≤ _; omega
  have HOWN := rown_any n0 _ S w1 (HD.out.below HB1.out.2.2) k2 k3 k4 k5
  clear k1 k2 k3 k4 k5 k6 hrc hchk
  go_wp2_with fail
  refine HOWN.mono ?_
  rintro e w3 ⟨v3, rfl, ⟨vs, vc, rfl, hOL, hOW⟩, hb3⟩
  clear HOWN
  obtain ⟨us, hus, hEs⟩ := id hOL
  obtain ⟨ps, hown, hE⟩ := id hOW
  rw [← HN.out] at hus
  rw [← HM.out] at hown
  obtain ⟨ax, cs, rfl⟩ := own_shape hus
  obtain ⟨ac, cc, rfl⟩ := own_shape hown
  have hR3 := HB1.out.2.1.below hb3 HB1.out.2.1.lt
  obtain ⟨W, hW⟩ : ∃ W, W = w3.alloc (.cells #[.slice ax n cs, .slice ac m cc] 47) := ⟨_, rfl⟩
  have hXW : Box W w3.heap.size 47 (.slice ax n cs) (.slice ac m cc) := by rw [hW]; exact Box.new _ _ _ _
  have hbW : Below w3.heap.size w3 W := by rw [hW]; exact (Below.refl _ _).alloc (Nat.le_refl _) _
  have HLT : Hid (w.heap.size + 1 < w1.heap.size ∧ w1.heap.size ≤ w3.heap.size) := ⟨HB1.out.2.1.lt, hb3.size⟩
  have HST : Hid (Box W w3.heap.size 47 (.slice ax n cs) (.slice ac m cc) ∧ Box W (w.heap.size + 1) 47 (.slice none 0 0) (.slice none 0 0) ∧ OwnLists w1.heap.size W (.slice ax n cs) S.secs ∧ OwnWrites w1.heap.size W 87 (.slice ac m cc) S.cache ∧ Below w.heap.size w W) :=
    ⟨hXW, hR3.below hbW hR3.lt, hOL.same (.of_below hbW), hOW.same (.of_below hbW), below_any (below_any HB1.out.2.2 hb3) hbW⟩
  clear hown hE hOL hOW hEs hus hR3 hb3 g0 g1 g2 g3 g4 g5 hbW hXW
  go_wp2
  rw [← hW]
  clear hW
  go_loopw [10] (fun i wr => ∃ (k : Nat) (vc : Value), k ≤ nd ∧ i = .int .i64 k ∧ Box wr w3.heap.size 47 (.slice ax n cs) vc ∧ Box wr (w.heap.size + 1) 47 (.slice none 0 0) (.slice none 0 0) ∧ OwnLists w1.heap.size wr (.slice ax n cs) S.secs ∧
    OwnWrites w1.heap.size wr 87 vc (S.cache ++ (List.range k).map fun (i : Nat) => (s + (i : Int), pad (piece d i))) ∧ Below w.heap.size w wr) (fun i _ => nd - (intOf i).toNat)
  case atStart => exact ⟨0, _, Nat.zero_le _, rfl, HST.out.1, HST.out.2.1, HST.out.2.2.1, by simpa using HST.out.2.2.2.1, HST.out.2.2.2.2⟩
  case round =>
    clear HST
    obtain ⟨k, vc, hk, rfl, hBX, hBR, hOL, hOW, hbel⟩ := hrel
    by_cases hlt : k < nd
    · have hlen : (S.cache ++ (List.range k).map fun (i : Nat) => (s + (i : Int), pad (piece d i))).length = m + k := by rw [List.length_append, ← HM.out]; simp
      obtain ⟨ps, hown, hE⟩ := id hOW
      rw [hlen] at hown
      obtain ⟨ac, cc, rfl⟩ := own_shape hown
      have hle := need_lt d k (by rw [← HND.out]; exact hlt)
      obtain ⟨A, hAk⟩ : ∃ A, A = 64 * k := ⟨_, rfl⟩
      obtain ⟨A2, hA2⟩ : ∃ A, A = 64 * (k + 1) := ⟨_, rfl⟩
      obtain ⟨J, hJ⟩ : ∃ J, J = min (64 * k + 64) dl := ⟨_, rfl⟩
      obtain ⟨pv, hpA, hcut⟩ := (HA.out.below hbel).cut A J (by have := HDL.out; omega) (by have := HDL.out; omega)
      rw [hAk, hJ, HDL.out, piece_cut] at hpA
      obtain ⟨pa, pc, rfl, _⟩ := hpA.shape
      have hm1' : IntKind.i64.wrap (64 * (k : Int)) = (A : Int) := wrap_to _ _ (by omega) (by omega)
      have hm2' : IntKind.i64.wrap ((k : Int) + 1) = (k : Int) + 1 := wrap_in _ (by clear hm1'; omega)
      have hm3' : IntKind.i64.wrap (64 * ((k : Int) + 1)) = (A2 : Int) := wrap_to _ _ (by clear hm1' hm2'; omega) (by clear hm1' hm2'; omega)
      have hm4' : IntKind.i64.wrap (s + (k : Int)) = s + (k : Int) := wrap_in _ (by clear hm1' hm2' hm3'; omega)
      have hmin : ∀ (ts : Array TypeId) (t : TypeId) (W : World), (Builtin.min_ ts t #[.int .i64 (A2 : Int), .int .i64 (dl : Int)]).run Tryz.prog W = .ok (.int .i64 (J : Int)) W := fun ts t W => by
        rw [run_min2]
        congr 2
        split <;> omega
      have HPA : Hid (Arg n1 wr (.slice pa (piece d k).length pc) (piece d k)) := hpA
      have HLEN : Hid ((S.cache ++ (List.range k).map fun (i : Nat) => (s + (i : Int), pad (piece d i))).length = m + k) := hlen
      have HR : Hid (Box wr w3.heap.size 47 (.slice ax n cs) (.slice ac (m + k) cc) ∧ Box wr (w.heap.size + 1) 47 (.slice none 0 0) (.slice none 0 0)) := ⟨hBX, hBR⟩
      have HE : Hid (Each (OwnW1 w1.heap.size wr) ps (S.cache ++ (List.range k).map fun (i : Nat) => (s + (i : Int), pad (piece d i)))) := hE
      have HO : Hid (wr.ownsRow w1.heap.size 87 2 (.slice ac (m + k) cc) (m + k) (flat ps)) := hown
      have HLS : Hid (OwnLists w1.heap.size wr (.slice ax n cs) S.secs) := hOL
      have HBL : Hid (Below w.heap.size w wr) := hbel
      have HC : Hid (Calls Tryz.prog 58 #[.slice pa (piece d k).length pc] wr.drew fun e w' => e = .returned (.slice (some ⟨wr.heap.size, 0, none⟩) 64 64) ∧ w'.ownsRow wr.heap.size 5 1 (.slice (some ⟨wr.heap.size, 0, none⟩) 64 64) 64 ((pad (piece d k)).map (Value.int .u8)) ∧ Below wr.heap.size wr w') := by
        have := padded_any n1 (.slice pa (piece d k).length pc) (piece d k) wr.drew (HPA.out.below (Below.refl _ _).drew) (piece_le d k)
        exact this.mono fun e w' h => ⟨h.1, h.2.1, ((Below.refl _ wr).drew).trans h.2.2⟩
      have hki : (k : Int) < (nd : Int) := by omega
      have hmk : m + k + 1 ≤ 4096 := by have := HMN.out; omega
      obtain ⟨pl, hpl⟩ : ∃ x, x = (piece d k).length := ⟨_, rfl⟩
      rw [← hpl] at HC hcut
      have HS : Hid (∀ V, Box V w3.heap.size 47 (.slice ax n cs) (.slice ac (m + k) cc) → V.cell? ⟨w3.heap.size, 1, none⟩ = some (.slice ac (m + k) cc)) := fun V h => h.cell1
      clear hBX hBR hOL hOW hbel hown hE hpA hle hlen hpl hAk hJ hA2
      go_wp2
      refine AnyBut.begin (fun W => W.cell? ⟨w3.heap.size, 1, none⟩ = some (.slice ac (m + k) cc)) 20 (by kernel_rfl) ?_
      have hSS := HS.out wr.drew HR.out.1
      refine AnyBut.take (i := 0) (some 56) (v := ?_) rfl rfl (by kernel_rfl) rfl (by kernel_rfl) (by kernel_rfl) (by kernel_rfl) (fun _ _ _ h => h) (.inl ⟨by rfl, ?_⟩) hSS ?_
      rotate_left
      · (intro W hSW; (try dsimp only at hSW); go_simp; try with_reducible rfl)
      simp only [Act.put, List.setIfInBounds_toArray, List.set_cons_zero, List.set_cons_succ]
      refine AnyBut.take (i := 1) (some 57) (v := ?_) rfl rfl (by kernel_rfl) rfl (by kernel_rfl) (by kernel_rfl) (by kernel_rfl) (fun _ _ _ h => h) (.inl ⟨by rfl, ?_⟩) hSS ?_
      rotate_left
      · (intro W hSW; (try dsimp only at hSW); go_simp; try with_reducible rfl)
      simp only [Act.put, List.setIfInBounds_toArray, List.set_cons_zero, List.set_cons_succ]
      refine AnyBut.take (i := 2) (some 58) (v := ?_) rfl rfl (by kernel_rfl) rfl (by kernel_rfl) (by kernel_rfl) (by kernel_rfl) (fun _ _ _ h => h) (.inl ⟨by rfl, ?_⟩) hSS ?_
      rotate_left
      · (intro W hSW; (try dsimp only at hSW); go_simp; try with_reducible rfl)
      simp only [Act.put, List.setIfInBounds_toArray, List.set_cons_zero, List.set_cons_succ]
      refine AnyBut.take (i := 3) (some 59) (v := ?_) rfl rfl (by kernel_rfl) rfl (by kernel_rfl) (by kernel_rfl) (by kernel_rfl) (fun _ _ _ h => h) (.inl ⟨by rfl, ?_⟩) hSS ?_
      rotate_left
      · (intro W hSW; (try dsimp only at hSW); go_simp; try with_reducible rfl)
      simp only [Act.put, List.setIfInBounds_toArray, List.set_cons_zero, List.set_cons_succ]
      refine AnyBut.take (i := 4) (some 60) (v := ?_) rfl rfl (by kernel_rfl) rfl (by kernel_rfl) (by kernel_rfl) (by kernel_rfl) (fun _ _ _ h => h) (.inl ⟨by rfl, ?_⟩) hSS ?_
      rotate_left
      · (intro W hSW; (try dsimp only at hSW); go_simp; try with_reducible rfl)
      simp only [Act.put, List.setIfInBounds_toArray, List.set_cons_zero, List.set_cons_succ]
      refine AnyBut.take (i := 5) (some 61) (v := ?_) rfl rfl (by kernel_rfl) rfl (by kernel_rfl) (by kernel_rfl) (by kernel_rfl) (fun _ _ _ h => h) (.inl ⟨by rfl, ?_⟩) hSS ?_
      rotate_left
      · (intro W hSW; (try dsimp only at hSW); go_simp; try with_reducible rfl)
      simp only [Act.put, List.setIfInBounds_toArray, List.set_cons_zero, List.set_cons_succ]
      refine AnyBut.take (i := 6) (some 62) (v := ?_) rfl rfl (by kernel_rfl) rfl (by kernel_rfl) (by kernel_rfl) (by kernel_rfl) (fun _ _ _ h => h) (.inl ⟨by rfl, ?_⟩) hSS ?_
      rotate_left
      · (intro W hSW; (try dsimp only at hSW); go_simp; try with_reducible rfl)
      simp only [Act.put, List.setIfInBounds_toArray, List.set_cons_zero, List.set_cons_succ]
      refine AnyBut.take (i := 7) (some 63) (v := ?_) rfl rfl (by kernel_rfl) rfl (by kernel_rfl) (by kernel_rfl) (by kernel_rfl) (fun _ _ _ h => h) (.inl ⟨by rfl, ?_⟩) hSS ?_
      rotate_left
      · (intro W hSW; (try dsimp only at hSW); go_simp; try with_reducible rfl)
      simp only [Act.put, List.setIfInBounds_toArray, List.set_cons_zero, List.set_cons_succ]
      refine AnyBut.take (i := 8) (some 64) (v := ?_) rfl rfl (by kernel_rfl) rfl (by kernel_rfl) (by kernel_rfl) (by kernel_rfl) (fun _ _ _ h => h) (.inl ⟨by rfl, ?_⟩) hSS ?_
      rotate_left
      · (intro W hSW; (try dsimp only at hSW); go_simp; try with_reducible rfl)
      simp only [Act.put, List.setIfInBounds_toArray, List.set_cons_zero, List.set_cons_succ]
      refine AnyBut.take (i := 9) (some 65) (v := ?_) rfl rfl (by kernel_rfl) rfl (by kernel_rfl) (by kernel_rfl) (by kernel_rfl) (fun _ _ _ h => h) (.inl ⟨by rfl, ?_⟩) hSS ?_
      rotate_left
      · (intro W hSW; (try dsimp only at hSW); go_simp; try with_reducible rfl)
      simp only [Act.put, List.setIfInBounds_toArray, List.set_cons_zero, List.set_cons_succ]
      refine AnyBut.take (i := 10) (some 66) (v := ?_) rfl rfl (by kernel_rfl) rfl (by kernel_rfl) (by kernel_rfl) (by kernel_rfl) (fun _ _ _ h => h) (.inl ⟨by rfl, ?_⟩) hSS ?_
      rotate_left
      · (intro W hSW; (try dsimp only at hSW); go_simp; try with_reducible rfl)
      simp only [Act.put, List.setIfInBounds_toArray, List.set_cons_zero, List.set_cons_succ]
      refine AnyBut.take (i := 11) (some 67) (v := ?_) rfl rfl (by kernel_rfl) rfl (by kernel_rfl) (by kernel_rfl) (by kernel_rfl) (fun _ _ _ h => h) (.inl ⟨by rfl, ?_⟩) hSS ?_
      rotate_left
      · (intro W hSW; (try dsimp only at hSW); go_simp; try with_reducible rfl)
      simp only [Act.put, List.setIfInBounds_toArray, List.set_cons_zero, List.set_cons_succ]
      refine AnyBut.take (i := 12) (some 68) (v := ?_) rfl rfl (by kernel_rfl) rfl (by kernel_rfl) (by kernel_rfl) (by kernel_rfl) (fun _ _ _ h => h) (.inl ⟨by rfl, ?_⟩) hSS ?_
      rotate_left
      · (intro W hSW; (try dsimp only at hSW); go_simp; try with_reducible rfl)
      simp only [Act.put, List.setIfInBounds_toArray, List.set_cons_zero, List.set_cons_succ]
      refine AnyBut.take (i := 13) (some 69) (v := ?_) rfl rfl (by kernel_rfl) rfl (by kernel_rfl) (by kernel_rfl) (by kernel_rfl) (fun _ _ _ h => h) (.inl ⟨by rfl, ?_⟩) hSS ?_
      rotate_left
      · (intro W hSW; (try dsimp only at hSW); go_simp; try with_reducible rfl)
      simp only [Act.put, List.setIfInBounds_toArray, List.set_cons_zero, List.set_cons_succ]
      refine AnyBut.take (i := 14) (some 70) (v := ?_) rfl rfl (by kernel_rfl) rfl (by kernel_rfl) (by kernel_rfl) (by kernel_rfl) (fun _ _ _ h => h) (.inl ⟨by rfl, ?_⟩) hSS ?_
      rotate_left
      · (intro W hSW; (try dsimp only at hSW); go_simp; try with_reducible rfl)
      simp only [Act.put, List.setIfInBounds_toArray, List.set_cons_zero, List.set_cons_succ]
      refine AnyBut.step (i := 15) (by kernel_rfl) rfl (fun K hK => ?_)
      go_simp
      refine Calls.mono HC.out ?_
      rintro e w4 ⟨rfl, hu2, hb4⟩
      have hx1 := HR.out.1.below hb4 HR.out.1.lt
      dsimp only
      refine hK.out _ _ (HS.out w4 hx1) ?_
      clear hK hSS
      have hSS := (HS.out w4 hx1)
      refine AnyBut.take (i := 16) (some 72) (v := ?_) rfl rfl (by kernel_rfl) rfl (by kernel_rfl) (by kernel_rfl) (by kernel_rfl) (fun _ _ _ h => h) (.inl ⟨by rfl, ?_⟩) hSS ?_
      rotate_left
      · (intro W hSW; (try dsimp only at hSW); go_simp; try with_reducible rfl)
      simp only [Act.put, List.setIfInBounds_toArray, List.set_cons_zero, List.set_cons_succ]
      refine AnyBut.step (i := 17) (by kernel_rfl) rfl (fun K hK => ?_)
      go_simp
      refine hK.out _ _ (HS.out (w4.alloc (.cells #[.int .i64 (s + (k : Int)), .slice (some ⟨wr.heap.size, 0, none⟩) 64 64] 87)) (hx1.alloc _)) ?_
      clear hK hSS
      have hSS := (HS.out (w4.alloc (.cells #[.int .i64 (s + (k : Int)), .slice (some ⟨wr.heap.size, 0, none⟩) 64 64] 87)) (hx1.alloc _))
      refine AnyBut.step (i := 18) (by kernel_rfl) rfl (fun K hK => ?_)
      refine step_append_lies _ (by rfl) _ _ _ (by rfl) w1.heap.size 87 i6 _ 2 32 Tryz.underlying45 hi6 hz60 hz61 hz62 rfl (by omega) _ (m + k) _ (by rfl) ((own_below HO.out hb4).alloc _) ⟨w4.heap.size, 0, none⟩ 1 1 [.int .i64 (s + (k : Int)), .slice (some ⟨wr.heap.size, 0, none⟩) 64 64] (by rfl) (by rfl)
        (World.news_of_block (cs := #[.int .i64 (s + (k : Int)), .slice (some ⟨wr.heap.size, 0, none⟩) 64 64]) (t := 87) (fr := (0, 0)) (heap_alloc_new w4 _)) (by simp [Value.oneCell']) (by omega) (by unfold maxLen; omega) (by omega) (by have := hb4.size; have := HLT.out; have := HR.out.1.lt; simp; omega) (w4.heap.size + 1) (by simp) ?_
      intro gg cap3 w5 hown5 hgrow5 hat hltg
      have hbx1 : Box w5 (w.heap.size + 1) 47 (.slice none 0 0) (.slice none 0 0) := Box.grown ((HR.out.2.below hb4 HR.out.2.lt).alloc _) hgrow5 (row_ne HO.out (by have := HLT.out; omega))
      have hbx2 : Box w5 w3.heap.size 47 (.slice ax n cs) (.slice ac (m + k) cc) := Box.grown (hx1.alloc _) hgrow5 (box_apart' HO.out HR.out.1 (by decide))
      have hcc4 := hbx2.cell1
      have hff4 := hbx2.frozen1
      refine hK.out _ _ (HS.out w5 hbx2) ?_
      clear hK hSS
      have hSS := (HS.out w5 hbx2)
      refine AnyBut.take (i := 19) (some 75) (v := ?_) rfl rfl (by kernel_rfl) rfl (by kernel_rfl) (by kernel_rfl) (by kernel_rfl) (fun _ _ _ h => h) (.inl ⟨by rfl, ?_⟩) hSS ?_
      rotate_left
      · (intro W hSW; (try dsimp only at hSW); go_simp; try with_reducible rfl)
      refine AnyBut.last (by kernel_rfl) (by kernel_rfl) rfl (fun K hK => ?_)
      go_simp
      refine hK.out _ _ ?_
      clear hK hSS
      have hS4 : Same w1.heap.size wr (w4.alloc (.cells #[.int .i64 (s + (k : Int)), .slice (some ⟨wr.heap.size, 0, none⟩) 64 64] 87)) := Same.trans (.of_below hb4) hb4.size (same_alloc _ _ _)
      have hG5 : OwnWrites w1.heap.size w5 87 (.slice (some ⟨gg, 0, none⟩) (m + k + 1) cap3) (S.cache ++ (List.range (k + 1)).map fun (i : Nat) => (s + (i : Int), pad (piece d i))) := by
        rw [List.range_succ, List.map_append, ← List.append_assoc]
        refine OwnWrites.push (by decide) HLEN.out (HE.out.mono fun _ _ h => ⟨h.1, h.2.1.same hS4, h.2.2⟩) (own_same HO.out hS4) ⟨?_, pad_oct HPA.out.2⟩ (by omega) hgrow5 hown5
        rw [pad_length _ (piece_le d k)]
        exact (own_weaken hu2 (by have := HR.out.1.lt; have := HLT.out; omega)).alloc _
      have hL5 : OwnLists w1.heap.size w5 (.slice ax n cs) S.secs := OwnLists.beside (HLS.out.same hS4) (by decide) (by decide) (own_same HO.out hS4) hgrow5
      have HBE : Hid (Below w.heap.size w w5) := ((below_any HBL.out hb4).alloc (by have := hb4.size; have := HLT.out; have := HR.out.1.lt; omega) _).grown hgrow5 (by have := hb4.size; have := HLT.out; have := HR.out.1.lt; simp; omega) (fun j hj => by have := (HO.out.lt j hj).1; have := HLT.out; omega)
      have HG5 : Hid (OwnWrites w1.heap.size w5 87 (.slice (some ⟨gg, 0, none⟩) (m + k + 1) cap3) (S.cache ++ (List.range (k + 1)).map fun (i : Nat) => (s + (i : Int), pad (piece d i))) ∧ OwnLists w1.heap.size w5 (.slice ax n cs) S.secs ∧ Box w5 (w.heap.size + 1) 47 (.slice none 0 0) (.slice none 0 0) ∧ Box w5 w3.heap.size 47 (.slice ax n cs) (.slice ac (m + k) cc)) := ⟨hG5, hL5, hbx1, hbx2⟩
      clear hown5 hgrow5 hat hltg hG5 hL5 hS4 hbx1 hbx2 hu2 hcut hmin hm1' hm2' hm3' hm4' hx1 hcc4 hff4
      go_wp2
      go_roundw
      case rel =>
        exact ⟨k + 1, _, by omega, by go_num, HG5.out.2.2.2.set1 _, HG5.out.2.2.1.other (by have := HLT.out; omega), HG5.out.2.1.boxed HG5.out.2.2.2 (by decide) (by decide), HG5.out.1.boxed HG5.out.2.2.2 (by decide) (by decide), HBE.out.setCell (p := ⟨w3.heap.size, 1, none⟩) (by have := HLT.out; simp; omega) _⟩
      case measure => simp [intOf]; omega
    · obtain rfl : k = nd := by omega
      have hlen : (S.cache ++ (List.range k).map fun (i : Nat) => (s + (i : Int), pad (piece d i))).length = m + k := by rw [List.length_append, ← HM.out]; simp
      obtain ⟨ps, hown, hE⟩ := id hOW
      rw [hlen] at hown
      obtain ⟨ac, cc, rfl⟩ := own_shape hown
      have HG : Hid (OwnLists w1.heap.size wr (.slice ax n cs) S.secs ∧ OwnWrites w1.heap.size wr 87 (.slice ac (m + k) cc) (S.cache ++ pieces s d) ∧ Below w.heap.size w wr) := by
        refine ⟨hOL, ?_, hbel⟩
        unfold pieces
        rw [← HND.out]
        exact hOW
      have q0 := hBX.cell0
      have q1 := hBX.cell1
      have q2 := hBR.cell0
      have q3 := hBR.cell1
      have q4 := hBR.frozen0
      have q5 := hBR.frozen1
      clear hBX hBR hOL hOW hbel hown hE hlen
      go_wp2
      refine bodyPost_ret (v := .tuple #[.agg #[.slice ax n cs, .slice ac (m + k) cc], .int .i64 0]) (by simp [results, Tryz.results28, go_sem, *]) rfl ⟨_, rfl, ⟨_, _, rfl, ?_, ?_⟩, ?_⟩
      · exact OwnLists.weaken (base := w1.heap.size) ((HG.out.1.same (same_set (by have := HLT.out; omega))).same (same_set (by have := HLT.out; omega))) (by have := HLT.out; omega)
      · exact OwnWrites.weaken (base := w1.heap.size) ((HG.out.2.1.same (same_set (by have := HLT.out; omega))).same (same_set (by have := HLT.out; omega))) (by have := HLT.out; omega)
      · exact below_set2 HG.out.2.2 (Nat.le_succ _) _ _

end Go.Proofs.YthlfgpnabcplnaaGreatDoor.Dk
