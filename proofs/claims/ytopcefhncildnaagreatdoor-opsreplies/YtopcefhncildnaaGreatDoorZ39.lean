/-
  What path.Split answers: the error, or the names in memory of their own; for every text.
-/
import Derived.Test.YtopcefhncildnaaGreatDoorZ38
import Derived.Deep.AppendLies
set_option maxRecDepth 100000
set_option maxHeartbeats 4000000
namespace Go.Proofs.YtopcefhncildnaaGreatDoor.P
open Go.Proofs.YtopcefhncildnaaGreatDoor.D (nameOk nerr two name_any num_any anyL anyL_ren empty_iff)
open Go.RowKit Go.Shelf
attribute [local go_sem] Oper.semAt_some
theorem Boxed.below {w w' : World} {B n : Nat} {t : TypeId} {v : Value} (h : Boxed w B t v) (hb : Below n w w') (hn : B < n) : Boxed w' B t v := (hb.block B hn).trans h
theorem Boxed.set' {w : World} {B B' i : Nat} {t : TypeId} {v x : Value} (h : Boxed w B t v) (hne : B ≠ B') : Boxed (w.setCell ⟨B', i, none⟩ x) B t v := (Below.heap_setCell _ _ _ _ hne).trans h
theorem keeps_below {w w' : World} (h : Below w.heap.size w w') : KeepsOthers w w' := ⟨h.size, fun k _ hk _ => (h.block k (Array.getElem?_eq_some_iff.1 hk).1).trans hk⟩
theorem boxed_kept {A B : World} {row : Option Nat} {b : Nat} {t : TypeId} {v : Value} (h : Boxed A b t v) (hg : A.grownBy B row) (hr : ∀ r, row = some r → ∃ o : Obj, A.heap[r]? = some o ∧ o.isCells = false) : Boxed B b t v := h.kept hg (fun e => by
 obtain ⟨o, ho, hc⟩ := hr b e.symm
 rw [show A.heap[b]? = _ from h] at ho; cases ho; cases hc)
theorem stepIn_append {F : Fence} {n : Nat} {P : Program} {ops : Array Oper} {o : Oper} {a : Act} {w w' : World} {K : Act → World → Prop} {Q : Exit → Act → World → Prop} {E : Prop} {v v' y : Value} (hgd : o.guard = none) (s x : Operand) (t : TypeId)
   (ho : o.op = .call { callee := .builtin .append, args := #[s, x], argTypes := #[t, t] }) (hrun : (Builtin.append_ #[t, t] o.type #[v, y]).run P w = .ok v' w') (hs : a.eval s = v) (hx : a.eval x = y) (h : K (a.put o.dst v') w') :
   if Region.wanted o (yielded ops a.tmps) = true then Oper.wpIn F n P o a w K Q else E := by
 have hw : Region.wanted o (yielded ops a.tmps) = true := by simp [Region.wanted, hgd]
 rw [if_pos hw]
 unfold Oper.wpIn
 refine ⟨?_, ?_⟩
 · simp [Oper.about, ho, resolve, Target.leads, Sem.run_pure]
 · rw [Oper.semAt_plain F _ _ (by rw [ho]; intro c hc'; cases hc')]
   simp [execOp, ho, resolve, invoke, builtin, hs, hx, hrun, Result.andThen]
   exact h
theorem push_text (w : World) (base : Nat) (v : Value) (l : List ByteArray) (x : ByteArray) (h : w.ownsRow base 9 1 v l.length (tv l)) (hl : l.length < 128) (hb : base ≤ w.heap.size) :
   ∃ g cap w', (Builtin.append_ #[57, 57] 57 #[v, .slice (some ⟨w.heap.size, 0, none⟩) 1 1]).run Tryz.prog (w.alloc (.cells #[.string x] 9)) = .ok (.slice (some ⟨g, 0, none⟩) (l.length + 1) cap) w' ∧
     w'.ownsRow base 9 1 (.slice (some ⟨g, 0, none⟩) (l.length + 1) cap) (l ++ [x]).length (tv (l ++ [x])) ∧ (w.alloc (.cells #[.string x] 9)).grownBy w' v.ownBlock ∧ g < w'.heap.size := by
 obtain ⟨i9, hi9, hz0, hz1, hz2⟩ := info_parts Tryz.info9
 obtain ⟨g, cap, w', h1, h2, h3, _, h5⟩ := run_append_lies (P := Tryz.prog) (w.alloc (.cells #[.string x] 9)) 57 57 base 9 i9 _ 1 16 Tryz.underlying57 hi9 hz0 hz1 hz2 rfl (by omega) v l.length (tv l) (h.alloc _) ⟨w.heap.size, 0, none⟩ 1 1 [.string x] rfl (World.news_of_block (cs := #[.string x]) (t := 9) (fr := (0, 0)) (heap_alloc_new w _)) (by simp [Value.oneCell']) (by omega) (by unfold maxLen; omega) (by omega) (by simp; omega) (w.heap.size + 1) (by simp)
 refine ⟨g, cap, w', h1, ?_, h3, h5⟩
 rw [List.length_append]
 simpa [tv] using h2
theorem fin_two (W : World) (R0 R1 D : Nat) (x y u v : Value) (h0 : Boxed W R0 57 u) (h1 : Boxed W R1 32 v) (hne : R0 ≠ R1) (hK : W.heap[D]? = some (.deferred (some []))) :
   ((W.setCell ⟨R0, 0, none⟩ x).setCell ⟨R1, 0, none⟩ y).heap[D]? = some (.deferred (some [])) ∧ (((W.setCell ⟨R0, 0, none⟩ x).setCell ⟨R1, 0, none⟩ y).putObj D (.deferred none)).cell? ⟨R0, 0, none⟩ = some x ∧ (((W.setCell ⟨R0, 0, none⟩ x).setCell ⟨R1, 0, none⟩ y).putObj D (.deferred none)).cell? ⟨R1, 0, none⟩ = some y := by
 have hK' := ((KeepsOthers.setCell W ⟨R0, 0, none⟩ x).trans (KeepsOthers.setCell _ ⟨R1, 0, none⟩ y)).same D _ hK rfl
 exact ⟨hK', (boxed_kept (Boxed.set' (h0.set x) hne) (grownBy_putObj' _ D (.deferred none)) (fun r e => by cases e; exact ⟨_, hK', rfl⟩)).cell,
   (boxed_kept ((Boxed.set' h1 hne.symm).set y) (grownBy_putObj' _ D (.deferred none)) (fun r e => by cases e; exact ⟨_, hK', rfl⟩)).cell⟩
theorem two_new (w : World) (t u : TypeId) (a b : Value) : Boxed ((w.alloc (.cells #[a] t)).alloc (.cells #[b] u)) w.heap.size t a ∧ Boxed ((w.alloc (.cells #[a] t)).alloc (.cells #[b] u)) (w.heap.size + 1) u b ∧ Below w.heap.size w ((w.alloc (.cells #[a] t)).alloc (.cells #[b] u)) := by
 have := Boxed.new (w.alloc (.cells #[a] t)) u b
 rw [World.size_alloc] at this
 exact ⟨(Boxed.new w t _).alloc _, this, ((Below.refl _ w).alloc (Nat.le_refl _) _).alloc (by simp) _⟩
theorem split_long (s : ByteArray) (w : World) (h : 128 < s.size) : Calls Tryz.prog 162 #[.string s] w fun e w' => e = .returned (.tuple #[.slice none 0 0, .int .i64 5]) ∧ Below w.heap.size w w' := by
 have hi : (128 : Int) < (s.size : Int) := by omega
 go_enter Tryz.func162, Tryz.ntmps162
 go_wp2_with fail
 obtain ⟨h0, h1, hb⟩ := two_new w 57 32 (.slice none 0 0) (.int .i64 5)
 have c0 := h0.cell
 have c1 := h1.cell
 exact bodyPost_ret (v := .tuple #[.slice none 0 0, .int .i64 5]) (by simp [results, Tryz.results162, go_sem, c0, c1]) rfl ⟨rfl, hb⟩
theorem split_loose (s : ByteArray) (w : World) (h : s.size ≤ 128) (hr : rooted s = false) : Calls Tryz.prog 162 #[.string s] w fun e w' => e = .returned (.tuple #[.slice none 0 0, .int .i64 106]) ∧ Below w.heap.size w w' := by
 have hi : ¬ (128 : Int) < (s.size : Int) := by omega
 have HC : Hid (∀ W, Calls Tryz.prog 225 #[.string s, .string ⟨#[47]⟩] W fun e w' => e = .returned (.bool false) ∧ W = w') := fun W => by
   have := prefix_any s W
   rwa [hr] at this
 go_enter Tryz.func162, Tryz.ntmps162
 go_wp2_with (go_at_call 225; refine (HC.out _).mono ?_; rintro e w' ⟨rfl, rfl⟩)
 obtain ⟨h0, h1, hb⟩ := two_new w 57 32 (.slice none 0 0) (.int .i64 106)
 have c0 := h0.cell
 have c1 := h1.cell
 exact bodyPost_ret (v := .tuple #[.slice none 0 0, .int .i64 106]) (by simp [results, Tryz.results162, go_sem, c0, c1]) rfl ⟨rfl, hb⟩
theorem split_good (s : ByteArray) (w : World) (h : s.size ≤ 128) (hr : rooted s = true) : Calls Tryz.prog 162 #[.string s] w fun e w' => ∃ v, e = .returned (.tuple #[v, .int .i64 (serr s)]) ∧ OwnT w.heap.size w' v (sval s) ∧ Below w.heap.size w w' := by
 refine (callsIn_wide (n := 6)).1 ?_
 have hi : ¬ (128 : Int) < (s.size : Int) := by omega
 have HC : Hid (∀ W, Calls Tryz.prog 225 #[.string s, .string ⟨#[47]⟩] W fun e w' => e = .returned (.bool true) ∧ W = w') := fun W => by
   have := prefix_any s W
   rwa [hr] at this
 have HSZ : Hid (s.size ≤ 128 ∧ rooted s = true) := ⟨h, hr⟩
 obtain ⟨E, hE⟩ := exa (serr s)
 obtain ⟨L, hL⟩ := exa (sval s)
 rw [← hE, ← hL]
 have HEL : Hid (E = serr s ∧ L = sval s) := ⟨hE, hL⟩
 clear h hr hE hL
 refine callsIn_of_wp_marks Tryz.func162 rfl trivial ?_ rfl
 simp only [Tryz.ntmps162, List.size_toArray, List.length_cons, List.length_nil, Nat.reduceAdd, Nat.reduceSub, Array.replicate_succ, Array.replicate_zero, List.push_toArray, List.append_toArray, List.nil_append, List.cons_append]
 gi_wp2_with (refine ⟨trivial, ?_⟩; gi_at_call 225; refine (callsIn_wide.2 (HC.out _)).mono ?_; rintro e w' ⟨rfl, rfl⟩)
 obtain ⟨W3, hW3⟩ := exa (((w.alloc (.cells #[.slice none 0 0] 57)).alloc (.cells #[.int .i64 0] 32)).alloc (.cells #[.slice none 0 0] 57))
 rw [← hW3]
 have hsz3 : W3.heap.size = w.heap.size + 3 := by rw [hW3]; simp
 have H3 : Hid (Boxed W3 w.heap.size 57 (.slice none 0 0) ∧ Boxed W3 (w.heap.size + 1) 32 (.int .i64 0) ∧ Boxed W3 (w.heap.size + 1 + 1) 57 (.slice none 0 0) ∧ Below w.heap.size w W3) := by (
 show _ ∧ _
 obtain ⟨h0, h1, hb⟩ := two_new w 57 32 (.slice none 0 0) (.int .i64 0)
 have h2 := Boxed.new ((w.alloc (.cells #[.slice none 0 0] 57)).alloc (.cells #[.int .i64 0] 32)) 57 (.slice none 0 0)
 rw [World.size_alloc, World.size_alloc] at h2
 rw [hW3]
 exact ⟨h0.alloc _, h1.alloc _, h2, hb.alloc (by simp; omega) _⟩)
 clear hW3
 refine ⟨trivial, (callsIn_wide.2 (parts_any s W3)).mono ?_⟩
 rintro e wL ⟨rfl, hwL⟩
 have hszL : wL.heap.size = W3.heap.size + 1 := by rw [hwL]; simp
 have hbL : Below W3.heap.size W3 wL := by rw [hwL]; exact (Below.refl _ _).alloc (Nat.le_refl _) _
 have hcL : wL.cell? ⟨W3.heap.size, 0, none⟩ = some (.string s) := by rw [hwL]; exact (Boxed.new W3 9 _).cell
 have HL : Hid (Boxed wL w.heap.size 57 (.slice none 0 0) ∧ Boxed wL (w.heap.size + 1) 32 (.int .i64 0) ∧ Boxed wL (w.heap.size + 1 + 1) 57 (.slice none 0 0) ∧ Below w.heap.size w wL ∧ wL.heap.size = w.heap.size + 4) :=
   ⟨Boxed.below H3.out.1 hbL (by omega), Boxed.below H3.out.2.1 hbL (by omega), Boxed.below H3.out.2.2.1 hbL (by omega), below_any H3.out.2.2.2 hbL, by omega⟩
 have hit := parts_stops 5 (by omega) w.heap.size W3.heap.size s wL HSZ.out.1 (by omega) hcL
 have HZ : Hid (W3.heap.size = w.heap.size + 3 ∧ wL.heap.size = w.heap.size + 4) := ⟨hsz3, by omega⟩
 clear hwL hsz3 hszL
 gi_wp2_with fail
 obtain ⟨i9, hi9, hz0, hz1, hz2⟩ := info_parts Tryz.info9
 refine wpIn_rangeFunc_ownF rfl (by omega) (gf := 276) (lb := #[.pointer (some ⟨W3.heap.size, 0, none⟩)]) rfl trivial (enters_of Tryz.func276 (by kernel_rfl) rfl) hit belowK_t (belowK_b (by have := HZ.out; omega)) (Below.refl _ _) (fun _ => rfl)
   (fun pre W' => (∃ v, Boxed W' (w.heap.size + 1 + 1) 57 v ∧ W'.ownsRow w.heap.size 9 1 v pre.length (tv pre) ∧ pre.all nameOk = true) ∧ (Boxed W' w.heap.size 57 (.slice none 0 0) ∧ Boxed W' (w.heap.size + 1) 32 (.int .i64 0)) ∧ Below w.heap.size w W')
   (fun c pre W' => (c = .ret ∧ pre.all nameOk = false ∧ Boxed W' w.heap.size 57 (.slice none 0 0) ∧ Boxed W' (w.heap.size + 1) 32 (.int .i64 106)) ∧ Below w.heap.size w W')
   (OwnFrom.and (Own.from (holdsRow_own w.heap.size (w.heap.size + 1 + 1) 57 9 1 (fun pre => pre.length) (fun pre => tv pre) (fun pre v => pre.all nameOk = true)) _) (OwnFrom.and (Own.from (fun s A B row hs hg hr => ⟨boxed_kept hs.1 hg hr, boxed_kept hs.2 hg hr⟩) _) (ownFrom_below (Nat.le_refl _) (by have := HZ.out; omega))))
   (fun c => OwnFrom.and (Own.from (fun s A B row hs hg hr => ⟨hs.1, hs.2.1, boxed_kept hs.2.2.1 hg hr, boxed_kept hs.2.2.2 hg hr⟩) _) (ownFrom_below (Nat.le_refl _) (by have := HZ.out; omega)))
   ⟨⟨_, HL.out.2.2.1, World.ownsRow_nil _ _ _ _, rfl⟩, ⟨HL.out.1, HL.out.2.1⟩, HL.out.2.2.2.1⟩
   (fun x => { tmps := #[.string s, undef, .pointer (some ⟨w.heap.size, 0, none⟩), .pointer (some ⟨w.heap.size + 1, 0, none⟩), .pointer (some ⟨w.heap.size + 1 + 1, 0, none⟩), .string x, undef, .string s, .int .i64 (s.size : Int), .bool false, .string s, .bool true, .bool false, .string s, .func (.func 276) #[] #[.pointer (some ⟨W3.heap.size, 0, none⟩)], .string x, undef, undef, undef, undef, undef, undef, undef, undef, undef, undef, undef, undef, undef, undef], defers := [] }) ?assign ?body ?done ?stop
 case assign => (
 intro l x W' K hK
 clear hit hbL hcL
 gi_wp2
 exact hK)
 case body => (
 rintro l pre x W' ⟨⟨v, hv, hrow, hall⟩, ⟨hr0, hr1⟩, hB⟩ hlt
 cases hx : nameOk x
 · have HN : Hid (∀ W, Calls Tryz.prog 227 #[.string x] W fun e w' => e = .returned (.int .i64 106) ∧ Below W.heap.size W w') := fun W => by
     have := name_any x W
     rwa [nerr_bad hx] at this
   have HF : Hid ((pre ++ [x]).all nameOk = false) := by show _ = _; rw [List.all_append]; simp [hx]
   have HB : Hid (Below w.heap.size w W' ∧ Boxed W' w.heap.size 57 (.slice none 0 0) ∧ Boxed W' (w.heap.size + 1) 32 (.int .i64 0)) := ⟨hB, hr0, hr1⟩
   clear hit hbL hcL hv hrow hall hr0 hr1 hB hx hi9 hz0 hz1 hz2
   gi_wp2_with (refine ⟨trivial, ?_⟩; gi_at_call 227; refine (CallsIn.inRound l (callsIn_wide.2 (HN.out _))).mono ?_; rintro e w1 ⟨rfl, hb1⟩; have k0 := Boxed.below HB.out.2.1 hb1 (Boxed.lt HB.out.2.1); have k1 := Boxed.below HB.out.2.2 hb1 (Boxed.lt HB.out.2.2); have c0 := k0.cell; have c1 := k1.cell; have f0 := k0.frozen; have f1 := k1.frozen)
   exact ⟨((keeps_below hb1).trans (KeepsOthers.setCell _ _ _)).trans (KeepsOthers.setCell _ _ _), ⟨rfl, HF.out, Boxed.set' (k0.set _) (by omega), (Boxed.set' k1 (by omega)).set _⟩, ((below_any HB.out.1 hb1).setCell (p := ⟨w.heap.size, 0, none⟩) (Nat.le_refl _) _).setCell (p := ⟨w.heap.size + 1, 0, none⟩) (Nat.le_succ _) _⟩
 · have HN : Hid (∀ W, Calls Tryz.prog 227 #[.string x] W fun e w' => e = .returned (.int .i64 0) ∧ Below W.heap.size W w') := fun W => by
     have := name_any x W
     rwa [nerr_zero.2 hx] at this
   have HCL : Hid (∀ W, Calls Tryz.prog 188 #[.string x] W fun e w' => e = .returned (.string x) ∧ Below W.heap.size W w') := fun W => clone_any x W (name_size hx).1
   have HB : Hid (Below w.heap.size w W' ∧ Boxed W' w.heap.size 57 (.slice none 0 0) ∧ Boxed W' (w.heap.size + 1) 32 (.int .i64 0) ∧ Boxed W' (w.heap.size + 1 + 1) 57 v ∧ W'.ownsRow w.heap.size 9 1 v pre.length (tv pre)) := ⟨hB, hr0, hr1, hv, hrow⟩
   have HA : Hid ((pre ++ [x]).all nameOk = true) := by show _ = _; rw [List.all_append, hall]; simp [hx]
   clear hit hbL hcL hv hrow hall hr0 hr1 hB hx
   gi_wp2_with (refine ⟨trivial, ?_⟩; gi_at_call 227; refine (CallsIn.inRound l (callsIn_wide.2 (HN.out _))).mono ?_; rintro e w1 ⟨rfl, hb1⟩; have k1 := (Boxed.below HB.out.2.2.2.1 hb1 (Boxed.lt HB.out.2.2.2.1)).cell)
   have hmx : Tryz.prog.follows .mixedOrders = true := by kernel_rfl
   have HV : Hid (∀ V, Below w1.heap.size w1 V → Boxed V (w.heap.size + 1 + 1) 57 v ∧ V.ownsRow w.heap.size 9 1 v pre.length (tv pre) ∧ Boxed V w.heap.size 57 (.slice none 0 0) ∧ Boxed V (w.heap.size + 1) 32 (.int .i64 0) ∧ Below w.heap.size w V ∧ Below W'.heap.size W' V) := fun V hV => by (
 have hb := below_any hb1 hV
 exact ⟨Boxed.below HB.out.2.2.2.1 hb (Boxed.lt HB.out.2.2.2.1), own_below HB.out.2.2.2.2 hb, Boxed.below HB.out.2.1 hb (Boxed.lt HB.out.2.1), Boxed.below HB.out.2.2.1 hb (Boxed.lt HB.out.2.2.1), below_any HB.out.1 hb, hb⟩)
   have HW1 : Hid (Below w1.heap.size w1 w1.drew) := (Below.refl _ _).drew
   clear hb1
   have HLT : Hid (pre.length < 128) := hlt
   have HLT : Hid (pre.length < 128) := hlt
   clear hlt
   have FIN : Hid (∀ w2 w3 g cap, Below w1.heap.size w1 w2 → w3.ownsRow w.heap.size 9 1 (.slice (some ⟨g, 0, none⟩) (pre.length + 1) cap) (pre ++ [x]).length (tv (pre ++ [x])) → (w2.alloc (.cells #[.string x] 9)).grownBy w3 v.ownBlock →
       KeepsOthers W' (w3.setCell ⟨w.heap.size + 1 + 1, 0, none⟩ (.slice (some ⟨g, 0, none⟩) (pre.length + 1) cap)) ∧ Below w.heap.size W' (w3.setCell ⟨w.heap.size + 1 + 1, 0, none⟩ (.slice (some ⟨g, 0, none⟩) (pre.length + 1) cap)) ∧
       (∃ v', Boxed (w3.setCell ⟨w.heap.size + 1 + 1, 0, none⟩ (.slice (some ⟨g, 0, none⟩) (pre.length + 1) cap)) (w.heap.size + 1 + 1) 57 v' ∧ (w3.setCell ⟨w.heap.size + 1 + 1, 0, none⟩ (.slice (some ⟨g, 0, none⟩) (pre.length + 1) cap)).ownsRow w.heap.size 9 1 v' (pre ++ [x]).length (tv (pre ++ [x])) ∧ (pre ++ [x]).all nameOk = true) ∧
       (Boxed (w3.setCell ⟨w.heap.size + 1 + 1, 0, none⟩ (.slice (some ⟨g, 0, none⟩) (pre.length + 1) cap)) w.heap.size 57 (.slice none 0 0) ∧ Boxed (w3.setCell ⟨w.heap.size + 1 + 1, 0, none⟩ (.slice (some ⟨g, 0, none⟩) (pre.length + 1) cap)) (w.heap.size + 1) 32 (.int .i64 0)) ∧
       Below w.heap.size w (w3.setCell ⟨w.heap.size + 1 + 1, 0, none⟩ (.slice (some ⟨g, 0, none⟩) (pre.length + 1) cap))) := fun w2 w3 g cap hb h3 hg => by
     obtain ⟨q1, q2, q3, q4, q5, q6⟩ := HV.out w2 hb
     obtain ⟨e1, e2, e3, e4, e5⟩ := q1.appended (by decide) q2 q5.size (by omega) h3 hg
     refine ⟨(keeps_below q6).trans e4, (q6.mono HB.out.1.size).trans e5, ⟨_, e2, e3, HA.out⟩, ⟨Boxed.set' ((q3.alloc _).kept hg (q3.not_row (by decide) q2)) (by omega), Boxed.set' ((q4.alloc _).kept hg (q4.not_row (by decide) q2)) (by omega)⟩, q5.trans e5⟩
   refine wpIn_region_any (by kernel_rfl) ?_
   change wpAnyIn _ _ _ _ _ _ _ _ _ (World.drew _)
   refine wpAnyIn_ready (rs := [0, 1]) (by kernel_rfl) (by decide) (AllReadyIn.cons (by rfl) (fun K hK => ?_) (AllReadyIn.cons (by rfl) (fun K hK => ?_) AllReadyIn.nil))
   · go_simp
     refine hK _ _ ?_
     clear hK K
     refine wpAnyIn_ready (rs := [1]) (by kernel_rfl) (by decide) (AllReadyIn.cons (by rfl) (fun K hK => ?_) AllReadyIn.nil)
     go_simp
     refine hK _ _ ?_
     clear hK K
     refine wpAnyIn_ready (rs := [2]) (by kernel_rfl) (by decide) (AllReadyIn.cons (by rfl) (fun K hK => ?_) AllReadyIn.nil)
     go_simp
     refine ⟨trivial, (CallsIn.inRound l (callsIn_wide.2 (HCL.out _))).mono ?_⟩
     rintro e w2 ⟨rfl, hb2⟩
     dsimp only
     refine hK _ _ ?_
     clear hK K
     have hb3 := below_any HW1.out hb2
     have k2 := (HV.out w2 hb3).1.cell
     have k3 := ((HV.out w2 hb3).1.alloc (.cells #[.string x] 9)).cell
     have HB3 : Hid (Below w1.heap.size w1 w2) := hb3
     clear hb2 hb3
     refine wpAnyIn_ready (rs := [3]) (by kernel_rfl) (by decide) (AllReadyIn.cons (by rfl) (fun K hK => ?_) AllReadyIn.nil)
     go_simp
     refine hK _ _ ?_
     clear hK K
     refine wpAnyIn_ready (rs := [4]) (by kernel_rfl) (by decide) (AllReadyIn.cons (by rfl) (fun K hK => ?_) AllReadyIn.nil)
     obtain ⟨g, cap, w3, hrun, hown3, hgr3, hlt3⟩ := push_text w2 w.heap.size v pre x (HV.out w2 HB3.out).2.1 HLT.out (HV.out w2 HB3.out).2.2.2.2.1.size
     refine stepIn_append rfl _ _ 57 rfl hrun rfl rfl ?_
     refine hK _ _ ?_
     clear hK K hrun
     have m1 : Boxed w3 (w.heap.size + 1 + 1) 57 v := ((HV.out w2 HB3.out).1.alloc _).kept hgr3 ((HV.out w2 HB3.out).1.not_row (by decide) (HV.out w2 HB3.out).2.1)
     have c3 := m1.cell
     have f3 := m1.frozen
     have H3 : Hid (w3.ownsRow w.heap.size 9 1 (.slice (some ⟨g, 0, none⟩) (pre.length + 1) cap) (pre ++ [x]).length (tv (pre ++ [x])) ∧ (w2.alloc (.cells #[.string x] 9)).grownBy w3 v.ownBlock ∧ g < w3.heap.size) := ⟨hown3, hgr3, hlt3⟩
     clear hown3 hgr3 hlt3 m1
     refine wpAnyIn_ready (rs := [5]) (by kernel_rfl) (by decide) (AllReadyIn.cons (by rfl) (fun K hK => ?_) AllReadyIn.nil)
     go_simp
     refine hK _ _ ?_
     clear hK K
     refine wpAnyIn_done (by kernel_rfl) ?_ _
     gi_wp2
     exact FIN.out w2 w3 g cap HB3.out H3.out.1 H3.out.2.1
   · go_simp
     refine hK _ _ ?_
     clear hK K
     refine wpAnyIn_ready (rs := [0, 2]) (by kernel_rfl) (by decide) (AllReadyIn.cons (by rfl) (fun K hK => ?_) (AllReadyIn.cons (by rfl) (fun K hK => ?_) AllReadyIn.nil))
     · go_simp
       refine hK _ _ ?_
       clear hK K
       refine wpAnyIn_ready (rs := [2]) (by kernel_rfl) (by decide) (AllReadyIn.cons (by rfl) (fun K hK => ?_) AllReadyIn.nil)
       go_simp
       refine ⟨trivial, (CallsIn.inRound l (callsIn_wide.2 (HCL.out _))).mono ?_⟩
       rintro e w2 ⟨rfl, hb2⟩
       dsimp only
       refine hK _ _ ?_
       clear hK K
       have hb3 := below_any HW1.out hb2
       have k2 := (HV.out w2 hb3).1.cell
       have k3 := ((HV.out w2 hb3).1.alloc (.cells #[.string x] 9)).cell
       have HB3 : Hid (Below w1.heap.size w1 w2) := hb3
       clear hb2 hb3
       refine wpAnyIn_ready (rs := [3]) (by kernel_rfl) (by decide) (AllReadyIn.cons (by rfl) (fun K hK => ?_) AllReadyIn.nil)
       go_simp
       refine hK _ _ ?_
       clear hK K
       refine wpAnyIn_ready (rs := [4]) (by kernel_rfl) (by decide) (AllReadyIn.cons (by rfl) (fun K hK => ?_) AllReadyIn.nil)
       obtain ⟨g, cap, w3, hrun, hown3, hgr3, hlt3⟩ := push_text w2 w.heap.size v pre x (HV.out w2 HB3.out).2.1 HLT.out (HV.out w2 HB3.out).2.2.2.2.1.size
       refine stepIn_append rfl _ _ 57 rfl hrun rfl rfl ?_
       refine hK _ _ ?_
       clear hK K hrun
       have m1 : Boxed w3 (w.heap.size + 1 + 1) 57 v := ((HV.out w2 HB3.out).1.alloc _).kept hgr3 ((HV.out w2 HB3.out).1.not_row (by decide) (HV.out w2 HB3.out).2.1)
       have c3 := m1.cell
       have f3 := m1.frozen
       have H3 : Hid (w3.ownsRow w.heap.size 9 1 (.slice (some ⟨g, 0, none⟩) (pre.length + 1) cap) (pre ++ [x]).length (tv (pre ++ [x])) ∧ (w2.alloc (.cells #[.string x] 9)).grownBy w3 v.ownBlock ∧ g < w3.heap.size) := ⟨hown3, hgr3, hlt3⟩
       clear hown3 hgr3 hlt3 m1
       refine wpAnyIn_ready (rs := [5]) (by kernel_rfl) (by decide) (AllReadyIn.cons (by rfl) (fun K hK => ?_) AllReadyIn.nil)
       go_simp
       refine hK _ _ ?_
       clear hK K
       refine wpAnyIn_done (by kernel_rfl) ?_ _
       gi_wp2
       exact FIN.out w2 w3 g cap HB3.out H3.out.1 H3.out.2.1
     · go_simp
       refine ⟨trivial, (CallsIn.inRound l (callsIn_wide.2 (HCL.out _))).mono ?_⟩
       rintro e w2 ⟨rfl, hb2⟩
       dsimp only
       refine hK _ _ ?_
       clear hK K
       have hb3 := below_any HW1.out hb2
       have k2 := (HV.out w2 hb3).1.cell
       have k3 := ((HV.out w2 hb3).1.alloc (.cells #[.string x] 9)).cell
       have HB3 : Hid (Below w1.heap.size w1 w2) := hb3
       clear hb2 hb3
       refine wpAnyIn_ready (rs := [0, 3]) (by kernel_rfl) (by decide) (AllReadyIn.cons (by rfl) (fun K hK => ?_) (AllReadyIn.cons (by rfl) (fun K hK => ?_) AllReadyIn.nil))
       · go_simp
         refine hK _ _ ?_
         clear hK K
         refine wpAnyIn_ready (rs := [3]) (by kernel_rfl) (by decide) (AllReadyIn.cons (by rfl) (fun K hK => ?_) AllReadyIn.nil)
         go_simp
         refine hK _ _ ?_
         clear hK K
         refine wpAnyIn_ready (rs := [4]) (by kernel_rfl) (by decide) (AllReadyIn.cons (by rfl) (fun K hK => ?_) AllReadyIn.nil)
         obtain ⟨g, cap, w3, hrun, hown3, hgr3, hlt3⟩ := push_text w2 w.heap.size v pre x (HV.out w2 HB3.out).2.1 HLT.out (HV.out w2 HB3.out).2.2.2.2.1.size
         refine stepIn_append rfl _ _ 57 rfl hrun rfl rfl ?_
         refine hK _ _ ?_
         clear hK K hrun
         have m1 : Boxed w3 (w.heap.size + 1 + 1) 57 v := ((HV.out w2 HB3.out).1.alloc _).kept hgr3 ((HV.out w2 HB3.out).1.not_row (by decide) (HV.out w2 HB3.out).2.1)
         have c3 := m1.cell
         have f3 := m1.frozen
         have H3 : Hid (w3.ownsRow w.heap.size 9 1 (.slice (some ⟨g, 0, none⟩) (pre.length + 1) cap) (pre ++ [x]).length (tv (pre ++ [x])) ∧ (w2.alloc (.cells #[.string x] 9)).grownBy w3 v.ownBlock ∧ g < w3.heap.size) := ⟨hown3, hgr3, hlt3⟩
         clear hown3 hgr3 hlt3 m1
         refine wpAnyIn_ready (rs := [5]) (by kernel_rfl) (by decide) (AllReadyIn.cons (by rfl) (fun K hK => ?_) AllReadyIn.nil)
         go_simp
         refine hK _ _ ?_
         clear hK K
         refine wpAnyIn_done (by kernel_rfl) ?_ _
         gi_wp2
         exact FIN.out w2 w3 g cap HB3.out H3.out.1 H3.out.2.1
       · go_simp
         refine hK _ _ ?_
         clear hK K
         refine wpAnyIn_ready (rs := [0]) (by kernel_rfl) (by decide) (AllReadyIn.cons (by rfl) (fun K hK => ?_) AllReadyIn.nil)
         go_simp
         refine hK _ _ ?_
         clear hK K
         refine wpAnyIn_ready (rs := [4]) (by kernel_rfl) (by decide) (AllReadyIn.cons (by rfl) (fun K hK => ?_) AllReadyIn.nil)
         obtain ⟨g, cap, w3, hrun, hown3, hgr3, hlt3⟩ := push_text w2 w.heap.size v pre x (HV.out w2 HB3.out).2.1 HLT.out (HV.out w2 HB3.out).2.2.2.2.1.size
         refine stepIn_append rfl _ _ 57 rfl hrun rfl rfl ?_
         refine hK _ _ ?_
         clear hK K hrun
         have m1 : Boxed w3 (w.heap.size + 1 + 1) 57 v := ((HV.out w2 HB3.out).1.alloc _).kept hgr3 ((HV.out w2 HB3.out).1.not_row (by decide) (HV.out w2 HB3.out).2.1)
         have c3 := m1.cell
         have f3 := m1.frozen
         have H3 : Hid (w3.ownsRow w.heap.size 9 1 (.slice (some ⟨g, 0, none⟩) (pre.length + 1) cap) (pre ++ [x]).length (tv (pre ++ [x])) ∧ (w2.alloc (.cells #[.string x] 9)).grownBy w3 v.ownBlock ∧ g < w3.heap.size) := ⟨hown3, hgr3, hlt3⟩
         clear hown3 hgr3 hlt3 m1
         refine wpAnyIn_ready (rs := [5]) (by kernel_rfl) (by decide) (AllReadyIn.cons (by rfl) (fun K hK => ?_) AllReadyIn.nil)
         go_simp
         refine hK _ _ ?_
         clear hK K
         refine wpAnyIn_done (by kernel_rfl) ?_ _
         gi_wp2
         exact FIN.out w2 w3 g cap HB3.out H3.out.1 H3.out.2.1)
 case done => (
 rintro D ys W' hD hys ⟨⟨v, hv, hrow, hall⟩, ⟨hr0, hr1⟩, hB⟩ hK
 subst hys
 obtain ⟨a, c, rfl⟩ := own_shape hrow
 have hDn : D ≠ w.heap.size ∧ D ≠ w.heap.size + 1 := by have := HZ.out; omega
 obtain ⟨m, hm⟩ := exa ((pts s).length)
 rw [← hm] at hv hrow
 have hl := run_len Tryz.underlying57 a m c
 have c0 := hr0.cell
 have c1 := hr1.cell
 have f0 := hr0.frozen
 have f1 := hr1.frozen
 have cn := hv.cell
 by_cases h8 : 8 < m
 · have hs1 : serr s = 5 := by simp [serr, HSZ.out.2, hall, show ¬ 128 < s.size by have := HSZ.out.1; omega, ← hm, h8]
   have hs2 : sval s = [] := by simp [sval, hs1]
   obtain ⟨hK', p0, p1⟩ := fin_two W' w.heap.size (w.heap.size + 1) D (.slice none 0 0) (.int .i64 5) _ _ hr0 hr1 (by omega) hK
   have HFIN : Hid (Below w.heap.size w (((W'.setCell ⟨w.heap.size, 0, none⟩ (.slice none 0 0)).setCell ⟨w.heap.size + 1, 0, none⟩ (.int .i64 5)).putObj D (.deferred none))) :=
     ((hB.setCell (p := ⟨w.heap.size, 0, none⟩) (Nat.le_refl _) _).setCell (p := ⟨w.heap.size + 1, 0, none⟩) (Nat.le_succ _) _).trans (belowK_b (w := w) (Nat.le_refl _) _ D _ _ (by have := HZ.out; omega) hK' rfl rfl)
   have HS : Hid (serr s = _ ∧ sval s = _) := ⟨hs1, hs2⟩
   have h8i : (8 : Int) < (m : Int) := by omega
   clear hit hbL hcL hD hB hrow hall hDn hm hs1 hs2 hK hr0 hr1 hv hi9 hz0 hz1 hz2 h8
   gi_wp2
   refine ⟨by simp, .inl ⟨_, _, rfl, run_takeDeferred hK', ?_⟩⟩
   exact ⟨.tuple #[.slice none 0 0, .int .i64 5], by simp [results, Tryz.results162, go_sem, p0, p1], ⟨_, by rw [HEL.out.1, HS.out.1], by rw [HEL.out.2, HS.out.2]; exact OwnT.nil _ _, HFIN.out⟩⟩
 · have hs1 : serr s = 0 := by simp [serr, HSZ.out.2, hall, show ¬ 128 < s.size by have := HSZ.out.1; omega, ← hm, h8]
   have hs2 : sval s = pts s := by simp [sval, hs1]
   obtain ⟨hK', p0, p1⟩ := fin_two W' w.heap.size (w.heap.size + 1) D (.slice a m c) (.int .i64 0) _ _ hr0 hr1 (by omega) hK
   have HFIN : Hid (OwnT w.heap.size (((W'.setCell ⟨w.heap.size, 0, none⟩ (.slice a m c)).setCell ⟨w.heap.size + 1, 0, none⟩ (.int .i64 0)).putObj D (.deferred none)) (.slice a m c) (pts s) ∧ Below w.heap.size w (((W'.setCell ⟨w.heap.size, 0, none⟩ (.slice a m c)).setCell ⟨w.heap.size + 1, 0, none⟩ (.int .i64 0)).putObj D (.deferred none))) := by (
 refine ⟨⟨?_, fun q hq => ?_⟩, ((hB.setCell (p := ⟨w.heap.size, 0, none⟩) (Nat.le_refl _) _).setCell (p := ⟨w.heap.size + 1, 0, none⟩) (Nat.le_succ _) _).trans (belowK_b (w := w) (Nat.le_refl _) _ D _ _ (by have := HZ.out; omega) hK' rfl rfl)⟩
 · rw [← hm]
   exact ownsRow_putObj ((hrow.kept (grownBy_setCell' W' w.heap.size _) (.inr (hr0.not_row (by decide) hrow).symm)).kept (grownBy_setCell' _ (w.heap.size + 1) _) (.inr (hr1.not_row (by decide) hrow).symm)) _ hK' rfl
 · have := (name_size (List.all_eq_true.1 hall q hq)).1
   unfold maxLen
   omega)
   have HS : Hid (serr s = _ ∧ sval s = _) := ⟨hs1, hs2⟩
   have h8i : ¬ (8 : Int) < (m : Int) := by omega
   clear hit hbL hcL hD hB hrow hall hDn hm hs1 hs2 hK hr0 hr1 hv hi9 hz0 hz1 hz2 h8
   gi_wp2
   refine ⟨by simp, .inl ⟨_, _, rfl, run_takeDeferred hK', ?_⟩⟩
   exact ⟨.tuple #[.slice a m c, .int .i64 0], by simp [results, Tryz.results162, go_sem, p0, p1], ⟨_, by rw [HEL.out.1, HS.out.1], by rw [HEL.out.2, HS.out.2]; exact HFIN.out.1, HFIN.out.2⟩⟩)
 case stop => (
 rintro D c pre W' hD hpre ⟨⟨rfl, hbad, hr0, hr1⟩, hB⟩ hK
 have hs1 : serr s = 106 := by (
 have hf : (pts s).all nameOk = false := by
   obtain ⟨r, hr⟩ := hpre
   rw [← hr, List.all_append, hbad]; rfl
 simp [serr, HSZ.out.2, hf, show ¬ 128 < s.size by have := HSZ.out.1; omega])
 have hs2 : sval s = [] := by simp [sval, hs1]
 have g0 := (boxed_kept hr0 (grownBy_putObj' _ D (.deferred none)) (fun r e => by cases e; exact ⟨_, hK, rfl⟩)).cell
 have g1 := (boxed_kept hr1 (grownBy_putObj' _ D (.deferred none)) (fun r e => by cases e; exact ⟨_, hK, rfl⟩)).cell
 have HS : Hid (serr s = _ ∧ sval s = _) := ⟨hs1, hs2⟩
 have HFIN : Hid (Below w.heap.size w (W'.putObj D (.deferred none))) := hB.trans (belowK_b (w := w) (Nat.le_refl _) W' D _ _ (by have := HZ.out; omega) hK rfl rfl)
 clear hit hbL hcL hD hB hr0 hr1 hs1 hs2 hpre hbad hi9 hz0 hz1 hz2
 gi_wp2
 refine ⟨by simp, .inl ⟨_, _, rfl, run_takeDeferred hK, ?_⟩⟩
 exact ⟨.tuple #[.slice none 0 0, .int .i64 106], by simp [results, Tryz.results162, go_sem, g0, g1], ⟨_, by rw [HEL.out.1, HS.out.1], by rw [HEL.out.2, HS.out.2]; exact OwnT.nil _ _, HFIN.out⟩⟩)
theorem split_any (s : ByteArray) (w : World) : Calls Tryz.prog 162 #[.string s] w fun e w' => ∃ v, e = .returned (.tuple #[v, .int .i64 (serr s)]) ∧ OwnT w.heap.size w' v (sval s) ∧ Below w.heap.size w w' := by
 by_cases h : 128 < s.size
 · have h1 : serr s = 5 := by simp [serr, h]
   have h2 : sval s = [] := by simp [sval, h1]
   rw [h1, h2]
   exact (split_long s w h).mono fun e w' k => ⟨_, k.1, OwnT.nil _ _, k.2⟩
 · cases hr : rooted s
   · have h1 : serr s = 106 := by simp [serr, h, hr]
     have h2 : sval s = [] := by simp [sval, h1]
     rw [h1, h2]
     exact (split_loose s w (by omega) hr).mono fun e w' k => ⟨_, k.1, OwnT.nil _ _, k.2⟩
   · exact split_good s w (by omega) hr
end Go.Proofs.YtopcefhncildnaaGreatDoor.P
