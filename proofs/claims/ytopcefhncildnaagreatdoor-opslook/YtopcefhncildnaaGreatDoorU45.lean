/-
  fs.List: what it answers.
  fs.List: what it answers.
  fs.Write: what it answers.
  Plain mathematics: the state that each op makes may be.
  Plain mathematics: the page's example.
-/
import Derived.Test.YtopcefhncildnaaGreatDoorU44
set_option maxRecDepth 100000
set_option maxHeartbeats 8000000
namespace Go.Proofs.YtopcefhncildnaaGreatDoor
open Go.RowKit
open D (En ArgE)
open P (ArgT OwnT tv TOk serr sval)
attribute [local go_sem ↓] Go.wp_at_zero Go.wp_at_succ
theorem dir_split {fe wi : Int} {l : List Nd} {v : Value} {e : Ending} (h : (fe ≠ 0 ∧ (∃ E, e = .returned (.tuple #[.pointer none, E]) ∧ EV fe E)) ∨ (fe = 0 ∧ ∃ k p b o, l[k]? = some p ∧ p.1 = wi ∧ (∀ W, (Instr.indexAt 27 v (.int .i64 (k : Nat))).run Tryz.prog W = .ok (.pointer (some ⟨b, o, none⟩)) W) ∧ e = .returned (.tuple #[.pointer (some ⟨b, o, none⟩), .nilIface]))) :
   ∃ R1 R2, e = .returned (.tuple #[R1, R2]) ∧ ((fe ≠ 0 ∧ R1 = .pointer none ∧ EV fe R2) ∨ (fe = 0 ∧ R2 = .nilIface ∧ ∃ k q b o, l[k]? = some q ∧ q.1 = wi ∧ (∀ W, (Instr.indexAt 27 v (.int .i64 (k : Nat))).run Tryz.prog W = .ok (.pointer (some ⟨b, o, none⟩)) W) ∧ R1 = .pointer (some ⟨b, o, none⟩))) := read_split h
def lsO (s : St) (xs : List ByteArray) : List ByteArray := if dirE s.1 xs ≠ 0 then [] else (en (tgt s xs)).map (·.1)
def HoldsT (base : Nat) (O : List ByteArray) (Q : Nat) (w : World) : Prop := ∃ v, Box w Q 57 #[v] ∧ OwnT base w v O
theorem HoldsT.below {base : Nat} {O : List ByteArray} {Q : Nat} {w w' : World} (h : HoldsT base O Q w) (hb : Below w.heap.size w w') : HoldsT base O Q w' := by
 obtain ⟨v, h1, h2⟩ := h
 exact ⟨v, h1.below hb h1.lt, h2.below hb⟩
theorem HoldsT.nil {base : Nat} {w : World} {Q : Nat} (h : Box w Q 57 #[.slice none 0 0]) : HoldsT base [] Q w := ⟨_, h, World.ownsRow_nil _ _ _ _, fun _ h => by cases h⟩
theorem listDo_any (n0 : Nat) (a : Option Addr) (c : Nat) (s : St) (hK : Wk s) (p : ByteArray) (B Q : Nat) (v2 : Value) (wE w0 V : World) (hA : ndsN.lies n0 wE [.slice a s.1.length c] s.1) (hE0 : Below wE.heap.size wE V) (hQE : wE.heap.size ≤ Q) (hb : Below w0.heap.size w0 V) (hB : Box V B 29 #[.slice a s.1.length c, .int .i64 s.2]) (hL : OwnL w0.heap.size V v2 [p]) (hQ : Box V Q 57 #[.slice none 0 0]) :
   Calls Tryz.prog 245 #[.pointer (some ⟨B, 0, none⟩), v2, .pointer (some ⟨Q, 0, none⟩)] V fun e w' => (∃ E, e = .returned E ∧ EV (dirE s.1 (sval p)) E) ∧ V.grownBy w' (some Q) ∧ HoldsT w0.heap.size (lsO s (sval p)) Q w' := by
 obtain ⟨i3, hi3, hz30, hz31, hz32⟩ := info_parts Tryz.info9
 obtain ⟨pb, po, pa, pc, hix, hpc, hT⟩ := hL.at 0 p rfl
 have hix : ∀ W, (Instr.indexAt 106 v2 (.int .i64 0)).run Tryz.prog W = .ok (.pointer (some ⟨pb, po, none⟩)) W := hix
 have HC := findDir_any n0 _ a c s hK pa pc (sval p) V.drew (ndsN.below hA (below_any hE0 (Below.refl _ V).drew)) (hT.below (Below.refl _ V).drew)
 obtain ⟨g0, g1, -, -⟩ := hB.two
 have HQ : Hid (Box V Q 57 #[.slice none 0 0] ∧ Below wE.heap.size wE V ∧ wE.heap.size ≤ Q ∧ w0.heap.size ≤ V.heap.size) := ⟨hQ, hE0, hQE, hb.size⟩
 have HNN : Hid (dirE s.1 (sval p) = 0 → (wlk s.1 1 (sval p)).1 = (tgt s (sval p)).1 ∧ (∀ q ∈ s.1, q.1 = (tgt s (sval p)).1 → q = tgt s (sval p)) ∧ (en (tgt s (sval p))).length ≤ 63 ∧ ∀ e ∈ en (tgt s (sval p)), e.1.size ≤ 16) := fun h0 => by (
 have hl := hK.lead (dir_zero h0).1
 have hsm := hK.small.2 _ hl.1
 refine ⟨hl.2.1, fun q hq he => ?_, (hK.dirs _ hl.1 (dir_zero h0).2).1.1, hsm.2.1⟩
 have h1 := gt_of hK.up hq
 have h2 := gt_of hK.up hl.1
 rw [← h1, he, h2])
 have HAV : Hid (ndsN.lies n0 wE [.slice a s.1.length c] s.1) := hA
 have HRE : Hid (lsO s (sval p) = (if dirE s.1 (sval p) ≠ 0 then [] else (en (tgt s (sval p))).map (·.1))) := rfl
 generalize lsO s (sval p) = ro at HRE ⊢
 generalize tgt s (sval p) = T at HNN HRE
 generalize (wlk s.1 1 (sval p)).1 = wi at HC HNN
 generalize dirE s.1 (sval p) = fe at HC HNN HRE ⊢
 obtain ⟨n, hn'⟩ := exa (s.1.length)
 obtain ⟨nx, hnx⟩ := exa (s.2)
 obtain ⟨m, hm⟩ := exa ((sval p).length)
 obtain ⟨l, hl⟩ := exa (s.1)
 rw [← hn', ← hnx, ← hm, ← hl] at HC
 rw [← hn', ← hl] at HAV
 rw [← hl] at HNN
 rw [← hm] at hpc
 rw [← hn'] at g0
 rw [← hnx] at g1
 have HS0 : V.drew.cell? ⟨B, 0, none⟩ = some (.slice a n c) ∧ V.drew.cell? ⟨B, 1, none⟩ = some (.int .i64 nx) ∧ V.drew.cell? ⟨pb, po, none⟩ = some (.slice pa m pc) := ⟨g0, g1, hpc⟩
 obtain ⟨post, hpost⟩ : ∃ post : Ending → World → Prop, post = fun e w' => (∃ E, e = .returned E ∧ EV fe E) ∧ V.grownBy w' (some Q) ∧ HoldsT w0.heap.size ro Q w' := ⟨_, rfl⟩
 have HPo : Hid (∀ E w', EV fe E → V.grownBy w' (some Q) → HoldsT w0.heap.size ro Q w' → post (.returned E) w') := fun E w' h1 h2 h3 => by rw [hpost]; exact ⟨⟨_, rfl, h1⟩, h2, h3⟩
 rw [← hpost]
 clear hA hb hB hL hQ hT hn' hnx hm hl hK hpost hE0 hQE
 go_enter Tryz.func245, Tryz.ntmps245
 go_wp2
 go_region_held3 (fun U => U.cell? ⟨B, 0, none⟩ = some (.slice a n c) ∧ U.cell? ⟨B, 1, none⟩ = some (.int .i64 nx) ∧ U.cell? ⟨pb, po, none⟩ = some (.slice pa m pc))
   (first | with_reducible exact HS1 | with_reducible exact HS0)
   ((first | (go_at_call 161; refine HC.mono ?_; rintro e w1 ⟨hr, hb1⟩; have HS1 : w1.cell? ⟨B, 0, none⟩ = some (.slice a n c) ∧ w1.cell? ⟨B, 1, none⟩ = some (.int .i64 nx) ∧ w1.cell? ⟨pb, po, none⟩ = some (.slice pa m pc) := ⟨by rw [hb1.cell (p := ⟨B, 0, none⟩) (cell_lt HS0.1)]; exact HS0.1, by rw [hb1.cell (p := ⟨B, 1, none⟩) (cell_lt HS0.2.1)]; exact HS0.2.1, by rw [hb1.cell (p := ⟨pb, po, none⟩) (cell_lt HS0.2.2)]; exact HS0.2.2⟩; obtain ⟨R1, R2, rfl, hr2⟩ : ∃ R1 R2, e = .returned (.tuple #[R1, R2]) ∧ ((fe ≠ 0 ∧ R1 = .pointer none ∧ EV fe R2) ∨ (fe = 0 ∧ R2 = .nilIface ∧ ∃ k q b o, l[k]? = some q ∧ q.1 = wi ∧ (∀ W, (Instr.indexAt 27 (.slice a n c) (.int .i64 (k : Nat))).run Tryz.prog W = .ok (.pointer (some ⟨b, o, none⟩)) W) ∧ R1 = .pointer (some ⟨b, o, none⟩))) := dir_split hr)))
 have HBL : Hid (Below V.heap.size V w1) := below_any (Below.refl _ V).drew hb1
 clear hb1 HS0 HS1 g0 g1 HC hpc hr
 rcases hr2 with ⟨hne, rfl, hE⟩ | ⟨h0, rfl, k, q, b, o, hk, hqw, hixq, rfl⟩
 · have hro : ro = [] := by rw [HRE.out, if_pos hne]
   have HE : Hid (EV fe R2 ∧ HoldsT w0.heap.size ro Q w1) := ⟨hE, by rw [hro]; exact HoldsT.nil (HQ.out.1.below HBL.out HQ.out.1.lt)⟩
   obtain ⟨a2, l2, c2, s2, rfl⟩ : ∃ a2 l2 c2 s2, R2 = refV (.slice a2 l2 c2) fe s2 := by (
 rcases hE with ⟨h, _⟩ | ⟨_, a2, l2, c2, s2, h⟩
 · exact absurd h hne
 · exact ⟨a2, l2, c2, s2, h⟩)
   clear hE hne hro
   go_wp2
   exact HPo.out _ _ HE.out.1 (grown_below HBL.out _) HE.out.2
 subst h0
 have hqT : q = T := (HNN.out rfl).2.1 q (List.mem_of_getElem? hk) (hqw.trans (HNN.out rfl).1)
 subst hqT
 obtain ⟨b', o', e', f', hix', -, hcs, hLN⟩ := nds_atN HAV.out k q hk
 have hbo := (hix' w1).symm.trans (hixq w1)
 simp only [Result.ok.injEq, Value.pointer.injEq, Option.some.injEq, Addr.mk.injEq, and_true] at hbo
 obtain ⟨rfl, rfl⟩ := hbo
 obtain ⟨ea, ec, rfl, -, -⟩ := hLN.1.1.shape
 obtain ⟨-, -, -, c3, -, -⟩ := nv_cells hcs
 have c3' : w1.cell? ⟨b', o' + 3, none⟩ = some (.slice ea (en q).length ec) := by rw [(below_any HQ.out.2.1 HBL.out).cell (cell_lt c3)]; exact c3
 obtain ⟨L, hLL⟩ := exa (en q)
 have HR2 : Hid (ro = L.map (·.1) ∧ L.length ≤ 63 ∧ (∀ e ∈ L, e.1.size ≤ 16) ∧ ArgE n0 wE (.slice ea L.length ec) L) := by (
 have h2 := HRE.out
 rw [if_neg (by decide)] at h2
 rw [hLL]
 exact ⟨h2, (HNN.out rfl).2.2.1, (HNN.out rfl).2.2.2, hLN.1⟩)
 rw [← hLL] at c3'
 obtain ⟨ln, hln⟩ := exa (L.length)
 have HLN : Hid (ln = L.length) := hln
 rw [← hln] at c3' HR2
 have hln63 : ln ≤ 63 := HR2.out.2.1
 have hlen := run_len Tryz.underlying42 ea ln ec
 clear hcs hLN hix' hixq hqw hk c3 hLL hln
 go_wp2
 go_loopw [28] (fun i wr => ∃ (j : Nat) (v : Value), j ≤ ln ∧ i = .int .i64 j ∧ Hid (Box wr Q 57 #[v] ∧ OwnT w1.heap.size wr v ((L.take j).map (·.1)) ∧ w1.grownBy wr (some Q))) (fun i _ => ln - (intOf i).toNat)
 case atStart => exact ⟨0, _, Nat.zero_le _, rfl, HQ.out.1.below HBL.out HQ.out.1.lt, ⟨World.ownsRow_nil _ _ _ _, fun _ h => by cases h⟩, grown_below (Below.refl _ _) _⟩
 case round => (
 obtain ⟨j, v, hj, rfl, HJ⟩ := hrel
 by_cases hlt : j < ln
 · obtain ⟨e, he⟩ := get_lt (l := L) (k := j) (by rw [← HLN.out]; exact hlt)
   have HBE : Hid (Below wE.heap.size wE wr) := (below_any HQ.out.2.1 HBL.out).grown HJ.out.2.2 (by have := HQ.out.2.1.size; have := HBL.out.size; omega) (fun k hk => by cases hk; exact HQ.out.2.2.1)
   have hAr := HR2.out.2.2.2
   rw [HLN.out] at hAr
   obtain ⟨be, oe, hixe, -, d0, d1⟩ := ArgE.atN (hAr.below HBE.out) j e he
   rw [← HLN.out] at hixe
   have HTK : Hid ((L.take (j + 1)).map (·.1) = (L.take j).map (·.1) ++ [e.1] ∧ ((L.take j).map (·.1)).length = j ∧ e.1.size ≤ 16) := ⟨by rw [take_snoc he]; simp, by have := HLN.out; rw [List.length_map, List.length_take]; omega, HR2.out.2.2.1 e (List.mem_of_getElem? he)⟩
   obtain ⟨en', ei⟩ := e
   simp only at d0 d1 HTK
   obtain ⟨U, hU⟩ := exa (wr.alloc (.cells #[.string en', .int .i64 ei] 49))
   have HU : Hid (Below wr.heap.size wr U ∧ Box U wr.heap.size 49 #[.string en', .int .i64 ei]) := ⟨by rw [hU]; exact (Below.refl _ _).alloc (Nat.le_refl _) _, by rw [hU]; exact Box.new _ _ _⟩
   have HCL : Hid (Calls Tryz.prog 188 #[.string en'] U.drew fun e w' => e = .returned (.string en') ∧ Below U.heap.size U w') := (P.clone_any en' U.drew HTK.out.2.2).mono fun e w' h => ⟨h.1, ((Below.refl _ U).drew).trans h.2⟩
   obtain ⟨a', cap', rfl⟩ := own_shape HJ.out.2.1.1
   rw [HTK.out.2.1] at HJ
   have HO : Hid (∀ W, Below wr.heap.size wr W → W.ownsRow w1.heap.size 9 1 (.slice a' j cap') j (tv ((L.take j).map (·.1)))) := fun W hW => by (
 have := (HJ.out.2.1.below hW).1
 rwa [HTK.out.2.1] at this)
   have HBQ : Hid (Box U Q 57 #[.slice a' j cap']) := HJ.out.1.below HU.out.1 HJ.out.1.lt
   have hki : (j : Int) < (ln : Int) := by omega
   clear he hAr
   go_wp2
   rw [← hU]
   clear hU
   have hSS : U.drew.cell? ⟨wr.heap.size, 0, none⟩ = some (.string en') ∧ U.drew.cell? ⟨Q, 0, none⟩ = some (.slice a' j cap') := ⟨HU.out.2.two.1, HBQ.out.cell 0 rfl⟩
   refine AnyBut.begin (fun W => W.cell? ⟨wr.heap.size, 0, none⟩ = some (.string en') ∧ W.cell? ⟨Q, 0, none⟩ = some (.slice a' j cap')) 6 (by kernel_rfl) ?_
   refine AnyBut.take (i := 0) (some 32) (v := ?_) rfl rfl (by kernel_rfl) rfl (by kernel_rfl) (by kernel_rfl) (by kernel_rfl) (fun _ _ _ h => h) (.inl ⟨by rfl, ?_⟩) hSS ?_
   rotate_left
   · (intro W hSW; (try dsimp only at hSW); go_simp; try with_reducible rfl)
   simp only [Act.put, List.setIfInBounds_toArray, List.set_cons_zero, List.set_cons_succ]
   refine AnyBut.take (i := 1) (some 33) (v := ?_) rfl rfl (by kernel_rfl) rfl (by kernel_rfl) (by kernel_rfl) (by kernel_rfl) (fun _ _ _ h => h) (.inl ⟨by rfl, ?_⟩) hSS ?_
   rotate_left
   · (intro W hSW; (try dsimp only at hSW); go_simp; try with_reducible rfl)
   simp only [Act.put, List.setIfInBounds_toArray, List.set_cons_zero, List.set_cons_succ]
   refine AnyBut.take (i := 2) (some 34) (v := ?_) rfl rfl (by kernel_rfl) rfl (by kernel_rfl) (by kernel_rfl) (by kernel_rfl) (fun _ _ _ h => h) (.inl ⟨by rfl, ?_⟩) hSS ?_
   rotate_left
   · (intro W hSW; (try dsimp only at hSW); go_simp; try with_reducible rfl)
   simp only [Act.put, List.setIfInBounds_toArray, List.set_cons_zero, List.set_cons_succ]
   refine AnyBut.step (i := 3) (by kernel_rfl) rfl (fun K hK => ?_)
   go_simp
   refine Calls.mono HCL.out ?_
   rintro e w2 ⟨rfl, hb2⟩
   have hx2 := HU.out.2.below hb2 HU.out.2.lt
   have hq2 := HBQ.out.below hb2 HBQ.out.lt
   dsimp only
   refine hK.out _ _ ⟨hx2.two.1, hq2.cell 0 rfl⟩ ?_
   clear hK hSS
   refine AnyBut.step (i := 4) (by kernel_rfl) rfl (fun K hK => ?_)
   go_simp
   have hx3 := hx2.alloc (.cells #[.string en'] 9)
   have hq3 := hq2.alloc (.cells #[.string en'] 9)
   have hbw := below_any HU.out.1 hb2
   refine hK.out _ _ ⟨hx3.two.1, hq3.cell 0 rfl⟩ ?_
   clear hK
   refine AnyBut.step (i := 5) (by kernel_rfl) rfl (fun K hK => ?_)
   refine step_append_lies _ (by rfl) _ _ _ (by rfl) w1.heap.size 9 i3 _ 1 16 Tryz.underlying57 hi3 hz30 hz31 hz32 rfl (by omega) _ j _ (by rfl) ((HO.out w2 hbw).alloc _) ⟨w2.heap.size, 0, none⟩ 1 1 [.string en'] (by rfl) (by rfl)
     (World.news_of_block (cs := #[.string en']) (t := 9) (fr := (0, 0)) (heap_alloc_new w2 _)) (by simp [Value.oneCell']) (by omega) (by unfold maxLen; omega) (by omega) (by have := hbw.size; have := HJ.out.2.2.size; simp; omega) (w2.heap.size + 1) (by simp) ?_
   intro gg cap3 w3 hown3 hgrow3 hat hltg
   have hneQ : some Q ≠ (Value.slice a' j cap').ownBlock := fun e => by (
 have h1 := ((HO.out wr (Below.refl _ _)).lt _ e.symm).1
 have h2 := HQ.out.1.lt
 have := HBL.out.size
 omega)
   have hne : some wr.heap.size ≠ (Value.slice a' j cap').ownBlock := fun e => by have := ((HO.out wr (Below.refl _ _)).lt _ e.symm).2; omega
   have hx4 := hx3.grown hgrow3 hne
   have hq4 := hq3.grown hgrow3 hneQ
   refine hK.out _ _ ⟨hx4.two.1, hq4.cell 0 rfl⟩ ?_
   clear hK
   refine AnyBut.last (by kernel_rfl) (by kernel_rfl) rfl (fun K hK => ?_)
   have y0 := hq4.cell 0 rfl
   have y1 := hq4.frozen 0
   go_simp
   refine hK.out _ _ ?_
   clear hK
   have HF : Hid (Box (w3.setCell ⟨Q, 0, none⟩ (.slice (some ⟨gg, 0, none⟩) (j + 1) cap3)) Q 57 #[.slice (some ⟨gg, 0, none⟩) (j + 1) cap3] ∧ OwnT w1.heap.size (w3.setCell ⟨Q, 0, none⟩ (.slice (some ⟨gg, 0, none⟩) (j + 1) cap3)) (.slice (some ⟨gg, 0, none⟩) (j + 1) cap3) ((L.take (j + 1)).map (·.1)) ∧ w1.grownBy (w3.setCell ⟨Q, 0, none⟩ (.slice (some ⟨gg, 0, none⟩) (j + 1) cap3)) (some Q)) := by (
 have hQlt : Q < w1.heap.size := by have := HQ.out.1.lt; have := HBL.out.size; omega
 refine ⟨hq4.set 0 _, ⟨?_, fun x hx => ?_⟩, ?_⟩
 · rw [HTK.out.1, List.length_append, HTK.out.2.1]
   have : tv ((L.take j).map (·.1) ++ [en']) = tv ((L.take j).map (·.1)) ++ [.string en'] := by simp [tv]
   rw [this]
   exact own_same hown3 (.set hQlt)
 · rw [HTK.out.1] at hx
   rcases List.mem_append.1 hx with hx | hx
   · exact HJ.out.2.1.2 x hx
   · rw [List.mem_singleton.1 hx]; have := HTK.out.2.2; unfold maxLen; omega
 · refine World.grownBy.trans (b := w3) ?_ (grown_set _ _ _ _)
   refine ⟨(hgrow3.os.trans hbw.os).trans HJ.out.2.2.os, (hgrow3.tape.trans hbw.tape).trans HJ.out.2.2.tape, (hgrow3.output.trans hbw.output).trans HJ.out.2.2.output, ?_, fun k hk hnk => ?_⟩
   · have := hgrow3.size; have := hbw.size; have := HJ.out.2.2.size; simp at *; omega
   · have h1 := HJ.out.2.2.size
     have h2 := hbw.size
     rw [hgrow3.block k (by simp; omega) (fun e => by have := ((HO.out wr (Below.refl _ _)).lt _ e.symm).1; omega), Below.heap_alloc w2 _ k (by omega), hbw.block k (by omega)]
     exact HJ.out.2.2.block k hk hnk)
   clear hown3 hgrow3 hat hltg hne hneQ hx4 hq4 hx3 hq3 hx2 hq2 hbw hb2 y0 y1 hixe d0 d1
   go_wp2
   go_roundw
   case rel => exact ⟨j + 1, _, by omega, by go_num, HF.out⟩
   case measure => simp [intOf]; omega
 · obtain rfl : j = ln := by omega
   have hT : L.take j = L := by rw [HLN.out]; simp
   rw [hT] at HJ
   have HF : Hid (V.grownBy wr (some Q) ∧ HoldsT w0.heap.size ro Q wr) := ⟨(grown_below HBL.out _).trans HJ.out.2.2, by rw [HR2.out.1]; exact ⟨v, HJ.out.1, ⟨own_weaken HJ.out.2.1.1 (by have := HQ.out.2.2.2; have := HBL.out.size; omega), HJ.out.2.1.2⟩⟩⟩
   go_wp2
   exact HPo.out _ _ ev_nil HF.out.1 HF.out.2)
end Go.Proofs.YtopcefhncildnaaGreatDoor
namespace Go.Proofs.YtopcefhncildnaaGreatDoor
open Go.RowKit
open P (ArgT OwnT tv TOk serr sval)
theorem List_any (n0 : Nat) (a : Option Addr) (c : Nat) (s : St) (p : ByteArray) (hp : p.size ≤ maxLen) (w : World) (hA : ndsN.lies n0 w [.slice a s.1.length c] s.1) (hg : Glob w) :
   Calls Tryz.prog 183 #[.agg #[.slice a s.1.length c, .int .i64 s.2], .string p] w fun e w' => (∃ v O k, e = .returned (.tuple #[v, .int .i64 k]) ∧ OwnT w.heap.size w' v O ∧ ((¬ Ok s ∧ O = [] ∧ k = 9) ∨ (Ok s ∧ serr p ≠ 0 ∧ O = [] ∧ k = serr p) ∨ (Ok s ∧ serr p = 0 ∧ O = lsO s (sval p) ∧ k = dirE s.1 (sval p)))) ∧ Below w.heap.size w w' := by
 obtain ⟨l, nx⟩ := s
 simp only at hA ⊢
 obtain ⟨W1, hW1⟩ := exa (w.alloc (.cells #[.slice a l.length c, .int .i64 nx] 29))
 obtain ⟨W2, hW2⟩ := exa (W1.alloc (.cells #[.slice none 0 0] 57))
 obtain ⟨W3, hW3⟩ := exa (W2.alloc (.cells #[.string p] 9))
 have hb1 : Below w.heap.size w W1 := by rw [hW1]; exact (Below.refl _ w).alloc (Nat.le_refl _) _
 have hb2 : Below w.heap.size w W2 := by rw [hW2]; exact hb1.alloc hb1.size _
 have hb3 : Below w.heap.size w W3 := by rw [hW3]; exact hb2.alloc hb2.size _
 obtain ⟨Q, hQ⟩ := exa (W1.heap.size)
 have hBQ : Box W3 Q 57 #[.slice none 0 0] := by rw [hW3, hW2, hQ]; exact (Box.new _ _ _).alloc _
 have hBS : Box W1 w.heap.size 29 #[.slice a l.length c, .int .i64 nx] := by rw [hW1]; exact Box.new _ _ _
 have hBT : Box W3 W2.heap.size 9 #[.string p] := by rw [hW3]; exact Box.new _ _ _
 have hX : ArgT w.heap.size W3 (.slice (some ⟨W2.heap.size, 0, none⟩) 1 1) [p] := argT_box (ps := [p]) hBT hb2.size (by simp [maxLen]) fun q hq => by rw [List.mem_singleton.1 hq]; exact hp
 have HC := look1_any 245 Tryz.call245 (.pointer (some ⟨Q, 0, none⟩)) n0 w.heap.size a c (l, nx) (some ⟨W2.heap.size, 0, none⟩) 1 [p] (by simp) W3 (ndsN.below hA hb3) hX (hg.below hb3 hg.lt) (some Q) (dirE l (sval p)) (HoldsT W3.heap.size (lsO (l, nx) (sval p)) Q) (fun V V' h hb => h.below hb)
   (fun r hr => by cases hr; have := hg.lt; have := hb1.size; omega)
   (fun hok _ V v2 B hbV hB hBl hL => listDo_any n0 a c (l, nx) hok.wk p B Q v2 w W3 V hA (below_any hb3 hbV) (by rw [hQ]; exact hb1.size) hbV hB hL (hBQ.below hbV hBQ.lt))
 simp only at HC
 obtain ⟨post, hpost⟩ : ∃ post : Ending → World → Prop, post = fun e w' => (∃ v O k, e = .returned (.tuple #[v, .int .i64 k]) ∧ OwnT w.heap.size w' v O ∧ ((¬ Ok (l, nx) ∧ O = [] ∧ k = 9) ∨ (Ok (l, nx) ∧ serr p ≠ 0 ∧ O = [] ∧ k = serr p) ∨ (Ok (l, nx) ∧ serr p = 0 ∧ O = lsO (l, nx) (sval p) ∧ k = dirE l (sval p)))) ∧ Below w.heap.size w w' := ⟨_, rfl⟩
 have HPo : Hid (∀ v O k w', OwnT w.heap.size w' v O → ((¬ Ok (l, nx) ∧ O = [] ∧ k = 9) ∨ (Ok (l, nx) ∧ serr p ≠ 0 ∧ O = [] ∧ k = serr p) ∨ (Ok (l, nx) ∧ serr p = 0 ∧ O = lsO (l, nx) (sval p) ∧ k = dirE l (sval p))) → Below w.heap.size w w' → post (.returned (.tuple #[v, .int .i64 k])) w') := fun v O k w' h0 h1 h2 => by rw [hpost]; exact ⟨⟨v, O, k, rfl, h0, h1⟩, h2⟩
 rw [← hpost]
 have hps : psE [p] = serr p := by rw [psE]; split <;> simp_all [psE]
 rw [hps] at HC
 have HB : Hid (Below w.heap.size w W3 ∧ Box W3 Q 57 #[.slice none 0 0] ∧ w.heap.size ≤ Q) := ⟨hb3, hBQ, by rw [hQ]; exact hb1.size⟩
 obtain ⟨n, hn⟩ := exa (l.length)
 rw [← hn] at HC hW1 hBS ⊢
 obtain ⟨g0, g1, -, -⟩ := hBS.two
 have g0' : W2.cell? ⟨w.heap.size, 0, none⟩ = some (.slice a n c) := by
   have : Box W2 w.heap.size 29 #[.slice a n c, .int .i64 nx] := by rw [hW2]; exact hBS.alloc _
   exact this.two.1
 have g1' : W2.cell? ⟨w.heap.size, 1, none⟩ = some (.int .i64 nx) := by
   have : Box W2 w.heap.size 29 #[.slice a n c, .int .i64 nx] := by rw [hW2]; exact hBS.alloc _
   exact this.two.2.1
 have hs1 : W1.heap.size = w.heap.size + 1 := by rw [hW1]; exact Array.size_push _
 have hs2 : W2.heap.size = w.heap.size + 1 + 1 := by rw [hW2, ← hs1]; exact Array.size_push _
 rw [hs1] at hQ
 rw [hs2] at HC
 subst hQ
 rw [hW2, hW1] at g0' g1'
 clear hA hg hp hb1 hb2 hb3 hBQ hBS hBT hX hps hn hpost g0 g1 hs1 hs2
 go_enter Tryz.func183, Tryz.ntmps183
 go_wp2_with fail
 rw [← hW1, ← hW2, ← hW3]
 clear hW1 hW2 hW3 g0' g1'
 generalize lsO (l, nx) (sval p) = SN at HC HPo
 generalize dirE l (sval p) = wk at HC HPo
 generalize serr p = pe at HC HPo
 refine HC.mono ?_
 rintro e w4 ⟨r, rfl, hr⟩
 have hq : ∃ O, HoldsT w.heap.size O (w.heap.size + 1) w4 ∧ Below w.heap.size w w4 ∧ ((¬ Ok (l, nx) ∧ O = [] ∧ r = 9) ∨ (Ok (l, nx) ∧ pe ≠ 0 ∧ O = [] ∧ r = pe) ∨ (Ok (l, nx) ∧ pe = 0 ∧ O = SN ∧ r = wk)) := by (
 rcases hr with ⟨h1, h2, h3⟩ | ⟨h1, h2, h3, h4⟩ | ⟨h1, h2, h3, h4, h5⟩
 · exact ⟨[], HoldsT.nil (HB.out.2.1.below h3 HB.out.2.1.lt), below_any HB.out.1 h3, .inl ⟨h1, rfl, h2⟩⟩
 · exact ⟨[], HoldsT.nil (HB.out.2.1.below h4 HB.out.2.1.lt), below_any HB.out.1 h4, .inr (.inl ⟨h1, h2, rfl, h3⟩)⟩
 · obtain ⟨v, o1, o2⟩ := h5
   exact ⟨_, ⟨v, o1, ⟨own_weaken o2.1 HB.out.1.size, o2.2⟩⟩, HB.out.1.grown h4 HB.out.1.size (fun k hk => by cases hk; omega), .inr (.inr ⟨h1, h2, rfl, h3⟩)⟩)
 obtain ⟨O, ⟨v, hz, hAo⟩, hbz, hrz⟩ := hq
 have q0 := hz.cell 0 rfl
 have HF : Hid (post (.returned (.tuple #[v, .int .i64 r])) w4) := HPo.out _ _ _ _ hAo hrz hbz
 obtain ⟨va, vc, rfl⟩ := own_shape hAo.1
 generalize O.length = ol at q0 HF
 clear hz hbz hrz hr HC hAo
 go_wp2
 exact HF.out
end Go.Proofs.YtopcefhncildnaaGreatDoor
namespace Go.Proofs.YtopcefhncildnaaGreatDoor
open Go.RowKit
open F (Fl flN bksN)
open P (ArgT serr sval)
def Wrote (s : St) (ps : List ByteArray) (K : Int) (s' : St) (dl : Nat) (w : World) (e : Ending) (w' : World) : Prop :=
 ((∃ k, e = .returned (.tuple #[.agg #[.slice none 0 0, .int .i64 0], .int .i64 0, .int .i64 k]) ∧ ((¬ Ok s ∧ k = 9) ∨ (Ok s ∧ psE ps ≠ 0 ∧ k = psE ps) ∨ (Ok s ∧ psE ps = 0 ∧ K ≠ 0 ∧ k = K))) ∨
  (∃ v, e = .returned (.tuple #[.agg #[v, .int .i64 s'.2], .int .i64 dl, .int .i64 0]) ∧ Ok s ∧ psE ps = 0 ∧ K = 0 ∧ ndsN.lies w.heap.size w' [v] s'.1)) ∧ Below w.heap.size w w'
theorem Write_any (n0 : Nat) (a : Option Addr) (c : Nat) (s : St) (p : ByteArray) (hp : p.size ≤ maxLen) (off : Int) (ho : I64 off) (da : Option Addr) (dc : Nat) (d : List Int) (n1 : Nat) (w : World) (hv : Arg n1 w (.slice da d.length dc) d) (hA : ndsN.lies n0 w [.slice a s.1.length c] s.1) (hg : Glob w) :
   Calls Tryz.prog 12 #[.agg #[.slice a s.1.length c, .int .i64 s.2], .string p, .int .i64 off, .slice da d.length dc] w (Wrote s [p] (rwE s (sval p) (F.wrE (fi (tgt s (sval p))) off d)) (filN s (tgt s (sval p)) (F.wrF (fi (tgt s (sval p))) off d)) d.length w) := by
 obtain ⟨W1, hW1⟩ := exa (w.alloc (.cells #[.slice a s.1.length c, .int .i64 s.2] 29))
 obtain ⟨V1, hV1⟩ := exa (W1.alloc (.cells #[.int .i64 off] 3))
 obtain ⟨V2, hV2⟩ := exa (V1.alloc (.cells #[.slice da d.length dc] 25))
 obtain ⟨W2, hW2⟩ := exa (V2.alloc (.cells #[.slice none 0 0, .int .i64 0] 29))
 obtain ⟨W3, hW3⟩ := exa (W2.alloc (.cells #[.string p] 9))
 have hb1 : Below w.heap.size w W1 := by rw [hW1]; exact (Below.refl _ w).alloc (Nat.le_refl _) _
 have hbv : Below w.heap.size w V1 := by rw [hV1]; exact hb1.alloc hb1.size _
 have hbv2 : Below w.heap.size w V2 := by rw [hV2]; exact hbv.alloc hbv.size _
 have hb2 : Below w.heap.size w W2 := by rw [hW2]; exact hbv2.alloc hbv2.size _
 have hb3 : Below w.heap.size w W3 := by rw [hW3]; exact hb2.alloc hb2.size _
 have hs1 : W1.heap.size = w.heap.size + 1 := by rw [hW1]; exact Array.size_push _
 have hsv : V1.heap.size = w.heap.size + 1 + 1 := by rw [hV1, ← hs1]; exact Array.size_push _
 have hsv2 : V2.heap.size = w.heap.size + 1 + 1 + 1 := by rw [hV2, ← hsv]; exact Array.size_push _
 have hs2 : W2.heap.size = w.heap.size + 1 + 1 + 1 + 1 := by rw [hW2, ← hsv2]; exact Array.size_push _
 have hs3 : W3.heap.size = w.heap.size + 1 + 1 + 1 + 1 + 1 := by rw [hW3, ← hs2]; exact Array.size_push _
 have hBS : Box W2 w.heap.size 29 #[.slice a s.1.length c, .int .i64 s.2] := by
   have : Box W1 w.heap.size 29 #[.slice a s.1.length c, .int .i64 s.2] := by rw [hW1]; exact Box.new _ _ _
   rw [hW2, hV2, hV1]; exact ((this.alloc _).alloc _).alloc _
 have hBQ : Box W3 (w.heap.size + 1) 3 #[.int .i64 off] := by rw [hW3, hW2, hV2, hV1, ← hs1]; exact (((Box.new _ _ _).alloc _).alloc _).alloc _
 have hBD : Box W3 (w.heap.size + 1 + 1) 25 #[.slice da d.length dc] := by rw [hW3, hW2, hV2, ← hsv]; exact ((Box.new _ _ _).alloc _).alloc _
 have hBR : Box W3 (w.heap.size + 1 + 1 + 1) 29 #[.slice none 0 0, .int .i64 0] := by rw [hW3, hW2, ← hsv2]; exact (Box.new _ _ _).alloc _
 have hBT : Box W3 W2.heap.size 9 #[.string p] := by rw [hW3]; exact Box.new _ _ _
 have hX : ArgT w.heap.size W3 (.slice (some ⟨W2.heap.size, 0, none⟩) 1 1) [p] := argT_box (ps := [p]) hBT hb2.size (by simp [maxLen]) fun q hq => by rw [List.mem_singleton.1 hq]; exact hp
 have HC := change2_any 49 Tryz.call49 (.pointer (some ⟨w.heap.size + 1, 0, none⟩)) (.pointer (some ⟨w.heap.size + 1 + 1, 0, none⟩)) n0 w.heap.size a c s (some ⟨W2.heap.size, 0, none⟩) 1 [p] (by simp) W3 (ndsN.below hA hb3) hX (hg.below hb3 hg.lt) (rwE s (sval p) (F.wrE (fi (tgt s (sval p))) off d)) (filN s (tgt s (sval p)) (F.wrF (fi (tgt s (sval p))) off d))
   (fun hok _ V v2 B S hbV hB hBS hL hM => writeDo_any (w.heap.size + 1) (w.heap.size + 1 + 1) off da d.length dc d B S s hok p v2 V hM hBS hL n1 ho (fun U hU => hv.below (below_any hb3 (hbV.trans (hU.mono hB)))) (fun U hU => ⟨(hBQ.below hbV hBQ.lt).kept (hU.block _ (by have := hs3; omega)), (hBD.below hbV hBD.lt).kept (hU.block _ (by have := hs3; omega))⟩))
 rw [hs2] at HC
 generalize rwE s (sval p) (F.wrE (fi (tgt s (sval p))) off d) = K at HC ⊢
 generalize filN s (tgt s (sval p)) (F.wrF (fi (tgt s (sval p))) off d) = s' at HC ⊢
 obtain ⟨post, hpost⟩ : ∃ post : Ending → World → Prop, post = Wrote s [p] K s' d.length w := ⟨_, rfl⟩
 have HPo : Hid ((∀ k w', ((¬ Ok s ∧ k = 9) ∨ (Ok s ∧ psE [p] ≠ 0 ∧ k = psE [p]) ∨ (Ok s ∧ psE [p] = 0 ∧ K ≠ 0 ∧ k = K)) → Below w.heap.size w w' → post (.returned (.tuple #[.agg #[.slice none 0 0, .int .i64 0], .int .i64 0, .int .i64 k])) w') ∧ (∀ v w', Ok s → psE [p] = 0 → K = 0 → ndsN.lies w.heap.size w' [v] s'.1 → Below w.heap.size w w' → post (.returned (.tuple #[.agg #[v, .int .i64 s'.2], .int .i64 d.length, .int .i64 0])) w')) :=
   ⟨fun k w' h1 h2 => by rw [hpost]; exact ⟨.inl ⟨k, rfl, h1⟩, h2⟩, fun v w' h1 h2 h3 h4 h5 => by rw [hpost]; exact ⟨.inr ⟨v, rfl, h1, h2, h3, h4⟩, h5⟩⟩
 rw [← hpost]
 have HB : Hid (Box W3 (w.heap.size + 1 + 1 + 1) 29 #[.slice none 0 0, .int .i64 0] ∧ Box W3 (w.heap.size + 1 + 1) 25 #[.slice da d.length dc] ∧ Below w.heap.size w W3 ∧ W3.heap.size = w.heap.size + 1 + 1 + 1 + 1 + 1) := ⟨hBR, hBD, hb3, hs3⟩
 obtain ⟨g0, g1, -, -⟩ := hBS.two
 rw [hW2, hV2, hV1, hW1] at g0 g1
 obtain ⟨n, hn⟩ := exa (s.1.length)
 obtain ⟨nx, hnx⟩ := exa (s.2)
 obtain ⟨dl, hdl⟩ := exa (d.length)
 have hlen := run_len Tryz.underlying25 da dl dc
 rw [← hdl] at hV2 g0 g1 HPo HB ⊢
 rw [← hn] at HC hW1 g0 g1 ⊢
 rw [← hnx] at HC hW1 g0 g1 ⊢
 clear hA hg hp hb1 hbv hbv2 hb2 hb3 hBR hBS hBT hBQ hBD hX hn hnx hpost hs1 hsv hsv2 hs2 hs3 ho hdl hv
 go_enter Tryz.func12, Tryz.ntmps12
 go_wp2_with fail
 rw [← hW1, ← hV1, ← hV2, ← hW2, ← hW3]
 clear hW1 hV1 hV2 hW2 hW3 g0 g1
 refine HC.mono ?_
 rintro e4 w4 ⟨⟨k, rfl, hk⟩ | ⟨v, rfl, h1, h2, h3, h4⟩, hb4⟩
 · have hk0 : k ≠ 0 := by
     rcases hk with ⟨_, h⟩ | ⟨_, h, h'⟩ | ⟨_, _, h, h'⟩
     · omega
     · rw [h']; exact h
     · rw [h']; exact h
   have HK : Hid ((¬ Ok s ∧ k = 9) ∨ (Ok s ∧ psE [p] ≠ 0 ∧ k = psE [p]) ∨ (Ok s ∧ psE [p] = 0 ∧ K ≠ 0 ∧ k = K)) := hk
   obtain ⟨W5, hW5⟩ := exa (w4.alloc (.cells #[.slice none 0 0, .int .i64 0] 29))
   have hb5 : Below W3.heap.size W3 W5 := by rw [hW5]; exact hb4.alloc hb4.size _
   have H5 : Hid (Below w.heap.size w W5) := below_any HB.out.2.2.1 hb5
   obtain ⟨d0, d1, e0, e1⟩ := (HB.out.1.below hb5 HB.out.1.lt).two
   rw [hW5] at d0 d1 e0 e1
   clear hk hb4 hb5 HC
   go_wp2
   refine bodyPost_ret (v := .tuple #[.agg #[.slice none 0 0, .int .i64 0], .int .i64 0, .int .i64 k]) (by simp [results, Tryz.results12, go_sem, *]) rfl (HPo.out.1 k _ HK.out ?_)
   rw [← hW5]
   exact below_set2 H5.out (by omega) _ _
 · obtain ⟨a3, c3, hve, -, -⟩ := Shape.list_len (S := ndN) (ht := Tryz.underlying27) (hc := cells27) h4
   obtain rfl : v = _ := by simpa using hve
   obtain ⟨W5, hW5⟩ := exa (w4.alloc (.cells #[.slice a3 s'.1.length c3, .int .i64 s'.2] 29))
   have hb5 : Below W3.heap.size W3 W5 := by rw [hW5]; exact hb4.alloc hb4.size _
   have hBN : Box W5 w4.heap.size 29 #[.slice a3 s'.1.length c3, .int .i64 s'.2] := by rw [hW5]; exact Box.new _ _ _
   have H5 : Hid (Below w.heap.size w W5 ∧ ndsN.lies W3.heap.size W5 [.slice a3 s'.1.length c3] s'.1 ∧ Ok s ∧ psE [p] = 0 ∧ K = 0) := ⟨below_any HB.out.2.2.1 hb5, by rw [hW5]; exact ndsN.keep h4 (.alloc _ _ _), h1, h2, h3⟩
   obtain ⟨d0, d1, e0, e1⟩ := (HB.out.1.below hb5 HB.out.1.lt).two
   have q0 := (HB.out.2.1.below hb5 HB.out.2.1.lt).cell 0 rfl
   obtain ⟨x0, x1, -, -⟩ := hBN.two
   obtain ⟨n', hn'⟩ := exa (s'.1.length)
   obtain ⟨nx', hnx'⟩ := exa (s'.2)
   rw [← hn'] at x0 hW5 H5 ⊢
   rw [← hnx'] at x1 hW5 HPo ⊢
   rw [← hn', ← hnx'] at hBN
   have hne : w4.heap.size ≠ w.heap.size + 1 + 1 + 1 := by have := hb4.size; have := HB.out.2.2.2; omega
   have hBN2 := (hBN.other (i := 0) (x := .slice a3 n' c3) hne).other (i := 1) (x := .int .i64 nx') hne
   obtain ⟨z0, z1, -, -⟩ := hBN2.two
   have z2 := (((HB.out.2.1.below hb5 HB.out.2.1.lt).other (B' := w.heap.size + 1 + 1 + 1) (i := 0) (x := .slice a3 n' c3) (by omega)).other (B' := w.heap.size + 1 + 1 + 1) (i := 1) (x := .int .i64 nx') (by omega)).cell 0 rfl
   have HZ : Hid (W3.heap.size = w.heap.size + 1 + 1 + 1 + 1 + 1) := HB.out.2.2.2
   clear hve h1 h2 h3 h4 hb4 hb5 HC hBN hBN2 hn' hnx' hne
   go_wp2
   rw [← hW5]
   clear hW5
   go_region_held3 (fun U => U.cell? ⟨w4.heap.size, 0, none⟩ = some (.slice a3 n' c3) ∧ U.cell? ⟨w4.heap.size, 1, none⟩ = some (.int .i64 nx') ∧ U.cell? ⟨w.heap.size + 1 + 1, 0, none⟩ = some (.slice da dl dc)) (first | exact ⟨x0, x1, q0⟩ | exact ⟨z0, z1, z2⟩ | go_keep) (fail)
   go_wp2
   refine bodyPost_ret (v := .tuple #[.agg #[.slice a3 n' c3, .int .i64 nx'], .int .i64 dl, .int .i64 0]) (by simp [results, Tryz.results12, go_sem, *]) rfl (HPo.out.2 _ _ H5.out.2.2.1 H5.out.2.2.2.1 H5.out.2.2.2.2 ?_ ?_)
   · exact ndsN.weaken (n := W3.heap.size) (ndsN.keep H5.out.2.1 (.set2 (by have := HZ.out; omega))) (by have := HZ.out; omega)
   · exact below_set2 (B := w.heap.size + 1 + 1 + 1) (W := W5.drew) H5.out.1.drew (by omega) _ _
end Go.Proofs.YtopcefhncildnaaGreatDoor
namespace Go.Proofs.YtopcefhncildnaaGreatDoor
open D (En nameOk inoOk Good Chk there fnd ins del aerr)
open F (Fl chk)
open P (serr sval)
theorem sval_ok {p : ByteArray} (h : serr p = 0) : (sval p).length ≤ 8 ∧ ∀ x ∈ sval p, nameOk x = true := by
 have h1 := P.serr_zero.1 h
 rw [P.sval_zero h]
 exact ⟨h1.2.2.2, fun x hx => List.all_eq_true.1 h1.2.2.1 x hx⟩
theorem aerr_zero {l : List En} {e : En} (h : aerr l e = 0) : Chk l ∧ nameOk e.1 = true ∧ inoOk e.2 = true ∧ there l e.1 = false ∧ l.length < 63 := by
 unfold aerr at h
 split at h
 case isFalse => omega
 rename_i hck
 split at h
 case isFalse => omega
 rename_i a1
 split at h
 case isFalse => omega
 rename_i a2
 split at h
 case isTrue => omega
 rename_i a3
 split at h
 case isTrue => omega
 rename_i a4
 exact ⟨hck, a1, a2, by simpa using a3, by have := hck.1; omega⟩
theorem ahd_len {xs : List ByteArray} (h : xs ≠ []) : (ahd xs).length + 1 = xs.length := by
 have := List.length_pos_iff.2 h
 simp [ahd]; omega
theorem hold_wlk {s : St} (hK : Wk s) {xs : List ByteArray} (h : (wlk s.1 1 (ahd xs)).2 = 0) : hold s xs ∈ s.1 ∧ Wlk s.1 1 (ahd xs) (hold s xs).1 := ⟨(hK.lead h).1, (hK.lead h).2.2⟩
theorem mk_zero {s : St} (h : Ok s) {xs : List ByteArray} (he : mkE s xs = 0) : vacE s.1 xs = 0 ∧ s.1.length < 128 ∧ s.2 < 2147483647 ∧ aerr (en (hold s xs)) (lst xs, s.2) = 0 := by
 unfold mkE at he
 split at he
 · rename_i c; exact absurd he c
 rename_i c
 split at he
 · omega
 rename_i d
 have h1 := h.wk.len
 have h2 := h.wk.nx
 exact ⟨by omega, by omega, by omega, he⟩
theorem mk_ok {s : St} (h : Ok s) {xs : List ByteArray} (hl : xs.length ≤ 8) (he : mkE s xs = 0) (b : Bool) : Ok (mkN s (hold s xs) (lst xs) b) := by
 obtain ⟨h1, h2, h3, h4⟩ := mk_zero h he
 obtain ⟨v1, v2, v3, v4, v5, v6⟩ := vac_zero h.wk h1
 obtain ⟨a1, a2, a3, a4, a5⟩ := aerr_zero h4
 have hw := wlk_way h.wk.up (hold_wlk h.wk v2).2
 have := ahd_len v1
 exact ok_make h v3 v5 a2 a4 a5 h2 h3 hw (by omega) b F.chk_nil ⟨by simp, D.fine_nil⟩
theorem drop_ok {s : St} (h : Ok s) {xs : List ByteArray} (hne : xs ≠ []) (hw : (wlk s.1 1 xs).2 = 0) (he : en (tgt s xs) = []) : Ok (dropN s (hold s xs) (lst xs) (tgt s xs)) := by
 obtain ⟨q1, q2, q3, q4, q5⟩ := h.wk.stands hne hw
 exact ok_drop h q1 (h.wk.lead hw).1 q4 he
theorem fil_ok {s : St} (h : Ok s) {xs : List ByteArray} (he : filE s.1 xs = 0) : xs ≠ [] ∧ (wlk s.1 1 xs).2 = 0 ∧ en (tgt s xs) = [] ∧ isD (tgt s xs) = false ∧ chk (fi (tgt s xs)) = true ∧ tgt s xs ∈ s.1 := by
 obtain ⟨h1, h2⟩ := fil_zero he
 have h3 := h.wk.files _ (h.wk.lead h1).1 h2
 exact ⟨h.wk.file_ne h2, h1, h3.1, h2, h3.2, (h.wk.lead h1).1⟩
theorem unlink_ok {s : St} (h : Ok s) {xs : List ByteArray} (he : filE s.1 xs = 0) : Ok (dropN s (hold s xs) (lst xs) (tgt s xs)) := by
 obtain ⟨h1, h2, h3, _⟩ := fil_ok h he
 exact drop_ok h h1 h2 h3
theorem rmdir_ok {s : St} (h : Ok s) {xs : List ByteArray} (he : rmE s xs = 0) : Ok (dropN s (hold s xs) (lst xs) (tgt s xs)) := by
 obtain ⟨h1, h2, h3⟩ := rm_zero he
 exact drop_ok h h1 (dir_zero h2).1 (List.eq_nil_of_length_eq_zero h3)
theorem ln_zero {s : St} (h : Ok s) {xs ys : List ByteArray} (he : lnE s xs ys = 0) : filE s.1 xs = 0 ∧ vacE s.1 ys = 0 ∧ lk (tgt s xs) < 16 ∧ aerr (en (hold s ys)) (lst ys, (tgt s xs).1) = 0 := by
 unfold lnE at he
 split at he
 · rename_i c; exact absurd he c
 rename_i c
 split at he
 · rename_i d; exact absurd he d
 rename_i d
 split at he
 · omega
 rename_i e
 have c' : filE s.1 xs = 0 := by omega
 obtain ⟨f1, f2, f3, f4, f5, f6⟩ := fil_ok h c'
 have := ok_lks h f1 f2
 exact ⟨c', by omega, by omega, he⟩
theorem link_ok {s : St} (h : Ok s) {xs ys : List ByteArray} (hl : ys.length ≤ 8) (he : lnE s xs ys = 0) : Ok (lnkN s (hold s ys) (lst ys) (tgt s xs)) := by
 obtain ⟨h1, h2, h3, h4⟩ := ln_zero h he
 obtain ⟨f1, f2, f3, f4, f5, f6⟩ := fil_ok h h1
 obtain ⟨v1, v2, v3, v4, v5, v6⟩ := vac_zero h.wk h2
 obtain ⟨a1, a2, a3, a4, a5⟩ := aerr_zero h4
 have hw := wlk_way h.wk.up (hold_wlk h.wk v2).2
 have := ahd_len v1
 exact ok_link h v3 v5 f6 f4 a2 a4 a5 h3 hw (by omega)
theorem chk_bounds {f : Fl} (h : chk f = true) : 0 ≤ f.1 ∧ f.1 ≤ 2432 := (F.chk_iff.1 h).1
theorem wr_zero {f : Fl} {off : Int} {d : List Int} (h : F.wrE f off d = 0) : chk f = true ∧ 0 ≤ off ∧ (d.length = 0 ∨ off + d.length ≤ 2432) ∧ F.wrF f off d = F.mk (F.wrT (F.txt f) off.toNat d) ∧ (F.wrT (F.txt f) off.toNat d).length ≤ 2432 := by
 have h0 := h
 unfold F.wrE at h
 split at h
 · omega
 rename_i c
 have c' : chk f = true := by simpa using c
 have hb := chk_bounds c'
 split at h
 · omega
 rename_i d1
 refine ⟨c', by omega, ?_, ?_, ?_⟩
 · split at h
   · rename_i e; exact .inl e
   · split at h
     · omega
     · rename_i e; exact .inr (by omega)
 · unfold F.wrF; rw [if_pos h0]
 · split at h
   · rename_i e
     rw [F.wrT_none _ e, F.txt_length]; omega
   · rename_i e
     split at h
     · omega
     · rw [F.wrT_length e, F.txt_length]; omega
theorem wrF_chk {f : Fl} {off : Int} {d : List Int} (h : F.wrE f off d = 0) : chk (F.wrF f off d) = true := by
 obtain ⟨_, _, _, h4, h5⟩ := wr_zero h
 rw [h4]; exact F.chk_mk h5
theorem trF_chk {f : Fl} {n : Int} (h : F.trE f n = 0) : chk (F.trF f n) = true := by
 have h0 := h
 unfold F.trE at h
 split at h
 · omega
 split at h
 · omega
 split at h
 · omega
 unfold F.trF; rw [if_pos h0]
 exact F.chk_mk (by rw [F.cutT_length]; omega)
theorem rw_zero {s : St} {xs : List ByteArray} {k : Int} (h : rwE s xs k = 0) : filE s.1 xs = 0 ∧ k = 0 := by
 unfold rwE at h
 split at h
 · rename_i c; exact absurd h c
 · rename_i c; exact ⟨by omega, h⟩
theorem write_ok {s : St} (h : Ok s) {xs : List ByteArray} {off : Int} {d : List Int} (he : rwE s xs (F.wrE (fi (tgt s xs)) off d) = 0) : Ok (filN s (tgt s xs) (F.wrF (fi (tgt s xs)) off d)) := by
 obtain ⟨h1, h2⟩ := rw_zero he
 obtain ⟨_, _, _, f4, _, f6⟩ := fil_ok h h1
 exact ok_file h f6 f4 (wrF_chk h2)
theorem trunc_ok {s : St} (h : Ok s) {xs : List ByteArray} {n : Int} (he : rwE s xs (F.trE (fi (tgt s xs)) n) = 0) : Ok (filN s (tgt s xs) (F.trF (fi (tgt s xs)) n)) := by
 obtain ⟨h1, h2⟩ := rw_zero he
 obtain ⟨_, _, _, f4, _, f6⟩ := fil_ok h h1
 exact ok_file h f6 f4 (trF_chk h2)
theorem way_sub {l l' : List Nd} (h : ∀ j, ∀ e ∈ kid l' j, e ∈ kid l j) : ∀ {k : Nat} {i x : Int}, Way l' k i x → Way l k i x
 | 0, _, _, hw => hw
 | _ + 1, i, _, ⟨e, he, hw⟩ => ⟨e, h i e he, way_sub h hw⟩
theorem dpt_sub {l l' : List Nd} (h : ∀ j, ∀ e ∈ kid l' j, e ∈ kid l j) : ∀ (k : Nat) (i : Int), dpt l' k i ≤ dpt l k i
 | 0, _ => Nat.le_refl _
 | k + 1, i => by (
 rw [dpt, foldmax_le]
 refine ⟨Nat.zero_le _, fun e he => ?_⟩
 have h1 := dpt_sub h k e.2
 have h2 := ((foldmax_le (fun e : En => 1 + dpt l k e.2) (dpt l (k + 1) i) (kid l i) 0).1 (Nat.le_refl _)).2 e (h i e he)
 omega)
theorem ren_zero {s : St} {xs ys : List ByteArray} (h : renE s xs ys = 0) : xs ≠ [] ∧ ys ≠ [] ∧ (wlk s.1 1 xs).2 = 0 ∧ stdE s.1 ys = 0 ∧ (isD (tgt s xs) = true → isB xs ys = false) ∧
   (stdT s.1 ys ≠ (tgt s xs).1 → (stdT s.1 ys ≠ 0 → cwE s xs ys = 0) ∧ aerr (en (gt (ren2 s xs ys) (stdI s.1 ys))) (lst ys, (tgt s xs).1) = 0 ∧ ys.length + dpt s.1 8 (tgt s xs).1 ≤ 8) := by
 unfold renE at h
 split at h
 · omega
 rename_i c1
 split at h
 · rename_i c; exact absurd h c
 rename_i c2
 split at h
 · rename_i c; exact absurd h c
 rename_i c3
 split at h
 · omega
 rename_i c4
 refine ⟨fun e => c1 (.inl e), fun e => c1 (.inr e), by omega, by omega, fun hd => ?_, fun hne => ?_⟩
 · cases hB : isB xs ys
   · rfl
   · exact absurd ⟨hd, hB⟩ c4
 rw [if_neg hne] at h
 split at h
 · rename_i c; exact absurd h c.2
 rename_i c5
 split at h
 · rename_i c; exact absurd h c
 rename_i c6
 split at h
 · omega
 rename_i c7
 refine ⟨fun h0 => ?_, by omega, by omega⟩
 apply Classical.byContradiction
 intro h1
 exact c5 ⟨h0, h1⟩
theorem ren_move {s : St} (h : Ok s) {xs ys : List ByteArray} (he : renE s xs ys = 0) (hst : stdT s.1 ys ≠ (tgt s xs).1) :
   Ok (ren1 s ys) ∧ wlk (ren1 s ys).1 1 xs = ((tgt s xs).1, 0) ∧ ∃ q ∈ (ren1 s ys).1, q.1 = (hold s ys).1 ∧ isD q = true ∧ Wlk (ren1 s ys).1 1 (ahd ys) q.1 ∧ (ren1 s ys).2 = s.2 ∧
     renS s xs ys = movN (ren1 s ys) (hold (ren1 s ys) xs) (lst xs) q (lst ys) (tgt s xs).1 ∧ aerr (qeN (hold (ren1 s ys) xs) (lst xs) q) (lst ys, (tgt s xs).1) = 0 ∧ (∀ j, ∀ e ∈ kid (ren1 s ys).1 j, e ∈ kid s.1 j) := by
 obtain ⟨hx0, hy0, hx, hs, hnb, hrest⟩ := ren_zero he
 obtain ⟨hcw, hae, hlong⟩ := hrest hst
 obtain ⟨c1, c2, c3, c4, c5, m, hm, hm1, hm2⟩ := ren_clear h hx0 hy0 hx hs hst hcw
 obtain ⟨d1, d2, d3, d4, -, d6⟩ := ren_struck h hx0 hy0 hx hs hst hcw
 obtain ⟨y1, y2, y3, y4, y5⟩ := std_zero h.wk hs
 obtain ⟨b1, b2, b3, b4, b5⟩ := c1.wk.stands hx0 (by rw [c2])
 have hq : en (gt (ren2 s xs ys) (stdI s.1 ys)) = qeN (hold (ren1 s ys) xs) (lst xs) m := by (
 have hmem := (mem_ch' c1.wk.up b1 (f := wE (del (en (hold (ren1 s ys) xs)) (lst xs)))).1 d2
 unfold qeN
 rcases hmem with ⟨k1, k2⟩ | k1
 · rw [d3, ← hm1] at k2
   rw [if_neg k2, ups_eq c1.wk.up k1 hm (by rw [d3, hm1])]
 · have k2 : m.1 = (hold (ren1 s ys) xs).1 := by rw [hm1, ← d3, k1]; rfl
   rw [if_pos k2, k1]; rfl)
 have hkid : ∀ j, ∀ e ∈ kid (ren1 s ys).1 j, e ∈ kid s.1 j := fun j e hj => by (
 by_cases hh : j = (hold s ys).1
 · unfold ren1 at hj
   split at hj
   · exact hj
   · rename_i h0
     obtain ⟨w1, w2⟩ := cw_zero h.wk (hcw h0)
     obtain ⟨z1, z2, z3⟩ := h.wk.lead w1
     obtain ⟨q1, q2, q3, q4, q5⟩ := h.wk.stands hy0 w1
     rw [kid_dropped h.wk q1 z1 q4 w2, if_pos hh] at hj
     rw [hh, kid_of h.wk.up q1]
     exact (D.mem_del (h.wk.dirs _ q1 q3).1 hj).1
 · rw [c5 j hh] at hj; exact hj)
 refine ⟨c1, c2, m, hm, hm1.trans y3, hm2, ?_, c3, ?_, ?_, hkid⟩
 · rw [hm1, y3]
   have hW := (hold_wlk h.wk y1).2
   unfold ren1
   split
   · exact hW
   · rename_i h0
     obtain ⟨w1, w2⟩ := cw_zero h.wk (hcw h0)
     obtain ⟨z1, z2, z3⟩ := h.wk.lead w1
     obtain ⟨q1, q2, q3, q4, q5⟩ := h.wk.stands hy0 w1
     refine wlk_dropped h.wk q1 z1 q4 w2 hW fun e => ?_
     rw [ups_eq h.wk.up q1 z1 e, w2] at q4
     cases q4
 · unfold renS
   rw [if_neg hst]
   unfold movN ren3
   rw [c3, hq, hm1]
   rfl
 · rw [← hq]; exact hae
theorem rename_ok {s : St} (h : Ok s) {xs ys : List ByteArray} (hl : ys.length ≤ 8) (he : renE s xs ys = 0) : Ok (renS s xs ys) := by
 by_cases hst : stdT s.1 ys = (tgt s xs).1
 · unfold renS; rw [if_pos hst]; exact h
 obtain ⟨c1, c2, q, hq, hq1, hq2, hw, c3, hS, hae, hkid⟩ := ren_move h he hst
 obtain ⟨hx0, hy0, hx, hs, hnb, hrest⟩ := ren_zero he
 obtain ⟨hcw, _, hlong⟩ := hrest hst
 obtain ⟨y1, y2, y3, y4, y5⟩ := std_zero h.wk hs
 obtain ⟨b1, b2, b3, b4, b5⟩ := c1.wk.stands hx0 (by rw [c2])
 have hN := c1.wk.lead (xs := xs) (by rw [c2])
 have hN1 : (tgt (ren1 s ys) xs).1 = (tgt s xs).1 := by rw [← hN.2.1, c2]
 obtain ⟨a1, a2, a3, a4, a5⟩ := aerr_zero hae
 rw [hS, ← hN1]
 have hal := ahd_len hy0
 have hdd : isD (tgt (ren1 s ys) xs) = true → isD (tgt s xs) = true := fun hd => by (
 unfold ren1 at hd hN1 hN c2
 split at hd
 · exact hd
 · rename_i h0
   rw [if_neg h0] at hN1 hN
   obtain ⟨w1, w2⟩ := cw_zero h.wk (hcw h0)
   obtain ⟨z1, z2, z3⟩ := h.wk.lead w1
   obtain ⟨q1, q2, q3, q4, q5⟩ := h.wk.stands hy0 w1
   have hL := h.wk.lead hx
   have hnz : (tgt s xs).1 ≠ (tgt s ys).1 := fun e => hst (by
     rw [y5]
     unfold entC
     rw [if_neg (by rw [y4]; decide), if_neg (by rw [q5]; decide), e]
     exact D.fnd_mem (h.wk.dirs _ q1 q3).1 q4)
   have hmm := mem_dropped h.wk q1 hL.1 hnz (lst ys)
   have := ups_eq (Ok.wk (by have := c1; unfold ren1 at this; rw [if_neg h0] at this; exact this)).up hN.1 hmm (by
     rw [hN1]
     by_cases hc : (tgt s xs).1 = (hold s ys).1
     · rw [if_pos hc]; exact hc
     · rw [if_neg hc])
   rw [this] at hd
   by_cases hc : (tgt s xs).1 = (hold s ys).1
   · rw [ups_eq h.wk.up hL.1 q1 hc]; exact q3
   · rw [if_neg hc] at hd; exact hd)
 refine ok_move c1 b1 hq hq2 hN.1 b4 a2 (by rw [hN1] at *; exact a4) a5 (wlk_way c1.wk.up hw) (by omega) (fun hd j hj => ?_) (fun hd => ?_)
 · rw [hN1, hq1] at hj
   exact not_below h hy0 hx y1 y4 (hnb (hdd hd)) j (way_sub hkid hj)
 · have := dpt_sub hkid 8 (tgt s xs).1
   rw [hN1]; omega
end Go.Proofs.YtopcefhncildnaaGreatDoor
namespace Go.Proofs.YtopcefhncildnaaGreatDoor
open D (En nameOk inoOk Good Chk there fnd ins del aerr)
open F (Fl chk rdE rdO wrE wrF)
open P (serr sval)
theorem ok_new : Ok ([rootN], 2) := by
 have hm : ∀ n ∈ [rootN], n = rootN := fun n hn => List.mem_singleton.1 hn
 refine ⟨⟨by decide, by decide, List.pairwise_singleton _ _, fun n hn => ?_, ⟨rootN, List.mem_singleton.2 rfl, rfl, rfl⟩, fun n hn _ => ?_, fun n hn hd => ?_, fun n hn e he => ?_, fun n hn => ?_, fun n hn _ => ?_, fun n hn h1 => ?_, fun n hn h1 => ?_⟩, fun _ => 0, rfl, fun n hn _ e he => ?_⟩
 · rw [hm n hn]; decide
 · rw [hm n hn]; exact ⟨⟨by decide, D.fine_nil⟩, rfl⟩
 · rw [hm n hn] at hd; cases hd
 · rw [hm n hn] at he; cases he
 · rw [hm n hn]; rfl
 · rw [hm n hn]; rfl
 · rw [hm n hn] at h1; exact absurd rfl h1
 · rw [hm n hn] at h1; exact absurd rfl h1
 · rw [hm n hn] at he; cases he
end Go.Proofs.YtopcefhncildnaaGreatDoor
