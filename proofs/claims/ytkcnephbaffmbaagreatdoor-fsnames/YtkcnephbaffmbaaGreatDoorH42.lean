/-
  fs.Read: what it answers.
  Plain mathematics: what is renamed is found by the new name, and by the old one no more; renamed back all is as it was, if nothing stood there.
  fs.rename.
  fs.Rename: what it answers.
  What each op tells, in one word for all its answers: its error's number and the state.
  Plain mathematics: the page's example.
  Plain mathematics: whether there is room for what is renamed.
-/
import Derived.Test.YtkcnephbaffmbaaGreatDoorH41
set_option maxRecDepth 100000
set_option maxHeartbeats 16000000
namespace Go.Proofs.YtkcnephbaffmbaaGreatDoor
open Go.RowKit
open F (Fl flN bksN rdE rdO)
open P (ArgT OwnT tv serr sval)
def frE (s : St) (xs : List ByteArray) (off n : Int) : Int := if filE s.1 xs ≠ 0 then filE s.1 xs else rdE (fi (tgt s xs)) off n
def frO (s : St) (xs : List ByteArray) (off n : Int) : List Int := if filE s.1 xs ≠ 0 then [] else rdO (fi (tgt s xs)) off n
def HoldsO (base : Nat) (O : List Int) (Q : Nat) (w : World) : Prop := ∃ a c, Box w Q 47 #[.slice a O.length c] ∧ Arg base w (.slice a O.length c) O
theorem HoldsO.below {base : Nat} {O : List Int} {Q : Nat} {w w' : World} (h : HoldsO base O Q w) (hb : Below w.heap.size w w') : HoldsO base O Q w' := by
 obtain ⟨a, c, h1, h2⟩ := h
 exact ⟨a, c, h1.below hb h1.lt, h2.below hb⟩
theorem HoldsO.nil {base : Nat} {w : World} {Q : Nat} (h : Box w Q 47 #[.slice none 0 0]) : HoldsO base [] Q w := ⟨none, 0, h, .mk ⟨rfl, .inl ⟨rfl, rfl⟩⟩ (fun _ h => by cases h)⟩
theorem OwnL.at2 {base : Nat} {w : World} {v : Value} {ps : List ByteArray} (h : OwnL base w v ps) (i : Nat) (p : ByteArray) (hp : ps[i]? = some p) :
   ∃ b o a c, (∀ W, (Instr.indexAt 89 v (.int .i64 i)).run Tryz.prog W = .ok (.pointer (some ⟨b, o, none⟩)) W) ∧ w.cell? ⟨b, o, none⟩ = some (.slice a (sval p).length c) ∧ ArgT base w (.slice a (sval p).length c) (sval p) ∧ base ≤ b := by
 obtain ⟨us, h1, h2⟩ := h
 obtain ⟨u, hu, hT⟩ := h2.get hp
 obtain ⟨a, c, rfl⟩ := hT.shape
 obtain ⟨i0, hi0, _, hz, _⟩ := info_parts Tryz.info59
 have hC : Cells base w 1 v ps.length us := .own h1
 obtain ⟨b, o, hix, hb, hc⟩ := hC.index (by omega) Tryz.underlying89 hi0 hz i (List.getElem?_eq_some_iff.1 hp).1
 exact ⟨b, o, a, c, hix, hc 0 _ (by simpa using hu), hT.arg, hb⟩
theorem read_split {fe wi : Int} {l : List Nd} {v : Value} {e : Ending} (h : (fe ≠ 0 ∧ (∃ E, e = .returned (.tuple #[.pointer none, E]) ∧ EV fe E)) ∨ (fe = 0 ∧ ∃ k p b o, l[k]? = some p ∧ p.1 = wi ∧ (∀ W, (Instr.indexAt 25 v (.int .i64 (k : Nat))).run Tryz.prog W = .ok (.pointer (some ⟨b, o, none⟩)) W) ∧ e = .returned (.tuple #[.pointer (some ⟨b, o, none⟩), .nilIface]))) :
   ∃ R1 R2, e = .returned (.tuple #[R1, R2]) ∧ ((fe ≠ 0 ∧ R1 = .pointer none ∧ EV fe R2) ∨ (fe = 0 ∧ R2 = .nilIface ∧ ∃ k q b o, l[k]? = some q ∧ q.1 = wi ∧ (∀ W, (Instr.indexAt 25 v (.int .i64 (k : Nat))).run Tryz.prog W = .ok (.pointer (some ⟨b, o, none⟩)) W) ∧ R1 = .pointer (some ⟨b, o, none⟩))) := by
 rcases h with ⟨h0, E, rfl, h⟩ | ⟨h0, k, p, b, o, h1, h2, h3, rfl⟩
 · exact ⟨_, _, rfl, .inl ⟨h0, rfl, h⟩⟩
 · exact ⟨_, _, rfl, .inr ⟨h0, rfl, k, p, b, o, h1, h2, h3, rfl⟩⟩
theorem readDo_any (n0 : Nat) (a : Option Addr) (c : Nat) (s : St) (hK : Wk s) (p : ByteArray) (off nn : Int) (ho : I64 off) (hn : I64 nn) (B Q1 Q2 Q : Nat) (v2 : Value) (w0 V : World) (hA : ndsN.lies n0 w0 [.slice a s.1.length c] s.1) (hb : Below w0.heap.size w0 V) (hB : Box V B 27 #[.slice a s.1.length c, .int .i64 s.2]) (hL : OwnL w0.heap.size V v2 [p]) (hQ1 : Box V Q1 3 #[.int .i64 off]) (hQ2 : Box V Q2 3 #[.int .i64 nn]) (hQ : Box V Q 47 #[.slice none 0 0]) (hQw : Q < w0.heap.size) :
   Calls Tryz.prog 91 #[.pointer (some ⟨B, 0, none⟩), v2, .pointer (some ⟨Q1, 0, none⟩), .pointer (some ⟨Q2, 0, none⟩), .pointer (some ⟨Q, 0, none⟩)] V fun e w' => (∃ E, e = .returned E ∧ EV (frE s (sval p) off nn) E) ∧ V.grownBy w' (some Q) ∧ HoldsO w0.heap.size (frO s (sval p) off nn) Q w' := by
 obtain ⟨pb, po, pa, pc, hix, hpc, hT, hpb⟩ := hL.at2 0 p rfl
 have HPB : Hid (w0.heap.size ≤ pb) := hpb
 have hix : ∀ W, (Instr.indexAt 89 v2 (.int .i64 0)).run Tryz.prog W = .ok (.pointer (some ⟨pb, po, none⟩)) W := hix
 have HC := findFile_any n0 _ a c s hK pa pc (sval p) V.drew (ndsN.below hA (below_any hb (Below.refl _ V).drew)) (hT.below (Below.refl _ V).drew)
 obtain ⟨g0, g1, -, -⟩ := hB.two
 have HQ : Hid (Box V Q 47 #[.slice none 0 0] ∧ Box V Q1 3 #[.int .i64 off] ∧ Box V Q2 3 #[.int .i64 nn] ∧ Q < w0.heap.size ∧ w0.heap.size ≤ V.heap.size ∧ V.cell? ⟨pb, po, none⟩ = some (.slice pa (sval p).length pc)) := ⟨hQ, hQ1, hQ2, hQw, hb.size, hpc⟩
 have HNN : Hid (filE s.1 (sval p) = 0 → (wlk s.1 1 (sval p)).1 = (tgt s (sval p)).1 ∧ ∀ q ∈ s.1, q.1 = (tgt s (sval p)).1 → q = tgt s (sval p)) := fun h0 => by (
 have hl := hK.lead (fil_zero h0).1
 refine ⟨hl.2.1, fun q hq he => ?_⟩
 have h1 := gt_of hK.up hq
 have h2 := gt_of hK.up hl.1
 rw [← h1, he, h2])
 have HAV : Hid (∀ W, Below V.heap.size V W → ndsN.lies n0 W [.slice a s.1.length c] s.1) := fun W hW => ndsN.below hA (below_any hb hW)
 have HRE : Hid (frE s (sval p) off nn = (if filE s.1 (sval p) ≠ 0 then filE s.1 (sval p) else rdE (fi (tgt s (sval p))) off nn) ∧ frO s (sval p) off nn = (if filE s.1 (sval p) ≠ 0 then [] else rdO (fi (tgt s (sval p))) off nn) ∧ I64 off ∧ I64 nn) := ⟨rfl, rfl, ho, hn⟩
 generalize frE s (sval p) off nn = re at HRE ⊢
 generalize frO s (sval p) off nn = ro at HRE ⊢
 generalize tgt s (sval p) = T at HNN HRE
 generalize (wlk s.1 1 (sval p)).1 = wi at HC HNN
 generalize filE s.1 (sval p) = fe at HC HNN HRE
 obtain ⟨n, hn'⟩ := exa (s.1.length)
 obtain ⟨nx, hnx⟩ := exa (s.2)
 obtain ⟨m, hm⟩ := exa ((sval p).length)
 obtain ⟨l, hl⟩ := exa (s.1)
 rw [← hn', ← hnx, ← hm, ← hl] at HC
 rw [← hn', ← hl] at HAV
 rw [← hl] at HNN
 rw [← hm] at HQ hpc
 rw [← hn'] at g0
 rw [← hnx] at g1
 have HS0 : V.drew.cell? ⟨B, 0, none⟩ = some (.slice a n c) ∧ V.drew.cell? ⟨B, 1, none⟩ = some (.int .i64 nx) ∧ V.drew.cell? ⟨pb, po, none⟩ = some (.slice pa m pc) := ⟨g0, g1, hpc⟩
 obtain ⟨post, hpost⟩ : ∃ post : Ending → World → Prop, post = fun e w' => (∃ E, e = .returned E ∧ EV re E) ∧ V.grownBy w' (some Q) ∧ HoldsO w0.heap.size ro Q w' := ⟨_, rfl⟩
 have HPo : Hid (∀ E w', EV re E → V.grownBy w' (some Q) → HoldsO w0.heap.size ro Q w' → post (.returned E) w') := fun E w' h1 h2 h3 => by rw [hpost]; exact ⟨⟨_, rfl, h1⟩, h2, h3⟩
 rw [← hpost]
 clear hA hb hB hL hQ hQ1 hQ2 hT hpb hn' hnx hm hl hK hpost ho hn hQw
 go_enter Tryz.func91, Tryz.ntmps91
 go_wp2
 go_region_held3 (fun U => U.cell? ⟨B, 0, none⟩ = some (.slice a n c) ∧ U.cell? ⟨B, 1, none⟩ = some (.int .i64 nx) ∧ U.cell? ⟨pb, po, none⟩ = some (.slice pa m pc))
   (first | with_reducible exact HS1 | with_reducible exact HS0)
   ((first | (go_at_call 92; refine HC.mono ?_; rintro e w1 ⟨hr, hb1⟩; have HS1 : w1.cell? ⟨B, 0, none⟩ = some (.slice a n c) ∧ w1.cell? ⟨B, 1, none⟩ = some (.int .i64 nx) ∧ w1.cell? ⟨pb, po, none⟩ = some (.slice pa m pc) := ⟨by rw [hb1.cell (p := ⟨B, 0, none⟩) (cell_lt HS0.1)]; exact HS0.1, by rw [hb1.cell (p := ⟨B, 1, none⟩) (cell_lt HS0.2.1)]; exact HS0.2.1, by rw [hb1.cell (p := ⟨pb, po, none⟩) (cell_lt HS0.2.2)]; exact HS0.2.2⟩; obtain ⟨R1, R2, rfl, hr2⟩ : ∃ R1 R2, e = .returned (.tuple #[R1, R2]) ∧ ((fe ≠ 0 ∧ R1 = .pointer none ∧ EV fe R2) ∨ (fe = 0 ∧ R2 = .nilIface ∧ ∃ k q b o, l[k]? = some q ∧ q.1 = wi ∧ (∀ W, (Instr.indexAt 25 (.slice a n c) (.int .i64 (k : Nat))).run Tryz.prog W = .ok (.pointer (some ⟨b, o, none⟩)) W) ∧ R1 = .pointer (some ⟨b, o, none⟩))) := read_split hr)))
 have HBL : Hid (Below V.heap.size V w1) := below_any (Below.refl _ V).drew hb1
 have HPC : Hid (w1.cell? ⟨pb, po, none⟩ = some (.slice pa m pc)) := HS1.2.2
 clear hb1 HS0 HS1 g0 g1 HC hpc hr
 rcases hr2 with ⟨hne, rfl, hE⟩ | ⟨h0, rfl, k, q, b, o, hk, hqw, hixq, rfl⟩
 · have hre : re = fe := by rw [HRE.out.1, if_pos hne]
   have hro : ro = [] := by rw [HRE.out.2.1, if_pos hne]
   have HE : Hid (EV re R2 ∧ HoldsO w0.heap.size ro Q w1) := ⟨by rw [hre]; exact hE, by rw [hro]; exact HoldsO.nil (HQ.out.1.below HBL.out HQ.out.1.lt)⟩
   obtain ⟨a2, l2, c2, s2, rfl⟩ : ∃ a2 l2 c2 s2, R2 = refV (.slice a2 l2 c2) fe s2 := by (
 rcases hE with ⟨h, _⟩ | ⟨_, a2, l2, c2, s2, h⟩
 · exact absurd h hne
 · exact ⟨a2, l2, c2, s2, h⟩)
   clear hE hne hre hro
   go_wp2
   exact HPo.out _ _ HE.out.1 (grown_below HBL.out _) HE.out.2
 subst h0
 have hqT : q = T := (HNN.out rfl).2 q (List.mem_of_getElem? hk) (hqw.trans (HNN.out rfl).1)
 subst hqT
 obtain ⟨b', o', e', f', hix', -, hcs, hLN⟩ := nds_atN (HAV.out w1 HBL.out) k q hk
 have hbo := (hix' w1).symm.trans (hixq w1)
 simp only [Result.ok.injEq, Value.pointer.injEq, Option.some.injEq, Addr.mk.injEq, and_true] at hbo
 obtain ⟨rfl, rfl⟩ := hbo
 obtain ⟨fa, fc, hfe, -, -⟩ := Shape.list_len (S := F.bkN) (ht := Tryz.underlying81) (hc := F.cells81) hLN.2.1
 obtain rfl : f' = _ := by simpa using hfe
 obtain ⟨-, -, -, -, c4, c5⟩ := nv_cells hcs
 have HCR := F.read_any n0 _ (fi q) off nn w1.drew (flN.below hLN.file (Below.refl _ w1).drew) HRE.out.2.2.1 HRE.out.2.2.2
 have HR2 : Hid (re = rdE (fi q) off nn ∧ ro = rdO (fi q) off nn) := by (
 have h1 := HRE.out.1
 have h2 := HRE.out.2.1
 rw [if_neg (by decide)] at h1 h2
 exact ⟨h1, h2⟩)
 have q1 := (HQ.out.2.1.below HBL.out HQ.out.2.1.lt).cell 0 rfl
 have q2 := (HQ.out.2.2.1.below HBL.out HQ.out.2.2.1.lt).cell 0 rfl
 generalize (fi q).1 = z0 at c4 HCR
 generalize (fi q).2.length = l0 at c5 HCR
 generalize rdE (fi q) off nn = rke at HCR HR2
 generalize rdO (fi q) off nn = rko at HCR HR2
 have HS0 : w1.drew.cell? ⟨b', o' + 4, none⟩ = some (.int .i64 z0) ∧ w1.drew.cell? ⟨b', o' + 4 + 1, none⟩ = some (.slice fa l0 fc) ∧ w1.drew.cell? ⟨Q1, 0, none⟩ = some (.int .i64 off) ∧ w1.drew.cell? ⟨Q2, 0, none⟩ = some (.int .i64 nn) := ⟨c4, c5, q1, q2⟩
 clear hcs hLN hfe hix' hixq hqw hk c4 c5 q1 q2
 go_wp2
 go_region_held3 (fun U => U.cell? ⟨b', o' + 4, none⟩ = some (.int .i64 z0) ∧ U.cell? ⟨b', o' + 4 + 1, none⟩ = some (.slice fa l0 fc) ∧ U.cell? ⟨Q1, 0, none⟩ = some (.int .i64 off) ∧ U.cell? ⟨Q2, 0, none⟩ = some (.int .i64 nn))
   (first | with_reducible exact HS1 | with_reducible exact HS0)
   ((first | (go_at_call 93; refine HCR.mono ?_; rintro e2 w2 ⟨⟨v3, rfl, hv3⟩, hb2⟩; have HS1 : w2.cell? ⟨b', o' + 4, none⟩ = some (.int .i64 z0) ∧ w2.cell? ⟨b', o' + 4 + 1, none⟩ = some (.slice fa l0 fc) ∧ w2.cell? ⟨Q1, 0, none⟩ = some (.int .i64 off) ∧ w2.cell? ⟨Q2, 0, none⟩ = some (.int .i64 nn) := ⟨by rw [hb2.cell (cell_lt HS0.1)]; exact HS0.1, by rw [hb2.cell (cell_lt HS0.2.1)]; exact HS0.2.1, by rw [hb2.cell (cell_lt HS0.2.2.1)]; exact HS0.2.2.1, by rw [hb2.cell (cell_lt HS0.2.2.2)]; exact HS0.2.2.2⟩)))
 obtain ⟨ra, rc, rfl, -, -, -⟩ := hv3.shape
 have HB2 : Hid (Below V.heap.size V w2) := below_any HBL.out (below_any (Below.refl _ w1).drew hb2)
 have hQ2 := HQ.out.1.below HB2.out HQ.out.1.lt
 have HF : Hid (HoldsO w0.heap.size ro Q (w2.setCell ⟨Q, 0, none⟩ (.slice ra rko.length rc)) ∧ V.grownBy (w2.setCell ⟨Q, 0, none⟩ (.slice ra rko.length rc)) (some Q)) := by (
 refine ⟨?_, (grown_below HB2.out _).trans (grown_set _ _ _ _)⟩
 rw [HR2.out.2]
 refine ⟨ra, rc, hQ2.set 0 _, ?_⟩
 have h1 : Arg w1.heap.size w2 (.slice ra rko.length rc) rko := hv3
 exact (h1.keep (.set (by have := HQ.out.2.2.2; have := HBL.out.size; omega))).weaken (by have := HQ.out.2.2.2; have := HBL.out.size; omega))
 have y0 := hQ2.cell 0 rfl
 have f0 := hQ2.frozen 0
 have pc0 : (w2.setCell ⟨Q, 0, none⟩ (.slice ra rko.length rc)).cell? ⟨pb, po, none⟩ = some (.slice pa m pc) := by (
 have h1 : w2.cell? ⟨pb, po, none⟩ = some (.slice pa m pc) := by
   have h0 : w1.drew.cell? ⟨pb, po, none⟩ = some (.slice pa m pc) := HPC.out
   rw [hb2.cell (cell_lt h0)]; exact h0
 exact (Same.set (n := w0.heap.size) HQ.out.2.2.2.1).cell HPB.out h1)
 generalize rko.length = rl at HF pc0 ⊢
 clear hv3 hb2 hQ2 HS0 HS1 HCR
 by_cases hz : rke = 0
 · have hre : re = 0 := HR2.out.1.trans hz
   subst hz
   have HRZ : Hid (re = 0) := hre
   have hrf := refuse_ok (.slice pa m pc) (w2.setCell ⟨Q, 0, none⟩ (.slice ra rl rc))
   clear hre
   go_wp2_with fail
   refine hrf.mono ?_
   rintro e5 w5 ⟨rfl, rfl⟩
   go_wp2
   exact HPo.out _ _ (by rw [HRZ.out]; exact ev_nil) HF.out.2 HF.out.1
 · have HRZ : Hid (re = rke ∧ rke ≠ 0) := ⟨HR2.out.1, hz⟩
   have hrf := refuse_bad rke hz pa m pc (w2.setCell ⟨Q, 0, none⟩ (.slice ra rl rc))
   go_wp2_with fail
   refine hrf.mono ?_
   rintro e5 w5 ⟨rfl, rfl⟩
   go_wp2
   exact HPo.out _ _ (by rw [HRZ.out.1]; exact ev_ref HRZ.out.2 _ _ _ _) HF.out.2 HF.out.1
theorem Read_any (n0 : Nat) (a : Option Addr) (c : Nat) (s : St) (p : ByteArray) (hp : p.size ≤ maxLen) (off nn : Int) (ho : I64 off) (hn : I64 nn) (w : World) (hA : ndsN.lies n0 w [.slice a s.1.length c] s.1) (hg : Glob w) :
   Calls Tryz.prog 34 #[.agg #[.slice a s.1.length c, .int .i64 s.2], .string p, .int .i64 off, .int .i64 nn] w fun e w' => (∃ v O k, e = .returned (.tuple #[v, .int .i64 k]) ∧ Arg w.heap.size w' v O ∧ ((¬ Ok s ∧ O = [] ∧ k = 9) ∨ (Ok s ∧ serr p ≠ 0 ∧ O = [] ∧ k = serr p) ∨ (Ok s ∧ serr p = 0 ∧ O = frO s (sval p) off nn ∧ k = frE s (sval p) off nn))) ∧ Below w.heap.size w w' := by
 obtain ⟨W1, hW1⟩ := exa (w.alloc (.cells #[.slice a s.1.length c, .int .i64 s.2] 27))
 obtain ⟨V1, hV1⟩ := exa (W1.alloc (.cells #[.int .i64 off] 3))
 obtain ⟨V2, hV2⟩ := exa (V1.alloc (.cells #[.int .i64 nn] 3))
 obtain ⟨W2, hW2⟩ := exa (V2.alloc (.cells #[.slice none 0 0] 47))
 obtain ⟨W3, hW3⟩ := exa (W2.alloc (.cells #[.string p] 9))
 have hb1 : Below w.heap.size w W1 := by rw [hW1]; exact (Below.refl _ w).alloc (Nat.le_refl _) _
 have hbv : Below w.heap.size w V1 := by rw [hV1]; exact hb1.alloc hb1.size _
 have hbv2 : Below w.heap.size w V2 := by rw [hV2]; exact hbv.alloc hbv.size _
 have hb2 : Below w.heap.size w W2 := by rw [hW2]; exact hbv2.alloc hbv2.size _
 have hb3 : Below w.heap.size w W3 := by rw [hW3]; exact hb2.alloc hb2.size _
 have hs1 : W1.heap.size = w.heap.size + 1 := by rw [hW1]; exact Array.size_push _
 have hsv : V1.heap.size = w.heap.size + 1 + 1 := by rw [hV1, ← hs1]; exact Array.size_push _
 have hsv2 : V2.heap.size = w.heap.size + 1 + 1 + 1 := by rw [hV2, ← hsv]; exact Array.size_push _
 have hs2 : W2.heap.size = w.heap.size + 1 + 1 + 1 + 1 := by rw [hW2, ← hsv2]; exact Array.size_push _
 have hs3 : W3.heap.size = w.heap.size + 1 + 1 + 1 + 1 + 1 := by rw [hW3, ← hs2]; exact Array.size_push _
 have hBS : Box W2 w.heap.size 27 #[.slice a s.1.length c, .int .i64 s.2] := by
   have : Box W1 w.heap.size 27 #[.slice a s.1.length c, .int .i64 s.2] := by rw [hW1]; exact Box.new _ _ _
   rw [hW2, hV2, hV1]; exact ((this.alloc _).alloc _).alloc _
 have hBQ1 : Box W3 (w.heap.size + 1) 3 #[.int .i64 off] := by rw [hW3, hW2, hV2, hV1, ← hs1]; exact (((Box.new _ _ _).alloc _).alloc _).alloc _
 have hBQ2 : Box W3 (w.heap.size + 1 + 1) 3 #[.int .i64 nn] := by rw [hW3, hW2, hV2, ← hsv]; exact ((Box.new _ _ _).alloc _).alloc _
 have hBQ : Box W3 (w.heap.size + 1 + 1 + 1) 47 #[.slice none 0 0] := by rw [hW3, hW2, ← hsv2]; exact (Box.new _ _ _).alloc _
 have hBT : Box W3 W2.heap.size 9 #[.string p] := by rw [hW3]; exact Box.new _ _ _
 have hX : ArgT w.heap.size W3 (.slice (some ⟨W2.heap.size, 0, none⟩) 1 1) [p] := argT_box (ps := [p]) hBT hb2.size (by simp [maxLen]) fun q hq => by rw [List.mem_singleton.1 hq]; exact hp
 have HC := look3_any 91 Tryz.call91 (.pointer (some ⟨w.heap.size + 1, 0, none⟩)) (.pointer (some ⟨w.heap.size + 1 + 1, 0, none⟩)) (.pointer (some ⟨w.heap.size + 1 + 1 + 1, 0, none⟩)) n0 w.heap.size a c s (some ⟨W2.heap.size, 0, none⟩) 1 [p] (by simp) W3 (ndsN.below hA hb3) hX (hg.below hb3 hg.lt) (some (w.heap.size + 1 + 1 + 1)) (frE s (sval p) off nn) (HoldsO W3.heap.size (frO s (sval p) off nn) (w.heap.size + 1 + 1 + 1)) (fun V V' h hb => h.below hb)
   (fun r hr => by cases hr; omega)
   (fun hok _ V v2 B hbV hB hBl hL => readDo_any n0 a c s hok.wk p off nn ho hn B (w.heap.size + 1) (w.heap.size + 1 + 1) (w.heap.size + 1 + 1 + 1) v2 W3 V (ndsN.below hA hb3) hbV hB hL (hBQ1.below hbV hBQ1.lt) (hBQ2.below hbV hBQ2.lt) (hBQ.below hbV hBQ.lt) (by omega))
 rw [hs2] at HC
 have hps : psE [p] = serr p := by rw [psE]; split <;> simp_all [psE]
 rw [hps] at HC
 obtain ⟨post, hpost⟩ : ∃ post : Ending → World → Prop, post = fun e w' => (∃ v O k, e = .returned (.tuple #[v, .int .i64 k]) ∧ Arg w.heap.size w' v O ∧ ((¬ Ok s ∧ O = [] ∧ k = 9) ∨ (Ok s ∧ serr p ≠ 0 ∧ O = [] ∧ k = serr p) ∨ (Ok s ∧ serr p = 0 ∧ O = frO s (sval p) off nn ∧ k = frE s (sval p) off nn))) ∧ Below w.heap.size w w' := ⟨_, rfl⟩
 have HPo : Hid (∀ v O k w', Arg w.heap.size w' v O → ((¬ Ok s ∧ O = [] ∧ k = 9) ∨ (Ok s ∧ serr p ≠ 0 ∧ O = [] ∧ k = serr p) ∨ (Ok s ∧ serr p = 0 ∧ O = frO s (sval p) off nn ∧ k = frE s (sval p) off nn)) → Below w.heap.size w w' → post (.returned (.tuple #[v, .int .i64 k])) w') := fun v O k w' h1 h2 h3 => by rw [hpost]; exact ⟨⟨v, O, k, rfl, h1, h2⟩, h3⟩
 rw [← hpost]
 have HB : Hid (Box W3 (w.heap.size + 1 + 1 + 1) 47 #[.slice none 0 0] ∧ Below w.heap.size w W3) := ⟨hBQ, hb3⟩
 generalize frE s (sval p) off nn = fe at HC HPo
 generalize frO s (sval p) off nn = fo at HC HPo
 generalize serr p = pe at HC HPo
 obtain ⟨g0, g1, -, -⟩ := hBS.two
 rw [hW2, hV2, hV1, hW1] at g0 g1
 obtain ⟨n, hn'⟩ := exa (s.1.length)
 obtain ⟨nx, hnx⟩ := exa (s.2)
 rw [← hn'] at HC hW1 g0 g1 ⊢
 rw [← hnx] at HC hW1 g0 g1 ⊢
 clear hA hg hp hb1 hbv hbv2 hb2 hb3 hBQ hBQ1 hBQ2 hBS hBT hX hn' hnx hpost hs1 hsv hsv2 hs2 hs3 ho hn hps
 go_enter Tryz.func34, Tryz.ntmps34
 go_wp2_with fail
 rw [← hW1, ← hV1, ← hV2, ← hW2, ← hW3]
 clear hW1 hV1 hV2 hW2 hW3 g0 g1
 refine HC.mono ?_
 rintro e w4 ⟨r, rfl, hr⟩
 have hq : ∃ O, HoldsO w.heap.size O (w.heap.size + 1 + 1 + 1) w4 ∧ Below w.heap.size w w4 ∧ ((¬ Ok s ∧ O = [] ∧ r = 9) ∨ (Ok s ∧ pe ≠ 0 ∧ O = [] ∧ r = pe) ∨ (Ok s ∧ pe = 0 ∧ O = fo ∧ r = fe)) := by (
 rcases hr with ⟨h1, h2, h3⟩ | ⟨h1, h2, h3, h4⟩ | ⟨h1, h2, h3, h4, h5⟩
 · exact ⟨[], HoldsO.nil (HB.out.1.below h3 HB.out.1.lt), below_any HB.out.2 h3, .inl ⟨h1, rfl, h2⟩⟩
 · exact ⟨[], HoldsO.nil (HB.out.1.below h4 HB.out.1.lt), below_any HB.out.2 h4, .inr (.inl ⟨h1, h2, rfl, h3⟩)⟩
 · obtain ⟨oa, oc, o1, o2⟩ := h5
   exact ⟨_, ⟨oa, oc, o1, o2.weaken HB.out.2.size⟩, HB.out.2.grown h4 HB.out.2.size (fun k hk => by cases hk; omega), .inr (.inr ⟨h1, h2, rfl, h3⟩)⟩)
 obtain ⟨O, ⟨oa, oc, hz, hAo⟩, hbz, hrz⟩ := hq
 have q0 := hz.cell 0 rfl
 have HF : Hid (post (.returned (.tuple #[.slice oa O.length oc, .int .i64 r])) w4) := HPo.out _ _ _ _ hAo hrz hbz
 generalize O.length = ol at q0 HF
 clear hz hbz hrz hr HC hAo
 go_wp2
 exact HF.out
end Go.Proofs.YtkcnephbaffmbaaGreatDoor
namespace Go.Proofs.YtkcnephbaffmbaaGreatDoor
open D (En nameOk inoOk Good Chk there fnd ins del aerr)
open F (Fl chk)
structure Mv (t : St) (p q n : Nd) (x y : ByteArray) (xa ya : List ByteArray) : Prop where
 ok : Ok t
 hp : p ∈ t.1
 hq : q ∈ t.1
 hn : n ∈ t.1
 dp : isD p = true
 dq : isD q = true
 wp : Wlk t.1 1 xa p.1
 wq : Wlk t.1 1 ya q.1
 mem : (x, n.1) ∈ en p
 vac : there (qeN p x q) y = false
 nb : isD n = true → ∀ j, ¬ Way t.1 j n.1 q.1
 ne : ¬ (p.1 = q.1 ∧ x = y)
def mvd (p q : Nd) (x y : ByteArray) (i : Int) (m : Nd) : Nd := if m.1 = q.1 then wE (ins (qeN p x q) (y, i)) m else if m.1 = p.1 then wE (del (en p) x) m else m
theorem mvd_id (p q : Nd) (x y : ByteArray) (i : Int) (m : Nd) : (mvd p q x y i m).1 = m.1 ∧ isD (mvd p q x y i m) = isD m := by
 unfold mvd; split
 · exact ⟨rfl, rfl⟩
 · split <;> exact ⟨rfl, rfl⟩
theorem mov_map (t : St) (p q : Nd) (x y : ByteArray) (i : Int) : (movN t p x q y i).1 = t.1.map (mvd p q x y i) := by
 show ch (ch t.1 p.1 _) q.1 _ = _
 unfold ch
 rw [List.map_map]
 apply List.map_congr_left
 intro m _
 simp only [Function.comp]
 unfold mvd
 by_cases h1 : m.1 = p.1
 · rw [if_pos h1]
   by_cases h2 : m.1 = q.1
   · rw [if_pos h2, if_pos (show (wE (del (en p) x) m).1 = q.1 from h2)]; rfl
   · rw [if_neg h2, if_neg (show ¬ (wE (del (en p) x) m).1 = q.1 from h2)]
 · rw [if_neg h1]
theorem Mv.at {t : St} {p q n : Nd} {x y : ByteArray} {xa ya : List ByteArray} (_ : Mv t p q n x y xa ya) {m : Nd} (hm : m ∈ t.1) : mvd p q x y n.1 m ∈ (movN t p x q y n.1).1 := by
 rw [mov_map]; exact List.mem_map.2 ⟨m, hm, rfl⟩
theorem Mv.enp {t : St} {p q n : Nd} {x y : ByteArray} {xa ya : List ByteArray} (_ : Mv t p q n x y xa ya) : en (mvd p q x y n.1 p) = if p.1 = q.1 then ins (del (en p) x) (y, n.1) else del (en p) x := by
 unfold mvd
 split
 · rename_i e
   show ins (qeN p x q) (y, n.1) = _
   unfold qeN; rw [if_pos e.symm]
 · rw [if_pos rfl]; rfl
theorem mem_dels {l : List En} (h : Chk l) {x z : ByteArray} {c d : Int} (hx : (x, c) ∈ l) (hz : (z, d) ∈ l) (hne : z ≠ x) : (z, d) ∈ del l x := by
 rcases List.mem_cons.1 (((D.del_perm h hx).mem_iff).1 hz) with k | k
 · exact absurd (Prod.ext_iff.1 k).1 hne
 · exact k
theorem Mv.walk {t : St} {p q n : Nd} {x y : ByteArray} {xa ya : List ByteArray} (M : Mv t p q n x y xa ya) : ∀ {zs : List ByteArray} {i c : Int}, Wlk t.1 i zs c → (∀ a b, zs = a ++ x :: b → ¬ Wlk t.1 i a p.1) → Wlk (movN t p x q y n.1).1 i zs c
 | [], _, _, h, _ => h
 | z :: r, i, c, ⟨m, hm, hi, hd, d, hzd, hr⟩, hno => by (
 have hck := (M.ok.wk.dirs p M.hp M.dp).1
 have ih := M.walk hr fun a b e hw => hno (z :: a) b (by rw [e]; rfl) ⟨m, hm, hi, hd, d, hzd, hw⟩
 have hid := mvd_id p q x y n.1 m
 refine ⟨_, M.at hm, hid.1.trans hi, hid.2.trans hd, d, ?_, ih⟩
 have hpx : m.1 = p.1 → z ≠ x := fun e hz => hno [] r (by rw [hz]; rfl) (show i = p.1 by rw [← hi, e])
 by_cases h1 : m.1 = p.1
 · obtain rfl := ups_eq M.ok.wk.up hm M.hp h1
   rw [M.enp]
   split
   · exact D.mem_ins.2 (.inr (mem_dels hck M.mem hzd (hpx rfl)))
   · exact mem_dels hck M.mem hzd (hpx rfl)
 · unfold mvd
   split
   · rename_i h2
     obtain rfl := ups_eq M.ok.wk.up hm M.hq h2
     show (z, d) ∈ ins (qeN p x m) (y, n.1)
     unfold qeN; rw [if_neg h1]
     exact D.mem_ins.2 (.inr hzd)
   · try rw [if_neg h1]
     exact hzd)
theorem Mv.old {t : St} {p q n : Nd} {x y : ByteArray} {xa ya : List ByteArray} (M : Mv t p q n x y xa ya) : Wlk (movN t p x q y n.1).1 1 xa p.1 := M.walk M.wp fun a b e hw => by
 have := congrArg List.length (M.ok.path M.hp M.dp hw M.wp)
 rw [e] at this
 simp at this
theorem Mv.new {t : St} {p q n : Nd} {x y : ByteArray} {xa ya : List ByteArray} (M : Mv t p q n x y xa ya) : Wlk (movN t p x q y n.1).1 1 ya q.1 := M.walk M.wq fun a b e hw => by
 have hW : Wlk t.1 1 (a ++ x :: b) q.1 := by rw [← e]; exact M.wq
 obtain ⟨d, h1, h2⟩ := wlk_append.1 hW
 obtain ⟨m, hm, hm1, hmd, d', hd', h3⟩ := h2
 have hck : ∀ n ∈ t.1, isD n = true → Chk (en n) := fun n hn hd => (M.ok.wk.dirs n hn hd).1
 have hpd := wlk_det M.ok.wk.up hck hw h1
 obtain rfl := ups_eq M.ok.wk.up hm M.hp (by rw [hm1, hpd])
 obtain rfl := D.name_one (hck _ hm hmd) hd' M.mem
 have hd : isD n = true := by (
 cases b with
 | nil =>
   have e2 : n.1 = q.1 := h3
   rw [ups_eq M.ok.wk.up M.hn M.hq e2]; exact M.dq
 | cons z r =>
   obtain ⟨k, hk, hk1, hkd, _⟩ := h3
   rw [← ups_eq M.ok.wk.up hk M.hn hk1]; exact hkd)
 exact M.nb hd _ (wlk_way M.ok.wk.up h3)
theorem Mv.none {t : St} {p q n : Nd} {x y : ByteArray} {xa ya : List ByteArray} (M : Mv t p q n x y xa ya) : there (en (mvd p q x y n.1 p)) x = false := by
 have hck := (M.ok.wk.dirs p M.hp M.dp).1
 cases ht : there (en (mvd p q x y n.1 p)) x
 · rfl
 · exfalso
   obtain ⟨c, hc⟩ := D.there_mem.1 ht
   rw [M.enp] at hc
   split at hc
   · rename_i e
     rcases D.mem_ins.1 hc with k | k
     · exact M.ne ⟨e, (Prod.ext_iff.1 k).1⟩
     · exact D.del_none hck _ k rfl
   · exact D.del_none hck _ hc rfl
theorem Mv.gone {t : St} {p q n : Nd} {x y : ByteArray} {xa ya : List ByteArray} (M : Mv t p q n x y xa ya) (hO : Ok (movN t p x q y n.1)) : (wlk (movN t p x q y n.1).1 1 (xa ++ [x])).2 ≠ 0 := fun h0 => by
 have hid := mvd_id p q x y n.1 p
 obtain ⟨m, hm, hw, hd, hx⟩ := wlk_snoc.1 ((wlk_root hO.wk).1 ⟨h0, rfl⟩)
 have h1 := wlk_det hO.wk.up (fun n hn hd => (hO.wk.dirs n hn hd).1) hw M.old
 have h2 := ups_eq hO.wk.up hm (M.at M.hp) (by rw [hid.1, h1])
 rw [h2] at hx
 have := M.none
 rw [D.there_mem.2 ⟨_, hx⟩] at this
 cases this
theorem std_of_walk {s : St} (h : Ok s) {ys : List ByteArray} (hy0 : ys ≠ []) (hw : (wlk s.1 1 ys).2 = 0) : stdT s.1 ys = (wlk s.1 1 ys).1 ∧ stdE s.1 ys = 0 := by
 obtain ⟨w1, w2, w3, w4, w5⟩ := h.wk.stands hy0 hw
 have hE : stdE s.1 ys = 0 := by
   unfold stdE
   rw [w2, if_pos rfl, gt_of h.wk.up w1, if_pos w3]
 refine ⟨?_, hE⟩
 obtain ⟨y1, y2, y3, y4, y5⟩ := std_zero h.wk hE
 rw [y5]
 unfold entC
 rw [if_neg (by rw [y4]; decide), if_neg (by rw [w5]; decide)]
 rw [D.fnd_mem (h.wk.dirs _ w1 w3).1 w4, (h.wk.lead hw).2.1]
theorem walk_of_std {s : St} (h : Ok s) {ys : List ByteArray} (hy0 : ys ≠ []) (hE : stdE s.1 ys = 0) (hT : stdT s.1 ys ≠ 0) : (wlk s.1 1 ys).2 = 0 := by
 obtain ⟨y1, y2, y3, y4, y5⟩ := std_zero h.wk hE
 rw [y5] at hT
 unfold entC at hT
 rw [if_neg (by rw [y4]; decide)] at hT
 split at hT
 · exact absurd rfl hT
 rename_i ht
 obtain ⟨c, hc⟩ := D.there_mem.1 (by simpa using ht)
 have := wlk_snoc.2 ⟨_, y2, (hold_wlk h.wk y1).2, y4, hc⟩
 rw [← ahd_lst hy0] at this
 exact ((wlk_root h.wk).2 this).1
end Go.Proofs.YtkcnephbaffmbaaGreatDoor
namespace Go.Proofs.YtkcnephbaffmbaaGreatDoor
open Go.RowKit
open D (En ins del there Chk aerr)
open P (ArgT)
theorem hid_mk {p : Prop} (h : p) : Hid p := h
def RenOk (s : St) (xs ys : List ByteArray) : Prop := (isD (tgt s xs) = true → isB xs ys = false) ∧ stdT s.1 ys ≠ (tgt s xs).1 ∧ (stdT s.1 ys ≠ 0 → cwE s xs ys = 0)
theorem rename_any (n S : Nat) (s : St) (hOk : Ok s) (av bv : Option Addr) (cv dv : Nat) (xs ys : List ByteArray) (hok : ys ≠ [] → (lst ys).data.toList ≠ []) (hy8 : ys.length ≤ 8) (w : World) (hM : MS n w S s) (hnS : n ≤ S) (hX : Stay n w (.slice av xs.length cv) xs) (hY : Stay n w (.slice bv ys.length dv) ys) :
   Calls Tryz.prog 71 #[.pointer (some ⟨S, 0, none⟩), .slice av xs.length cv, .slice bv ys.length dv] w fun e w' => (∃ E, e = .returned E ∧ EV (renE s xs ys) E) ∧ Below n w w' ∧ (renE s xs ys = 0 → MS n w' S (renS s xs ys)) := by
 obtain ⟨v, hB, hO⟩ := hM
 obtain ⟨a, c, rfl⟩ := own_len hO
 have hnw : n ≤ w.heap.size := by have := hB.lt; omega
 have hl1 := run_len Tryz.underlying59 av xs.length cv
 have hl2 := run_len Tryz.underlying59 bv ys.length dv
 obtain ⟨post, hpost⟩ : ∃ post : Ending → World → Prop, post = fun e w' => (∃ E, e = .returned E ∧ EV (renE s xs ys) E) ∧ Below n w w' ∧ (renE s xs ys = 0 → MS n w' S (renS s xs ys)) := ⟨_, rfl⟩
 have HPo : Hid (∀ E w', EV (renE s xs ys) E → Below n w w' → (renE s xs ys = 0 → MS n w' S (renS s xs ys)) → post (.returned E) w') := fun E w' h1 h2 h3 => by rw [hpost]; exact ⟨⟨E, rfl, h1⟩, h2, h3⟩
 rw [← hpost]
 by_cases hemp : xs = [] ∨ ys = []
 · have hK : renE s xs ys = 108 := by unfold renE; rw [if_pos hemp]
   rw [hK] at HPo
   have hr := refuse_bad 108 (by decide) none 0 0 w
   have hle : xs.length = 0 ∨ ys.length = 0 := hemp.imp (fun h => by rw [h]; rfl) (fun h => by rw [h]; rfl)
   generalize xs.length = m at hl1 hle ⊢
   generalize ys.length = m2 at hl2 hle ⊢
   clear hB hO hX hY hpost hok hK hemp hy8
   by_cases hm : m = 0
   · subst hm
     go_enter Tryz.func71, Tryz.ntmps71
     go_wp2_with (go_at_call 94; refine hr.mono ?_; rintro e1 w1 ⟨rfl, rfl⟩)
     exact HPo.out _ _ (ev_ref (by decide) _ _ _ _) (Below.refl _ _) (fun h => by omega)
   · have hm2 : m2 = 0 := by omega
     subst hm2
     have e1 : (((m : Nat) : Int) == 0) = false := by simp; omega
     clear hle
     go_enter Tryz.func71, Tryz.ntmps71
     go_wp2_with (go_at_call 94; refine hr.mono ?_; rintro e1 w1 ⟨rfl, rfl⟩)
     exact HPo.out _ _ (ev_ref (by decide) _ _ _ _) (Below.refl _ _) (fun h => by omega)
 have hx0 : xs ≠ [] := fun h => hemp (.inl h)
 have hy0 : ys ≠ [] := fun h => hemp (.inr h)
 have e1 : (((xs.length : Nat) : Int) == 0) = false := by have := List.length_pos_iff.2 hx0; simp; omega
 have e2 : (((ys.length : Nat) : Int) == 0) = false := by have := List.length_pos_iff.2 hy0; simp; omega
 have HWK := walk_any n 0 a c s hOk.wk av cv xs w (ndsN.olies hO) hX.at
 have HSD : Hid (∀ W, Below w.heap.size w W → Calls Tryz.prog 121 #[.agg #[.slice a s.1.length c, .int .i64 s.2], .slice bv ys.length dv] W fun e w' => (∃ E, e = .returned (.tuple #[.int .i64 (stdI s.1 ys), .int .i64 (stdT s.1 ys), E]) ∧ EV (stdE s.1 ys) E) ∧ Below W.heap.size W w') := fun W hW => stand_any n 0 a c s hOk.wk bv dv ys hy0 (hok hy0) W (ndsN.olies (ndsN.obelow hO hW)) (hY.below (hW.mono hnw)).at
 have HRI : Hid ((wlk s.1 1 xs).2 = 0 → (wlk s.1 1 xs).1 = (tgt s xs).1) := fun h => (hOk.wk.lead h).2.1
 have HND0 : Hid ((wlk s.1 1 xs).2 = 0 → ∀ W, Below w.heap.size w W → ∃ b o, W.cell? ⟨b, o + 1, none⟩ = some (.bool (isD (tgt s xs))) ∧ Calls Tryz.prog 100 #[.agg #[.slice a s.1.length c, .int .i64 s.2], .int .i64 (tgt s xs).1] W fun e w' => e = .returned (.pointer (some ⟨b, o, none⟩)) ∧ Below W.heap.size W w') := fun h0 W hW => by (
 obtain ⟨h1, h2, _⟩ := hOk.wk.lead h0
 obtain ⟨k, hk⟩ := List.getElem?_of_mem h1
 obtain ⟨g, cap, e, f, hv, -, -, hix, hPu⟩ := nds_own_at hO k _ hk
 exact ⟨g, k * 6, (hPu W hW).1 1 _ rfl, node_any n _ s.2 s.1 hOk.wk.up k _ hk g (k * 6) W (ndsN.olies (ndsN.obelow hO hW)) (by have := hOk.wk.len; omega) hix⟩)
 have HIB : Hid (∀ W, Below n w W → Calls Tryz.prog 122 #[.slice av xs.length cv, .slice bv ys.length dv] W fun e w' => e = .returned (.bool (isB xs ys)) ∧ Below W.heap.size W w') := fun W hW => isBelow_any 0 0 av bv cv dv xs ys W (hX.below hW).at (hY.below hW).at
 have HCW0 : Hid (∀ W, Below w.heap.size w W → Calls Tryz.prog 123 #[.pointer (some ⟨S, 0, none⟩), .bool (isD (tgt s xs)), .slice bv ys.length dv] W fun e w' => (∃ E, e = .returned E ∧ EV (cwE s xs ys) E) ∧ Below n W w' ∧ (cwE s xs ys = 0 → MS n w' S (dropN s (hold s ys) (lst ys) (tgt s ys)))) := fun W hW => clearWay_any n S s hOk (isD (tgt s xs)) bv dv ys W ⟨_, hB.below hW hB.lt, ndsN.obelow hO hW⟩ hnS (hY.below (hW.mono hnw))
 have HSK0 : Hid ((wlk s.1 1 xs).2 = 0 → stdE s.1 ys = 0 → RenOk s xs ys → ∀ W v1, Below n w W → ndsN.owns n W [v1] (ren1 s ys).1 → Calls Tryz.prog 124 #[.agg #[v1, .int .i64 s.2], .slice av xs.length cv] W fun e w' => e = .returned (.tuple #[]) ∧ W.grownBy w' v1.ownBlock ∧ ndsN.owns n w' [v1] (ren2 s xs ys)) := fun h1 h2 h3 W v1 hW hOW => by (
 obtain ⟨c1, c2, c3, c4, c5, _⟩ := ren_clear hOk hx0 hy0 h1 h2 h3.2.1 h3.2.2
 obtain ⟨b1, b2, b3, b4, b5⟩ := c1.wk.stands hx0 (by rw [c2])
 obtain ⟨k, hk⟩ := List.getElem?_of_mem b1
 have := strike_any n 0 v1 (ren1 s ys) c1.wk k _ hk av cv xs hx0 b2 b3 b5 W hOW (hX.below hW).at
 rw [c3] at this
 exact this)
 have HEN0 : Hid ((wlk s.1 1 xs).2 = 0 → stdE s.1 ys = 0 → RenOk s xs ys → ∀ W v1, Below n w W → ndsN.owns n W [v1] (ren2 s xs ys) → Calls Tryz.prog 109 #[.agg #[v1, .int .i64 s.2], .int .i64 (stdI s.1 ys), .slice bv ys.length dv, .int .i64 (tgt s xs).1] W fun e w' => (∃ E, e = .returned E ∧ EV (aerr (en (gt (ren2 s xs ys) (stdI s.1 ys))) (lst ys, (tgt s xs).1)) E) ∧ W.grownBy w' v1.ownBlock ∧ (aerr (en (gt (ren2 s xs ys) (stdI s.1 ys))) (lst ys, (tgt s xs).1) = 0 → ndsN.owns n w' [v1] (ren3 s xs ys)) ∧ (aerr (en (gt (ren2 s xs ys) (stdI s.1 ys))) (lst ys, (tgt s xs).1) ≠ 0 → Below W.heap.size W w')) := fun h1 h2 h3 W v1 hW hOW => by (
 obtain ⟨d1, d2, d3, d4, _, _⟩ := ren_struck hOk hx0 hy0 h1 h2 h3.2.1 h3.2.2
 obtain ⟨k, hk⟩ := List.getElem?_of_mem d2
 have hlow := hOk.wk.low _ (hOk.wk.lead h1).1
 have hnx := hOk.wk.nx
 have := enlist_any n 0 v1 (ren2 s xs ys) s.2 d1.up (by have := d1.len; simp only at this; omega) k _ hk bv dv ys hy0 (tgt s xs).1 ⟨by omega, by omega⟩ W hOW (hY.below hW).at
 rw [d3] at this
 exact this)
 have HBE0 : Hid ((wlk s.1 1 xs).2 = 0 → stdE s.1 ys = 0 → RenOk s xs ys → aerr (en (gt (ren2 s xs ys) (stdI s.1 ys))) (lst ys, (tgt s xs).1) = 0 → ∀ W a1 L1 c1, ndsN.owns n W [.slice a1 L1 c1] (ren3 s xs ys) → Calls Tryz.prog 117 #[.agg #[.slice a1 L1 c1, .int .i64 s.2], .int .i64 (tgt s xs).1] W fun e w' => e = .returned (.int .i64 (dpt s.1 8 (tgt s xs).1)) ∧ Below W.heap.size W w') := fun h1 h2 h3 h4 W a1 L1 c1 hOW => by (
 obtain ⟨r1, ⟨m, m1, m2⟩, r3, r4⟩ := ren_named hOk hx0 hy0 h1 h2 h3.1 h3.2.1 h3.2.2 h4
 obtain ⟨a', c', hv⟩ := own_len hOW
 simp only [Value.slice.injEq] at hv
 obtain ⟨-, rfl, -⟩ := hv
 have h63 : ∀ p ∈ ren3 s xs ys, (en p).length ≤ 63 := fun p hp => by (
 cases hd : isD p
 · rw [(r1.files p hp hd).1]; simp
 · exact (r1.dirs p hp hd).1.1)
 have := deep_any n a1 c1 (ren3 s xs ys) s.2 r1.up (by have := r1.len; exact this) h63 r1.names 8 m m1 (by rw [m2]; exact r3) (by omega) W (ndsN.olies hOW)
 rw [m2, r4] at this
 exact this)
 have HA1 : (wlk s.1 1 xs).2 ≠ 0 → renE s xs ys = (wlk s.1 1 xs).2 := fun h1 => by unfold renE; rw [if_neg hemp, if_pos h1]
 have HA2 : (wlk s.1 1 xs).2 = 0 → stdE s.1 ys ≠ 0 → renE s xs ys = stdE s.1 ys := fun h1 h2 => by unfold renE; rw [if_neg hemp, if_neg (by rw [h1]; decide), if_pos h2]
 have HA3 : (wlk s.1 1 xs).2 = 0 → stdE s.1 ys = 0 → isD (tgt s xs) = true → isB xs ys = true → renE s xs ys = 108 := fun h1 h2 h3 h4 => by unfold renE; rw [if_neg hemp, if_neg (by rw [h1]; decide), if_neg (by rw [h2]; decide), if_pos ⟨h3, h4⟩]
 have HA4 : (wlk s.1 1 xs).2 = 0 → stdE s.1 ys = 0 → (isD (tgt s xs) = true → isB xs ys = false) → (stdT s.1 ys = (tgt s xs).1 → renE s xs ys = 0 ∧ renS s xs ys = (s.1, s.2)) ∧ (stdT s.1 ys ≠ (tgt s xs).1 → stdT s.1 ys ≠ 0 → cwE s xs ys ≠ 0 → renE s xs ys = cwE s xs ys) ∧ (stdT s.1 ys ≠ (tgt s xs).1 → (stdT s.1 ys ≠ 0 → cwE s xs ys = 0) → RenOk s xs ys) ∧
     (RenOk s xs ys → aerr (en (gt (ren2 s xs ys) (stdI s.1 ys))) (lst ys, (tgt s xs).1) ≠ 0 → renE s xs ys = aerr (en (gt (ren2 s xs ys) (stdI s.1 ys))) (lst ys, (tgt s xs).1)) ∧ (RenOk s xs ys → aerr (en (gt (ren2 s xs ys) (stdI s.1 ys))) (lst ys, (tgt s xs).1) = 0 → 8 < ys.length + dpt s.1 8 (tgt s xs).1 → renE s xs ys = 5) ∧
     (RenOk s xs ys → aerr (en (gt (ren2 s xs ys) (stdI s.1 ys))) (lst ys, (tgt s xs).1) = 0 → ¬ 8 < ys.length + dpt s.1 8 (tgt s xs).1 → renE s xs ys = 0 ∧ renS s xs ys = (ren3 s xs ys, s.2)) := fun h1 h2 h3 => by
   have h4 : ¬ (isD (tgt s xs) = true ∧ isB xs ys = true) := fun h => by have := h3 h.1; rw [h.2] at this; cases this
   have hg : renE s xs ys = (if stdT s.1 ys = (tgt s xs).1 then 0 else if stdT s.1 ys ≠ 0 ∧ cwE s xs ys ≠ 0 then cwE s xs ys else if aerr (en (gt (ren2 s xs ys) (stdI s.1 ys))) (lst ys, (tgt s xs).1) ≠ 0 then aerr (en (gt (ren2 s xs ys) (stdI s.1 ys))) (lst ys, (tgt s xs).1) else if 8 < ys.length + dpt s.1 8 (tgt s xs).1 then 5 else 0) := by (
 unfold renE
 rw [if_neg hemp, if_neg (by rw [h1]; decide), if_neg (by rw [h2]; decide), if_neg h4])
   have hn : RenOk s xs ys → ¬ (stdT s.1 ys ≠ 0 ∧ cwE s xs ys ≠ 0) := fun h hh => hh.2 (h.2.2 hh.1)
   refine ⟨fun h => ⟨by rw [hg, if_pos h], by unfold renS; rw [if_pos h]⟩, fun h5 h6 h7 => by rw [hg, if_neg h5, if_pos ⟨h6, h7⟩], fun h5 h6 => ⟨h3, h5, h6⟩, fun h5 h6 => by rw [hg, if_neg h5.2.1, if_neg (hn h5), if_pos h6], fun h5 h6 h7 => by rw [hg, if_neg h5.2.1, if_neg (hn h5), if_neg (by rw [h6]; decide), if_pos h7], fun h5 h6 h7 => ⟨by rw [hg, if_neg h5.2.1, if_neg (hn h5), if_neg (by rw [h6]; decide), if_neg h7], by unfold renS; rw [if_neg h5.2.1]⟩⟩
 have HA5 : (stdT s.1 ys = 0 → (ren1 s ys).1 = s.1) ∧ (stdT s.1 ys ≠ 0 → (dropN s (hold s ys) (lst ys) (tgt s ys)).1 = (ren1 s ys).1) := ⟨fun h => by unfold ren1; rw [if_pos h], fun h => by unfold ren1; rw [if_neg h]⟩
 have HCW1 : Hid (∀ W, Below w.heap.size w W → Calls Tryz.prog 123 #[.pointer (some ⟨S, 0, none⟩), .bool (isD (tgt s xs)), .slice bv ys.length dv] W fun e w' => (∃ E, e = .returned E ∧ EV (cwE s xs ys) E) ∧ Below n W w' ∧ (cwE s xs ys = 0 → MS n w' S ((dropN s (hold s ys) (lst ys) (tgt s ys)).1, s.2))) := HCW0.out
 have hdp : dpt s.1 8 (tgt s xs).1 ≤ 8 := dpt_le 8 _
 have HAL : Hid (((wlk s.1 1 xs).2 ≠ 0 → renE s xs ys = (wlk s.1 1 xs).2) ∧ ((wlk s.1 1 xs).2 = 0 → stdE s.1 ys ≠ 0 → renE s xs ys = stdE s.1 ys) ∧ ((wlk s.1 1 xs).2 = 0 → stdE s.1 ys = 0 → isD (tgt s xs) = true → isB xs ys = true → renE s xs ys = 108)) := ⟨HA1, HA2, HA3⟩
 have HAM : Hid ((wlk s.1 1 xs).2 = 0 → stdE s.1 ys = 0 → (isD (tgt s xs) = true → isB xs ys = false) → (stdT s.1 ys = (tgt s xs).1 → renE s xs ys = 0 ∧ renS s xs ys = (s.1, s.2)) ∧ (stdT s.1 ys ≠ (tgt s xs).1 → stdT s.1 ys ≠ 0 → cwE s xs ys ≠ 0 → renE s xs ys = cwE s xs ys) ∧ (stdT s.1 ys ≠ (tgt s xs).1 → (stdT s.1 ys ≠ 0 → cwE s xs ys = 0) → RenOk s xs ys) ∧
     (RenOk s xs ys → aerr (en (gt (ren2 s xs ys) (stdI s.1 ys))) (lst ys, (tgt s xs).1) ≠ 0 → renE s xs ys = aerr (en (gt (ren2 s xs ys) (stdI s.1 ys))) (lst ys, (tgt s xs).1)) ∧ (RenOk s xs ys → aerr (en (gt (ren2 s xs ys) (stdI s.1 ys))) (lst ys, (tgt s xs).1) = 0 → 8 < ys.length + dpt s.1 8 (tgt s xs).1 → renE s xs ys = 5) ∧
     (RenOk s xs ys → aerr (en (gt (ren2 s xs ys) (stdI s.1 ys))) (lst ys, (tgt s xs).1) = 0 → ¬ 8 < ys.length + dpt s.1 8 (tgt s xs).1 → renE s xs ys = 0 ∧ renS s xs ys = (ren3 s xs ys, s.2))) := HA4
 have HS1 : Hid ((stdT s.1 ys = 0 → (ren1 s ys).1 = s.1) ∧ (stdT s.1 ys ≠ 0 → (dropN s (hold s ys) (lst ys) (tgt s ys)).1 = (ren1 s ys).1)) := HA5
 have HS : Hid (Box w S 27 #[.slice a s.1.length c, .int .i64 s.2] ∧ ndsN.owns n w [.slice a s.1.length c] s.1 ∧ n ≤ w.heap.size ∧ n ≤ S) := ⟨hB, hO, hnw, hnS⟩
 obtain ⟨g0, g1, -, -⟩ := hB.two
 clear HA1 HA2 HA3 HA4 HA5 HCW0 hB hO hX hY hok hpost hOk hemp hx0 hy0
 generalize renE s xs ys = K at HPo HAL HAM
 generalize renS s xs ys = S' at HPo HAM
 generalize aerr (en (gt (ren2 s xs ys) (stdI s.1 ys))) (lst ys, (tgt s xs).1) = ae at HAM HEN0 HBE0
 generalize RenOk s xs ys = Cond at HAM HSK0 HEN0 HBE0
 generalize (dropN s (hold s ys) (lst ys) (tgt s ys)).1 = ld at HS1 HCW1
 generalize (ren1 s ys).1 = l1 at HS1 HSK0
 generalize ren2 s xs ys = l2 at HSK0 HEN0
 generalize ren3 s xs ys = l3 at HEN0 HBE0 HAM
 generalize cwE s xs ys = cw at HAM HCW1
 generalize dpt s.1 8 (tgt s xs).1 = dp at HAM HBE0 hdp
 generalize isB xs ys = ib at HAL HAM HIB
 generalize isD (tgt s xs) = d at HAL HAM HND0 HCW1
 generalize (tgt s xs).1 = ri at HRI HND0 HEN0 HBE0 HAM
 generalize stdT s.1 ys = st at HSD HAM HS1
 generalize stdI s.1 ys = si at HSD HEN0
 generalize stdE s.1 ys = se at HSD HAL HAM HSK0 HEN0 HBE0
 generalize (wlk s.1 1 xs).1 = wi at HWK HRI
 generalize (wlk s.1 1 xs).2 = re at HWK HRI HAL HAM HND0 HSK0 HEN0 HBE0
 obtain ⟨l, nx⟩ := s
 simp only at HWK HSD HND0 HCW1 HSK0 HEN0 HBE0 HAM HS1 HS g0 g1
 generalize hLL : l.length = L at HWK HSD HND0 HS g0
 generalize xs.length = m at HWK HIB hl1 e1 HSK0 ⊢
 generalize ys.length = m2 at HSD HIB hl2 e2 HCW1 HEN0 HAM hy8 ⊢
 clear hLL hnw hnS
 go_enter Tryz.func71, Tryz.ntmps71
 go_wp2_with fail
 refine HWK.mono ?_
 rintro e3 w1 ⟨⟨E, rfl, hE⟩, hb1⟩
 have HB1 : Hid (Below w.heap.size w w1) := hb1
 clear hb1 HWK g0 g1
 by_cases hre : re = 0
 case neg => (
 have HK : Hid (K = re ∧ re ≠ 0) := ⟨HAL.out.1 hre, hre⟩
 obtain ⟨a2, l2', c2, s2, rfl⟩ : ∃ a2 l2 c2 s2, E = refV (.slice a2 l2 c2) re s2 := by (
 rcases hE with ⟨h, _⟩ | ⟨_, a2, l2, c2, s2, h⟩
 · exact absurd h hre
 · exact ⟨a2, l2, c2, s2, h⟩)
 clear hE hre
 go_wp2
 exact HPo.out _ _ (by rw [HK.out.1]; exact ev_ref HK.out.2 _ _ _ _) (HB1.out.mono HS.out.2.2.1) (fun h => absurd (HK.out.1.symm.trans h) HK.out.2))
 have hwi := HRI.out hre
 obtain rfl : E = .nilIface := by (
 rcases hE with ⟨_, h⟩ | ⟨h, _⟩
 · exact h
 · exact absurd hre h)
 subst hwi
 have HND : Hid (∀ W, Below w.heap.size w W → ∃ b o, W.cell? ⟨b, o + 1, none⟩ = some (.bool d) ∧ Calls Tryz.prog 100 #[.agg #[.slice a L c, .int .i64 nx], .int .i64 wi] W fun e w' => e = .returned (.pointer (some ⟨b, o, none⟩)) ∧ Below W.heap.size W w') := HND0.out hre
 have HRE0 : Hid (re = 0) := hre
 have HCS1 := HSD.out w1 HB1.out
 obtain ⟨t0, t1, -, -⟩ := (HS.out.1.below HB1.out HS.out.1.lt).two
 clear hE hre HND0
 go_wp2_with fail
 refine HCS1.mono ?_
 rintro e4 w2 ⟨⟨E, rfl, hE⟩, hb2⟩
 have HB2 : Hid (Below w.heap.size w w2) := below_any HB1.out hb2
 clear hb2 HCS1 t0 t1
 by_cases hse : se = 0
 case neg => (
 have HK : Hid (K = se ∧ se ≠ 0) := ⟨HAL.out.2.1 HRE0.out hse, hse⟩
 obtain ⟨a2, l2', c2, s2, rfl⟩ : ∃ a2 l2 c2 s2, E = refV (.slice a2 l2 c2) se s2 := by (
 rcases hE with ⟨h, _⟩ | ⟨_, a2, l2, c2, s2, h⟩
 · exact absurd h hse
 · exact ⟨a2, l2, c2, s2, h⟩)
 clear hE hse
 go_wp2
 exact HPo.out _ _ (by rw [HK.out.1]; exact ev_ref HK.out.2 _ _ _ _) (HB2.out.mono HS.out.2.2.1) (fun h => absurd (HK.out.1.symm.trans h) HK.out.2))
 obtain rfl : E = .nilIface := by (
 rcases hE with ⟨_, h⟩ | ⟨h, _⟩
 · exact h
 · exact absurd hse h)
 have HSE0 : Hid (se = 0) := hse
 obtain ⟨b3, o3, hc3, HCN⟩ := HND.out w2 HB2.out
 obtain ⟨t0, t1, -, -⟩ := (HS.out.1.below HB2.out HS.out.1.lt).two
 clear hE hse
 go_wp2_with fail
 refine HCN.mono ?_
 rintro e5 w3 ⟨rfl, hb3⟩
 have hc3' : w3.cell? ⟨b3, o3 + 1, none⟩ = some (.bool d) := by rw [hb3.cell (cell_lt hc3)]; exact hc3
 have HB3 : Hid (Below w.heap.size w w3) := below_any HB2.out hb3
 clear hb3 hc3 HCN t0 t1
 cases d
 case true => (
 have HCI := HIB.out w3 (HB3.out.mono HS.out.2.2.1)
 go_wp2_with fail
 refine HCI.mono ?_
 rintro e6 w4 ⟨rfl, hb4⟩
 have HBW0 : Hid (Below w.heap.size w w4) := below_any HB3.out hb4
 clear hb4 HCI hc3'
 cases ib
 case true => (
 have HK : Hid (K = 108) := HAL.out.2.2 HRE0.out HSE0.out (by simp) (by simp)
 have hr := refuse_bad 108 (by decide) bv m2 dv w4
 go_wp2_with fail
 refine hr.mono ?_
 rintro e7 w5 ⟨rfl, rfl⟩
 go_wp2
 exact HPo.out _ _ (by rw [HK.out]; exact ev_ref (by decide) _ _ _ _) (HBW0.out.mono HS.out.2.2.1) (fun h => by rw [HK.out] at h; omega))
 case false => (
 have HG := HAM.out HRE0.out HSE0.out (fun _ => rfl)
 have HKS := hid_mk HG.1
 have HKC := hid_mk HG.2.1
 have HCO := hid_mk HG.2.2.1
 have HKK := hid_mk (And.intro trivial HG.2.2.2)
 have HSK := hid_mk (HSK0.out HRE0.out HSE0.out)
 have HEN := hid_mk (HEN0.out HRE0.out HSE0.out)
 have HBE := hid_mk (fun h => HBE0.out HRE0.out HSE0.out h)
 have HCW := HCW1
 clear HG HAM HSK0 HEN0 HBE0 HCW1 HSD HAL hl1 e1 e2
 have HBk : Hid (Below w.heap.size w w4 ∧ Box w4 S 27 #[.slice a L c, .int .i64 nx] ∧ ndsN.owns n w4 [.slice a L c] l) := ⟨HBW0.out, HS.out.1.below HBW0.out HS.out.1.lt, ndsN.obelow HS.out.2.1 HBW0.out⟩
 by_cases hsr : st = wi
 · have HK : Hid (K = 0 ∧ S' = (l, nx)) := HKS.out hsr
   subst hsr
   go_wp2
   exact HPo.out _ _ (by rw [HK.out.1]; exact ev_nil) (HBk.out.1.mono HS.out.2.2.1) (fun _ => by rw [HK.out.2]; exact ⟨_, HBk.out.2.1, HBk.out.2.2⟩)
 have hsr' : (st == wi) = false := by simpa using hsr
 have HSR : Hid (st ≠ wi) := hsr
 clear hsr
 by_cases hs0 : st = 0
 · have hC1 : Cond := HCO.out HSR.out (fun h => absurd hs0 h)
   have hs1 := HS1.out.1 hs0
   have HBW : Hid (Below n w w4 ∧ Box w4 S 27 #[.slice a L c, .int .i64 nx] ∧ ndsN.owns n w4 [.slice a L c] l1) := ⟨HBk.out.1.mono HS.out.2.2.1, HBk.out.2.1, by rw [hs1]; exact HBk.out.2.2⟩
   subst hs0
   clear hs1
   have HCS := HSK.out hC1 w4 _ HBW.out.1 HBW.out.2.2
   obtain ⟨t0, t1, -, -⟩ := HBW.out.2.1.two
   go_wp2_with fail
   refine HCS.mono ?_
   rintro e7 w7 ⟨rfl, hg7, hO7⟩
   have hB7 := HBW.out.2.1.grown hg7 (own_apart HBW.out.2.1 HBW.out.2.2)
   have HB7 : Hid (Below n w w7 ∧ Box w7 S 27 #[.slice a L c, .int .i64 nx] ∧ ndsN.owns n w7 [.slice a L c] l2) := ⟨HBW.out.1.trans (row_below HBW.out.2.2 (by have := HBW.out.2.1.lt; have := HS.out.2.2.2; omega) hg7), hB7, hO7⟩
   have HCE := HEN.out hC1 w7 _ HB7.out.1 HB7.out.2.2
   clear t0 t1 hg7 hO7 hB7 HCS
   obtain ⟨t0, t1, -, -⟩ := HB7.out.2.1.two
   go_wp2_with fail
   refine HCE.mono ?_
   rintro e8 w8 ⟨⟨E8, rfl, hE8⟩, hg8, hO8, -⟩
   have hB8 := HB7.out.2.1.grown hg8 (own_apart HB7.out.2.1 HB7.out.2.2)
   have HB8 : Hid (Below n w w8 ∧ Box w8 S 27 #[.slice a L c, .int .i64 nx] ∧ (ae = 0 → ndsN.owns n w8 [.slice a L c] l3)) := ⟨HB7.out.1.trans (row_below HB7.out.2.2 (by have := HB7.out.2.1.lt; have := HS.out.2.2.2; omega) hg8), hB8, hO8⟩
   clear t0 t1 hg8 hO8 hB8 HCE
   by_cases hae : ae = 0
   case neg => (
 have HK : Hid (K = ae ∧ ae ≠ 0) := ⟨HKK.out.2.1 hC1 hae, hae⟩
 obtain ⟨a2, l2', c2, s2, rfl⟩ : ∃ a2 l2 c2 s2, E8 = refV (.slice a2 l2 c2) ae s2 := by (
 rcases hE8 with ⟨h, _⟩ | ⟨_, a2, l2, c2, s2, h⟩
 · exact absurd h hae
 · exact ⟨a2, l2, c2, s2, h⟩)
 clear hE8 hae
 go_wp2
 exact HPo.out _ _ (by rw [HK.out.1]; exact ev_ref HK.out.2 _ _ _ _) HB8.out.1 (fun h => absurd (HK.out.1.symm.trans h) HK.out.2))
   subst hae
   obtain rfl : E8 = .nilIface := by (
 rcases hE8 with ⟨_, h⟩ | ⟨h, _⟩
 · exact h
 · exact absurd rfl h)
   have HCB := HBE.out hC1 (by simp) w8 a L c (HB8.out.2.2 (by simp))
   obtain ⟨t0, t1, -, -⟩ := HB8.out.2.1.two
   clear hE8
   go_wp2_with fail
   refine HCB.mono ?_
   rintro e9 w9 ⟨rfl, hb9⟩
   have HB9 : Hid (Below n w w9 ∧ MS n w9 S (l3, nx)) := ⟨HB8.out.1.trans (hb9.mono (by have := HB8.out.2.1.lt; have := HS.out.2.2.2; omega)), ⟨_, HB8.out.2.1.below hb9 HB8.out.2.1.lt, ndsN.obelow (HB8.out.2.2 (by simp)) hb9⟩⟩
   clear hb9 HCB t0 t1
   by_cases h8 : 8 < m2 + dp
   · have HK : Hid (K = 5) := HKK.out.2.2.1 hC1 (by simp) h8
     have h8i : (8 : Int) < (m2 : Int) + (dp : Int) := by omega
     have hr := refuse_bad 5 (by decide) bv m2 dv w9
     clear h8
     go_wp2_with fail
     refine hr.mono ?_
     rintro e10 w10 ⟨rfl, rfl⟩
     go_wp2
     exact HPo.out _ _ (by rw [HK.out]; exact ev_ref (by decide) _ _ _ _) HB9.out.1 (fun h => by rw [HK.out] at h; omega)
   · have HK : Hid (K = 0 ∧ S' = (l3, nx)) := HKK.out.2.2.2 hC1 (by simp) h8
     have h8i : ¬ (8 : Int) < (m2 : Int) + (dp : Int) := by omega
     clear h8
     go_wp2
     exact HPo.out _ _ (by rw [HK.out.1]; exact ev_nil) HB9.out.1 (fun _ => by rw [HK.out.2]; exact HB9.out.2)
 have hs0' : (st == 0) = false := by simpa using hs0
 have HS0 : Hid (st ≠ 0) := hs0
 obtain ⟨b5, o5, hc5, HCN5⟩ := HND.out w4 HBk.out.1
 obtain ⟨t0, t1, -, -⟩ := HBk.out.2.1.two
 go_wp2_with fail
 refine HCN5.mono ?_
 rintro e5 w5 ⟨rfl, hb5⟩
 have hc5' : w5.cell? ⟨b5, o5 + 1, none⟩ = some (.bool true) := by rw [hb5.cell (cell_lt hc5)]; exact hc5
 have HB5 : Hid (Below w.heap.size w w5) := below_any HBk.out.1 hb5
 have HCC := HCW.out w5 HB5.out
 clear t0 t1 hb5 hc5 HCN5
 go_wp2_with fail
 refine HCC.mono ?_
 rintro e6 w6 ⟨⟨E6, rfl, hE6⟩, hb6, hM6⟩
 have HB6 : Hid (Below n w w6) := (HB5.out.mono HS.out.2.2.1).trans hb6
 by_cases hcw : cw = 0
 case neg => (
 have HK : Hid (K = cw ∧ cw ≠ 0) := ⟨HKC.out HSR.out HS0.out hcw, hcw⟩
 obtain ⟨a2, l2', c2, s2, rfl⟩ : ∃ a2 l2 c2 s2, E6 = refV (.slice a2 l2 c2) cw s2 := by (
 rcases hE6 with ⟨h, _⟩ | ⟨_, a2, l2, c2, s2, h⟩
 · exact absurd h hcw
 · exact ⟨a2, l2, c2, s2, h⟩)
 clear hE6 hcw hb6 hM6 HCC
 go_wp2
 exact HPo.out _ _ (by rw [HK.out.1]; exact ev_ref HK.out.2 _ _ _ _) HB6.out (fun h => absurd (HK.out.1.symm.trans h) HK.out.2))
 have hC1 : Cond := HCO.out HSR.out (fun _ => hcw)
 obtain ⟨v6, hB6, hO6⟩ := hM6 hcw
 rw [HS1.out.2 HS0.out] at hO6
 obtain ⟨a1, c1, hv6⟩ := own_len hO6
 obtain ⟨L1, hL1⟩ := exa (l1.length)
 rw [← hL1] at hv6
 subst hv6
 have HBW : Hid (Below n w w6 ∧ Box w6 S 27 #[.slice a1 L1 c1, .int .i64 nx] ∧ ndsN.owns n w6 [.slice a1 L1 c1] l1) := ⟨HB6.out, hB6, hO6⟩
 obtain rfl : E6 = .nilIface := by (
 rcases hE6 with ⟨_, h⟩ | ⟨h, _⟩
 · exact h
 · exact absurd hcw h)
 clear hE6 hcw hb6 hM6 HCC hB6 hO6 hL1 hc5'
 have HCS := HSK.out hC1 w6 _ HBW.out.1 HBW.out.2.2
 obtain ⟨t0, t1, -, -⟩ := HBW.out.2.1.two
 go_wp2_with fail
 refine HCS.mono ?_
 rintro e7 w7 ⟨rfl, hg7, hO7⟩
 have hB7 := HBW.out.2.1.grown hg7 (own_apart HBW.out.2.1 HBW.out.2.2)
 have HB7 : Hid (Below n w w7 ∧ Box w7 S 27 #[.slice a1 L1 c1, .int .i64 nx] ∧ ndsN.owns n w7 [.slice a1 L1 c1] l2) := ⟨HBW.out.1.trans (row_below HBW.out.2.2 (by have := HBW.out.2.1.lt; have := HS.out.2.2.2; omega) hg7), hB7, hO7⟩
 have HCE := HEN.out hC1 w7 _ HB7.out.1 HB7.out.2.2
 clear t0 t1 hg7 hO7 hB7 HCS
 obtain ⟨t0, t1, -, -⟩ := HB7.out.2.1.two
 go_wp2_with fail
 refine HCE.mono ?_
 rintro e8 w8 ⟨⟨E8, rfl, hE8⟩, hg8, hO8, -⟩
 have hB8 := HB7.out.2.1.grown hg8 (own_apart HB7.out.2.1 HB7.out.2.2)
 have HB8 : Hid (Below n w w8 ∧ Box w8 S 27 #[.slice a1 L1 c1, .int .i64 nx] ∧ (ae = 0 → ndsN.owns n w8 [.slice a1 L1 c1] l3)) := ⟨HB7.out.1.trans (row_below HB7.out.2.2 (by have := HB7.out.2.1.lt; have := HS.out.2.2.2; omega) hg8), hB8, hO8⟩
 clear t0 t1 hg8 hO8 hB8 HCE
 by_cases hae : ae = 0
 case neg => (
 have HK : Hid (K = ae ∧ ae ≠ 0) := ⟨HKK.out.2.1 hC1 hae, hae⟩
 obtain ⟨a2, l2', c2, s2, rfl⟩ : ∃ a2 l2 c2 s2, E8 = refV (.slice a2 l2 c2) ae s2 := by (
 rcases hE8 with ⟨h, _⟩ | ⟨_, a2, l2, c2, s2, h⟩
 · exact absurd h hae
 · exact ⟨a2, l2, c2, s2, h⟩)
 clear hE8 hae
 go_wp2
 exact HPo.out _ _ (by rw [HK.out.1]; exact ev_ref HK.out.2 _ _ _ _) HB8.out.1 (fun h => absurd (HK.out.1.symm.trans h) HK.out.2))
 subst hae
 obtain rfl : E8 = .nilIface := by (
 rcases hE8 with ⟨_, h⟩ | ⟨h, _⟩
 · exact h
 · exact absurd rfl h)
 have HCB := HBE.out hC1 (by simp) w8 a1 L1 c1 (HB8.out.2.2 (by simp))
 obtain ⟨t0, t1, -, -⟩ := HB8.out.2.1.two
 clear hE8
 go_wp2_with fail
 refine HCB.mono ?_
 rintro e9 w9 ⟨rfl, hb9⟩
 have HB9 : Hid (Below n w w9 ∧ MS n w9 S (l3, nx)) := ⟨HB8.out.1.trans (hb9.mono (by have := HB8.out.2.1.lt; have := HS.out.2.2.2; omega)), ⟨_, HB8.out.2.1.below hb9 HB8.out.2.1.lt, ndsN.obelow (HB8.out.2.2 (by simp)) hb9⟩⟩
 clear hb9 HCB t0 t1
 by_cases h8 : 8 < m2 + dp
 · have HK : Hid (K = 5) := HKK.out.2.2.1 hC1 (by simp) h8
   have h8i : (8 : Int) < (m2 : Int) + (dp : Int) := by omega
   have hr := refuse_bad 5 (by decide) bv m2 dv w9
   clear h8
   go_wp2_with fail
   refine hr.mono ?_
   rintro e10 w10 ⟨rfl, rfl⟩
   go_wp2
   exact HPo.out _ _ (by rw [HK.out]; exact ev_ref (by decide) _ _ _ _) HB9.out.1 (fun h => by rw [HK.out] at h; omega)
 · have HK : Hid (K = 0 ∧ S' = (l3, nx)) := HKK.out.2.2.2 hC1 (by simp) h8
   have h8i : ¬ (8 : Int) < (m2 : Int) + (dp : Int) := by omega
   clear h8
   go_wp2
   exact HPo.out _ _ (by rw [HK.out.1]; exact ev_nil) HB9.out.1 (fun _ => by rw [HK.out.2]; exact HB9.out.2)))
 case false => (
 have HBW0 : Hid (Below w.heap.size w w3) := HB3.out
 have HG := HAM.out HRE0.out HSE0.out (fun h => by cases h)
 have HKS := hid_mk HG.1
 have HKC := hid_mk HG.2.1
 have HCO := hid_mk HG.2.2.1
 have HKK := hid_mk (And.intro trivial HG.2.2.2)
 have HSK := hid_mk (HSK0.out HRE0.out HSE0.out)
 have HEN := hid_mk (HEN0.out HRE0.out HSE0.out)
 have HBE := hid_mk (fun h => HBE0.out HRE0.out HSE0.out h)
 have HCW := HCW1
 clear HG HAM HSK0 HEN0 HBE0 HCW1 HSD HAL hl1 e1 e2
 have HBk : Hid (Below w.heap.size w w3 ∧ Box w3 S 27 #[.slice a L c, .int .i64 nx] ∧ ndsN.owns n w3 [.slice a L c] l) := ⟨HBW0.out, HS.out.1.below HBW0.out HS.out.1.lt, ndsN.obelow HS.out.2.1 HBW0.out⟩
 by_cases hsr : st = wi
 · have HK : Hid (K = 0 ∧ S' = (l, nx)) := HKS.out hsr
   subst hsr
   go_wp2
   exact HPo.out _ _ (by rw [HK.out.1]; exact ev_nil) (HBk.out.1.mono HS.out.2.2.1) (fun _ => by rw [HK.out.2]; exact ⟨_, HBk.out.2.1, HBk.out.2.2⟩)
 have hsr' : (st == wi) = false := by simpa using hsr
 have HSR : Hid (st ≠ wi) := hsr
 clear hsr
 by_cases hs0 : st = 0
 · have hC1 : Cond := HCO.out HSR.out (fun h => absurd hs0 h)
   have hs1 := HS1.out.1 hs0
   have HBW : Hid (Below n w w3 ∧ Box w3 S 27 #[.slice a L c, .int .i64 nx] ∧ ndsN.owns n w3 [.slice a L c] l1) := ⟨HBk.out.1.mono HS.out.2.2.1, HBk.out.2.1, by rw [hs1]; exact HBk.out.2.2⟩
   subst hs0
   clear hs1
   have HCS := HSK.out hC1 w3 _ HBW.out.1 HBW.out.2.2
   obtain ⟨t0, t1, -, -⟩ := HBW.out.2.1.two
   go_wp2_with fail
   refine HCS.mono ?_
   rintro e7 w7 ⟨rfl, hg7, hO7⟩
   have hB7 := HBW.out.2.1.grown hg7 (own_apart HBW.out.2.1 HBW.out.2.2)
   have HB7 : Hid (Below n w w7 ∧ Box w7 S 27 #[.slice a L c, .int .i64 nx] ∧ ndsN.owns n w7 [.slice a L c] l2) := ⟨HBW.out.1.trans (row_below HBW.out.2.2 (by have := HBW.out.2.1.lt; have := HS.out.2.2.2; omega) hg7), hB7, hO7⟩
   have HCE := HEN.out hC1 w7 _ HB7.out.1 HB7.out.2.2
   clear t0 t1 hg7 hO7 hB7 HCS
   obtain ⟨t0, t1, -, -⟩ := HB7.out.2.1.two
   go_wp2_with fail
   refine HCE.mono ?_
   rintro e8 w8 ⟨⟨E8, rfl, hE8⟩, hg8, hO8, -⟩
   have hB8 := HB7.out.2.1.grown hg8 (own_apart HB7.out.2.1 HB7.out.2.2)
   have HB8 : Hid (Below n w w8 ∧ Box w8 S 27 #[.slice a L c, .int .i64 nx] ∧ (ae = 0 → ndsN.owns n w8 [.slice a L c] l3)) := ⟨HB7.out.1.trans (row_below HB7.out.2.2 (by have := HB7.out.2.1.lt; have := HS.out.2.2.2; omega) hg8), hB8, hO8⟩
   clear t0 t1 hg8 hO8 hB8 HCE
   by_cases hae : ae = 0
   case neg => (
 have HK : Hid (K = ae ∧ ae ≠ 0) := ⟨HKK.out.2.1 hC1 hae, hae⟩
 obtain ⟨a2, l2', c2, s2, rfl⟩ : ∃ a2 l2 c2 s2, E8 = refV (.slice a2 l2 c2) ae s2 := by (
 rcases hE8 with ⟨h, _⟩ | ⟨_, a2, l2, c2, s2, h⟩
 · exact absurd h hae
 · exact ⟨a2, l2, c2, s2, h⟩)
 clear hE8 hae
 go_wp2
 exact HPo.out _ _ (by rw [HK.out.1]; exact ev_ref HK.out.2 _ _ _ _) HB8.out.1 (fun h => absurd (HK.out.1.symm.trans h) HK.out.2))
   subst hae
   obtain rfl : E8 = .nilIface := by (
 rcases hE8 with ⟨_, h⟩ | ⟨h, _⟩
 · exact h
 · exact absurd rfl h)
   have HCB := HBE.out hC1 (by simp) w8 a L c (HB8.out.2.2 (by simp))
   obtain ⟨t0, t1, -, -⟩ := HB8.out.2.1.two
   clear hE8
   go_wp2_with fail
   refine HCB.mono ?_
   rintro e9 w9 ⟨rfl, hb9⟩
   have HB9 : Hid (Below n w w9 ∧ MS n w9 S (l3, nx)) := ⟨HB8.out.1.trans (hb9.mono (by have := HB8.out.2.1.lt; have := HS.out.2.2.2; omega)), ⟨_, HB8.out.2.1.below hb9 HB8.out.2.1.lt, ndsN.obelow (HB8.out.2.2 (by simp)) hb9⟩⟩
   clear hb9 HCB t0 t1
   by_cases h8 : 8 < m2 + dp
   · have HK : Hid (K = 5) := HKK.out.2.2.1 hC1 (by simp) h8
     have h8i : (8 : Int) < (m2 : Int) + (dp : Int) := by omega
     have hr := refuse_bad 5 (by decide) bv m2 dv w9
     clear h8
     go_wp2_with fail
     refine hr.mono ?_
     rintro e10 w10 ⟨rfl, rfl⟩
     go_wp2
     exact HPo.out _ _ (by rw [HK.out]; exact ev_ref (by decide) _ _ _ _) HB9.out.1 (fun h => by rw [HK.out] at h; omega)
   · have HK : Hid (K = 0 ∧ S' = (l3, nx)) := HKK.out.2.2.2 hC1 (by simp) h8
     have h8i : ¬ (8 : Int) < (m2 : Int) + (dp : Int) := by omega
     clear h8
     go_wp2
     exact HPo.out _ _ (by rw [HK.out.1]; exact ev_nil) HB9.out.1 (fun _ => by rw [HK.out.2]; exact HB9.out.2)
 have hs0' : (st == 0) = false := by simpa using hs0
 have HS0 : Hid (st ≠ 0) := hs0
 obtain ⟨b5, o5, hc5, HCN5⟩ := HND.out w3 HBk.out.1
 obtain ⟨t0, t1, -, -⟩ := HBk.out.2.1.two
 go_wp2_with fail
 refine HCN5.mono ?_
 rintro e5 w5 ⟨rfl, hb5⟩
 have hc5' : w5.cell? ⟨b5, o5 + 1, none⟩ = some (.bool false) := by rw [hb5.cell (cell_lt hc5)]; exact hc5
 have HB5 : Hid (Below w.heap.size w w5) := below_any HBk.out.1 hb5
 have HCC := HCW.out w5 HB5.out
 clear t0 t1 hb5 hc5 HCN5
 go_wp2_with fail
 refine HCC.mono ?_
 rintro e6 w6 ⟨⟨E6, rfl, hE6⟩, hb6, hM6⟩
 have HB6 : Hid (Below n w w6) := (HB5.out.mono HS.out.2.2.1).trans hb6
 by_cases hcw : cw = 0
 case neg => (
 have HK : Hid (K = cw ∧ cw ≠ 0) := ⟨HKC.out HSR.out HS0.out hcw, hcw⟩
 obtain ⟨a2, l2', c2, s2, rfl⟩ : ∃ a2 l2 c2 s2, E6 = refV (.slice a2 l2 c2) cw s2 := by (
 rcases hE6 with ⟨h, _⟩ | ⟨_, a2, l2, c2, s2, h⟩
 · exact absurd h hcw
 · exact ⟨a2, l2, c2, s2, h⟩)
 clear hE6 hcw hb6 hM6 HCC
 go_wp2
 exact HPo.out _ _ (by rw [HK.out.1]; exact ev_ref HK.out.2 _ _ _ _) HB6.out (fun h => absurd (HK.out.1.symm.trans h) HK.out.2))
 have hC1 : Cond := HCO.out HSR.out (fun _ => hcw)
 obtain ⟨v6, hB6, hO6⟩ := hM6 hcw
 rw [HS1.out.2 HS0.out] at hO6
 obtain ⟨a1, c1, hv6⟩ := own_len hO6
 obtain ⟨L1, hL1⟩ := exa (l1.length)
 rw [← hL1] at hv6
 subst hv6
 have HBW : Hid (Below n w w6 ∧ Box w6 S 27 #[.slice a1 L1 c1, .int .i64 nx] ∧ ndsN.owns n w6 [.slice a1 L1 c1] l1) := ⟨HB6.out, hB6, hO6⟩
 obtain rfl : E6 = .nilIface := by (
 rcases hE6 with ⟨_, h⟩ | ⟨h, _⟩
 · exact h
 · exact absurd hcw h)
 clear hE6 hcw hb6 hM6 HCC hB6 hO6 hL1 hc5'
 have HCS := HSK.out hC1 w6 _ HBW.out.1 HBW.out.2.2
 obtain ⟨t0, t1, -, -⟩ := HBW.out.2.1.two
 go_wp2_with fail
 refine HCS.mono ?_
 rintro e7 w7 ⟨rfl, hg7, hO7⟩
 have hB7 := HBW.out.2.1.grown hg7 (own_apart HBW.out.2.1 HBW.out.2.2)
 have HB7 : Hid (Below n w w7 ∧ Box w7 S 27 #[.slice a1 L1 c1, .int .i64 nx] ∧ ndsN.owns n w7 [.slice a1 L1 c1] l2) := ⟨HBW.out.1.trans (row_below HBW.out.2.2 (by have := HBW.out.2.1.lt; have := HS.out.2.2.2; omega) hg7), hB7, hO7⟩
 have HCE := HEN.out hC1 w7 _ HB7.out.1 HB7.out.2.2
 clear t0 t1 hg7 hO7 hB7 HCS
 obtain ⟨t0, t1, -, -⟩ := HB7.out.2.1.two
 go_wp2_with fail
 refine HCE.mono ?_
 rintro e8 w8 ⟨⟨E8, rfl, hE8⟩, hg8, hO8, -⟩
 have hB8 := HB7.out.2.1.grown hg8 (own_apart HB7.out.2.1 HB7.out.2.2)
 have HB8 : Hid (Below n w w8 ∧ Box w8 S 27 #[.slice a1 L1 c1, .int .i64 nx] ∧ (ae = 0 → ndsN.owns n w8 [.slice a1 L1 c1] l3)) := ⟨HB7.out.1.trans (row_below HB7.out.2.2 (by have := HB7.out.2.1.lt; have := HS.out.2.2.2; omega) hg8), hB8, hO8⟩
 clear t0 t1 hg8 hO8 hB8 HCE
 by_cases hae : ae = 0
 case neg => (
 have HK : Hid (K = ae ∧ ae ≠ 0) := ⟨HKK.out.2.1 hC1 hae, hae⟩
 obtain ⟨a2, l2', c2, s2, rfl⟩ : ∃ a2 l2 c2 s2, E8 = refV (.slice a2 l2 c2) ae s2 := by (
 rcases hE8 with ⟨h, _⟩ | ⟨_, a2, l2, c2, s2, h⟩
 · exact absurd h hae
 · exact ⟨a2, l2, c2, s2, h⟩)
 clear hE8 hae
 go_wp2
 exact HPo.out _ _ (by rw [HK.out.1]; exact ev_ref HK.out.2 _ _ _ _) HB8.out.1 (fun h => absurd (HK.out.1.symm.trans h) HK.out.2))
 subst hae
 obtain rfl : E8 = .nilIface := by (
 rcases hE8 with ⟨_, h⟩ | ⟨h, _⟩
 · exact h
 · exact absurd rfl h)
 have HCB := HBE.out hC1 (by simp) w8 a1 L1 c1 (HB8.out.2.2 (by simp))
 obtain ⟨t0, t1, -, -⟩ := HB8.out.2.1.two
 clear hE8
 go_wp2_with fail
 refine HCB.mono ?_
 rintro e9 w9 ⟨rfl, hb9⟩
 have HB9 : Hid (Below n w w9 ∧ MS n w9 S (l3, nx)) := ⟨HB8.out.1.trans (hb9.mono (by have := HB8.out.2.1.lt; have := HS.out.2.2.2; omega)), ⟨_, HB8.out.2.1.below hb9 HB8.out.2.1.lt, ndsN.obelow (HB8.out.2.2 (by simp)) hb9⟩⟩
 clear hb9 HCB t0 t1
 by_cases h8 : 8 < m2 + dp
 · have HK : Hid (K = 5) := HKK.out.2.2.1 hC1 (by simp) h8
   have h8i : (8 : Int) < (m2 : Int) + (dp : Int) := by omega
   have hr := refuse_bad 5 (by decide) bv m2 dv w9
   clear h8
   go_wp2_with fail
   refine hr.mono ?_
   rintro e10 w10 ⟨rfl, rfl⟩
   go_wp2
   exact HPo.out _ _ (by rw [HK.out]; exact ev_ref (by decide) _ _ _ _) HB9.out.1 (fun h => by rw [HK.out] at h; omega)
 · have HK : Hid (K = 0 ∧ S' = (l3, nx)) := HKK.out.2.2.2 hC1 (by simp) h8
   have h8i : ¬ (8 : Int) < (m2 : Int) + (dp : Int) := by omega
   clear h8
   go_wp2
   exact HPo.out _ _ (by rw [HK.out.1]; exact ev_nil) HB9.out.1 (fun _ => by rw [HK.out.2]; exact HB9.out.2))
end Go.Proofs.YtkcnephbaffmbaaGreatDoor
namespace Go.Proofs.YtkcnephbaffmbaaGreatDoor
open Go.RowKit
open P (ArgT serr sval)
theorem sval_len {p : ByteArray} (h : serr p = 0) : (sval p).length ≤ 8 := by
 rw [P.sval_zero h]
 exact (P.serr_zero.1 h).2.2.2
theorem renameDo_any (n S : Nat) (s : St) (hOk : Ok s) (p q : ByteArray) (hq : serr q = 0) (v2 : Value) (w : World) (hM : MS n w S s) (hnS : n ≤ S) (hL : StayL n w v2 [p, q]) :
   Calls Tryz.prog 70 #[.pointer (some ⟨S, 0, none⟩), v2] w fun e w' => (∃ E, e = .returned E ∧ EV (renE s (sval p) (sval q)) E) ∧ Below n w w' ∧ (renE s (sval p) (sval q) = 0 → MS n w' S (renS s (sval p) (sval q))) := by
 obtain ⟨b, o, av, cv, hix, hc, hX⟩ := hL 0 p rfl
 obtain ⟨b2, o2, bv, dv, hix2, hc2, hY⟩ := hL 1 q rfl
 have hix : ∀ W, (Instr.indexAt 89 v2 (.int .i64 0)).run Tryz.prog W = .ok (.pointer (some ⟨b, o, none⟩)) W := hix
 have hix2 : ∀ W, (Instr.indexAt 89 v2 (.int .i64 1)).run Tryz.prog W = .ok (.pointer (some ⟨b2, o2, none⟩)) W := hix2
 have HC := rename_any n S s hOk av bv cv dv (sval p) (sval q) (lst_name hq) (sval_len hq) w.drew (by exact hM) hnS (hX.below (Below.refl _ w).drew) (hY.below (Below.refl _ w).drew)
 obtain ⟨post, hpost⟩ : ∃ post : Ending → World → Prop, post = fun e w' => (∃ E, e = .returned E ∧ EV (renE s (sval p) (sval q)) E) ∧ Below n w w' ∧ (renE s (sval p) (sval q) = 0 → MS n w' S (renS s (sval p) (sval q))) := ⟨_, rfl⟩
 have HC' := HC.mono (R' := fun e w' => post e w' ∧ (∃ E, e = .returned E ∧ post (.returned E) w') ∧ Below n w w') fun e w' h => by (
 have hb : Below n w w' := (Below.refl _ w).drew.trans h.2.1
 obtain ⟨⟨E, rfl, h1⟩, h2, h3⟩ := h
 have hh : post (.returned E) w' := by rw [hpost]; exact ⟨⟨E, rfl, h1⟩, hb, h3⟩
 exact ⟨hh, ⟨E, rfl, hh⟩, hb⟩)
 rw [← hpost]
 have HCC : Hid (∀ w', Below n w w' → w'.cell? ⟨b, o, none⟩ = some (.slice av (sval p).length cv) ∧ w'.cell? ⟨b2, o2, none⟩ = some (.slice bv (sval q).length dv)) := fun w' hb => ⟨hc w' hb, hc2 w' hb⟩
 obtain ⟨m, hm⟩ := exa ((sval p).length)
 obtain ⟨m2, hm2⟩ := exa ((sval q).length)
 rw [← hm, ← hm2] at HC' HCC
 have HS0 : w.drew.cell? ⟨b, o, none⟩ = some (.slice av m cv) ∧ w.drew.cell? ⟨b2, o2, none⟩ = some (.slice bv m2 dv) := HCC.out w (Below.refl _ _)
 clear hX hY hM hpost hm hm2 hc hc2 hL HC
 go_enter Tryz.func70, Tryz.ntmps70
 go_wp2
 go_region_held3 (fun U => U.cell? ⟨b, o, none⟩ = some (.slice av m cv) ∧ U.cell? ⟨b2, o2, none⟩ = some (.slice bv m2 dv))
   (first | with_reducible exact HS1 | with_reducible exact HS0)
   ((first | (go_at_call 71; refine HC'.mono ?_; rintro e1 w1 ⟨-, ⟨E, rfl, h2⟩, hb1⟩; have HS1 : w1.cell? ⟨b, o, none⟩ = some (.slice av m cv) ∧ w1.cell? ⟨b2, o2, none⟩ = some (.slice bv m2 dv) := HCC.out w1 hb1)))
 have H2 : Hid (post (.returned E) w1) := h2
 clear h2 HC' hb1 HS0 HS1 hix hix2
 go_wp2
 exact H2.out
theorem Rename_any (n0 : Nat) (a : Option Addr) (c : Nat) (s : St) (p q : ByteArray) (hp : p.size ≤ maxLen) (hq : q.size ≤ maxLen) (w : World) (hA : ndsN.lies n0 w [.slice a s.1.length c] s.1) (hg : Glob w) :
   Calls Tryz.prog 25 #[.agg #[.slice a s.1.length c, .int .i64 s.2], .string p, .string q] w (Changed s [p, q] (renE s (sval p) (sval q)) (renS s (sval p) (sval q)) w) := by
 obtain ⟨W1, hW1⟩ := exa (w.alloc (.cells #[.slice a s.1.length c, .int .i64 s.2] 27))
 obtain ⟨W2, hW2⟩ := exa (W1.alloc (.cells #[.slice none 0 0, .int .i64 0] 27))
 obtain ⟨W3, hW3⟩ := exa (W2.alloc (.cells #[.string p, .string q] 9))
 have hb1 : Below w.heap.size w W1 := by rw [hW1]; exact (Below.refl _ w).alloc (Nat.le_refl _) _
 have hb2 : Below w.heap.size w W2 := by rw [hW2]; exact hb1.alloc hb1.size _
 have hb3 : Below w.heap.size w W3 := by rw [hW3]; exact hb2.alloc hb2.size _
 have hs1 : W1.heap.size = w.heap.size + 1 := by rw [hW1]; exact Array.size_push _
 have hs2 : W2.heap.size = w.heap.size + 1 + 1 := by rw [hW2, ← hs1]; exact Array.size_push _
 have hBS : Box W2 w.heap.size 27 #[.slice a s.1.length c, .int .i64 s.2] := by
   have : Box W1 w.heap.size 27 #[.slice a s.1.length c, .int .i64 s.2] := by rw [hW1]; exact Box.new _ _ _
   rw [hW2]; exact this.alloc _
 have hBR : Box W3 (w.heap.size + 1) 27 #[.slice none 0 0, .int .i64 0] := by rw [hW3, hW2, ← hs1]; exact (Box.new _ _ _).alloc _
 have hBT : Box W3 W2.heap.size 9 #[.string p, .string q] := by rw [hW3]; exact Box.new _ _ _
 have hX : ArgT w.heap.size W3 (.slice (some ⟨W2.heap.size, 0, none⟩) 2 2) [p, q] := argT_box (ps := [p, q]) hBT hb2.size (by simp [maxLen]) fun r hr => by (
 rcases List.mem_cons.1 hr with rfl | hr
 · exact hp
 · rw [List.mem_singleton.1 hr]; exact hq)
 have HC := change0_any 70 Tryz.call70 n0 w.heap.size a c s (some ⟨W2.heap.size, 0, none⟩) 2 [p, q] (by simp) W3 (ndsN.below hA hb3) hX (hg.below hb3 hg.lt) (renE s (sval p) (sval q)) (renS s (sval p) (sval q))
   (fun hok hps V v2 B S hbV hB hBS hL hM => (renameDo_any B S s hok p q (psE_zero hps q (by simp)) v2 V hM hBS hL).mono fun e w' h => ⟨h.1, h.2.1, fun k => (h.2.2 k).ml⟩)
 rw [hs2] at HC
 have HCH : Hid (∀ e w', Changed s [p, q] (renE s (sval p) (sval q)) (renS s (sval p) (sval q)) W3 e w' → ∃ a3 n3 c3 x3 k3, e = .returned (.tuple #[.agg #[.slice a3 n3 c3, .int .i64 x3], .int .i64 k3]) ∧ Below W3.heap.size W3 w' ∧ Changed s [p, q] (renE s (sval p) (sval q)) (renS s (sval p) (sval q)) w (.returned (.tuple #[.agg #[.slice a3 n3 c3, .int .i64 x3], .int .i64 k3])) ((w'.setCell ⟨w.heap.size + 1, 0, none⟩ (.slice a3 n3 c3)).setCell ⟨w.heap.size + 1, 1, none⟩ (.int .i64 x3))) := fun e w' h => changed_up hb3 (by have : W3.heap.size = W2.heap.size + 1 := (by rw [hW3]; exact Array.size_push _); omega) h
 generalize renE s (sval p) (sval q) = K at HC HCH ⊢
 generalize renS s (sval p) (sval q) = s' at HC HCH ⊢
 obtain ⟨post, hpost⟩ : ∃ post : Ending → World → Prop, post = Changed s [p, q] K s' w := ⟨_, rfl⟩
 rw [← hpost] at HCH ⊢
 obtain ⟨pre, hpre⟩ : ∃ post : Ending → World → Prop, post = Changed s [p, q] K s' W3 := ⟨_, rfl⟩
 rw [← hpre] at HCH HC
 have HB : Hid (Box W3 (w.heap.size + 1) 27 #[.slice none 0 0, .int .i64 0]) := hBR
 obtain ⟨g0, g1, -, -⟩ := hBS.two
 rw [hW2, hW1] at g0 g1
 obtain ⟨n, hn⟩ := exa (s.1.length)
 obtain ⟨nx, hnx⟩ := exa (s.2)
 rw [← hn] at HC hW1 g0 g1 ⊢
 rw [← hnx] at HC hW1 g0 g1 ⊢
 clear hA hg hp hq hb1 hb2 hb3 hBR hBS hBT hX hn hnx hpost hpre hs1 hs2
 go_enter Tryz.func25, Tryz.ntmps25
 go_wp2_with fail
 rw [← hW1, ← hW2, ← hW3]
 clear hW1 hW2 hW3 g0 g1
 refine HC.mono ?_
 intro e4 w4 h4
 obtain ⟨a3, n3, c3, x3, k3, rfl, hb4, hP⟩ := HCH.out e4 w4 h4
 obtain ⟨d0, d1, e0, e1⟩ := (HB.out.below hb4 HB.out.lt).two
 have HP : Hid (post (.returned (.tuple #[.agg #[.slice a3 n3 c3, .int .i64 x3], .int .i64 k3])) ((w4.setCell ⟨w.heap.size + 1, 0, none⟩ (.slice a3 n3 c3)).setCell ⟨w.heap.size + 1, 1, none⟩ (.int .i64 x3))) := hP
 clear h4 hP hb4 HC HCH
 go_wp2
 refine bodyPost_ret (v := .tuple #[.agg #[.slice a3 n3 c3, .int .i64 x3], .int .i64 k3]) (by simp [results, Tryz.results25, go_sem, *]) rfl HP.out
end Go.Proofs.YtkcnephbaffmbaaGreatDoor
namespace Go.Proofs.YtkcnephbaffmbaaGreatDoor
open Go.RowKit
open P (serr sval)
def Told (s : St) (ps : List ByteArray) (K : Int) (s' : St) (k : Int) (S : St) : Prop :=
 (¬ Ok s ∧ k = 9 ∧ S = ([], 0)) ∨ (Ok s ∧ psE ps ≠ 0 ∧ k = psE ps ∧ S = ([], 0)) ∨ (Ok s ∧ psE ps = 0 ∧ K ≠ 0 ∧ k = K ∧ S = ([], 0)) ∨ (Ok s ∧ psE ps = 0 ∧ K = 0 ∧ k = 0 ∧ S = s')
theorem Told.one {s : St} {ps : List ByteArray} {K : Int} {s' : St} {k k2 : Int} {S S2 : St} (h : Told s ps K s' k S) (h2 : Told s ps K s' k2 S2) : k = k2 ∧ S = S2 := by
 rcases h with ⟨a, b, c⟩ | ⟨a, b, c, d⟩ | ⟨a, b, c, d, e⟩ | ⟨a, b, c, d, e⟩ <;> rcases h2 with ⟨a2, b2, c2⟩ | ⟨a2, b2, c2, d2⟩ | ⟨a2, b2, c2, d2, e2⟩ | ⟨a2, b2, c2, d2, e2⟩ <;>
   first
     | (exfalso; contradiction)
     | (subst_vars; exact ⟨rfl, rfl⟩)
     | (exfalso; omega)
theorem Told.ok {s : St} {ps : List ByteArray} {K : Int} {s' : St} {S : St} (h : Told s ps K s' 0 S) : Ok s ∧ psE ps = 0 ∧ K = 0 ∧ S = s' := by
 rcases h with ⟨_, b, _⟩ | ⟨_, b, c, _⟩ | ⟨_, _, c, d, _⟩ | ⟨a, b, c, _, e⟩
 · omega
 · omega
 · omega
 · exact ⟨a, b, c, e⟩
theorem Told.yes {s : St} {ps : List ByteArray} {K : Int} {s' : St} {k : Int} {S : St} (h : Told s ps K s' k S) (h1 : Ok s) (h2 : psE ps = 0) (h3 : K = 0) : k = 0 ∧ S = s' := h.one (.inr (.inr (.inr ⟨h1, h2, h3, rfl, rfl⟩)))
theorem Told.no {s : St} {ps : List ByteArray} {K : Int} {s' : St} {k : Int} {S : St} (h : Told s ps K s' k S) (h1 : Ok s) (h2 : psE ps = 0) (h3 : K ≠ 0) : k = K ∧ S = ([], 0) := h.one (.inr (.inr (.inl ⟨h1, h2, h3, rfl, rfl⟩)))
theorem Told.same {s : St} {ps : List ByteArray} {K : Int} {s' s2 : St} {k k2 : Int} {S S2 : St} (h : Told s ps K s' k S) (h2 : Told s ps K s2 k2 S2) : k = k2 := by
 rcases h with ⟨a, b, c⟩ | ⟨a, b, c, d⟩ | ⟨a, b, c, d, e⟩ | ⟨a, b, c, d, e⟩ <;> rcases h2 with ⟨a2, b2, c2⟩ | ⟨a2, b2, c2, d2⟩ | ⟨a2, b2, c2, d2, e2⟩ | ⟨a2, b2, c2, d2, e2⟩ <;>
   first
     | (exfalso; contradiction)
     | (subst_vars; rfl)
     | (exfalso; omega)
theorem psE_one {p : ByteArray} : psE [p] = serr p := by
 by_cases h : serr p = 0
 · rw [h]; exact psE_all fun q hq => by rw [List.mem_singleton.1 hq]; exact h
 · exact psE_bad (k := 0) (fun q hq => by simp at hq) rfl h
theorem psE_two {p q : ByteArray} : psE [p, q] = 0 ↔ serr p = 0 ∧ serr q = 0 := by
 constructor
 · intro h
   have := psE_zero h
   exact ⟨this p (by simp), this q (by simp)⟩
 · rintro ⟨h1, h2⟩
   exact psE_all fun x hx => by (
 rcases List.mem_cons.1 hx with rfl | hx
 · exact h1
 · rw [List.mem_singleton.1 hx]; exact h2)
theorem nds_nil (n : Nat) (w : World) : ndsN.lies n w [.slice none 0 0] [] := ndsN.olies (Shape.list_nil ndN 25 Tryz.underlying25 cells25 n w)
theorem nds_shape {n : Nat} {w : World} {v : Value} {l : List Nd} (h : ndsN.lies n w [v] l) : ∃ a c, v = .slice a l.length c := by
 obtain ⟨a, cap, he, _⟩ := Shape.list_len (S := ndN) (ht := Tryz.underlying25) (hc := cells25) h
 exact ⟨a, cap, by simpa using he⟩
def Tells (s : St) (ps : List ByteArray) (K : Int) (s' : St) (w : World) (e : Ending) (w' : World) : Prop :=
 (∃ k S a c, e = .returned (.tuple #[.agg #[.slice a S.1.length c, .int .i64 S.2], .int .i64 k]) ∧ ndsN.lies w.heap.size w' [.slice a S.1.length c] S.1 ∧ Told s ps K s' k S) ∧ Below w.heap.size w w'
theorem Changed.tells {s : St} {ps : List ByteArray} {K : Int} {s' : St} {w : World} {e : Ending} {w' : World} (h : Changed s ps K s' w e w') : Tells s ps K s' w e w' := by
 refine ⟨?_, h.2⟩
 rcases h.1 with ⟨k, he, hk⟩ | ⟨v, he, h1, h2, h3, hl⟩
 · refine ⟨k, ([], 0), none, 0, he, nds_nil _ _, ?_⟩
   rcases hk with ⟨a, b⟩ | ⟨a, b, c⟩ | ⟨a, b, c, d⟩
   · exact .inl ⟨a, b, rfl⟩
   · exact .inr (.inl ⟨a, b, c, rfl⟩)
   · exact .inr (.inr (.inl ⟨a, b, c, d, rfl⟩))
 · obtain ⟨a, c, rfl⟩ := nds_shape hl
   exact ⟨0, s', a, c, he, hl, .inr (.inr (.inr ⟨h1, h2, h3, rfl, rfl⟩))⟩
end Go.Proofs.YtkcnephbaffmbaaGreatDoor
namespace Go.Proofs.YtkcnephbaffmbaaGreatDoor
open D (En nameOk inoOk Good Chk there fnd ins del aerr)
open F (Fl chk rdE rdO wrE wrF)
open P (serr sval)
theorem ok_new : Ok ([rootN], 2) := by
 have hm : ∀ n ∈ [rootN], n = rootN := fun n hn => List.mem_singleton.1 hn
 refine ⟨⟨by decide, by decide, List.pairwise_singleton _ _, fun n hn => ?_, ⟨rootN, List.mem_singleton.2 rfl, rfl, rfl⟩, fun n hn _ => ?_, fun n hn hd => ?_, fun n hn e he => ?_, fun n hn => ?_, fun n hn _ => ?_, fun n hn h1 => ?_, fun n hn h1 => ?_⟩, fun _ => 0, rfl, fun n hn _ e he => ?_⟩
 · rw [hm n hn]; decide
 · rw [hm n hn]; exact ⟨⟨by decide, D.fine_nil⟩, rfl⟩
 · rw [hm n hn] at hd; cases hd
 · rw [hm n hn] at he; cases he
 · rw [hm n hn]; rfl
 · rw [hm n hn]; rfl
 · rw [hm n hn] at h1; exact absurd rfl h1
 · rw [hm n hn] at h1; exact absurd rfl h1
 · rw [hm n hn] at he; cases he
def exA : ByteArray := ⟨#[97]⟩
def exF : ByteArray := ⟨#[102]⟩
def exB : List Int := [104, 105, 0, 0, 0, 0, 0, 0, 0, 0, 0, 0, 0, 0, 0, 0, 0, 0, 0, 0, 0, 0, 0, 0, 0, 0, 0, 0, 0, 0, 0, 0]
def ex1 : St := ([(1, true, 0, [(exA, 2)], (0, [])), (2, true, 1, [], (0, []))], 3)
def ex2 : St := ([(1, true, 0, [(exA, 2)], (0, [])), (2, true, 1, [(exF, 3)], (0, [])), (3, false, 1, [], (0, []))], 4)
def ex3 : St := ([(1, true, 0, [(exA, 2)], (0, [])), (2, true, 1, [(exF, 3)], (0, [])), (3, false, 1, [], (2, [(0, exB)]))], 4)
theorem ex_p : serr ⟨#[47, 97]⟩ = 0 ∧ sval ⟨#[47, 97]⟩ = [exA] := by decide +kernel
theorem ex_q : serr ⟨#[47, 97, 47, 102]⟩ = 0 ∧ sval ⟨#[47, 97, 47, 102]⟩ = [exA, exF] := by decide +kernel
theorem ex_1 : mkE ([rootN], 2) [exA] = 0 ∧ mkN ([rootN], 2) (hold ([rootN], 2) [exA]) (lst [exA]) true = ex1 := ⟨by decide +kernel, by kernel_rfl⟩
theorem ex_2 : mkE ex1 [exA, exF] = 0 ∧ mkN ex1 (hold ex1 [exA, exF]) (lst [exA, exF]) false = ex2 := ⟨by decide +kernel, by kernel_rfl⟩
theorem ex_3 : rwE ex2 [exA, exF] (wrE (fi (tgt ex2 [exA, exF])) 0 [104, 105]) = 0 ∧ filN ex2 (tgt ex2 [exA, exF]) (wrF (fi (tgt ex2 [exA, exF])) 0 [104, 105]) = ex3 := ⟨by decide +kernel, by kernel_rfl⟩
theorem ex_4 : frE ex3 [exA, exF] 0 9 = 0 ∧ frO ex3 [exA, exF] 0 9 = [104, 105] := by decide +kernel
theorem ex_5 : filE ex3.1 [exA] = 104 ∧ rmE ex3 [exA] = 105 := by decide +kernel
theorem ex_ok1 : Ok ex1 := by rw [← ex_1.2]; exact mk_ok ok_new (by decide) ex_1.1 true
theorem ex_ok2 : Ok ex2 := by rw [← ex_2.2]; exact mk_ok ex_ok1 (by decide) ex_2.1 false
theorem ex_ok3 : Ok ex3 := by rw [← ex_3.2]; exact write_ok ex_ok2 ex_3.1
end Go.Proofs.YtkcnephbaffmbaaGreatDoor
namespace Go.Proofs.YtkcnephbaffmbaaGreatDoor
open D (En nameOk inoOk Good Chk there fnd ins del aerr)
theorem del_lt {l : List En} (h : Chk l) {x : ByteArray} {c : Int} (hm : (x, c) ∈ l) : (del l x).length < 63 := by
 have h1 := (D.del_perm h hm).length_eq
 rw [List.length_cons] at h1
 have := h.1
 omega
theorem there_sub {l m : List En} (h : ∀ e ∈ m, e ∈ l) {x : ByteArray} (ht : there l x = false) : there m x = false := by
 cases hm : there m x
 · rfl
 · obtain ⟨c, hc⟩ := D.there_mem.1 hm
   rw [D.there_mem.2 ⟨c, h _ hc⟩] at ht
   cases ht
theorem there_gone {l : List En} (h : Chk l) (x : ByteArray) : there (del l x) x = false := by
 cases ht : there (del l x) x
 · rfl
 · obtain ⟨c, hc⟩ := D.there_mem.1 ht
   exact absurd rfl (D.del_none h _ hc)
theorem aerr_room {l : List En} {e : En} (h1 : Chk l) (h2 : nameOk e.1 = true) (h3 : inoOk e.2 = true) (h4 : there l e.1 = false) : aerr l e = if 63 ≤ l.length then 51 else 0 := by
 have := h1.1
 unfold aerr
 rw [if_pos h1, if_pos h2, if_pos h3, h4]
 rw [if_neg (by decide)]
 split
 · rw [if_pos (by omega)]
 · rw [if_neg (by omega)]
theorem ren_room {s : St} (h : Ok s) {xs ys : List ByteArray} (hx0 : xs ≠ []) (hy0 : ys ≠ []) (hx : (wlk s.1 1 xs).2 = 0) (hs : stdE s.1 ys = 0) (hst : stdT s.1 ys ≠ (tgt s xs).1) (hcw : stdT s.1 ys ≠ 0 → cwE s xs ys = 0) (hn : nameOk (lst ys) = true) :
   aerr (en (gt (ren2 s xs ys) (stdI s.1 ys))) (lst ys, (tgt s xs).1) = if stdT s.1 ys = 0 ∧ (hold s xs).1 ≠ (hold s ys).1 ∧ 63 ≤ (en (hold s ys)).length then 51 else 0 := by
 obtain ⟨c1, c2, c3, c4, c5, -⟩ := ren_clear h hx0 hy0 hx hs hst hcw
 obtain ⟨d1, d2, d3, d4, -, -⟩ := ren_struck h hx0 hy0 hx hs hst hcw
 obtain ⟨y1, y2, y3, y4, y5⟩ := std_zero h.wk hs
 obtain ⟨b1, b2, b3, b4, b5⟩ := c1.wk.stands hx0 (by rw [c2])
 have hlow := h.wk.low _ (h.wk.lead hx).1
 have hnx := h.wk.nx
 have hi : inoOk (tgt s xs).1 = true := by unfold D.inoOk; simp; omega
 have hck := (d1.dirs _ d2 d4).1
 have hcy := (h.wk.dirs _ y2 y4).1
 have hcp := (c1.wk.dirs _ b1 b3).1
 have hen : en (gt (ren2 s xs ys) (stdI s.1 ys)) = if (hold s ys).1 = (hold s xs).1 then del (en (hold (ren1 s ys) xs)) (lst xs) else kid (ren1 s ys).1 (hold s ys).1 := by (
 have h1 := kid_of d1.up d2
 rw [d3, y3] at h1
 rw [y3, ← h1]
 have h2 := kid_ch c1.wk.up b1 (del (en (hold (ren1 s ys) xs)) (lst xs)) (hold s ys).1
 rw [c4] at h2
 rw [← h2]
 unfold ren2
 rw [c4])
 have hr0 : stdT s.1 ys = 0 → ren1 s ys = s := fun e => by unfold ren1; rw [if_pos e]
 have hkid : stdT s.1 ys ≠ 0 → kid (ren1 s ys).1 (hold s ys).1 = del (en (hold s ys)) (lst ys) ∧ ∃ c, (lst ys, c) ∈ en (hold s ys) := fun h0 => by (
 obtain ⟨w1, w2⟩ := cw_zero h.wk (hcw h0)
 obtain ⟨z1, z2, z3⟩ := h.wk.lead w1
 obtain ⟨q1, q2, q3, q4, q5⟩ := h.wk.stands hy0 w1
 refine ⟨?_, _, q4⟩
 unfold ren1
 rw [if_neg h0, kid_dropped h.wk q1 z1 q4 w2, if_pos rfl])
 have hno : stdT s.1 ys = 0 → there (en (hold s ys)) (lst ys) = false := fun h0 => by (
 rw [y5] at h0
 unfold entC at h0
 rw [if_neg (by rw [y4]; decide)] at h0
 split at h0
 · assumption
 · rename_i ht
   have ht : there (en (hold s ys)) (lst ys) = true := by simpa using ht
   obtain ⟨c, hc⟩ := D.there_mem.1 ht
   rw [D.fnd_mem hcy hc] at h0
   have := (hcy.2.1 _ hc).2
   unfold D.inoOk at this
   simp at this
   omega)
 rw [hen]
 rw [hen] at hck
 by_cases he : (hold s ys).1 = (hold s xs).1
 · rw [if_pos he] at hck ⊢
   have hsub : ∀ e ∈ del (en (hold (ren1 s ys) xs)) (lst xs), e ∈ en (hold (ren1 s ys) xs) := fun e k => (D.mem_del hcp k).1
   have hk : en (hold (ren1 s ys) xs) = kid (ren1 s ys).1 (hold s ys).1 := by rw [he, ← c4]; exact (kid_of c1.wk.up b1).symm
   have ht : there (en (hold (ren1 s ys) xs)) (lst ys) = false := by (
 rw [hk]
 by_cases h0 : stdT s.1 ys = 0
 · rw [hr0 h0, kid_of h.wk.up y2]; exact hno h0
 · rw [(hkid h0).1]; exact there_gone hcy _)
   rw [aerr_room hck hn hi (there_sub hsub ht), if_neg (by have := del_lt hcp b4; omega), if_neg fun k => k.2.1 he.symm]
 · rw [if_neg he] at hck ⊢
   by_cases h0 : stdT s.1 ys = 0
   · rw [hr0 h0, kid_of h.wk.up y2] at hck ⊢
     rw [aerr_room hck hn hi (hno h0)]
     by_cases hl : 63 ≤ (en (hold s ys)).length
     · rw [if_pos hl, if_pos ⟨h0, fun e => he e.symm, hl⟩]
     · rw [if_neg hl, if_neg fun k => hl k.2.2]
   · obtain ⟨k1, c, k2⟩ := hkid h0
     rw [k1] at hck ⊢
     rw [aerr_room hck hn hi (there_gone hcy _), if_neg (by have := del_lt hcy k2; omega), if_neg fun k => h0 k.1]
end Go.Proofs.YtkcnephbaffmbaaGreatDoor
