/-
  fs.Read: what it answers.
  fs.List: what it answers.
  What each op tells, in one word for all its answers: its error's number and the state.
  fs.List: what it answers.
  Plain mathematics: the page's example.
-/
import Derived.Test.YtkcnephbaffmbaaGreatDoorJ42
set_option maxRecDepth 100000
set_option maxHeartbeats 8000000
namespace Go.Proofs.YtkcnephbaffmbaaGreatDoor
open Go.RowKit
open F (Fl flN bksN rdE rdO)
open P (ArgT OwnT tv serr sval)
def frE (s : St) (xs : List ByteArray) (off n : Int) : Int := if filE s.1 xs ≠ 0 then filE s.1 xs else rdE (fi (tgt s xs)) off n
def frO (s : St) (xs : List ByteArray) (off n : Int) : List Int := if filE s.1 xs ≠ 0 then [] else rdO (fi (tgt s xs)) off n
def HoldsO (base : Nat) (O : List Int) (Q : Nat) (w : World) : Prop := ∃ a c, Box w Q 47 #[.slice a O.length c] ∧ Arg base w (.slice a O.length c) O
theorem HoldsO.below {base : Nat} {O : List Int} {Q : Nat} {w w' : World} (h : HoldsO base O Q w) (hb : Below w.heap.size w w') : HoldsO base O Q w' := by
 obtain ⟨a, c, h1, h2⟩ := h
 exact ⟨a, c, h1.below hb h1.lt, h2.below hb⟩
theorem HoldsO.nil {base : Nat} {w : World} {Q : Nat} (h : Box w Q 47 #[.slice none 0 0]) : HoldsO base [] Q w := ⟨none, 0, h, .mk ⟨rfl, .inl ⟨rfl, rfl⟩⟩ (fun _ h => by cases h)⟩
theorem OwnL.at2 {base : Nat} {w : World} {v : Value} {ps : List ByteArray} (h : OwnL base w v ps) (i : Nat) (p : ByteArray) (hp : ps[i]? = some p) :
   ∃ b o a c, (∀ W, (Instr.indexAt 89 v (.int .i64 i)).run Tryz.prog W = .ok (.pointer (some ⟨b, o, none⟩)) W) ∧ w.cell? ⟨b, o, none⟩ = some (.slice a (sval p).length c) ∧ ArgT base w (.slice a (sval p).length c) (sval p) ∧ base ≤ b := by
 obtain ⟨us, h1, h2⟩ := h
 obtain ⟨u, hu, hT⟩ := h2.get hp
 obtain ⟨a, c, rfl⟩ := hT.shape
 obtain ⟨i0, hi0, _, hz, _⟩ := info_parts Tryz.info59
 have hC : Cells base w 1 v ps.length us := .own h1
 obtain ⟨b, o, hix, hb, hc⟩ := hC.index (by omega) Tryz.underlying89 hi0 hz i (List.getElem?_eq_some_iff.1 hp).1
 exact ⟨b, o, a, c, hix, hc 0 _ (by simpa using hu), hT.arg, hb⟩
theorem read_split {fe wi : Int} {l : List Nd} {v : Value} {e : Ending} (h : (fe ≠ 0 ∧ (∃ E, e = .returned (.tuple #[.pointer none, E]) ∧ EV fe E)) ∨ (fe = 0 ∧ ∃ k p b o, l[k]? = some p ∧ p.1 = wi ∧ (∀ W, (Instr.indexAt 25 v (.int .i64 (k : Nat))).run Tryz.prog W = .ok (.pointer (some ⟨b, o, none⟩)) W) ∧ e = .returned (.tuple #[.pointer (some ⟨b, o, none⟩), .nilIface]))) :
   ∃ R1 R2, e = .returned (.tuple #[R1, R2]) ∧ ((fe ≠ 0 ∧ R1 = .pointer none ∧ EV fe R2) ∨ (fe = 0 ∧ R2 = .nilIface ∧ ∃ k q b o, l[k]? = some q ∧ q.1 = wi ∧ (∀ W, (Instr.indexAt 25 v (.int .i64 (k : Nat))).run Tryz.prog W = .ok (.pointer (some ⟨b, o, none⟩)) W) ∧ R1 = .pointer (some ⟨b, o, none⟩))) := by
 rcases h with ⟨h0, E, rfl, h⟩ | ⟨h0, k, p, b, o, h1, h2, h3, rfl⟩
 · exact ⟨_, _, rfl, .inl ⟨h0, rfl, h⟩⟩
 · exact ⟨_, _, rfl, .inr ⟨h0, rfl, k, p, b, o, h1, h2, h3, rfl⟩⟩
theorem readDo_any (n0 : Nat) (a : Option Addr) (c : Nat) (s : St) (hK : Wk s) (p : ByteArray) (off nn : Int) (ho : I64 off) (hn : I64 nn) (B Q1 Q2 Q : Nat) (v2 : Value) (w0 V : World) (hA : ndsN.lies n0 w0 [.slice a s.1.length c] s.1) (hb : Below w0.heap.size w0 V) (hB : Box V B 27 #[.slice a s.1.length c, .int .i64 s.2]) (hL : OwnL w0.heap.size V v2 [p]) (hQ1 : Box V Q1 3 #[.int .i64 off]) (hQ2 : Box V Q2 3 #[.int .i64 nn]) (hQ : Box V Q 47 #[.slice none 0 0]) (hQw : Q < w0.heap.size) :
   Calls Tryz.prog 91 #[.pointer (some ⟨B, 0, none⟩), v2, .pointer (some ⟨Q1, 0, none⟩), .pointer (some ⟨Q2, 0, none⟩), .pointer (some ⟨Q, 0, none⟩)] V fun e w' => (∃ E, e = .returned E ∧ EV (frE s (sval p) off nn) E) ∧ V.grownBy w' (some Q) ∧ HoldsO w0.heap.size (frO s (sval p) off nn) Q w' := by
 obtain ⟨pb, po, pa, pc, hix, hpc, hT, hpb⟩ := hL.at2 0 p rfl
 have HPB : Hid (w0.heap.size ≤ pb) := hpb
 have hix : ∀ W, (Instr.indexAt 89 v2 (.int .i64 0)).run Tryz.prog W = .ok (.pointer (some ⟨pb, po, none⟩)) W := hix
 have HC := findFile_any n0 _ a c s hK pa pc (sval p) V.drew (ndsN.below hA (below_any hb (Below.refl _ V).drew)) (hT.below (Below.refl _ V).drew)
 obtain ⟨g0, g1, -, -⟩ := hB.two
 have HQ : Hid (Box V Q 47 #[.slice none 0 0] ∧ Box V Q1 3 #[.int .i64 off] ∧ Box V Q2 3 #[.int .i64 nn] ∧ Q < w0.heap.size ∧ w0.heap.size ≤ V.heap.size ∧ V.cell? ⟨pb, po, none⟩ = some (.slice pa (sval p).length pc)) := ⟨hQ, hQ1, hQ2, hQw, hb.size, hpc⟩
 have HNN : Hid (filE s.1 (sval p) = 0 → (wlk s.1 1 (sval p)).1 = (tgt s (sval p)).1 ∧ ∀ q ∈ s.1, q.1 = (tgt s (sval p)).1 → q = tgt s (sval p)) := fun h0 => by (
 have hl := hK.lead (fil_zero h0).1
 refine ⟨hl.2.1, fun q hq he => ?_⟩
 have h1 := gt_of hK.up hq
 have h2 := gt_of hK.up hl.1
 rw [← h1, he, h2])
 have HAV : Hid (∀ W, Below V.heap.size V W → ndsN.lies n0 W [.slice a s.1.length c] s.1) := fun W hW => ndsN.below hA (below_any hb hW)
 have HRE : Hid (frE s (sval p) off nn = (if filE s.1 (sval p) ≠ 0 then filE s.1 (sval p) else rdE (fi (tgt s (sval p))) off nn) ∧ frO s (sval p) off nn = (if filE s.1 (sval p) ≠ 0 then [] else rdO (fi (tgt s (sval p))) off nn) ∧ I64 off ∧ I64 nn) := ⟨rfl, rfl, ho, hn⟩
 generalize frE s (sval p) off nn = re at HRE ⊢
 generalize frO s (sval p) off nn = ro at HRE ⊢
 generalize tgt s (sval p) = T at HNN HRE
 generalize (wlk s.1 1 (sval p)).1 = wi at HC HNN
 generalize filE s.1 (sval p) = fe at HC HNN HRE
 obtain ⟨n, hn'⟩ := exa (s.1.length)
 obtain ⟨nx, hnx⟩ := exa (s.2)
 obtain ⟨m, hm⟩ := exa ((sval p).length)
 obtain ⟨l, hl⟩ := exa (s.1)
 rw [← hn', ← hnx, ← hm, ← hl] at HC
 rw [← hn', ← hl] at HAV
 rw [← hl] at HNN
 rw [← hm] at HQ hpc
 rw [← hn'] at g0
 rw [← hnx] at g1
 have HS0 : V.drew.cell? ⟨B, 0, none⟩ = some (.slice a n c) ∧ V.drew.cell? ⟨B, 1, none⟩ = some (.int .i64 nx) ∧ V.drew.cell? ⟨pb, po, none⟩ = some (.slice pa m pc) := ⟨g0, g1, hpc⟩
 obtain ⟨post, hpost⟩ : ∃ post : Ending → World → Prop, post = fun e w' => (∃ E, e = .returned E ∧ EV re E) ∧ V.grownBy w' (some Q) ∧ HoldsO w0.heap.size ro Q w' := ⟨_, rfl⟩
 have HPo : Hid (∀ E w', EV re E → V.grownBy w' (some Q) → HoldsO w0.heap.size ro Q w' → post (.returned E) w') := fun E w' h1 h2 h3 => by rw [hpost]; exact ⟨⟨_, rfl, h1⟩, h2, h3⟩
 rw [← hpost]
 clear hA hb hB hL hQ hQ1 hQ2 hT hpb hn' hnx hm hl hK hpost ho hn hQw
 go_enter Tryz.func91, Tryz.ntmps91
 go_wp2
 go_region_held3 (fun U => U.cell? ⟨B, 0, none⟩ = some (.slice a n c) ∧ U.cell? ⟨B, 1, none⟩ = some (.int .i64 nx) ∧ U.cell? ⟨pb, po, none⟩ = some (.slice pa m pc))
   (first | with_reducible exact HS1 | with_reducible exact HS0)
   ((first | (go_at_call 92; refine HC.mono ?_; rintro e w1 ⟨hr, hb1⟩; have HS1 : w1.cell? ⟨B, 0, none⟩ = some (.slice a n c) ∧ w1.cell? ⟨B, 1, none⟩ = some (.int .i64 nx) ∧ w1.cell? ⟨pb, po, none⟩ = some (.slice pa m pc) := ⟨by rw [hb1.cell (p := ⟨B, 0, none⟩) (cell_lt HS0.1)]; exact HS0.1, by rw [hb1.cell (p := ⟨B, 1, none⟩) (cell_lt HS0.2.1)]; exact HS0.2.1, by rw [hb1.cell (p := ⟨pb, po, none⟩) (cell_lt HS0.2.2)]; exact HS0.2.2⟩; obtain ⟨R1, R2, rfl, hr2⟩ : ∃ R1 R2, e = .returned (.tuple #[R1, R2]) ∧ ((fe ≠ 0 ∧ R1 = .pointer none ∧ EV fe R2) ∨ (fe = 0 ∧ R2 = .nilIface ∧ ∃ k q b o, l[k]? = some q ∧ q.1 = wi ∧ (∀ W, (Instr.indexAt 25 (.slice a n c) (.int .i64 (k : Nat))).run Tryz.prog W = .ok (.pointer (some ⟨b, o, none⟩)) W) ∧ R1 = .pointer (some ⟨b, o, none⟩))) := read_split hr)))
 have HBL : Hid (Below V.heap.size V w1) := below_any (Below.refl _ V).drew hb1
 have HPC : Hid (w1.cell? ⟨pb, po, none⟩ = some (.slice pa m pc)) := HS1.2.2
 clear hb1 HS0 HS1 g0 g1 HC hpc hr
 rcases hr2 with ⟨hne, rfl, hE⟩ | ⟨h0, rfl, k, q, b, o, hk, hqw, hixq, rfl⟩
 · have hre : re = fe := by rw [HRE.out.1, if_pos hne]
   have hro : ro = [] := by rw [HRE.out.2.1, if_pos hne]
   have HE : Hid (EV re R2 ∧ HoldsO w0.heap.size ro Q w1) := ⟨by rw [hre]; exact hE, by rw [hro]; exact HoldsO.nil (HQ.out.1.below HBL.out HQ.out.1.lt)⟩
   obtain ⟨a2, l2, c2, s2, rfl⟩ : ∃ a2 l2 c2 s2, R2 = refV (.slice a2 l2 c2) fe s2 := by (
 rcases hE with ⟨h, _⟩ | ⟨_, a2, l2, c2, s2, h⟩
 · exact absurd h hne
 · exact ⟨a2, l2, c2, s2, h⟩)
   clear hE hne hre hro
   go_wp2
   exact HPo.out _ _ HE.out.1 (grown_below HBL.out _) HE.out.2
 subst h0
 have hqT : q = T := (HNN.out rfl).2 q (List.mem_of_getElem? hk) (hqw.trans (HNN.out rfl).1)
 subst hqT
 obtain ⟨b', o', e', f', hix', -, hcs, hLN⟩ := nds_atN (HAV.out w1 HBL.out) k q hk
 have hbo := (hix' w1).symm.trans (hixq w1)
 simp only [Result.ok.injEq, Value.pointer.injEq, Option.some.injEq, Addr.mk.injEq, and_true] at hbo
 obtain ⟨rfl, rfl⟩ := hbo
 obtain ⟨fa, fc, hfe, -, -⟩ := Shape.list_len (S := F.bkN) (ht := Tryz.underlying81) (hc := F.cells81) hLN.2.1
 obtain rfl : f' = _ := by simpa using hfe
 obtain ⟨-, -, -, -, c4, c5⟩ := nv_cells hcs
 have HCR := F.read_any n0 _ (fi q) off nn w1.drew (flN.below hLN.file (Below.refl _ w1).drew) HRE.out.2.2.1 HRE.out.2.2.2
 have HR2 : Hid (re = rdE (fi q) off nn ∧ ro = rdO (fi q) off nn) := by (
 have h1 := HRE.out.1
 have h2 := HRE.out.2.1
 rw [if_neg (by decide)] at h1 h2
 exact ⟨h1, h2⟩)
 have q1 := (HQ.out.2.1.below HBL.out HQ.out.2.1.lt).cell 0 rfl
 have q2 := (HQ.out.2.2.1.below HBL.out HQ.out.2.2.1.lt).cell 0 rfl
 generalize (fi q).1 = z0 at c4 HCR
 generalize (fi q).2.length = l0 at c5 HCR
 generalize rdE (fi q) off nn = rke at HCR HR2
 generalize rdO (fi q) off nn = rko at HCR HR2
 have HS0 : w1.drew.cell? ⟨b', o' + 4, none⟩ = some (.int .i64 z0) ∧ w1.drew.cell? ⟨b', o' + 4 + 1, none⟩ = some (.slice fa l0 fc) ∧ w1.drew.cell? ⟨Q1, 0, none⟩ = some (.int .i64 off) ∧ w1.drew.cell? ⟨Q2, 0, none⟩ = some (.int .i64 nn) := ⟨c4, c5, q1, q2⟩
 clear hcs hLN hfe hix' hixq hqw hk c4 c5 q1 q2
 go_wp2
 go_region_held3 (fun U => U.cell? ⟨b', o' + 4, none⟩ = some (.int .i64 z0) ∧ U.cell? ⟨b', o' + 4 + 1, none⟩ = some (.slice fa l0 fc) ∧ U.cell? ⟨Q1, 0, none⟩ = some (.int .i64 off) ∧ U.cell? ⟨Q2, 0, none⟩ = some (.int .i64 nn))
   (first | with_reducible exact HS1 | with_reducible exact HS0)
   ((first | (go_at_call 93; refine HCR.mono ?_; rintro e2 w2 ⟨⟨v3, rfl, hv3⟩, hb2⟩; have HS1 : w2.cell? ⟨b', o' + 4, none⟩ = some (.int .i64 z0) ∧ w2.cell? ⟨b', o' + 4 + 1, none⟩ = some (.slice fa l0 fc) ∧ w2.cell? ⟨Q1, 0, none⟩ = some (.int .i64 off) ∧ w2.cell? ⟨Q2, 0, none⟩ = some (.int .i64 nn) := ⟨by rw [hb2.cell (cell_lt HS0.1)]; exact HS0.1, by rw [hb2.cell (cell_lt HS0.2.1)]; exact HS0.2.1, by rw [hb2.cell (cell_lt HS0.2.2.1)]; exact HS0.2.2.1, by rw [hb2.cell (cell_lt HS0.2.2.2)]; exact HS0.2.2.2⟩)))
 obtain ⟨ra, rc, rfl, -, -, -⟩ := hv3.shape
 have HB2 : Hid (Below V.heap.size V w2) := below_any HBL.out (below_any (Below.refl _ w1).drew hb2)
 have hQ2 := HQ.out.1.below HB2.out HQ.out.1.lt
 have HF : Hid (HoldsO w0.heap.size ro Q (w2.setCell ⟨Q, 0, none⟩ (.slice ra rko.length rc)) ∧ V.grownBy (w2.setCell ⟨Q, 0, none⟩ (.slice ra rko.length rc)) (some Q)) := by (
 refine ⟨?_, (grown_below HB2.out _).trans (grown_set _ _ _ _)⟩
 rw [HR2.out.2]
 refine ⟨ra, rc, hQ2.set 0 _, ?_⟩
 have h1 : Arg w1.heap.size w2 (.slice ra rko.length rc) rko := hv3
 exact (h1.keep (.set (by have := HQ.out.2.2.2; have := HBL.out.size; omega))).weaken (by have := HQ.out.2.2.2; have := HBL.out.size; omega))
 have y0 := hQ2.cell 0 rfl
 have f0 := hQ2.frozen 0
 have pc0 : (w2.setCell ⟨Q, 0, none⟩ (.slice ra rko.length rc)).cell? ⟨pb, po, none⟩ = some (.slice pa m pc) := by (
 have h1 : w2.cell? ⟨pb, po, none⟩ = some (.slice pa m pc) := by
   have h0 : w1.drew.cell? ⟨pb, po, none⟩ = some (.slice pa m pc) := HPC.out
   rw [hb2.cell (cell_lt h0)]; exact h0
 exact (Same.set (n := w0.heap.size) HQ.out.2.2.2.1).cell HPB.out h1)
 generalize rko.length = rl at HF pc0 ⊢
 clear hv3 hb2 hQ2 HS0 HS1 HCR
 by_cases hz : rke = 0
 · have hre : re = 0 := HR2.out.1.trans hz
   subst hz
   have HRZ : Hid (re = 0) := hre
   have hrf := refuse_ok (.slice pa m pc) (w2.setCell ⟨Q, 0, none⟩ (.slice ra rl rc))
   clear hre
   go_wp2_with fail
   refine hrf.mono ?_
   rintro e5 w5 ⟨rfl, rfl⟩
   go_wp2
   exact HPo.out _ _ (by rw [HRZ.out]; exact ev_nil) HF.out.2 HF.out.1
 · have HRZ : Hid (re = rke ∧ rke ≠ 0) := ⟨HR2.out.1, hz⟩
   have hrf := refuse_bad rke hz pa m pc (w2.setCell ⟨Q, 0, none⟩ (.slice ra rl rc))
   go_wp2_with fail
   refine hrf.mono ?_
   rintro e5 w5 ⟨rfl, rfl⟩
   go_wp2
   exact HPo.out _ _ (by rw [HRZ.out.1]; exact ev_ref HRZ.out.2 _ _ _ _) HF.out.2 HF.out.1
theorem Read_any (n0 : Nat) (a : Option Addr) (c : Nat) (s : St) (p : ByteArray) (hp : p.size ≤ maxLen) (off nn : Int) (ho : I64 off) (hn : I64 nn) (w : World) (hA : ndsN.lies n0 w [.slice a s.1.length c] s.1) (hg : Glob w) :
   Calls Tryz.prog 34 #[.agg #[.slice a s.1.length c, .int .i64 s.2], .string p, .int .i64 off, .int .i64 nn] w fun e w' => (∃ v O k, e = .returned (.tuple #[v, .int .i64 k]) ∧ Arg w.heap.size w' v O ∧ ((¬ Ok s ∧ O = [] ∧ k = 9) ∨ (Ok s ∧ serr p ≠ 0 ∧ O = [] ∧ k = serr p) ∨ (Ok s ∧ serr p = 0 ∧ O = frO s (sval p) off nn ∧ k = frE s (sval p) off nn))) ∧ Below w.heap.size w w' := by
 obtain ⟨W1, hW1⟩ := exa (w.alloc (.cells #[.slice a s.1.length c, .int .i64 s.2] 27))
 obtain ⟨V1, hV1⟩ := exa (W1.alloc (.cells #[.int .i64 off] 3))
 obtain ⟨V2, hV2⟩ := exa (V1.alloc (.cells #[.int .i64 nn] 3))
 obtain ⟨W2, hW2⟩ := exa (V2.alloc (.cells #[.slice none 0 0] 47))
 obtain ⟨W3, hW3⟩ := exa (W2.alloc (.cells #[.string p] 9))
 have hb1 : Below w.heap.size w W1 := by rw [hW1]; exact (Below.refl _ w).alloc (Nat.le_refl _) _
 have hbv : Below w.heap.size w V1 := by rw [hV1]; exact hb1.alloc hb1.size _
 have hbv2 : Below w.heap.size w V2 := by rw [hV2]; exact hbv.alloc hbv.size _
 have hb2 : Below w.heap.size w W2 := by rw [hW2]; exact hbv2.alloc hbv2.size _
 have hb3 : Below w.heap.size w W3 := by rw [hW3]; exact hb2.alloc hb2.size _
 have hs1 : W1.heap.size = w.heap.size + 1 := by rw [hW1]; exact Array.size_push _
 have hsv : V1.heap.size = w.heap.size + 1 + 1 := by rw [hV1, ← hs1]; exact Array.size_push _
 have hsv2 : V2.heap.size = w.heap.size + 1 + 1 + 1 := by rw [hV2, ← hsv]; exact Array.size_push _
 have hs2 : W2.heap.size = w.heap.size + 1 + 1 + 1 + 1 := by rw [hW2, ← hsv2]; exact Array.size_push _
 have hs3 : W3.heap.size = w.heap.size + 1 + 1 + 1 + 1 + 1 := by rw [hW3, ← hs2]; exact Array.size_push _
 have hBS : Box W2 w.heap.size 27 #[.slice a s.1.length c, .int .i64 s.2] := by
   have : Box W1 w.heap.size 27 #[.slice a s.1.length c, .int .i64 s.2] := by rw [hW1]; exact Box.new _ _ _
   rw [hW2, hV2, hV1]; exact ((this.alloc _).alloc _).alloc _
 have hBQ1 : Box W3 (w.heap.size + 1) 3 #[.int .i64 off] := by rw [hW3, hW2, hV2, hV1, ← hs1]; exact (((Box.new _ _ _).alloc _).alloc _).alloc _
 have hBQ2 : Box W3 (w.heap.size + 1 + 1) 3 #[.int .i64 nn] := by rw [hW3, hW2, hV2, ← hsv]; exact ((Box.new _ _ _).alloc _).alloc _
 have hBQ : Box W3 (w.heap.size + 1 + 1 + 1) 47 #[.slice none 0 0] := by rw [hW3, hW2, ← hsv2]; exact (Box.new _ _ _).alloc _
 have hBT : Box W3 W2.heap.size 9 #[.string p] := by rw [hW3]; exact Box.new _ _ _
 have hX : ArgT w.heap.size W3 (.slice (some ⟨W2.heap.size, 0, none⟩) 1 1) [p] := argT_box (ps := [p]) hBT hb2.size (by simp [maxLen]) fun q hq => by rw [List.mem_singleton.1 hq]; exact hp
 have HC := look3_any 91 Tryz.call91 (.pointer (some ⟨w.heap.size + 1, 0, none⟩)) (.pointer (some ⟨w.heap.size + 1 + 1, 0, none⟩)) (.pointer (some ⟨w.heap.size + 1 + 1 + 1, 0, none⟩)) n0 w.heap.size a c s (some ⟨W2.heap.size, 0, none⟩) 1 [p] (by simp) W3 (ndsN.below hA hb3) hX (hg.below hb3 hg.lt) (some (w.heap.size + 1 + 1 + 1)) (frE s (sval p) off nn) (HoldsO W3.heap.size (frO s (sval p) off nn) (w.heap.size + 1 + 1 + 1)) (fun V V' h hb => h.below hb)
   (fun r hr => by cases hr; omega)
   (fun hok _ V v2 B hbV hB hBl hL => readDo_any n0 a c s hok.wk p off nn ho hn B (w.heap.size + 1) (w.heap.size + 1 + 1) (w.heap.size + 1 + 1 + 1) v2 W3 V (ndsN.below hA hb3) hbV hB hL (hBQ1.below hbV hBQ1.lt) (hBQ2.below hbV hBQ2.lt) (hBQ.below hbV hBQ.lt) (by omega))
 rw [hs2] at HC
 have hps : psE [p] = serr p := by rw [psE]; split <;> simp_all [psE]
 rw [hps] at HC
 obtain ⟨post, hpost⟩ : ∃ post : Ending → World → Prop, post = fun e w' => (∃ v O k, e = .returned (.tuple #[v, .int .i64 k]) ∧ Arg w.heap.size w' v O ∧ ((¬ Ok s ∧ O = [] ∧ k = 9) ∨ (Ok s ∧ serr p ≠ 0 ∧ O = [] ∧ k = serr p) ∨ (Ok s ∧ serr p = 0 ∧ O = frO s (sval p) off nn ∧ k = frE s (sval p) off nn))) ∧ Below w.heap.size w w' := ⟨_, rfl⟩
 have HPo : Hid (∀ v O k w', Arg w.heap.size w' v O → ((¬ Ok s ∧ O = [] ∧ k = 9) ∨ (Ok s ∧ serr p ≠ 0 ∧ O = [] ∧ k = serr p) ∨ (Ok s ∧ serr p = 0 ∧ O = frO s (sval p) off nn ∧ k = frE s (sval p) off nn)) → Below w.heap.size w w' → post (.returned (.tuple #[v, .int .i64 k])) w') := fun v O k w' h1 h2 h3 => by rw [hpost]; exact ⟨⟨v, O, k, rfl, h1, h2⟩, h3⟩
 rw [← hpost]
 have HB : Hid (Box W3 (w.heap.size + 1 + 1 + 1) 47 #[.slice none 0 0] ∧ Below w.heap.size w W3) := ⟨hBQ, hb3⟩
 generalize frE s (sval p) off nn = fe at HC HPo
 generalize frO s (sval p) off nn = fo at HC HPo
 generalize serr p = pe at HC HPo
 obtain ⟨g0, g1, -, -⟩ := hBS.two
 rw [hW2, hV2, hV1, hW1] at g0 g1
 obtain ⟨n, hn'⟩ := exa (s.1.length)
 obtain ⟨nx, hnx⟩ := exa (s.2)
 rw [← hn'] at HC hW1 g0 g1 ⊢
 rw [← hnx] at HC hW1 g0 g1 ⊢
 clear hA hg hp hb1 hbv hbv2 hb2 hb3 hBQ hBQ1 hBQ2 hBS hBT hX hn' hnx hpost hs1 hsv hsv2 hs2 hs3 ho hn hps
 go_enter Tryz.func34, Tryz.ntmps34
 go_wp2_with fail
 rw [← hW1, ← hV1, ← hV2, ← hW2, ← hW3]
 clear hW1 hV1 hV2 hW2 hW3 g0 g1
 refine HC.mono ?_
 rintro e w4 ⟨r, rfl, hr⟩
 have hq : ∃ O, HoldsO w.heap.size O (w.heap.size + 1 + 1 + 1) w4 ∧ Below w.heap.size w w4 ∧ ((¬ Ok s ∧ O = [] ∧ r = 9) ∨ (Ok s ∧ pe ≠ 0 ∧ O = [] ∧ r = pe) ∨ (Ok s ∧ pe = 0 ∧ O = fo ∧ r = fe)) := by (
 rcases hr with ⟨h1, h2, h3⟩ | ⟨h1, h2, h3, h4⟩ | ⟨h1, h2, h3, h4, h5⟩
 · exact ⟨[], HoldsO.nil (HB.out.1.below h3 HB.out.1.lt), below_any HB.out.2 h3, .inl ⟨h1, rfl, h2⟩⟩
 · exact ⟨[], HoldsO.nil (HB.out.1.below h4 HB.out.1.lt), below_any HB.out.2 h4, .inr (.inl ⟨h1, h2, rfl, h3⟩)⟩
 · obtain ⟨oa, oc, o1, o2⟩ := h5
   exact ⟨_, ⟨oa, oc, o1, o2.weaken HB.out.2.size⟩, HB.out.2.grown h4 HB.out.2.size (fun k hk => by cases hk; omega), .inr (.inr ⟨h1, h2, rfl, h3⟩)⟩)
 obtain ⟨O, ⟨oa, oc, hz, hAo⟩, hbz, hrz⟩ := hq
 have q0 := hz.cell 0 rfl
 have HF : Hid (post (.returned (.tuple #[.slice oa O.length oc, .int .i64 r])) w4) := HPo.out _ _ _ _ hAo hrz hbz
 generalize O.length = ol at q0 HF
 clear hz hbz hrz hr HC hAo
 go_wp2
 exact HF.out
end Go.Proofs.YtkcnephbaffmbaaGreatDoor
namespace Go.Proofs.YtkcnephbaffmbaaGreatDoor
open Go.RowKit
open D (En ArgE)
open P (ArgT OwnT tv TOk serr sval)
attribute [local go_sem ↓] Go.wp_at_zero Go.wp_at_succ
theorem dir_split {fe wi : Int} {l : List Nd} {v : Value} {e : Ending} (h : (fe ≠ 0 ∧ (∃ E, e = .returned (.tuple #[.pointer none, E]) ∧ EV fe E)) ∨ (fe = 0 ∧ ∃ k p b o, l[k]? = some p ∧ p.1 = wi ∧ (∀ W, (Instr.indexAt 25 v (.int .i64 (k : Nat))).run Tryz.prog W = .ok (.pointer (some ⟨b, o, none⟩)) W) ∧ e = .returned (.tuple #[.pointer (some ⟨b, o, none⟩), .nilIface]))) :
   ∃ R1 R2, e = .returned (.tuple #[R1, R2]) ∧ ((fe ≠ 0 ∧ R1 = .pointer none ∧ EV fe R2) ∨ (fe = 0 ∧ R2 = .nilIface ∧ ∃ k q b o, l[k]? = some q ∧ q.1 = wi ∧ (∀ W, (Instr.indexAt 25 v (.int .i64 (k : Nat))).run Tryz.prog W = .ok (.pointer (some ⟨b, o, none⟩)) W) ∧ R1 = .pointer (some ⟨b, o, none⟩))) := read_split h
def lsO (s : St) (xs : List ByteArray) : List ByteArray := if dirE s.1 xs ≠ 0 then [] else (en (tgt s xs)).map (·.1)
def HoldsT (base : Nat) (O : List ByteArray) (Q : Nat) (w : World) : Prop := ∃ v, Box w Q 59 #[v] ∧ OwnT base w v O
theorem HoldsT.below {base : Nat} {O : List ByteArray} {Q : Nat} {w w' : World} (h : HoldsT base O Q w) (hb : Below w.heap.size w w') : HoldsT base O Q w' := by
 obtain ⟨v, h1, h2⟩ := h
 exact ⟨v, h1.below hb h1.lt, h2.below hb⟩
theorem HoldsT.nil {base : Nat} {w : World} {Q : Nat} (h : Box w Q 59 #[.slice none 0 0]) : HoldsT base [] Q w := ⟨_, h, World.ownsRow_nil _ _ _ _, fun _ h => by cases h⟩
theorem listDo_any (n0 : Nat) (a : Option Addr) (c : Nat) (s : St) (hK : Wk s) (p : ByteArray) (B Q : Nat) (v2 : Value) (wE w0 V : World) (hA : ndsN.lies n0 wE [.slice a s.1.length c] s.1) (hE0 : Below wE.heap.size wE V) (hQE : wE.heap.size ≤ Q) (hb : Below w0.heap.size w0 V) (hB : Box V B 27 #[.slice a s.1.length c, .int .i64 s.2]) (hL : OwnL w0.heap.size V v2 [p]) (hQ : Box V Q 59 #[.slice none 0 0]) :
   Calls Tryz.prog 96 #[.pointer (some ⟨B, 0, none⟩), v2, .pointer (some ⟨Q, 0, none⟩)] V fun e w' => (∃ E, e = .returned E ∧ EV (dirE s.1 (sval p)) E) ∧ V.grownBy w' (some Q) ∧ HoldsT w0.heap.size (lsO s (sval p)) Q w' := by
 obtain ⟨i3, hi3, hz30, hz31, hz32⟩ := info_parts Tryz.info9
 obtain ⟨pb, po, pa, pc, hix, hpc, hT⟩ := hL.at 0 p rfl
 have hix : ∀ W, (Instr.indexAt 89 v2 (.int .i64 0)).run Tryz.prog W = .ok (.pointer (some ⟨pb, po, none⟩)) W := hix
 have HC := findDir_any n0 _ a c s hK pa pc (sval p) V.drew (ndsN.below hA (below_any hE0 (Below.refl _ V).drew)) (hT.below (Below.refl _ V).drew)
 obtain ⟨g0, g1, -, -⟩ := hB.two
 have HQ : Hid (Box V Q 59 #[.slice none 0 0] ∧ Below wE.heap.size wE V ∧ wE.heap.size ≤ Q ∧ w0.heap.size ≤ V.heap.size) := ⟨hQ, hE0, hQE, hb.size⟩
 have HNN : Hid (dirE s.1 (sval p) = 0 → (wlk s.1 1 (sval p)).1 = (tgt s (sval p)).1 ∧ (∀ q ∈ s.1, q.1 = (tgt s (sval p)).1 → q = tgt s (sval p)) ∧ (en (tgt s (sval p))).length ≤ 63 ∧ ∀ e ∈ en (tgt s (sval p)), e.1.size ≤ 16) := fun h0 => by (
 have hl := hK.lead (dir_zero h0).1
 have hsm := hK.small.2 _ hl.1
 refine ⟨hl.2.1, fun q hq he => ?_, (hK.dirs _ hl.1 (dir_zero h0).2).1.1, hsm.2.1⟩
 have h1 := gt_of hK.up hq
 have h2 := gt_of hK.up hl.1
 rw [← h1, he, h2])
 have HAV : Hid (ndsN.lies n0 wE [.slice a s.1.length c] s.1) := hA
 have HRE : Hid (lsO s (sval p) = (if dirE s.1 (sval p) ≠ 0 then [] else (en (tgt s (sval p))).map (·.1))) := rfl
 generalize lsO s (sval p) = ro at HRE ⊢
 generalize tgt s (sval p) = T at HNN HRE
 generalize (wlk s.1 1 (sval p)).1 = wi at HC HNN
 generalize dirE s.1 (sval p) = fe at HC HNN HRE ⊢
 obtain ⟨n, hn'⟩ := exa (s.1.length)
 obtain ⟨nx, hnx⟩ := exa (s.2)
 obtain ⟨m, hm⟩ := exa ((sval p).length)
 obtain ⟨l, hl⟩ := exa (s.1)
 rw [← hn', ← hnx, ← hm, ← hl] at HC
 rw [← hn', ← hl] at HAV
 rw [← hl] at HNN
 rw [← hm] at hpc
 rw [← hn'] at g0
 rw [← hnx] at g1
 have HS0 : V.drew.cell? ⟨B, 0, none⟩ = some (.slice a n c) ∧ V.drew.cell? ⟨B, 1, none⟩ = some (.int .i64 nx) ∧ V.drew.cell? ⟨pb, po, none⟩ = some (.slice pa m pc) := ⟨g0, g1, hpc⟩
 obtain ⟨post, hpost⟩ : ∃ post : Ending → World → Prop, post = fun e w' => (∃ E, e = .returned E ∧ EV fe E) ∧ V.grownBy w' (some Q) ∧ HoldsT w0.heap.size ro Q w' := ⟨_, rfl⟩
 have HPo : Hid (∀ E w', EV fe E → V.grownBy w' (some Q) → HoldsT w0.heap.size ro Q w' → post (.returned E) w') := fun E w' h1 h2 h3 => by rw [hpost]; exact ⟨⟨_, rfl, h1⟩, h2, h3⟩
 rw [← hpost]
 clear hA hb hB hL hQ hT hn' hnx hm hl hK hpost hE0 hQE
 go_enter Tryz.func96, Tryz.ntmps96
 go_wp2
 go_region_held3 (fun U => U.cell? ⟨B, 0, none⟩ = some (.slice a n c) ∧ U.cell? ⟨B, 1, none⟩ = some (.int .i64 nx) ∧ U.cell? ⟨pb, po, none⟩ = some (.slice pa m pc))
   (first | with_reducible exact HS1 | with_reducible exact HS0)
   ((first | (go_at_call 97; refine HC.mono ?_; rintro e w1 ⟨hr, hb1⟩; have HS1 : w1.cell? ⟨B, 0, none⟩ = some (.slice a n c) ∧ w1.cell? ⟨B, 1, none⟩ = some (.int .i64 nx) ∧ w1.cell? ⟨pb, po, none⟩ = some (.slice pa m pc) := ⟨by rw [hb1.cell (p := ⟨B, 0, none⟩) (cell_lt HS0.1)]; exact HS0.1, by rw [hb1.cell (p := ⟨B, 1, none⟩) (cell_lt HS0.2.1)]; exact HS0.2.1, by rw [hb1.cell (p := ⟨pb, po, none⟩) (cell_lt HS0.2.2)]; exact HS0.2.2⟩; obtain ⟨R1, R2, rfl, hr2⟩ : ∃ R1 R2, e = .returned (.tuple #[R1, R2]) ∧ ((fe ≠ 0 ∧ R1 = .pointer none ∧ EV fe R2) ∨ (fe = 0 ∧ R2 = .nilIface ∧ ∃ k q b o, l[k]? = some q ∧ q.1 = wi ∧ (∀ W, (Instr.indexAt 25 (.slice a n c) (.int .i64 (k : Nat))).run Tryz.prog W = .ok (.pointer (some ⟨b, o, none⟩)) W) ∧ R1 = .pointer (some ⟨b, o, none⟩))) := dir_split hr)))
 have HBL : Hid (Below V.heap.size V w1) := below_any (Below.refl _ V).drew hb1
 clear hb1 HS0 HS1 g0 g1 HC hpc hr
 rcases hr2 with ⟨hne, rfl, hE⟩ | ⟨h0, rfl, k, q, b, o, hk, hqw, hixq, rfl⟩
 · have hro : ro = [] := by rw [HRE.out, if_pos hne]
   have HE : Hid (EV fe R2 ∧ HoldsT w0.heap.size ro Q w1) := ⟨hE, by rw [hro]; exact HoldsT.nil (HQ.out.1.below HBL.out HQ.out.1.lt)⟩
   obtain ⟨a2, l2, c2, s2, rfl⟩ : ∃ a2 l2 c2 s2, R2 = refV (.slice a2 l2 c2) fe s2 := by (
 rcases hE with ⟨h, _⟩ | ⟨_, a2, l2, c2, s2, h⟩
 · exact absurd h hne
 · exact ⟨a2, l2, c2, s2, h⟩)
   clear hE hne hro
   go_wp2
   exact HPo.out _ _ HE.out.1 (grown_below HBL.out _) HE.out.2
 subst h0
 have hqT : q = T := (HNN.out rfl).2.1 q (List.mem_of_getElem? hk) (hqw.trans (HNN.out rfl).1)
 subst hqT
 obtain ⟨b', o', e', f', hix', -, hcs, hLN⟩ := nds_atN HAV.out k q hk
 have hbo := (hix' w1).symm.trans (hixq w1)
 simp only [Result.ok.injEq, Value.pointer.injEq, Option.some.injEq, Addr.mk.injEq, and_true] at hbo
 obtain ⟨rfl, rfl⟩ := hbo
 obtain ⟨ea, ec, rfl, -, -⟩ := hLN.1.1.shape
 obtain ⟨-, -, -, c3, -, -⟩ := nv_cells hcs
 have c3' : w1.cell? ⟨b', o' + 3, none⟩ = some (.slice ea (en q).length ec) := by rw [(below_any HQ.out.2.1 HBL.out).cell (cell_lt c3)]; exact c3
 obtain ⟨L, hLL⟩ := exa (en q)
 have HR2 : Hid (ro = L.map (·.1) ∧ L.length ≤ 63 ∧ (∀ e ∈ L, e.1.size ≤ 16) ∧ ArgE n0 wE (.slice ea L.length ec) L) := by (
 have h2 := HRE.out
 rw [if_neg (by decide)] at h2
 rw [hLL]
 exact ⟨h2, (HNN.out rfl).2.2.1, (HNN.out rfl).2.2.2, hLN.1⟩)
 rw [← hLL] at c3'
 obtain ⟨ln, hln⟩ := exa (L.length)
 have HLN : Hid (ln = L.length) := hln
 rw [← hln] at c3' HR2
 have hln63 : ln ≤ 63 := HR2.out.2.1
 have hlen := run_len Tryz.underlying79 ea ln ec
 clear hcs hLN hix' hixq hqw hk c3 hLL hln
 go_wp2
 go_loopw [28] (fun i wr => ∃ (j : Nat) (v : Value), j ≤ ln ∧ i = .int .i64 j ∧ Hid (Box wr Q 59 #[v] ∧ OwnT w1.heap.size wr v ((L.take j).map (·.1)) ∧ w1.grownBy wr (some Q))) (fun i _ => ln - (intOf i).toNat)
 case atStart => exact ⟨0, _, Nat.zero_le _, rfl, HQ.out.1.below HBL.out HQ.out.1.lt, ⟨World.ownsRow_nil _ _ _ _, fun _ h => by cases h⟩, grown_below (Below.refl _ _) _⟩
 case round => (
 obtain ⟨j, v, hj, rfl, HJ⟩ := hrel
 by_cases hlt : j < ln
 · obtain ⟨e, he⟩ := get_lt (l := L) (k := j) (by rw [← HLN.out]; exact hlt)
   have HBE : Hid (Below wE.heap.size wE wr) := (below_any HQ.out.2.1 HBL.out).grown HJ.out.2.2 (by have := HQ.out.2.1.size; have := HBL.out.size; omega) (fun k hk => by cases hk; exact HQ.out.2.2.1)
   have hAr := HR2.out.2.2.2
   rw [HLN.out] at hAr
   obtain ⟨be, oe, hixe, -, d0, d1⟩ := ArgE.atN (hAr.below HBE.out) j e he
   rw [← HLN.out] at hixe
   have HTK : Hid ((L.take (j + 1)).map (·.1) = (L.take j).map (·.1) ++ [e.1] ∧ ((L.take j).map (·.1)).length = j ∧ e.1.size ≤ 16) := ⟨by rw [take_snoc he]; simp, by have := HLN.out; rw [List.length_map, List.length_take]; omega, HR2.out.2.2.1 e (List.mem_of_getElem? he)⟩
   obtain ⟨en', ei⟩ := e
   simp only at d0 d1 HTK
   obtain ⟨U, hU⟩ := exa (wr.alloc (.cells #[.string en', .int .i64 ei] 138))
   have HU : Hid (Below wr.heap.size wr U ∧ Box U wr.heap.size 138 #[.string en', .int .i64 ei]) := ⟨by rw [hU]; exact (Below.refl _ _).alloc (Nat.le_refl _) _, by rw [hU]; exact Box.new _ _ _⟩
   have HCL : Hid (Calls Tryz.prog 98 #[.string en'] U.drew fun e w' => e = .returned (.string en') ∧ Below U.heap.size U w') := (P.clone_any en' U.drew HTK.out.2.2).mono fun e w' h => ⟨h.1, ((Below.refl _ U).drew).trans h.2⟩
   obtain ⟨a', cap', rfl⟩ := own_shape HJ.out.2.1.1
   rw [HTK.out.2.1] at HJ
   have HO : Hid (∀ W, Below wr.heap.size wr W → W.ownsRow w1.heap.size 9 1 (.slice a' j cap') j (tv ((L.take j).map (·.1)))) := fun W hW => by (
 have := (HJ.out.2.1.below hW).1
 rwa [HTK.out.2.1] at this)
   have HBQ : Hid (Box U Q 59 #[.slice a' j cap']) := HJ.out.1.below HU.out.1 HJ.out.1.lt
   have hki : (j : Int) < (ln : Int) := by omega
   clear he hAr
   go_wp2
   rw [← hU]
   clear hU
   have hSS : U.drew.cell? ⟨wr.heap.size, 0, none⟩ = some (.string en') ∧ U.drew.cell? ⟨Q, 0, none⟩ = some (.slice a' j cap') := ⟨HU.out.2.two.1, HBQ.out.cell 0 rfl⟩
   refine AnyBut.begin (fun W => W.cell? ⟨wr.heap.size, 0, none⟩ = some (.string en') ∧ W.cell? ⟨Q, 0, none⟩ = some (.slice a' j cap')) 6 (by kernel_rfl) ?_
   refine ty 0 32 hSS ?_; simp only [ua,ub,uc,ud]
   refine ty 1 33 hSS ?_; simp only [ua,ub,uc,ud]
   refine ty 2 34 hSS ?_; simp only [ua,ub,uc,ud]
   refine AnyBut.step (i := 3) (by kernel_rfl) rfl (fun K hK => ?_)
   go_simp
   refine Calls.mono HCL.out ?_
   rintro e w2 ⟨rfl, hb2⟩
   have hx2 := HU.out.2.below hb2 HU.out.2.lt
   have hq2 := HBQ.out.below hb2 HBQ.out.lt
   dsimp only
   refine hK.out _ _ ⟨hx2.two.1, hq2.cell 0 rfl⟩ ?_
   clear hK hSS
   refine AnyBut.step (i := 4) (by kernel_rfl) rfl (fun K hK => ?_)
   go_simp
   have hx3 := hx2.alloc (.cells #[.string en'] 9)
   have hq3 := hq2.alloc (.cells #[.string en'] 9)
   have hbw := below_any HU.out.1 hb2
   refine hK.out _ _ ⟨hx3.two.1, hq3.cell 0 rfl⟩ ?_
   clear hK
   refine AnyBut.step (i := 5) (by kernel_rfl) rfl (fun K hK => ?_)
   refine step_append_lies _ (by rfl) _ _ _ (by rfl) w1.heap.size 9 i3 _ 1 16 Tryz.underlying59 hi3 hz30 hz31 hz32 rfl (by omega) _ j _ (by rfl) ((HO.out w2 hbw).alloc _) ⟨w2.heap.size, 0, none⟩ 1 1 [.string en'] (by rfl) (by rfl)
     (World.news_of_block (cs := #[.string en']) (t := 9) (fr := (0, 0)) (heap_alloc_new w2 _)) (by simp [Value.oneCell']) (by omega) (by unfold maxLen; omega) (by omega) (by have := hbw.size; have := HJ.out.2.2.size; simp; omega) (w2.heap.size + 1) (by simp) ?_
   intro gg cap3 w3 hown3 hgrow3 hat hltg
   have hneQ : some Q ≠ (Value.slice a' j cap').ownBlock := fun e => by (
 have h1 := ((HO.out wr (Below.refl _ _)).lt _ e.symm).1
 have h2 := HQ.out.1.lt
 have := HBL.out.size
 omega)
   have hne : some wr.heap.size ≠ (Value.slice a' j cap').ownBlock := fun e => by have := ((HO.out wr (Below.refl _ _)).lt _ e.symm).2; omega
   have hx4 := hx3.grown hgrow3 hne
   have hq4 := hq3.grown hgrow3 hneQ
   refine hK.out _ _ ⟨hx4.two.1, hq4.cell 0 rfl⟩ ?_
   clear hK
   refine AnyBut.last (by kernel_rfl) (by kernel_rfl) rfl (fun K hK => ?_)
   have y0 := hq4.cell 0 rfl
   have y1 := hq4.frozen 0
   go_simp
   refine hK.out _ _ ?_
   clear hK
   have HF : Hid (Box (w3.setCell ⟨Q, 0, none⟩ (.slice (some ⟨gg, 0, none⟩) (j + 1) cap3)) Q 59 #[.slice (some ⟨gg, 0, none⟩) (j + 1) cap3] ∧ OwnT w1.heap.size (w3.setCell ⟨Q, 0, none⟩ (.slice (some ⟨gg, 0, none⟩) (j + 1) cap3)) (.slice (some ⟨gg, 0, none⟩) (j + 1) cap3) ((L.take (j + 1)).map (·.1)) ∧ w1.grownBy (w3.setCell ⟨Q, 0, none⟩ (.slice (some ⟨gg, 0, none⟩) (j + 1) cap3)) (some Q)) := by (
 have hQlt : Q < w1.heap.size := by have := HQ.out.1.lt; have := HBL.out.size; omega
 refine ⟨hq4.set 0 _, ⟨?_, fun x hx => ?_⟩, ?_⟩
 · rw [HTK.out.1, List.length_append, HTK.out.2.1]
   have : tv ((L.take j).map (·.1) ++ [en']) = tv ((L.take j).map (·.1)) ++ [.string en'] := by simp [tv]
   rw [this]
   exact own_same hown3 (.set hQlt)
 · rw [HTK.out.1] at hx
   rcases List.mem_append.1 hx with hx | hx
   · exact HJ.out.2.1.2 x hx
   · rw [List.mem_singleton.1 hx]; have := HTK.out.2.2; unfold maxLen; omega
 · refine World.grownBy.trans (b := w3) ?_ (grown_set _ _ _ _)
   refine ⟨(hgrow3.os.trans hbw.os).trans HJ.out.2.2.os, (hgrow3.tape.trans hbw.tape).trans HJ.out.2.2.tape, (hgrow3.output.trans hbw.output).trans HJ.out.2.2.output, ?_, fun k hk hnk => ?_⟩
   · have := hgrow3.size; have := hbw.size; have := HJ.out.2.2.size; simp at *; omega
   · have h1 := HJ.out.2.2.size
     have h2 := hbw.size
     rw [hgrow3.block k (by simp; omega) (fun e => by have := ((HO.out wr (Below.refl _ _)).lt _ e.symm).1; omega), Below.heap_alloc w2 _ k (by omega), hbw.block k (by omega)]
     exact HJ.out.2.2.block k hk hnk)
   clear hown3 hgrow3 hat hltg hne hneQ hx4 hq4 hx3 hq3 hx2 hq2 hbw hb2 y0 y1 hixe d0 d1
   go_wp2
   go_roundw
   case rel => exact ⟨j + 1, _, by omega, by go_num, HF.out⟩
   case measure => simp [intOf]; omega
 · obtain rfl : j = ln := by omega
   have hT : L.take j = L := by rw [HLN.out]; simp
   rw [hT] at HJ
   have HF : Hid (V.grownBy wr (some Q) ∧ HoldsT w0.heap.size ro Q wr) := ⟨(grown_below HBL.out _).trans HJ.out.2.2, by rw [HR2.out.1]; exact ⟨v, HJ.out.1, ⟨own_weaken HJ.out.2.1.1 (by have := HQ.out.2.2.2; have := HBL.out.size; omega), HJ.out.2.1.2⟩⟩⟩
   go_wp2
   exact HPo.out _ _ ev_nil HF.out.1 HF.out.2)
end Go.Proofs.YtkcnephbaffmbaaGreatDoor
namespace Go.Proofs.YtkcnephbaffmbaaGreatDoor
open Go.RowKit
open P (serr sval)
def Told (s : St) (ps : List ByteArray) (K : Int) (s' : St) (k : Int) (S : St) : Prop :=
 (¬ Ok s ∧ k = 9 ∧ S = ([], 0)) ∨ (Ok s ∧ psE ps ≠ 0 ∧ k = psE ps ∧ S = ([], 0)) ∨ (Ok s ∧ psE ps = 0 ∧ K ≠ 0 ∧ k = K ∧ S = ([], 0)) ∨ (Ok s ∧ psE ps = 0 ∧ K = 0 ∧ k = 0 ∧ S = s')
theorem Told.one {s : St} {ps : List ByteArray} {K : Int} {s' : St} {k k2 : Int} {S S2 : St} (h : Told s ps K s' k S) (h2 : Told s ps K s' k2 S2) : k = k2 ∧ S = S2 := by
 rcases h with ⟨a, b, c⟩ | ⟨a, b, c, d⟩ | ⟨a, b, c, d, e⟩ | ⟨a, b, c, d, e⟩ <;> rcases h2 with ⟨a2, b2, c2⟩ | ⟨a2, b2, c2, d2⟩ | ⟨a2, b2, c2, d2, e2⟩ | ⟨a2, b2, c2, d2, e2⟩ <;>
   first
     | (exfalso; contradiction)
     | (subst_vars; exact ⟨rfl, rfl⟩)
     | (exfalso; omega)
theorem Told.ok {s : St} {ps : List ByteArray} {K : Int} {s' : St} {S : St} (h : Told s ps K s' 0 S) : Ok s ∧ psE ps = 0 ∧ K = 0 ∧ S = s' := by
 rcases h with ⟨_, b, _⟩ | ⟨_, b, c, _⟩ | ⟨_, _, c, d, _⟩ | ⟨a, b, c, _, e⟩
 · omega
 · omega
 · omega
 · exact ⟨a, b, c, e⟩
theorem Told.yes {s : St} {ps : List ByteArray} {K : Int} {s' : St} {k : Int} {S : St} (h : Told s ps K s' k S) (h1 : Ok s) (h2 : psE ps = 0) (h3 : K = 0) : k = 0 ∧ S = s' := h.one (.inr (.inr (.inr ⟨h1, h2, h3, rfl, rfl⟩)))
theorem Told.no {s : St} {ps : List ByteArray} {K : Int} {s' : St} {k : Int} {S : St} (h : Told s ps K s' k S) (h1 : Ok s) (h2 : psE ps = 0) (h3 : K ≠ 0) : k = K ∧ S = ([], 0) := h.one (.inr (.inr (.inl ⟨h1, h2, h3, rfl, rfl⟩)))
theorem Told.same {s : St} {ps : List ByteArray} {K : Int} {s' s2 : St} {k k2 : Int} {S S2 : St} (h : Told s ps K s' k S) (h2 : Told s ps K s2 k2 S2) : k = k2 := by
 rcases h with ⟨a, b, c⟩ | ⟨a, b, c, d⟩ | ⟨a, b, c, d, e⟩ | ⟨a, b, c, d, e⟩ <;> rcases h2 with ⟨a2, b2, c2⟩ | ⟨a2, b2, c2, d2⟩ | ⟨a2, b2, c2, d2, e2⟩ | ⟨a2, b2, c2, d2, e2⟩ <;>
   first
     | (exfalso; contradiction)
     | (subst_vars; rfl)
     | (exfalso; omega)
theorem psE_one {p : ByteArray} : psE [p] = serr p := by
 by_cases h : serr p = 0
 · rw [h]; exact psE_all fun q hq => by rw [List.mem_singleton.1 hq]; exact h
 · exact psE_bad (k := 0) (fun q hq => by simp at hq) rfl h
theorem nds_nil (n : Nat) (w : World) : ndsN.lies n w [.slice none 0 0] [] := ndsN.olies (Shape.list_nil ndN 25 Tryz.underlying25 cells25 n w)
theorem nds_shape {n : Nat} {w : World} {v : Value} {l : List Nd} (h : ndsN.lies n w [v] l) : ∃ a c, v = .slice a l.length c := by
 obtain ⟨a, cap, he, _⟩ := Shape.list_len (S := ndN) (ht := Tryz.underlying25) (hc := cells25) h
 exact ⟨a, cap, by simpa using he⟩
def Tells (s : St) (ps : List ByteArray) (K : Int) (s' : St) (w : World) (e : Ending) (w' : World) : Prop :=
 (∃ k S a c, e = .returned (.tuple #[.agg #[.slice a S.1.length c, .int .i64 S.2], .int .i64 k]) ∧ ndsN.lies w.heap.size w' [.slice a S.1.length c] S.1 ∧ Told s ps K s' k S) ∧ Below w.heap.size w w'
theorem Changed.tells {s : St} {ps : List ByteArray} {K : Int} {s' : St} {w : World} {e : Ending} {w' : World} (h : Changed s ps K s' w e w') : Tells s ps K s' w e w' := by
 refine ⟨?_, h.2⟩
 rcases h.1 with ⟨k, he, hk⟩ | ⟨v, he, h1, h2, h3, hl⟩
 · refine ⟨k, ([], 0), none, 0, he, nds_nil _ _, ?_⟩
   rcases hk with ⟨a, b⟩ | ⟨a, b, c⟩ | ⟨a, b, c, d⟩
   · exact .inl ⟨a, b, rfl⟩
   · exact .inr (.inl ⟨a, b, c, rfl⟩)
   · exact .inr (.inr (.inl ⟨a, b, c, d, rfl⟩))
 · obtain ⟨a, c, rfl⟩ := nds_shape hl
   exact ⟨0, s', a, c, he, hl, .inr (.inr (.inr ⟨h1, h2, h3, rfl, rfl⟩))⟩
end Go.Proofs.YtkcnephbaffmbaaGreatDoor
namespace Go.Proofs.YtkcnephbaffmbaaGreatDoor
open Go.RowKit
open P (ArgT OwnT tv TOk serr sval)
theorem List_any (n0 : Nat) (a : Option Addr) (c : Nat) (s : St) (p : ByteArray) (hp : p.size ≤ maxLen) (w : World) (hA : ndsN.lies n0 w [.slice a s.1.length c] s.1) (hg : Glob w) :
   Calls Tryz.prog 36 #[.agg #[.slice a s.1.length c, .int .i64 s.2], .string p] w fun e w' => (∃ v O k, e = .returned (.tuple #[v, .int .i64 k]) ∧ OwnT w.heap.size w' v O ∧ ((¬ Ok s ∧ O = [] ∧ k = 9) ∨ (Ok s ∧ serr p ≠ 0 ∧ O = [] ∧ k = serr p) ∨ (Ok s ∧ serr p = 0 ∧ O = lsO s (sval p) ∧ k = dirE s.1 (sval p)))) ∧ Below w.heap.size w w' := by
 obtain ⟨l, nx⟩ := s
 simp only at hA ⊢
 obtain ⟨W1, hW1⟩ := exa (w.alloc (.cells #[.slice a l.length c, .int .i64 nx] 27))
 obtain ⟨W2, hW2⟩ := exa (W1.alloc (.cells #[.slice none 0 0] 59))
 obtain ⟨W3, hW3⟩ := exa (W2.alloc (.cells #[.string p] 9))
 have hb1 : Below w.heap.size w W1 := by rw [hW1]; exact (Below.refl _ w).alloc (Nat.le_refl _) _
 have hb2 : Below w.heap.size w W2 := by rw [hW2]; exact hb1.alloc hb1.size _
 have hb3 : Below w.heap.size w W3 := by rw [hW3]; exact hb2.alloc hb2.size _
 obtain ⟨Q, hQ⟩ := exa (W1.heap.size)
 have hBQ : Box W3 Q 59 #[.slice none 0 0] := by rw [hW3, hW2, hQ]; exact (Box.new _ _ _).alloc _
 have hBS : Box W1 w.heap.size 27 #[.slice a l.length c, .int .i64 nx] := by rw [hW1]; exact Box.new _ _ _
 have hBT : Box W3 W2.heap.size 9 #[.string p] := by rw [hW3]; exact Box.new _ _ _
 have hX : ArgT w.heap.size W3 (.slice (some ⟨W2.heap.size, 0, none⟩) 1 1) [p] := argT_box (ps := [p]) hBT hb2.size (by simp [maxLen]) fun q hq => by rw [List.mem_singleton.1 hq]; exact hp
 have HC := look1_any 96 Tryz.call96 (.pointer (some ⟨Q, 0, none⟩)) n0 w.heap.size a c (l, nx) (some ⟨W2.heap.size, 0, none⟩) 1 [p] (by simp) W3 (ndsN.below hA hb3) hX (hg.below hb3 hg.lt) (some Q) (dirE l (sval p)) (HoldsT W3.heap.size (lsO (l, nx) (sval p)) Q) (fun V V' h hb => h.below hb)
   (fun r hr => by cases hr; have := hg.lt; have := hb1.size; omega)
   (fun hok _ V v2 B hbV hB hBl hL => listDo_any n0 a c (l, nx) hok.wk p B Q v2 w W3 V hA (below_any hb3 hbV) (by rw [hQ]; exact hb1.size) hbV hB hL (hBQ.below hbV hBQ.lt))
 simp only at HC
 obtain ⟨post, hpost⟩ : ∃ post : Ending → World → Prop, post = fun e w' => (∃ v O k, e = .returned (.tuple #[v, .int .i64 k]) ∧ OwnT w.heap.size w' v O ∧ ((¬ Ok (l, nx) ∧ O = [] ∧ k = 9) ∨ (Ok (l, nx) ∧ serr p ≠ 0 ∧ O = [] ∧ k = serr p) ∨ (Ok (l, nx) ∧ serr p = 0 ∧ O = lsO (l, nx) (sval p) ∧ k = dirE l (sval p)))) ∧ Below w.heap.size w w' := ⟨_, rfl⟩
 have HPo : Hid (∀ v O k w', OwnT w.heap.size w' v O → ((¬ Ok (l, nx) ∧ O = [] ∧ k = 9) ∨ (Ok (l, nx) ∧ serr p ≠ 0 ∧ O = [] ∧ k = serr p) ∨ (Ok (l, nx) ∧ serr p = 0 ∧ O = lsO (l, nx) (sval p) ∧ k = dirE l (sval p))) → Below w.heap.size w w' → post (.returned (.tuple #[v, .int .i64 k])) w') := fun v O k w' h0 h1 h2 => by rw [hpost]; exact ⟨⟨v, O, k, rfl, h0, h1⟩, h2⟩
 rw [← hpost]
 have hps : psE [p] = serr p := by rw [psE]; split <;> simp_all [psE]
 rw [hps] at HC
 have HB : Hid (Below w.heap.size w W3 ∧ Box W3 Q 59 #[.slice none 0 0] ∧ w.heap.size ≤ Q) := ⟨hb3, hBQ, by rw [hQ]; exact hb1.size⟩
 obtain ⟨n, hn⟩ := exa (l.length)
 rw [← hn] at HC hW1 hBS ⊢
 obtain ⟨g0, g1, -, -⟩ := hBS.two
 have g0' : W2.cell? ⟨w.heap.size, 0, none⟩ = some (.slice a n c) := by
   have : Box W2 w.heap.size 27 #[.slice a n c, .int .i64 nx] := by rw [hW2]; exact hBS.alloc _
   exact this.two.1
 have g1' : W2.cell? ⟨w.heap.size, 1, none⟩ = some (.int .i64 nx) := by
   have : Box W2 w.heap.size 27 #[.slice a n c, .int .i64 nx] := by rw [hW2]; exact hBS.alloc _
   exact this.two.2.1
 have hs1 : W1.heap.size = w.heap.size + 1 := by rw [hW1]; exact Array.size_push _
 have hs2 : W2.heap.size = w.heap.size + 1 + 1 := by rw [hW2, ← hs1]; exact Array.size_push _
 rw [hs1] at hQ
 rw [hs2] at HC
 subst hQ
 rw [hW2, hW1] at g0' g1'
 clear hA hg hp hb1 hb2 hb3 hBQ hBS hBT hX hps hn hpost g0 g1 hs1 hs2
 go_enter Tryz.func36, Tryz.ntmps36
 go_wp2_with fail
 rw [← hW1, ← hW2, ← hW3]
 clear hW1 hW2 hW3 g0' g1'
 generalize lsO (l, nx) (sval p) = SN at HC HPo
 generalize dirE l (sval p) = wk at HC HPo
 generalize serr p = pe at HC HPo
 refine HC.mono ?_
 rintro e w4 ⟨r, rfl, hr⟩
 have hq : ∃ O, HoldsT w.heap.size O (w.heap.size + 1) w4 ∧ Below w.heap.size w w4 ∧ ((¬ Ok (l, nx) ∧ O = [] ∧ r = 9) ∨ (Ok (l, nx) ∧ pe ≠ 0 ∧ O = [] ∧ r = pe) ∨ (Ok (l, nx) ∧ pe = 0 ∧ O = SN ∧ r = wk)) := by (
 rcases hr with ⟨h1, h2, h3⟩ | ⟨h1, h2, h3, h4⟩ | ⟨h1, h2, h3, h4, h5⟩
 · exact ⟨[], HoldsT.nil (HB.out.2.1.below h3 HB.out.2.1.lt), below_any HB.out.1 h3, .inl ⟨h1, rfl, h2⟩⟩
 · exact ⟨[], HoldsT.nil (HB.out.2.1.below h4 HB.out.2.1.lt), below_any HB.out.1 h4, .inr (.inl ⟨h1, h2, rfl, h3⟩)⟩
 · obtain ⟨v, o1, o2⟩ := h5
   exact ⟨_, ⟨v, o1, ⟨own_weaken o2.1 HB.out.1.size, o2.2⟩⟩, HB.out.1.grown h4 HB.out.1.size (fun k hk => by cases hk; omega), .inr (.inr ⟨h1, h2, rfl, h3⟩)⟩)
 obtain ⟨O, ⟨v, hz, hAo⟩, hbz, hrz⟩ := hq
 have q0 := hz.cell 0 rfl
 have HF : Hid (post (.returned (.tuple #[v, .int .i64 r])) w4) := HPo.out _ _ _ _ hAo hrz hbz
 obtain ⟨va, vc, rfl⟩ := own_shape hAo.1
 generalize O.length = ol at q0 HF
 clear hz hbz hrz hr HC hAo
 go_wp2
 exact HF.out
end Go.Proofs.YtkcnephbaffmbaaGreatDoor
namespace Go.Proofs.YtkcnephbaffmbaaGreatDoor
open D (En nameOk inoOk Good Chk there fnd ins del aerr)
open F (Fl chk rdE rdO wrE wrF)
open P (serr sval)
theorem ok_new : Ok ([rootN], 2) := by
 have hm : ∀ n ∈ [rootN], n = rootN := fun n hn => List.mem_singleton.1 hn
 refine ⟨⟨by decide, by decide, List.pairwise_singleton _ _, fun n hn => ?_, ⟨rootN, List.mem_singleton.2 rfl, rfl, rfl⟩, fun n hn _ => ?_, fun n hn hd => ?_, fun n hn e he => ?_, fun n hn => ?_, fun n hn _ => ?_, fun n hn h1 => ?_, fun n hn h1 => ?_⟩, fun _ => 0, rfl, fun n hn _ e he => ?_⟩
 · rw [hm n hn]; decide
 · rw [hm n hn]; exact ⟨⟨by decide, D.fine_nil⟩, rfl⟩
 · rw [hm n hn] at hd; cases hd
 · rw [hm n hn] at he; cases he
 · rw [hm n hn]; rfl
 · rw [hm n hn]; rfl
 · rw [hm n hn] at h1; exact absurd rfl h1
 · rw [hm n hn] at h1; exact absurd rfl h1
 · rw [hm n hn] at he; cases he
def exA : ByteArray := ⟨#[97]⟩
def exF : ByteArray := ⟨#[102]⟩
def exB : List Int := [104, 105, 0, 0, 0, 0, 0, 0, 0, 0, 0, 0, 0, 0, 0, 0, 0, 0, 0, 0, 0, 0, 0, 0, 0, 0, 0, 0, 0, 0, 0, 0]
def ex1 : St := ([(1, true, 0, [(exA, 2)], (0, [])), (2, true, 1, [], (0, []))], 3)
def ex2 : St := ([(1, true, 0, [(exA, 2)], (0, [])), (2, true, 1, [(exF, 3)], (0, [])), (3, false, 1, [], (0, []))], 4)
def ex3 : St := ([(1, true, 0, [(exA, 2)], (0, [])), (2, true, 1, [(exF, 3)], (0, [])), (3, false, 1, [], (2, [(0, exB)]))], 4)
theorem ex_p : serr ⟨#[47, 97]⟩ = 0 ∧ sval ⟨#[47, 97]⟩ = [exA] := by decide +kernel
theorem ex_q : serr ⟨#[47, 97, 47, 102]⟩ = 0 ∧ sval ⟨#[47, 97, 47, 102]⟩ = [exA, exF] := by decide +kernel
theorem ex_1 : mkE ([rootN], 2) [exA] = 0 ∧ mkN ([rootN], 2) (hold ([rootN], 2) [exA]) (lst [exA]) true = ex1 := ⟨by decide +kernel, by kernel_rfl⟩
theorem ex_2 : mkE ex1 [exA, exF] = 0 ∧ mkN ex1 (hold ex1 [exA, exF]) (lst [exA, exF]) false = ex2 := ⟨by decide +kernel, by kernel_rfl⟩
theorem ex_3 : rwE ex2 [exA, exF] (wrE (fi (tgt ex2 [exA, exF])) 0 [104, 105]) = 0 ∧ filN ex2 (tgt ex2 [exA, exF]) (wrF (fi (tgt ex2 [exA, exF])) 0 [104, 105]) = ex3 := ⟨by decide +kernel, by kernel_rfl⟩
theorem ex_4 : frE ex3 [exA, exF] 0 9 = 0 ∧ frO ex3 [exA, exF] 0 9 = [104, 105] := by decide +kernel
theorem ex_5 : filE ex3.1 [exA] = 104 ∧ rmE ex3 [exA] = 105 := by decide +kernel
theorem ex_ok1 : Ok ex1 := by rw [← ex_1.2]; exact mk_ok ok_new (by decide) ex_1.1 true
theorem ex_ok2 : Ok ex2 := by rw [← ex_2.2]; exact mk_ok ex_ok1 (by decide) ex_2.1 false
theorem ex_ok3 : Ok ex3 := by rw [← ex_3.2]; exact write_ok ex_ok2 ex_3.1
end Go.Proofs.YtkcnephbaffmbaaGreatDoor
