/-
  fs.rewrite: a file's place is taken by what becomes of it.
  fs.Write and fs.Truncate: what becomes of a file.
  fs.New, fs.clearWay, fs.isBelow.
  Renaming: what each step finds.
  fs.Write: what it answers.
  Plain mathematics: the state that each op makes may be.
  What fs.look answers at an op that is known.
  fs.Read: what it answers.
  What each op tells, in one word for all its answers: its error's number and the state.
  Plain mathematics: the page's example.
-/
import Derived.Test.YtopcefhncildnaaGreatDoorO41
set_option maxRecDepth 100000
set_option maxHeartbeats 8000000
namespace Go.Proofs.YtopcefhncildnaaGreatDoor
open Go.RowKit
open F (Fl flN bksN)
open P (ArgT serr sval)
theorem nds_put_file {n : Nat} {w : World} {v : Value} {l : List Nd} (h : ndsN.owns n w [v] l) {k : Nat} {p : Nd} (hp : l[k]? = some p) {b : Nat} (hob : v.ownBlock = some b) (u : Value) (f : Fl) {base : Nat} (hb : b < base) (hn : n ≤ base) (hf : bksN.lies base w [u] f.2) (hI : I64 f.1) :
   ndsN.lies n ((w.setCell ⟨b, k * 6 + 4, none⟩ (.int .i64 f.1)).setCell ⟨b, k * 6 + 5, none⟩ u) [v] (l.set k (wF f p)) ∧ w.grownBy ((w.setCell ⟨b, k * 6 + 4, none⟩ (.int .i64 f.1)).setCell ⟨b, k * 6 + 5, none⟩ u) v.ownBlock := by
 obtain ⟨v', vss, hv, hC, hE⟩ := h
 obtain rfl : v = v' := by simpa using hv
 replace hC : w.ownsRow n 47 6 v l.length vss.flatten := hC
 obtain ⟨us, hu, hO⟩ := hE.get hp
 obtain ⟨e, f0, rfl, hL⟩ := nd_own hO
 obtain ⟨g, cap, rfl⟩ : ∃ g cap, v = .slice (some ⟨g, 0, none⟩) l.length cap := by (
 rcases hC.2 with ⟨_, h0⟩ | ⟨g, cap, cur, h', _⟩
 · have := (List.getElem?_eq_some_iff.1 hp).1; omega
 · exact ⟨g, cap, h'⟩)
 obtain rfl : g = b := Option.some.inj hob
 have hsz : ∀ us ∈ vss, us.length = 6 := fun us h => by
   obtain ⟨q, _, hq⟩ := hE.left h
   exact ndN.length (ndN.olies hq)
 obtain ⟨h1, h2⟩ := hC.stored (k * 6 + 4) (.int .i64 f.1)
 obtain ⟨h3, h4⟩ := h1.stored (k * 6 + 5) u
 have hk : k < vss.length := (List.getElem?_eq_some_iff.1 hu).1
 rw [flat_set hsz hu (by omega)] at h3
 have hsz2 : ∀ us ∈ vss.set k ((nv p e f0).set 4 (.int .i64 f.1)), us.length = 6 := fun us h => by (
 rcases List.mem_or_eq_of_mem_set h with h | rfl
 · exact hsz us h
 · simp [nv])
 rw [flat_set hsz2 (List.getElem?_set_self hk) (by omega), List.set_set] at h3
 have hg := h2.trans h4
 have hcl : Clear w (some g) ndN.ids := Clear.own hC (by decide)
 refine ⟨⟨_, _, rfl, by rw [List.length_set]; exact Cells.own h3, (hE.mono fun _ _ h => ndN.olies (ndN.ogrown h hg hcl)).set k ?_⟩, hg⟩
 have hN := ndN.ogrown (nd_omk hL) hg hcl
 obtain ⟨e2, f2, he, hL2⟩ := nd_own hN
 simp only [nv, List.cons.injEq, and_true, true_and] at he
 obtain ⟨rfl, rfl⟩ := he
 exact nd_mkN (p := wF f p) ⟨hL2.1.arg, bksN.weaken (bksN.keep hf (Same.trans (.set hb) (by simp [World.setCell]) (.set hb))) hn, hL2.2.2.1, hL2.2.2.2.1, hI⟩
def rwE (s : St) (xs : List ByteArray) (ke : Int) : Int := if filE s.1 xs ≠ 0 then filE s.1 xs else ke
theorem rewrite1_any (G : Nat) (hG : ∀ args w, (callFunc G args).run Tryz.prog w = .ok (.enter G args) w) (c1 : Value) (n : Nat) (v : Value) (s : St) (hOk : Ok s) (av : Option Addr) (cv : Nat) (xs : List ByteArray) (ke : Int) (f' : Fl) (w : World) (hO : ndsN.owns n w [v] s.1) (hnw : n ≤ w.heap.size) (hX : Stay n w (.slice av xs.length cv) xs)
   (hw : filE s.1 xs = 0 → ∀ W us, Below w.heap.size w W → flN.lies n W us (fi (tgt s xs)) → Calls Tryz.prog G #[.agg us.toArray, c1] W fun e w' => (∃ us', e = .returned (.tuple #[.agg us'.toArray, .int .i64 ke]) ∧ flN.lies W.heap.size w' us' f') ∧ Below W.heap.size W w') :
   Calls Tryz.prog 50 #[.agg #[v, .int .i64 s.2], .slice av xs.length cv, .func (.func G) #[] #[c1]] w fun e w' => (∃ E, e = .returned E ∧ EV (rwE s xs ke) E) ∧ w.grownBy w' v.ownBlock ∧ (rwE s xs ke = 0 → ndsN.lies n w' [v] (filN s (tgt s xs) f').1) := by
 obtain ⟨a, c, rfl⟩ := own_len hO
 obtain ⟨W, hW⟩ := exa (w.alloc (.cells #[.slice a s.1.length c, .int .i64 s.2] 29))
 have hbW : Below w.heap.size w W := by rw [hW]; exact (Below.refl _ w).alloc (Nat.le_refl _) _
 have hBS : Box W w.heap.size 29 #[.slice a s.1.length c, .int .i64 s.2] := by rw [hW]; exact Box.new _ _ _
 have HFF := findFile_any n 0 a c s hOk.wk av cv xs W (ndsN.olies (ndsN.obelow hO hbW)) (hX.below (hbW.mono hnw)).at
 have HTG : Hid (filE s.1 xs = 0 → (wlk s.1 1 xs).1 = (tgt s xs).1 ∧ ∀ p ∈ s.1, p.1 = (tgt s xs).1 → p = tgt s xs) := fun h0 => by (
 have hl := hOk.wk.lead (fil_zero h0).1
 refine ⟨hl.2.1, fun p hp he => ?_⟩
 have h1 := gt_of hOk.wk.up hp
 have h2 := gt_of hOk.wk.up hl.1
 rw [← h1, he, h2])
 have HW : Hid (filE s.1 xs = 0 → ∀ W us, Below w.heap.size w W → flN.lies n W us (fi (tgt s xs)) → Calls Tryz.prog G #[.agg us.toArray, c1] W fun e w' => (∃ us', e = .returned (.tuple #[.agg us'.toArray, .int .i64 ke]) ∧ flN.lies W.heap.size w' us' f') ∧ Below W.heap.size W w') := hw
 have HS : Hid (ndsN.owns n w [.slice a s.1.length c] s.1 ∧ n ≤ w.heap.size ∧ Ups s.1 ∧ Below w.heap.size w W) := ⟨hO, hnw, hOk.wk.up, hbW⟩
 have HRE : Hid (rwE s xs ke = if filE s.1 xs ≠ 0 then filE s.1 xs else ke) := rfl
 have HSF : Hid ((filN s (tgt s xs) f').1 = ch s.1 (tgt s xs).1 (wF f')) := rfl
 obtain ⟨post, hpost⟩ : ∃ post : Ending → World → Prop, post = fun e w' => (∃ E, e = .returned E ∧ EV (rwE s xs ke) E) ∧ w.grownBy w' (Value.slice a s.1.length c).ownBlock ∧ (rwE s xs ke = 0 → ndsN.lies n w' [.slice a s.1.length c] (filN s (tgt s xs) f').1) := ⟨_, rfl⟩
 have HPo : Hid (∀ E w', EV (rwE s xs ke) E → w.grownBy w' (Value.slice a s.1.length c).ownBlock → (rwE s xs ke = 0 → ndsN.lies n w' [.slice a s.1.length c] (filN s (tgt s xs) f').1) → post (.returned E) w') := fun E w' h1 h2 h3 => by rw [hpost]; exact ⟨⟨E, rfl, h1⟩, h2, h3⟩
 rw [← hpost]
 generalize rwE s xs ke = re at HRE HPo
 obtain ⟨l, nx⟩ := s
 simp only at HFF HTG HW HS HRE HPo HSF hBS ⊢
 generalize (filN (l, nx) (tgt (l, nx) xs) f').1 = l' at HSF HPo
 generalize tgt (l, nx) xs = T at HTG HW HSF
 obtain ⟨g0, g1, -, -⟩ := hBS.two
 obtain ⟨L, hL⟩ := exa (l.length)
 obtain ⟨m, hm⟩ := exa (xs.length)
 rw [hW] at g0 g1
 rw [← hL] at HFF HS g0 g1 HPo hW ⊢
 rw [← hm] at HFF ⊢
 generalize (wlk l 1 xs).1 = wi at HFF HTG
 generalize filE l xs = fe at HFF HTG HRE HW
 clear hO hX hL hm hpost hOk hbW hBS hw
 go_enter Tryz.func50, Tryz.ntmps50
 go_wp2_with fail
 rw [← hW]
 clear hW g0 g1
 refine HFF.mono ?_
 rintro e1 w1 ⟨hr, hb1⟩
 have HB1 : Hid (Below w.heap.size w w1) := below_any HS.out.2.2.2 hb1
 rcases hr with ⟨hne, E, rfl, hE⟩ | ⟨h0, k, p, b, o, hk, hpw, hix, rfl⟩
 · obtain ⟨a2, l2, c2, s2, rfl⟩ : ∃ a2 l2 c2 s2, E = refV (.slice a2 l2 c2) fe s2 := by
     rcases hE with ⟨h, _⟩ | ⟨_, a2, l2, c2, s2, h⟩
     · exact absurd h hne
     · exact ⟨a2, l2, c2, s2, h⟩
   have HN : Hid (fe ≠ 0 ∧ re = fe) := ⟨hne, by rw [HRE.out, if_pos hne]⟩
   clear hne hE hb1 HFF
   go_wp2
   exact HPo.out _ _ (by rw [HN.out.2]; exact ev_ref HN.out.1 _ _ _ _) (grown_below HB1.out _) (fun h => absurd (HN.out.2.symm.trans h) HN.out.1)
 subst h0
 obtain ⟨e', f0, rfl, hnb, hbw, hob, hPu⟩ := found_is HS.out.1 hk hix
 have hpT : p = T := (HTG.out rfl).2 p (List.mem_of_getElem? hk) (hpw.trans (HTG.out rfl).1)
 subst hpT
 have HPU : Hid (∀ W, Below w.heap.size w W → Puts n (.slice a L c) l k p b e' f0 W) := hPu
 have HK : Hid (l[k]? = some p ∧ (Value.slice a L c).ownBlock = some b ∧ b < w.heap.size) := ⟨hk, hob, hbw⟩
 have hP := hPu w1 HB1.out
 obtain ⟨-, -, -, -, c4, c5⟩ := nv_cells hP.1
 obtain ⟨fa, fc, hfe, -, -⟩ := Shape.list_len (S := F.bkN) (ht := Tryz.underlying43) (hc := F.cells43) (bksN.olies hP.2.2.1.2.1)
 obtain rfl : f0 = _ := by simpa using hfe
 have HCF := HW.out rfl w1 [.int .i64 (fi p).1, .slice fa (fi p).2.length fc] HB1.out hP.2.2.1.ln.file
 have HRE2 : Hid (re = ke) := by (
 have := HRE.out
 rw [if_neg (by decide)] at this
 exact this)
 generalize (fi p).1 = pz at c4 HCF
 generalize (fi p).2.length = pl at c5 HCF HPU
 clear hP hPu hk hpw hix hb1 HFF hnb hbw hob hfe
 go_wp2_with fail
 refine HCF.mono ?_
 rintro e2 w2 ⟨⟨us', rfl, hu'⟩, hb2⟩
 obtain ⟨ra, rc, rfl, hrb, hrI, -⟩ := F.fl_viewN hu'
 have HB2 : Hid (Below w.heap.size w w2) := below_any HB1.out hb2
 obtain ⟨W3, hW3⟩ := exa (w2.alloc (.cells #[.int .i64 f'.1, .slice ra f'.2.length rc] 45))
 have hb3 : Below w.heap.size w W3 := by rw [hW3]; exact HB2.out.alloc HB2.out.size _
 have hB3 : Box W3 w2.heap.size 45 #[.int .i64 f'.1, .slice ra f'.2.length rc] := by rw [hW3]; exact Box.new _ _ _
 have hP3 := HPU.out W3 hb3
 have hput := nds_put_file (ndsN.obelow HS.out.1 hb3) HK.out.1 HK.out.2.1 (.slice ra f'.2.length rc) f' (base := w1.heap.size) (by have := HK.out.2.2; have := HB1.out.size; omega) (Nat.le_trans HS.out.2.1 HB1.out.size) (by rw [hW3]; exact bksN.keep hrb (.alloc _ _ _)) hrI
 rw [set_ch HS.out.2.2.1 HK.out.1, ← HSF.out] at hput
 have HPT : Hid (ndsN.lies n ((W3.setCell ⟨b, k * 6 + 4, none⟩ (.int .i64 f'.1)).setCell ⟨b, k * 6 + 5, none⟩ (.slice ra f'.2.length rc)) [.slice a L c] l' ∧ w.grownBy ((W3.setCell ⟨b, k * 6 + 4, none⟩ (.int .i64 f'.1)).setCell ⟨b, k * 6 + 5, none⟩ (.slice ra f'.2.length rc)) (Value.slice a L c).ownBlock ∧ Below w.heap.size w W3) := ⟨hput.1, (grown_below hb3 _).trans hput.2, hb3⟩
 obtain ⟨q0, q1, -, -⟩ := hB3.two
 obtain ⟨-, -, -, -, d4, d5⟩ := nv_cells hP3.1
 have f4 := hP3.2.1 (k * 6 + 4)
 have f5 := hP3.2.1 (k * 6 + 5)
 rw [hW3] at q0 q1 d4 d5 f4 f5
 generalize f'.1 = z' at q0 q1 HPT d4 d5 f4 f5 hW3 ⊢
 generalize f'.2.length = fl' at q0 q1 HPT d4 d5 f4 f5 hW3 ⊢
 clear hu' hrb hrI hb2 hb3 hB3 hP3 hput HCF c4 c5
 by_cases hz : ke = 0
 · have hre : re = 0 := HRE2.out.trans hz
   subst hre
   subst hz
   go_wp2
   refine HPo.out _ _ ev_nil ?_ (fun _ => ?_)
   · rw [← hW3]; exact HPT.out.2.1
   · rw [← hW3]; exact HPT.out.1
 · have hre : re = ke := HRE2.out
   subst hre
   have HZ : Hid (re ≠ 0) := hz
   have hr := refuse_bad re hz av m cv W3
   clear q0 q1 d4 d5 f4 f5
   go_wp2_with fail
   rw [← hW3]
   refine hr.mono ?_
   rintro e3 w3 ⟨rfl, rfl⟩
   go_wp2
   exact HPo.out _ _ (ev_ref HZ.out _ _ _ _) (by rw [← hW3]; exact grown_below HPT.out.2.2 _) (fun h => absurd h HZ.out)
theorem rewrite2_any (G : Nat) (hG : ∀ args w, (callFunc G args).run Tryz.prog w = .ok (.enter G args) w) (c1 : Value) (c2 : Value) (n : Nat) (v : Value) (s : St) (hOk : Ok s) (av : Option Addr) (cv : Nat) (xs : List ByteArray) (ke : Int) (f' : Fl) (w : World) (hO : ndsN.owns n w [v] s.1) (hnw : n ≤ w.heap.size) (hX : Stay n w (.slice av xs.length cv) xs)
   (hw : filE s.1 xs = 0 → ∀ W us, Below w.heap.size w W → flN.lies n W us (fi (tgt s xs)) → Calls Tryz.prog G #[.agg us.toArray, c1, c2] W fun e w' => (∃ us', e = .returned (.tuple #[.agg us'.toArray, .int .i64 ke]) ∧ flN.lies W.heap.size w' us' f') ∧ Below W.heap.size W w') :
   Calls Tryz.prog 50 #[.agg #[v, .int .i64 s.2], .slice av xs.length cv, .func (.func G) #[] #[c1, c2]] w fun e w' => (∃ E, e = .returned E ∧ EV (rwE s xs ke) E) ∧ w.grownBy w' v.ownBlock ∧ (rwE s xs ke = 0 → ndsN.lies n w' [v] (filN s (tgt s xs) f').1) := by
 obtain ⟨a, c, rfl⟩ := own_len hO
 obtain ⟨W, hW⟩ := exa (w.alloc (.cells #[.slice a s.1.length c, .int .i64 s.2] 29))
 have hbW : Below w.heap.size w W := by rw [hW]; exact (Below.refl _ w).alloc (Nat.le_refl _) _
 have hBS : Box W w.heap.size 29 #[.slice a s.1.length c, .int .i64 s.2] := by rw [hW]; exact Box.new _ _ _
 have HFF := findFile_any n 0 a c s hOk.wk av cv xs W (ndsN.olies (ndsN.obelow hO hbW)) (hX.below (hbW.mono hnw)).at
 have HTG : Hid (filE s.1 xs = 0 → (wlk s.1 1 xs).1 = (tgt s xs).1 ∧ ∀ p ∈ s.1, p.1 = (tgt s xs).1 → p = tgt s xs) := fun h0 => by (
 have hl := hOk.wk.lead (fil_zero h0).1
 refine ⟨hl.2.1, fun p hp he => ?_⟩
 have h1 := gt_of hOk.wk.up hp
 have h2 := gt_of hOk.wk.up hl.1
 rw [← h1, he, h2])
 have HW : Hid (filE s.1 xs = 0 → ∀ W us, Below w.heap.size w W → flN.lies n W us (fi (tgt s xs)) → Calls Tryz.prog G #[.agg us.toArray, c1, c2] W fun e w' => (∃ us', e = .returned (.tuple #[.agg us'.toArray, .int .i64 ke]) ∧ flN.lies W.heap.size w' us' f') ∧ Below W.heap.size W w') := hw
 have HS : Hid (ndsN.owns n w [.slice a s.1.length c] s.1 ∧ n ≤ w.heap.size ∧ Ups s.1 ∧ Below w.heap.size w W) := ⟨hO, hnw, hOk.wk.up, hbW⟩
 have HRE : Hid (rwE s xs ke = if filE s.1 xs ≠ 0 then filE s.1 xs else ke) := rfl
 have HSF : Hid ((filN s (tgt s xs) f').1 = ch s.1 (tgt s xs).1 (wF f')) := rfl
 obtain ⟨post, hpost⟩ : ∃ post : Ending → World → Prop, post = fun e w' => (∃ E, e = .returned E ∧ EV (rwE s xs ke) E) ∧ w.grownBy w' (Value.slice a s.1.length c).ownBlock ∧ (rwE s xs ke = 0 → ndsN.lies n w' [.slice a s.1.length c] (filN s (tgt s xs) f').1) := ⟨_, rfl⟩
 have HPo : Hid (∀ E w', EV (rwE s xs ke) E → w.grownBy w' (Value.slice a s.1.length c).ownBlock → (rwE s xs ke = 0 → ndsN.lies n w' [.slice a s.1.length c] (filN s (tgt s xs) f').1) → post (.returned E) w') := fun E w' h1 h2 h3 => by rw [hpost]; exact ⟨⟨E, rfl, h1⟩, h2, h3⟩
 rw [← hpost]
 generalize rwE s xs ke = re at HRE HPo
 obtain ⟨l, nx⟩ := s
 simp only at HFF HTG HW HS HRE HPo HSF hBS ⊢
 generalize (filN (l, nx) (tgt (l, nx) xs) f').1 = l' at HSF HPo
 generalize tgt (l, nx) xs = T at HTG HW HSF
 obtain ⟨g0, g1, -, -⟩ := hBS.two
 obtain ⟨L, hL⟩ := exa (l.length)
 obtain ⟨m, hm⟩ := exa (xs.length)
 rw [hW] at g0 g1
 rw [← hL] at HFF HS g0 g1 HPo hW ⊢
 rw [← hm] at HFF ⊢
 generalize (wlk l 1 xs).1 = wi at HFF HTG
 generalize filE l xs = fe at HFF HTG HRE HW
 clear hO hX hL hm hpost hOk hbW hBS hw
 go_enter Tryz.func50, Tryz.ntmps50
 go_wp2_with fail
 rw [← hW]
 clear hW g0 g1
 refine HFF.mono ?_
 rintro e1 w1 ⟨hr, hb1⟩
 have HB1 : Hid (Below w.heap.size w w1) := below_any HS.out.2.2.2 hb1
 rcases hr with ⟨hne, E, rfl, hE⟩ | ⟨h0, k, p, b, o, hk, hpw, hix, rfl⟩
 · obtain ⟨a2, l2, c2, s2, rfl⟩ : ∃ a2 l2 c2 s2, E = refV (.slice a2 l2 c2) fe s2 := by
     rcases hE with ⟨h, _⟩ | ⟨_, a2, l2, c2, s2, h⟩
     · exact absurd h hne
     · exact ⟨a2, l2, c2, s2, h⟩
   have HN : Hid (fe ≠ 0 ∧ re = fe) := ⟨hne, by rw [HRE.out, if_pos hne]⟩
   clear hne hE hb1 HFF
   go_wp2
   exact HPo.out _ _ (by rw [HN.out.2]; exact ev_ref HN.out.1 _ _ _ _) (grown_below HB1.out _) (fun h => absurd (HN.out.2.symm.trans h) HN.out.1)
 subst h0
 obtain ⟨e', f0, rfl, hnb, hbw, hob, hPu⟩ := found_is HS.out.1 hk hix
 have hpT : p = T := (HTG.out rfl).2 p (List.mem_of_getElem? hk) (hpw.trans (HTG.out rfl).1)
 subst hpT
 have HPU : Hid (∀ W, Below w.heap.size w W → Puts n (.slice a L c) l k p b e' f0 W) := hPu
 have HK : Hid (l[k]? = some p ∧ (Value.slice a L c).ownBlock = some b ∧ b < w.heap.size) := ⟨hk, hob, hbw⟩
 have hP := hPu w1 HB1.out
 obtain ⟨-, -, -, -, c4, c5⟩ := nv_cells hP.1
 obtain ⟨fa, fc, hfe, -, -⟩ := Shape.list_len (S := F.bkN) (ht := Tryz.underlying43) (hc := F.cells43) (bksN.olies hP.2.2.1.2.1)
 obtain rfl : f0 = _ := by simpa using hfe
 have HCF := HW.out rfl w1 [.int .i64 (fi p).1, .slice fa (fi p).2.length fc] HB1.out hP.2.2.1.ln.file
 have HRE2 : Hid (re = ke) := by (
 have := HRE.out
 rw [if_neg (by decide)] at this
 exact this)
 generalize (fi p).1 = pz at c4 HCF
 generalize (fi p).2.length = pl at c5 HCF HPU
 clear hP hPu hk hpw hix hb1 HFF hnb hbw hob hfe
 go_wp2_with fail
 refine HCF.mono ?_
 rintro e2 w2 ⟨⟨us', rfl, hu'⟩, hb2⟩
 obtain ⟨ra, rc, rfl, hrb, hrI, -⟩ := F.fl_viewN hu'
 have HB2 : Hid (Below w.heap.size w w2) := below_any HB1.out hb2
 obtain ⟨W3, hW3⟩ := exa (w2.alloc (.cells #[.int .i64 f'.1, .slice ra f'.2.length rc] 45))
 have hb3 : Below w.heap.size w W3 := by rw [hW3]; exact HB2.out.alloc HB2.out.size _
 have hB3 : Box W3 w2.heap.size 45 #[.int .i64 f'.1, .slice ra f'.2.length rc] := by rw [hW3]; exact Box.new _ _ _
 have hP3 := HPU.out W3 hb3
 have hput := nds_put_file (ndsN.obelow HS.out.1 hb3) HK.out.1 HK.out.2.1 (.slice ra f'.2.length rc) f' (base := w1.heap.size) (by have := HK.out.2.2; have := HB1.out.size; omega) (Nat.le_trans HS.out.2.1 HB1.out.size) (by rw [hW3]; exact bksN.keep hrb (.alloc _ _ _)) hrI
 rw [set_ch HS.out.2.2.1 HK.out.1, ← HSF.out] at hput
 have HPT : Hid (ndsN.lies n ((W3.setCell ⟨b, k * 6 + 4, none⟩ (.int .i64 f'.1)).setCell ⟨b, k * 6 + 5, none⟩ (.slice ra f'.2.length rc)) [.slice a L c] l' ∧ w.grownBy ((W3.setCell ⟨b, k * 6 + 4, none⟩ (.int .i64 f'.1)).setCell ⟨b, k * 6 + 5, none⟩ (.slice ra f'.2.length rc)) (Value.slice a L c).ownBlock ∧ Below w.heap.size w W3) := ⟨hput.1, (grown_below hb3 _).trans hput.2, hb3⟩
 obtain ⟨q0, q1, -, -⟩ := hB3.two
 obtain ⟨-, -, -, -, d4, d5⟩ := nv_cells hP3.1
 have f4 := hP3.2.1 (k * 6 + 4)
 have f5 := hP3.2.1 (k * 6 + 5)
 rw [hW3] at q0 q1 d4 d5 f4 f5
 generalize f'.1 = z' at q0 q1 HPT d4 d5 f4 f5 hW3 ⊢
 generalize f'.2.length = fl' at q0 q1 HPT d4 d5 f4 f5 hW3 ⊢
 clear hu' hrb hrI hb2 hb3 hB3 hP3 hput HCF c4 c5
 by_cases hz : ke = 0
 · have hre : re = 0 := HRE2.out.trans hz
   subst hre
   subst hz
   go_wp2
   refine HPo.out _ _ ev_nil ?_ (fun _ => ?_)
   · rw [← hW3]; exact HPT.out.2.1
   · rw [← hW3]; exact HPT.out.1
 · have hre : re = ke := HRE2.out
   subst hre
   have HZ : Hid (re ≠ 0) := hz
   have hr := refuse_bad re hz av m cv W3
   clear q0 q1 d4 d5 f4 f5
   go_wp2_with fail
   rw [← hW3]
   refine hr.mono ?_
   rintro e3 w3 ⟨rfl, rfl⟩
   go_wp2
   exact HPo.out _ _ (ev_ref HZ.out _ _ _ _) (by rw [← hW3]; exact grown_below HPT.out.2.2 _) (fun h => absurd h HZ.out)
end Go.Proofs.YtopcefhncildnaaGreatDoor
namespace Go.Proofs.YtopcefhncildnaaGreatDoor
open Go.RowKit
open F (Fl flN bksN)
open P (ArgT serr sval)
theorem writeIn_any (Q1 : Nat) (Q2 : Nat) (off : Int) (da : Option Addr) (dl dc : Nat) (d : List Int) (n : Nat) (us : List Value) (f : Fl) (W : World) (hf : flN.lies n W us f) (n1 : Nat) (ho : I64 off) (hv : Arg n1 W (.slice da dl dc) d) (hB : Box W Q1 3 #[.int .i64 off] ∧ Box W Q2 25 #[.slice da dl dc]) :
   Calls Tryz.prog 51 #[.agg us.toArray, .pointer (some ⟨Q1, 0, none⟩), .pointer (some ⟨Q2, 0, none⟩)] W fun e w' => (∃ us', e = .returned (.tuple #[.agg us'.toArray, .int .i64 (F.wrE f off d)]) ∧ flN.lies W.heap.size w' us' (F.wrF f off d)) ∧ Below W.heap.size W w' := by
 obtain ⟨fa, fc, rfl, -, -, -⟩ := F.fl_viewN hf
 obtain ⟨W1, hW1⟩ := exa (W.alloc (.cells #[.int .i64 f.1, .slice fa f.2.length fc] 45))
 obtain ⟨W2, hW2⟩ := exa (W1.alloc (.cells #[.int .i64 0, .slice none 0 0] 45))
 have hb1 : Below W.heap.size W W1 := by rw [hW1]; exact (Below.refl _ _).alloc (Nat.le_refl _) _
 have hb2 : Below W.heap.size W W2 := by rw [hW2]; exact hb1.alloc hb1.size _
 have hs1 : W1.heap.size = W.heap.size + 1 := by rw [hW1]; exact Array.size_push _
 have hBF : Box W2 W.heap.size 45 #[.int .i64 f.1, .slice fa f.2.length fc] := by
   have : Box W1 W.heap.size 45 #[.int .i64 f.1, .slice fa f.2.length fc] := by rw [hW1]; exact Box.new _ _ _
   rw [hW2]; exact this.alloc _
 have hBR : Box W2 (W.heap.size + 1) 45 #[.int .i64 0, .slice none 0 0] := by rw [hW2, ← hs1]; exact Box.new _ _ _
 have HC := F.write_any n n1 _ f off (.slice da dl dc) d W2 (flN.below hf hb2) ho (hv.below hb2)
 have HB : Hid (Below W.heap.size W W2 ∧ Box W2 (W.heap.size + 1) 45 #[.int .i64 0, .slice none 0 0] ∧ W.heap.size + 2 ≤ W2.heap.size) := ⟨hb2, hBR, by have : W2.heap.size = W1.heap.size + 1 := (by rw [hW2]; exact Array.size_push _); omega⟩
 obtain ⟨g0, g1, -, -⟩ := hBF.two
 have q1 := (hB.1.below hb2 hB.1.lt).cell 0 rfl
 have q2 := (hB.2.below hb2 hB.2.lt).cell 0 rfl
 rw [hW2, hW1] at g0 g1 q1 q2
 generalize F.wrE f off d = ke at HC ⊢
 obtain ⟨post, hpost⟩ : ∃ post : Ending → World → Prop, post = fun e w' => (∃ us', e = .returned (.tuple #[.agg us'.toArray, .int .i64 ke]) ∧ flN.lies W.heap.size w' us' (F.wrF f off d)) ∧ Below W.heap.size W w' := ⟨_, rfl⟩
 have HPo : Hid (∀ z a3 n3 c3 w', flN.lies W2.heap.size w' [.int .i64 z, .slice a3 n3 c3] (F.wrF f off d) → Below W2.heap.size W2 w' → post (.returned (.tuple #[.agg #[.int .i64 z, .slice a3 n3 c3], .int .i64 ke])) ((w'.setCell ⟨W.heap.size + 1, 0, none⟩ (.int .i64 z)).setCell ⟨W.heap.size + 1, 1, none⟩ (.slice a3 n3 c3))) := fun z a3 n3 c3 w' h1 h2 => by
   rw [hpost]
   exact ⟨⟨[_, _], rfl, flN.weaken (flN.keep h1 (.set2 (by have := HB.out.2.2; omega))) HB.out.1.size⟩, below_set2 (below_any HB.out.1 h2) (by omega) _ _⟩
 rw [← hpost]
 generalize f.1 = z0 at HC hW1 g0 g1 q1 q2 ⊢
 generalize f.2.length = l0 at HC hW1 g0 g1 q1 q2 ⊢
 clear hf hb1 hb2 hBF hBR hB hs1 hpost ho hv
 go_enter Tryz.func51, Tryz.ntmps51
 go_wp2_with fail
 rw [← hW1, ← hW2]
 clear hW1 hW2 g0 g1 q1 q2
 refine HC.mono ?_
 rintro e3 w3 ⟨⟨us3, rfl, hu3⟩, hb3⟩
 obtain ⟨ra, rc, rfl, -, -, -⟩ := F.fl_viewN hu3
 have HP := HPo.out _ _ _ _ w3 hu3 hb3
 obtain ⟨d0, d1, e0, e1⟩ := (HB.out.2.1.below hb3 HB.out.2.1.lt).two
 generalize (F.wrF f off d).1 = z3 at HP ⊢
 generalize (F.wrF f off d).2.length = l3 at HP ⊢
 have HP2 : Hid (post (.returned (.tuple #[.agg #[.int .i64 z3, .slice ra l3 rc], .int .i64 ke])) ((w3.setCell ⟨W.heap.size + 1, 0, none⟩ (.int .i64 z3)).setCell ⟨W.heap.size + 1, 1, none⟩ (.slice ra l3 rc))) := HP
 clear HP hu3 hb3 HC HPo
 go_wp2
 refine bodyPost_ret (v := .tuple #[.agg #[.int .i64 z3, .slice ra l3 rc], .int .i64 ke]) (by simp [results, Tryz.results51, go_sem, *]) rfl HP2.out
theorem writeDo_any (Q1 : Nat) (Q2 : Nat) (off : Int) (da : Option Addr) (dl dc : Nat) (d : List Int) (n S : Nat) (s : St) (hOk : Ok s) (p : ByteArray) (v2 : Value) (w : World) (hM : MS n w S s) (hnS : n ≤ S) (hL : StayL n w v2 [p]) (n1 : Nat) (ho : I64 off) (hv : ∀ U, Below n w U → Arg n1 U (.slice da dl dc) d) (hBx : ∀ U, Below n w U → Box U Q1 3 #[.int .i64 off] ∧ Box U Q2 25 #[.slice da dl dc]) :
   Calls Tryz.prog 49 #[.pointer (some ⟨S, 0, none⟩), v2, .pointer (some ⟨Q1, 0, none⟩), .pointer (some ⟨Q2, 0, none⟩)] w fun e w' => (∃ E, e = .returned E ∧ EV (rwE s (sval p) (F.wrE (fi (tgt s (sval p))) off d)) E) ∧ Below n w w' ∧ (rwE s (sval p) (F.wrE (fi (tgt s (sval p))) off d) = 0 → ML n w' S (filN s (tgt s (sval p)) (F.wrF (fi (tgt s (sval p))) off d))) := by
 obtain ⟨b, o, av, cv, hix, hc, hX⟩ := hL 0 p rfl
 have hix : ∀ W, (Instr.indexAt 106 v2 (.int .i64 0)).run Tryz.prog W = .ok (.pointer (some ⟨b, o, none⟩)) W := hix
 obtain ⟨v, hB, hO⟩ := hM
 obtain ⟨a, c, rfl⟩ := own_len hO
 have hnw : n ≤ w.heap.size := by have := hB.lt; omega
 have HC := rewrite2_any 51 Tryz.call51 (.pointer (some ⟨Q1, 0, none⟩)) (.pointer (some ⟨Q2, 0, none⟩)) n (.slice a s.1.length c) s hOk av cv (sval p) (F.wrE (fi (tgt s (sval p))) off d) (F.wrF (fi (tgt s (sval p))) off d) w.drew (by exact hO) hnw (hX.below (Below.refl _ w).drew)
   (fun _ W us hbW hf => writeIn_any Q1 Q2 off da dl dc d n us _ W hf n1 ho (hv W ((Below.refl _ w).drew.trans (hbW.mono hnw))) (hBx W ((Below.refl _ w).drew.trans (hbW.mono hnw))))
 obtain ⟨post, hpost⟩ : ∃ post : Ending → World → Prop, post = fun e w' => (∃ E, e = .returned E ∧ EV (rwE s (sval p) (F.wrE (fi (tgt s (sval p))) off d)) E) ∧ Below n w w' ∧ (rwE s (sval p) (F.wrE (fi (tgt s (sval p))) off d) = 0 → ML n w' S (filN s (tgt s (sval p)) (F.wrF (fi (tgt s (sval p))) off d))) := ⟨_, rfl⟩
 have HC' := HC.mono (R' := fun e w' => (∃ E, e = .returned E ∧ post (.returned E) w') ∧ Below n w w' ∧ Box w' S 29 #[.slice a s.1.length c, .int .i64 s.2]) fun e w' h => by (
 obtain ⟨⟨E, rfl, h1⟩, h2, h3⟩ := h
 have hb : Below n w w' := (Below.refl _ w).drew.trans ((Below.refl _ w.drew).grown h2 hnw (own_base hO))
 have hx : Box w' S 29 #[.slice a s.1.length c, .int .i64 s.2] := hB.drew.grown h2 (own_apart hB hO)
 exact ⟨⟨E, rfl, by rw [hpost]; exact ⟨⟨E, rfl, h1⟩, hb, fun h0 => ⟨_, hx, h3 h0⟩⟩⟩, hb, hx⟩)
 rw [← hpost]
 have HCC : Hid (∀ w', Below n w w' → w'.cell? ⟨b, o, none⟩ = some (.slice av (sval p).length cv)) := fun w' hb => hc w' hb
 obtain ⟨d0, d1, -, -⟩ := hB.two
 obtain ⟨m, hm⟩ := exa ((sval p).length)
 obtain ⟨L, hLL⟩ := exa (s.1.length)
 obtain ⟨nx, hnx⟩ := exa (s.2)
 rw [← hm] at HC' HCC
 rw [← hLL] at HC' d0
 rw [← hnx] at HC' d1
 have HS0 : w.drew.cell? ⟨S, 0, none⟩ = some (.slice a L c) ∧ w.drew.cell? ⟨S, 1, none⟩ = some (.int .i64 nx) ∧ w.drew.cell? ⟨b, o, none⟩ = some (.slice av m cv) := ⟨d0, d1, HCC.out w (Below.refl _ _)⟩
 clear hX hB hO hpost hm hLL hnx hc hL HC d0 d1 hBx
 go_enter Tryz.func49, Tryz.ntmps49
 go_wp2
 go_region_held3 (fun U => U.cell? ⟨S, 0, none⟩ = some (.slice a L c) ∧ U.cell? ⟨S, 1, none⟩ = some (.int .i64 nx) ∧ U.cell? ⟨b, o, none⟩ = some (.slice av m cv))
   (first | with_reducible exact HS1 | with_reducible exact HS0)
   ((first | (go_at_call 50; refine HC'.mono ?_; rintro e1 w1 ⟨⟨E, rfl, h2⟩, hb1, hx1⟩; have HS1 : w1.cell? ⟨S, 0, none⟩ = some (.slice a L c) ∧ w1.cell? ⟨S, 1, none⟩ = some (.int .i64 nx) ∧ w1.cell? ⟨b, o, none⟩ = some (.slice av m cv) := ⟨hx1.two.1, hx1.two.2.1, HCC.out w1 hb1⟩)))
 have H2 : Hid (post (.returned E) w1) := h2
 clear h2 HC' hb1 hx1 HS0 HS1 hix
 go_wp2
 exact H2.out
end Go.Proofs.YtopcefhncildnaaGreatDoor
namespace Go.Proofs.YtopcefhncildnaaGreatDoor
open Go.RowKit
open P (ArgT)
def rootN : Nd := (1, true, 0, [], (0, []))
theorem New_any (w : World) : Calls Tryz.prog 38 #[] w fun e w' => (∃ v, e = .returned (.agg #[v, .int .i64 2]) ∧ ndsN.owns w.heap.size w' [v] [rootN]) ∧ Below w.heap.size w w' := by
 obtain ⟨W1, hW1⟩ := exa (w.alloc (.cells #[.slice (some ⟨w.heap.size + 1, 0, none⟩) 1 1, .int .i64 2] 29))
 obtain ⟨W2, hW2⟩ := exa (W1.alloc (.cells #[.int .i64 1, .bool true, .int .i64 0, .slice none 0 0, .int .i64 0, .slice none 0 0] 47))
 have hb1 : Below w.heap.size w W1 := by rw [hW1]; exact (Below.refl _ w).alloc (Nat.le_refl _) _
 have hb2 : Below w.heap.size w W2 := by rw [hW2]; exact hb1.alloc hb1.size _
 have hs1 : W1.heap.size = w.heap.size + 1 := by rw [hW1]; exact Array.size_push _
 have hBR : Box W2 w.heap.size 29 #[.slice (some ⟨w.heap.size + 1, 0, none⟩) 1 1, .int .i64 2] := by
   have : Box W1 w.heap.size 29 #[.slice (some ⟨w.heap.size + 1, 0, none⟩) 1 1, .int .i64 2] := by rw [hW1]; exact Box.new _ _ _
   rw [hW2]; exact this.alloc _
 have hO : ndsN.owns (w.heap.size + 1) W2 [.slice (some ⟨w.heap.size + 1, 0, none⟩) 1 1] [rootN] := by (
 refine ⟨_, [nv rootN (.slice none 0 0) (.slice none 0 0)], rfl, ?_, nd_omk (p := rootN) ⟨D.OwnE.nil _ _ _, Shape.list_nil F.bkN 43 Tryz.underlying43 F.cells43 _ _, (show I64 1 from ⟨by omega, by omega⟩), (show I64 0 from ⟨by omega, by omega⟩), (show I64 0 from ⟨by omega, by omega⟩)⟩, trivial⟩
 have := World.ownsRow_lit (base := w.heap.size + 1) (e := 47) (size := 6) W1 #[.int .i64 1, .bool true, .int .i64 0, .slice none 0 0, .int .i64 0, .slice none 0 0] 1 (by omega) (by simp [maxLen]) rfl
 rw [hs1, ← hW2] at this
 exact this)
 have HF : Hid (Box W2 w.heap.size 29 #[.slice (some ⟨w.heap.size + 1, 0, none⟩) 1 1, .int .i64 2] ∧ ndsN.owns (w.heap.size + 1) W2 [.slice (some ⟨w.heap.size + 1, 0, none⟩) 1 1] [rootN] ∧ Below w.heap.size w W2) := ⟨hBR, hO, hb2⟩
 obtain ⟨d0, d1, -, -⟩ := hBR.two
 clear hb1 hb2 hs1 hBR hO
 go_enter Tryz.func38, Tryz.ntmps38
 go_wp2
 rw [← hW1, ← hW2]
 clear hW1 hW2
 refine bodyPost_ret (v := .agg #[.slice (some ⟨w.heap.size + 1, 0, none⟩) 1 1, .int .i64 2]) (by simp [results, Tryz.results38, go_sem, *]) rfl ⟨⟨_, rfl, ?_⟩, HF.out.2.2⟩
 exact ndsN.oweaken (n := w.heap.size + 1) HF.out.2.1 (by omega)
end Go.Proofs.YtopcefhncildnaaGreatDoor
namespace Go.Proofs.YtopcefhncildnaaGreatDoor
open D (En ins del there Chk aerr)
theorem std_zero {s : St} (hK : Wk s) {ys : List ByteArray} (hE : stdE s.1 ys = 0) : (wlk s.1 1 (ahd ys)).2 = 0 ∧ hold s ys ∈ s.1 ∧ stdI s.1 ys = (hold s ys).1 ∧ isD (hold s ys) = true ∧ stdT s.1 ys = entC (hold s ys) (lst ys) := by
 have hE0 := hE
 unfold stdE at hE
 split at hE
 case isFalse h3 => exact absurd hE h3
 rename_i h3
 split at hE
 case isFalse => omega
 rename_i h4
 obtain ⟨n, hn, e1, e2, e3⟩ := wlk_in hK h3
 have hh : hold s ys = n := e2
 refine ⟨h3, by rw [hh]; exact hn, ?_, h4, ?_⟩
 · unfold stdI; rw [if_pos hE0, hh]; exact e1.symm
 · unfold stdT; rw [if_pos hE0]; rfl
end Go.Proofs.YtopcefhncildnaaGreatDoor
namespace Go.Proofs.YtopcefhncildnaaGreatDoor
open Go.RowKit
open F (Fl flN bksN)
open P (ArgT serr sval)
def Wrote (s : St) (ps : List ByteArray) (K : Int) (s' : St) (dl : Nat) (w : World) (e : Ending) (w' : World) : Prop :=
 ((∃ k, e = .returned (.tuple #[.agg #[.slice none 0 0, .int .i64 0], .int .i64 0, .int .i64 k]) ∧ ((¬ Ok s ∧ k = 9) ∨ (Ok s ∧ psE ps ≠ 0 ∧ k = psE ps) ∨ (Ok s ∧ psE ps = 0 ∧ K ≠ 0 ∧ k = K))) ∨
  (∃ v, e = .returned (.tuple #[.agg #[v, .int .i64 s'.2], .int .i64 dl, .int .i64 0]) ∧ Ok s ∧ psE ps = 0 ∧ K = 0 ∧ ndsN.lies w.heap.size w' [v] s'.1)) ∧ Below w.heap.size w w'
theorem Write_any (n0 : Nat) (a : Option Addr) (c : Nat) (s : St) (p : ByteArray) (hp : p.size ≤ maxLen) (off : Int) (ho : I64 off) (da : Option Addr) (dc : Nat) (d : List Int) (n1 : Nat) (w : World) (hv : Arg n1 w (.slice da d.length dc) d) (hA : ndsN.lies n0 w [.slice a s.1.length c] s.1) (hg : Glob w) :
   Calls Tryz.prog 12 #[.agg #[.slice a s.1.length c, .int .i64 s.2], .string p, .int .i64 off, .slice da d.length dc] w (Wrote s [p] (rwE s (sval p) (F.wrE (fi (tgt s (sval p))) off d)) (filN s (tgt s (sval p)) (F.wrF (fi (tgt s (sval p))) off d)) d.length w) := by
 obtain ⟨W1, hW1⟩ := exa (w.alloc (.cells #[.slice a s.1.length c, .int .i64 s.2] 29))
 obtain ⟨V1, hV1⟩ := exa (W1.alloc (.cells #[.int .i64 off] 3))
 obtain ⟨V2, hV2⟩ := exa (V1.alloc (.cells #[.slice da d.length dc] 25))
 obtain ⟨W2, hW2⟩ := exa (V2.alloc (.cells #[.slice none 0 0, .int .i64 0] 29))
 obtain ⟨W3, hW3⟩ := exa (W2.alloc (.cells #[.string p] 9))
 have hb1 : Below w.heap.size w W1 := by rw [hW1]; exact (Below.refl _ w).alloc (Nat.le_refl _) _
 have hbv : Below w.heap.size w V1 := by rw [hV1]; exact hb1.alloc hb1.size _
 have hbv2 : Below w.heap.size w V2 := by rw [hV2]; exact hbv.alloc hbv.size _
 have hb2 : Below w.heap.size w W2 := by rw [hW2]; exact hbv2.alloc hbv2.size _
 have hb3 : Below w.heap.size w W3 := by rw [hW3]; exact hb2.alloc hb2.size _
 have hs1 : W1.heap.size = w.heap.size + 1 := by rw [hW1]; exact Array.size_push _
 have hsv : V1.heap.size = w.heap.size + 1 + 1 := by rw [hV1, ← hs1]; exact Array.size_push _
 have hsv2 : V2.heap.size = w.heap.size + 1 + 1 + 1 := by rw [hV2, ← hsv]; exact Array.size_push _
 have hs2 : W2.heap.size = w.heap.size + 1 + 1 + 1 + 1 := by rw [hW2, ← hsv2]; exact Array.size_push _
 have hs3 : W3.heap.size = w.heap.size + 1 + 1 + 1 + 1 + 1 := by rw [hW3, ← hs2]; exact Array.size_push _
 have hBS : Box W2 w.heap.size 29 #[.slice a s.1.length c, .int .i64 s.2] := by
   have : Box W1 w.heap.size 29 #[.slice a s.1.length c, .int .i64 s.2] := by rw [hW1]; exact Box.new _ _ _
   rw [hW2, hV2, hV1]; exact ((this.alloc _).alloc _).alloc _
 have hBQ : Box W3 (w.heap.size + 1) 3 #[.int .i64 off] := by rw [hW3, hW2, hV2, hV1, ← hs1]; exact (((Box.new _ _ _).alloc _).alloc _).alloc _
 have hBD : Box W3 (w.heap.size + 1 + 1) 25 #[.slice da d.length dc] := by rw [hW3, hW2, hV2, ← hsv]; exact ((Box.new _ _ _).alloc _).alloc _
 have hBR : Box W3 (w.heap.size + 1 + 1 + 1) 29 #[.slice none 0 0, .int .i64 0] := by rw [hW3, hW2, ← hsv2]; exact (Box.new _ _ _).alloc _
 have hBT : Box W3 W2.heap.size 9 #[.string p] := by rw [hW3]; exact Box.new _ _ _
 have hX : ArgT w.heap.size W3 (.slice (some ⟨W2.heap.size, 0, none⟩) 1 1) [p] := argT_box (ps := [p]) hBT hb2.size (by simp [maxLen]) fun q hq => by rw [List.mem_singleton.1 hq]; exact hp
 have HC := change2_any 49 Tryz.call49 (.pointer (some ⟨w.heap.size + 1, 0, none⟩)) (.pointer (some ⟨w.heap.size + 1 + 1, 0, none⟩)) n0 w.heap.size a c s (some ⟨W2.heap.size, 0, none⟩) 1 [p] (by simp) W3 (ndsN.below hA hb3) hX (hg.below hb3 hg.lt) (rwE s (sval p) (F.wrE (fi (tgt s (sval p))) off d)) (filN s (tgt s (sval p)) (F.wrF (fi (tgt s (sval p))) off d))
   (fun hok _ V v2 B S hbV hB hBS hL hM => writeDo_any (w.heap.size + 1) (w.heap.size + 1 + 1) off da d.length dc d B S s hok p v2 V hM hBS hL n1 ho (fun U hU => hv.below (below_any hb3 (hbV.trans (hU.mono hB)))) (fun U hU => ⟨(hBQ.below hbV hBQ.lt).kept (hU.block _ (by have := hs3; omega)), (hBD.below hbV hBD.lt).kept (hU.block _ (by have := hs3; omega))⟩))
 rw [hs2] at HC
 generalize rwE s (sval p) (F.wrE (fi (tgt s (sval p))) off d) = K at HC ⊢
 generalize filN s (tgt s (sval p)) (F.wrF (fi (tgt s (sval p))) off d) = s' at HC ⊢
 obtain ⟨post, hpost⟩ : ∃ post : Ending → World → Prop, post = Wrote s [p] K s' d.length w := ⟨_, rfl⟩
 have HPo : Hid ((∀ k w', ((¬ Ok s ∧ k = 9) ∨ (Ok s ∧ psE [p] ≠ 0 ∧ k = psE [p]) ∨ (Ok s ∧ psE [p] = 0 ∧ K ≠ 0 ∧ k = K)) → Below w.heap.size w w' → post (.returned (.tuple #[.agg #[.slice none 0 0, .int .i64 0], .int .i64 0, .int .i64 k])) w') ∧ (∀ v w', Ok s → psE [p] = 0 → K = 0 → ndsN.lies w.heap.size w' [v] s'.1 → Below w.heap.size w w' → post (.returned (.tuple #[.agg #[v, .int .i64 s'.2], .int .i64 d.length, .int .i64 0])) w')) :=
   ⟨fun k w' h1 h2 => by rw [hpost]; exact ⟨.inl ⟨k, rfl, h1⟩, h2⟩, fun v w' h1 h2 h3 h4 h5 => by rw [hpost]; exact ⟨.inr ⟨v, rfl, h1, h2, h3, h4⟩, h5⟩⟩
 rw [← hpost]
 have HB : Hid (Box W3 (w.heap.size + 1 + 1 + 1) 29 #[.slice none 0 0, .int .i64 0] ∧ Box W3 (w.heap.size + 1 + 1) 25 #[.slice da d.length dc] ∧ Below w.heap.size w W3 ∧ W3.heap.size = w.heap.size + 1 + 1 + 1 + 1 + 1) := ⟨hBR, hBD, hb3, hs3⟩
 obtain ⟨g0, g1, -, -⟩ := hBS.two
 rw [hW2, hV2, hV1, hW1] at g0 g1
 obtain ⟨n, hn⟩ := exa (s.1.length)
 obtain ⟨nx, hnx⟩ := exa (s.2)
 obtain ⟨dl, hdl⟩ := exa (d.length)
 have hlen := run_len Tryz.underlying25 da dl dc
 rw [← hdl] at hV2 g0 g1 HPo HB ⊢
 rw [← hn] at HC hW1 g0 g1 ⊢
 rw [← hnx] at HC hW1 g0 g1 ⊢
 clear hA hg hp hb1 hbv hbv2 hb2 hb3 hBR hBS hBT hBQ hBD hX hn hnx hpost hs1 hsv hsv2 hs2 hs3 ho hdl hv
 go_enter Tryz.func12, Tryz.ntmps12
 go_wp2_with fail
 rw [← hW1, ← hV1, ← hV2, ← hW2, ← hW3]
 clear hW1 hV1 hV2 hW2 hW3 g0 g1
 refine HC.mono ?_
 rintro e4 w4 ⟨⟨k, rfl, hk⟩ | ⟨v, rfl, h1, h2, h3, h4⟩, hb4⟩
 · have hk0 : k ≠ 0 := by
     rcases hk with ⟨_, h⟩ | ⟨_, h, h'⟩ | ⟨_, _, h, h'⟩
     · omega
     · rw [h']; exact h
     · rw [h']; exact h
   have HK : Hid ((¬ Ok s ∧ k = 9) ∨ (Ok s ∧ psE [p] ≠ 0 ∧ k = psE [p]) ∨ (Ok s ∧ psE [p] = 0 ∧ K ≠ 0 ∧ k = K)) := hk
   obtain ⟨W5, hW5⟩ := exa (w4.alloc (.cells #[.slice none 0 0, .int .i64 0] 29))
   have hb5 : Below W3.heap.size W3 W5 := by rw [hW5]; exact hb4.alloc hb4.size _
   have H5 : Hid (Below w.heap.size w W5) := below_any HB.out.2.2.1 hb5
   obtain ⟨d0, d1, e0, e1⟩ := (HB.out.1.below hb5 HB.out.1.lt).two
   rw [hW5] at d0 d1 e0 e1
   clear hk hb4 hb5 HC
   go_wp2
   refine bodyPost_ret (v := .tuple #[.agg #[.slice none 0 0, .int .i64 0], .int .i64 0, .int .i64 k]) (by simp [results, Tryz.results12, go_sem, *]) rfl (HPo.out.1 k _ HK.out ?_)
   rw [← hW5]
   exact below_set2 H5.out (by omega) _ _
 · obtain ⟨a3, c3, hve, -, -⟩ := Shape.list_len (S := ndN) (ht := Tryz.underlying27) (hc := cells27) h4
   obtain rfl : v = _ := by simpa using hve
   obtain ⟨W5, hW5⟩ := exa (w4.alloc (.cells #[.slice a3 s'.1.length c3, .int .i64 s'.2] 29))
   have hb5 : Below W3.heap.size W3 W5 := by rw [hW5]; exact hb4.alloc hb4.size _
   have hBN : Box W5 w4.heap.size 29 #[.slice a3 s'.1.length c3, .int .i64 s'.2] := by rw [hW5]; exact Box.new _ _ _
   have H5 : Hid (Below w.heap.size w W5 ∧ ndsN.lies W3.heap.size W5 [.slice a3 s'.1.length c3] s'.1 ∧ Ok s ∧ psE [p] = 0 ∧ K = 0) := ⟨below_any HB.out.2.2.1 hb5, by rw [hW5]; exact ndsN.keep h4 (.alloc _ _ _), h1, h2, h3⟩
   obtain ⟨d0, d1, e0, e1⟩ := (HB.out.1.below hb5 HB.out.1.lt).two
   have q0 := (HB.out.2.1.below hb5 HB.out.2.1.lt).cell 0 rfl
   obtain ⟨x0, x1, -, -⟩ := hBN.two
   obtain ⟨n', hn'⟩ := exa (s'.1.length)
   obtain ⟨nx', hnx'⟩ := exa (s'.2)
   rw [← hn'] at x0 hW5 H5 ⊢
   rw [← hnx'] at x1 hW5 HPo ⊢
   rw [← hn', ← hnx'] at hBN
   have hne : w4.heap.size ≠ w.heap.size + 1 + 1 + 1 := by have := hb4.size; have := HB.out.2.2.2; omega
   have hBN2 := (hBN.other (i := 0) (x := .slice a3 n' c3) hne).other (i := 1) (x := .int .i64 nx') hne
   obtain ⟨z0, z1, -, -⟩ := hBN2.two
   have z2 := (((HB.out.2.1.below hb5 HB.out.2.1.lt).other (B' := w.heap.size + 1 + 1 + 1) (i := 0) (x := .slice a3 n' c3) (by omega)).other (B' := w.heap.size + 1 + 1 + 1) (i := 1) (x := .int .i64 nx') (by omega)).cell 0 rfl
   have HZ : Hid (W3.heap.size = w.heap.size + 1 + 1 + 1 + 1 + 1) := HB.out.2.2.2
   clear hve h1 h2 h3 h4 hb4 hb5 HC hBN hBN2 hn' hnx' hne
   go_wp2
   rw [← hW5]
   clear hW5
   go_region_held3 (fun U => U.cell? ⟨w4.heap.size, 0, none⟩ = some (.slice a3 n' c3) ∧ U.cell? ⟨w4.heap.size, 1, none⟩ = some (.int .i64 nx') ∧ U.cell? ⟨w.heap.size + 1 + 1, 0, none⟩ = some (.slice da dl dc)) (first | exact ⟨x0, x1, q0⟩ | exact ⟨z0, z1, z2⟩ | go_keep) (fail)
   go_wp2
   refine bodyPost_ret (v := .tuple #[.agg #[.slice a3 n' c3, .int .i64 nx'], .int .i64 dl, .int .i64 0]) (by simp [results, Tryz.results12, go_sem, *]) rfl (HPo.out.2 _ _ H5.out.2.2.1 H5.out.2.2.2.1 H5.out.2.2.2.2 ?_ ?_)
   · exact ndsN.weaken (n := W3.heap.size) (ndsN.keep H5.out.2.1 (.set2 (by have := HZ.out; omega))) (by have := HZ.out; omega)
   · exact below_set2 (B := w.heap.size + 1 + 1 + 1) (W := W5.drew) H5.out.1.drew (by omega) _ _
end Go.Proofs.YtopcefhncildnaaGreatDoor
namespace Go.Proofs.YtopcefhncildnaaGreatDoor
open D (En nameOk inoOk Good Chk there fnd ins del aerr)
open F (Fl chk)
open P (serr sval)
theorem aerr_zero {l : List En} {e : En} (h : aerr l e = 0) : Chk l ∧ nameOk e.1 = true ∧ inoOk e.2 = true ∧ there l e.1 = false ∧ l.length < 63 := by
 unfold aerr at h
 split at h
 case isFalse => omega
 rename_i hck
 split at h
 case isFalse => omega
 rename_i a1
 split at h
 case isFalse => omega
 rename_i a2
 split at h
 case isTrue => omega
 rename_i a3
 split at h
 case isTrue => omega
 rename_i a4
 exact ⟨hck, a1, a2, by simpa using a3, by have := hck.1; omega⟩
theorem ahd_len {xs : List ByteArray} (h : xs ≠ []) : (ahd xs).length + 1 = xs.length := by
 have := List.length_pos_iff.2 h
 simp [ahd]; omega
theorem hold_wlk {s : St} (hK : Wk s) {xs : List ByteArray} (h : (wlk s.1 1 (ahd xs)).2 = 0) : hold s xs ∈ s.1 ∧ Wlk s.1 1 (ahd xs) (hold s xs).1 := ⟨(hK.lead h).1, (hK.lead h).2.2⟩
theorem mk_zero {s : St} (h : Ok s) {xs : List ByteArray} (he : mkE s xs = 0) : vacE s.1 xs = 0 ∧ s.1.length < 128 ∧ s.2 < 2147483647 ∧ aerr (en (hold s xs)) (lst xs, s.2) = 0 := by
 unfold mkE at he
 split at he
 · rename_i c; exact absurd he c
 rename_i c
 split at he
 · omega
 rename_i d
 have h1 := h.wk.len
 have h2 := h.wk.nx
 exact ⟨by omega, by omega, by omega, he⟩
theorem mk_ok {s : St} (h : Ok s) {xs : List ByteArray} (hl : xs.length ≤ 8) (he : mkE s xs = 0) (b : Bool) : Ok (mkN s (hold s xs) (lst xs) b) := by
 obtain ⟨h1, h2, h3, h4⟩ := mk_zero h he
 obtain ⟨v1, v2, v3, v4, v5, v6⟩ := vac_zero h.wk h1
 obtain ⟨a1, a2, a3, a4, a5⟩ := aerr_zero h4
 have hw := wlk_way h.wk.up (hold_wlk h.wk v2).2
 have := ahd_len v1
 exact ok_make h v3 v5 a2 a4 a5 h2 h3 hw (by omega) b F.chk_nil ⟨by simp, D.fine_nil⟩
theorem fil_ok {s : St} (h : Ok s) {xs : List ByteArray} (he : filE s.1 xs = 0) : xs ≠ [] ∧ (wlk s.1 1 xs).2 = 0 ∧ en (tgt s xs) = [] ∧ isD (tgt s xs) = false ∧ chk (fi (tgt s xs)) = true ∧ tgt s xs ∈ s.1 := by
 obtain ⟨h1, h2⟩ := fil_zero he
 have h3 := h.wk.files _ (h.wk.lead h1).1 h2
 exact ⟨h.wk.file_ne h2, h1, h3.1, h2, h3.2, (h.wk.lead h1).1⟩
theorem chk_bounds {f : Fl} (h : chk f = true) : 0 ≤ f.1 ∧ f.1 ≤ 2432 := (F.chk_iff.1 h).1
theorem wr_zero {f : Fl} {off : Int} {d : List Int} (h : F.wrE f off d = 0) : chk f = true ∧ 0 ≤ off ∧ (d.length = 0 ∨ off + d.length ≤ 2432) ∧ F.wrF f off d = F.mk (F.wrT (F.txt f) off.toNat d) ∧ (F.wrT (F.txt f) off.toNat d).length ≤ 2432 := by
 have h0 := h
 unfold F.wrE at h
 split at h
 · omega
 rename_i c
 have c' : chk f = true := by simpa using c
 have hb := chk_bounds c'
 split at h
 · omega
 rename_i d1
 refine ⟨c', by omega, ?_, ?_, ?_⟩
 · split at h
   · rename_i e; exact .inl e
   · split at h
     · omega
     · rename_i e; exact .inr (by omega)
 · unfold F.wrF; rw [if_pos h0]
 · split at h
   · rename_i e
     rw [F.wrT_none _ e, F.txt_length]; omega
   · rename_i e
     split at h
     · omega
     · rw [F.wrT_length e, F.txt_length]; omega
theorem wrF_chk {f : Fl} {off : Int} {d : List Int} (h : F.wrE f off d = 0) : chk (F.wrF f off d) = true := by
 obtain ⟨_, _, _, h4, h5⟩ := wr_zero h
 rw [h4]; exact F.chk_mk h5
theorem rw_zero {s : St} {xs : List ByteArray} {k : Int} (h : rwE s xs k = 0) : filE s.1 xs = 0 ∧ k = 0 := by
 unfold rwE at h
 split at h
 · rename_i c; exact absurd h c
 · rename_i c; exact ⟨by omega, h⟩
theorem write_ok {s : St} (h : Ok s) {xs : List ByteArray} {off : Int} {d : List Int} (he : rwE s xs (F.wrE (fi (tgt s xs)) off d) = 0) : Ok (filN s (tgt s xs) (F.wrF (fi (tgt s xs)) off d)) := by
 obtain ⟨h1, h2⟩ := rw_zero he
 obtain ⟨_, _, _, f4, _, f6⟩ := fil_ok h h1
 exact ok_file h f6 f4 (wrF_chk h2)
end Go.Proofs.YtopcefhncildnaaGreatDoor
namespace Go.Proofs.YtopcefhncildnaaGreatDoor
open Go.RowKit
open P (ArgT OwnT tv serr sval)
theorem look1_any (G : Nat) (hG : ∀ args w, (callFunc G args).run Tryz.prog w = .ok (.enter G args) w) (c1 : Value) (n0 n1 : Nat) (a : Option Addr) (c : Nat) (s : St) (av : Option Addr) (cv : Nat) (ps : List ByteArray) (hps : ps.length ≤ 2) (w : World) (hA : ndsN.lies n0 w [.slice a s.1.length c] s.1) (hX : ArgT n1 w (.slice av ps.length cv) ps) (hg : Glob w) (R : Option Nat) (k : Int) (Post : World → Prop) (hst : ∀ V V', Post V → Below V.heap.size V V' → Post V')
   (hR : ∀ r, R = some r → 0 < r)
   (hdo : Ok s → psE ps = 0 → ∀ V v2 B, Below w.heap.size w V → Box V B 29 #[.slice a s.1.length c, .int .i64 s.2] → w.heap.size ≤ B → OwnL w.heap.size V v2 ps → Calls Tryz.prog G #[.pointer (some ⟨B, 0, none⟩), v2, c1] V fun e w' => (∃ E, e = .returned E ∧ EV k E) ∧ V.grownBy w' R ∧ Post w') :
   Calls Tryz.prog 86 #[.agg #[.slice a s.1.length c, .int .i64 s.2], .func (.func G) #[] #[c1], .slice av ps.length cv] w fun e w' => ∃ r, e = .returned (.int .i64 r) ∧ ((¬ Ok s ∧ r = 9 ∧ Below w.heap.size w w') ∨ (Ok s ∧ psE ps ≠ 0 ∧ r = psE ps ∧ Below w.heap.size w w') ∨ (Ok s ∧ psE ps = 0 ∧ r = k ∧ w.grownBy w' R ∧ Post w')) := by
 obtain ⟨l, nx⟩ := s
 simp only at hA hdo ⊢
 obtain ⟨W, hW⟩ := exa (w.alloc (.cells #[.slice a l.length c, .int .i64 nx] 29))
 have hbW : Below w.heap.size w W := by rw [hW]; exact (Below.refl _ w).alloc (Nat.le_refl _) _
 have HW : Hid (Below w.heap.size w W ∧ Box W w.heap.size 29 #[.slice a l.length c, .int .i64 nx]) := ⟨hbW, by rw [hW]; exact Box.new _ _ _⟩
 have HC := prepare_any n0 n1 a c (l, nx) av cv ps hps W (ndsN.below hA hbW) (hX.below hbW)
 simp only at HC
 have HG : Hid (Glob w) := hg
 have HDO : Hid (Ok (l, nx) → psE ps = 0 → ∀ V v2 B, Below w.heap.size w V → Box V B 29 #[.slice a l.length c, .int .i64 nx] → w.heap.size ≤ B → OwnL w.heap.size V v2 ps → Calls Tryz.prog G #[.pointer (some ⟨B, 0, none⟩), v2, c1] V fun e w' => (∃ E, e = .returned E ∧ EV k E) ∧ V.grownBy w' R ∧ Post w') := hdo
 have HST : Hid ((∀ V V', Post V → Below V.heap.size V V' → Post V') ∧ ∀ r, R = some r → 0 < r) := ⟨hst, hR⟩
 obtain ⟨post, hpost⟩ : ∃ post : Ending → World → Prop, post = fun e w' => ∃ r, e = .returned (.int .i64 r) ∧ ((¬ Ok (l, nx) ∧ r = 9 ∧ Below w.heap.size w w') ∨ (Ok (l, nx) ∧ psE ps ≠ 0 ∧ r = psE ps ∧ Below w.heap.size w w') ∨ (Ok (l, nx) ∧ psE ps = 0 ∧ r = k ∧ w.grownBy w' R ∧ Post w')) := ⟨_, rfl⟩
 have HPo : Hid ((∀ w', ¬ Ok (l, nx) → Below w.heap.size w w' → post (.returned (.int .i64 9)) w') ∧ (∀ w', Ok (l, nx) → psE ps ≠ 0 → Below w.heap.size w w' → post (.returned (.int .i64 (psE ps))) w') ∧ (∀ w', Ok (l, nx) → psE ps = 0 → w.grownBy w' R → Post w' → post (.returned (.int .i64 k)) w')) :=
   ⟨fun w' h1 h2 => by rw [hpost]; exact ⟨9, rfl, .inl ⟨h1, rfl, h2⟩⟩, fun w' h1 h2 h3 => by rw [hpost]; exact ⟨_, rfl, .inr (.inl ⟨h1, h2, rfl, h3⟩)⟩, fun w' h1 h2 h3 h4 => by rw [hpost]; exact ⟨_, rfl, .inr (.inr ⟨h1, h2, rfl, h3, h4⟩)⟩⟩
 suffices HH : Calls Tryz.prog 86 #[.agg #[.slice a l.length c, .int .i64 nx], .func (.func G) #[] #[c1], .slice av ps.length cv] w fun e w' => post e w' by
   rw [hpost] at HH; exact HH
 obtain ⟨n, hn⟩ := exa (l.length)
 rw [← hn] at HC HW HDO hW ⊢
 obtain ⟨m, hm⟩ := exa (ps.length)
 rw [← hm] at HC ⊢
 obtain ⟨g0, g1, -, -⟩ := HW.out.2.two
 rw [hW] at g0 g1
 clear hA hbW hX hg hst hR hdo hn hm hpost hps
 go_enter Tryz.func86, Tryz.ntmps86
 go_wp2_with fail
 rw [← hW]
 clear hW g0 g1
 refine HC.mono ?_
 rintro e w1 ⟨⟨v, E, rfl, hr⟩, hb1⟩
 have HB1 : Hid (Below w.heap.size w w1 ∧ Box w1 w.heap.size 29 #[.slice a n c, .int .i64 nx]) := ⟨below_any HW.out.1 hb1, HW.out.2.below hb1 HW.out.2.lt⟩
 have HGW : Hid (Glob w1) := HG.out.below HB1.out.1 HG.out.lt
 rcases hr with ⟨ho, hE⟩ | ⟨ho, hp, hE⟩ | ⟨ho, hp, rfl, hL⟩
 · have HO : Hid (¬ Ok (l, nx)) := ho
   rcases hE with ⟨h0, _⟩ | ⟨_, a2, l2, c2, s2, rfl⟩
   · omega
   have hnn := numberOf_ref a2 l2 c2 9 s2 w1 HGW.out
   clear hb1 ho HC
   go_wp2_with fail
   refine hnn.mono ?_
   rintro e w2 ⟨rfl, hb2⟩
   go_wp2
   exact HPo.out.1 _ HO.out (below_any HB1.out.1 hb2)
 · have HO : Hid (Ok (l, nx) ∧ psE ps ≠ 0) := ⟨ho, hp⟩
   generalize psE ps = pe at HPo HO hE HDO
   rcases hE with ⟨h0, _⟩ | ⟨_, a2, l2, c2, s2, rfl⟩
   · exact absurd h0 HO.out.2
   have hnn := numberOf_ref a2 l2 c2 pe s2 w1 HGW.out
   clear hb1 ho hp HC
   go_wp2_with fail
   refine hnn.mono ?_
   rintro e w2 ⟨rfl, hb2⟩
   go_wp2
   exact HPo.out.2.1 _ HO.out.1 HO.out.2 (below_any HB1.out.1 hb2)
 · have HO : Hid (Ok (l, nx) ∧ psE ps = 0) := ⟨ho, hp⟩
   have hL1 : OwnL w.heap.size w1 v ps := by (
 obtain ⟨us, h1, h2⟩ := hL
 exact ⟨us, own_weaken h1 HW.out.1.size, h2.mono fun _ _ h => h.weaken HW.out.1.size⟩)
   have HCD := HDO.out ho hp w1 v w.heap.size HB1.out.1 HB1.out.2 (Nat.le_refl _) hL1
   clear hb1 ho hp hL hL1 HC
   go_wp2_with fail
   refine HCD.mono ?_
   rintro e w2 ⟨⟨E, rfl, hE⟩, hg2, hP2⟩
   have hgg : w.grownBy w2 R := (⟨HB1.out.1.os, HB1.out.1.tape, HB1.out.1.output, HB1.out.1.size, fun j hj _ => HB1.out.1.block j hj⟩ : w.grownBy w1 R).trans hg2
   have H2 : Hid (w.grownBy w2 R ∧ Post w2) := ⟨hgg, hP2⟩
   have HG2 : Hid (Glob w2) := by (
 have h0 := HG.out.lt
 show w2.cell? _ = _
 rw [World.cell?_of_block (a := ⟨0, 0, none⟩) (hgg.block 0 h0 (fun e => by have := HST.out.2 0 e.symm; omega))]
 exact HG.out)
   clear hg2 hP2 hgg HCD
   rcases hE with ⟨rfl, rfl⟩ | ⟨hk, a2, l2, c2, s2, rfl⟩
   · have hnn := numberOf_nil w2
     go_wp2_with fail
     refine hnn.mono ?_
     rintro e w3 ⟨rfl, hb3⟩
     go_wp2
     exact HPo.out.2.2 _ HO.out.1 HO.out.2 (H2.out.1.trans ⟨hb3.os, hb3.tape, hb3.output, hb3.size, fun j hj _ => hb3.block j hj⟩) (HST.out.1 _ _ H2.out.2 hb3)
   · have hnn := numberOf_ref a2 l2 c2 k s2 w2 HG2.out
     clear hk
     go_wp2_with fail
     refine hnn.mono ?_
     rintro e w3 ⟨rfl, hb3⟩
     go_wp2
     exact HPo.out.2.2 _ HO.out.1 HO.out.2 (H2.out.1.trans ⟨hb3.os, hb3.tape, hb3.output, hb3.size, fun j hj _ => hb3.block j hj⟩) (HST.out.1 _ _ H2.out.2 hb3)
theorem look3_any (G : Nat) (hG : ∀ args w, (callFunc G args).run Tryz.prog w = .ok (.enter G args) w) (c1 : Value) (c2 : Value) (c3 : Value) (n0 n1 : Nat) (a : Option Addr) (c : Nat) (s : St) (av : Option Addr) (cv : Nat) (ps : List ByteArray) (hps : ps.length ≤ 2) (w : World) (hA : ndsN.lies n0 w [.slice a s.1.length c] s.1) (hX : ArgT n1 w (.slice av ps.length cv) ps) (hg : Glob w) (R : Option Nat) (k : Int) (Post : World → Prop) (hst : ∀ V V', Post V → Below V.heap.size V V' → Post V')
   (hR : ∀ r, R = some r → 0 < r)
   (hdo : Ok s → psE ps = 0 → ∀ V v2 B, Below w.heap.size w V → Box V B 29 #[.slice a s.1.length c, .int .i64 s.2] → w.heap.size ≤ B → OwnL w.heap.size V v2 ps → Calls Tryz.prog G #[.pointer (some ⟨B, 0, none⟩), v2, c1, c2, c3] V fun e w' => (∃ E, e = .returned E ∧ EV k E) ∧ V.grownBy w' R ∧ Post w') :
   Calls Tryz.prog 86 #[.agg #[.slice a s.1.length c, .int .i64 s.2], .func (.func G) #[] #[c1, c2, c3], .slice av ps.length cv] w fun e w' => ∃ r, e = .returned (.int .i64 r) ∧ ((¬ Ok s ∧ r = 9 ∧ Below w.heap.size w w') ∨ (Ok s ∧ psE ps ≠ 0 ∧ r = psE ps ∧ Below w.heap.size w w') ∨ (Ok s ∧ psE ps = 0 ∧ r = k ∧ w.grownBy w' R ∧ Post w')) := by
 obtain ⟨l, nx⟩ := s
 simp only at hA hdo ⊢
 obtain ⟨W, hW⟩ := exa (w.alloc (.cells #[.slice a l.length c, .int .i64 nx] 29))
 have hbW : Below w.heap.size w W := by rw [hW]; exact (Below.refl _ w).alloc (Nat.le_refl _) _
 have HW : Hid (Below w.heap.size w W ∧ Box W w.heap.size 29 #[.slice a l.length c, .int .i64 nx]) := ⟨hbW, by rw [hW]; exact Box.new _ _ _⟩
 have HC := prepare_any n0 n1 a c (l, nx) av cv ps hps W (ndsN.below hA hbW) (hX.below hbW)
 simp only at HC
 have HG : Hid (Glob w) := hg
 have HDO : Hid (Ok (l, nx) → psE ps = 0 → ∀ V v2 B, Below w.heap.size w V → Box V B 29 #[.slice a l.length c, .int .i64 nx] → w.heap.size ≤ B → OwnL w.heap.size V v2 ps → Calls Tryz.prog G #[.pointer (some ⟨B, 0, none⟩), v2, c1, c2, c3] V fun e w' => (∃ E, e = .returned E ∧ EV k E) ∧ V.grownBy w' R ∧ Post w') := hdo
 have HST : Hid ((∀ V V', Post V → Below V.heap.size V V' → Post V') ∧ ∀ r, R = some r → 0 < r) := ⟨hst, hR⟩
 obtain ⟨post, hpost⟩ : ∃ post : Ending → World → Prop, post = fun e w' => ∃ r, e = .returned (.int .i64 r) ∧ ((¬ Ok (l, nx) ∧ r = 9 ∧ Below w.heap.size w w') ∨ (Ok (l, nx) ∧ psE ps ≠ 0 ∧ r = psE ps ∧ Below w.heap.size w w') ∨ (Ok (l, nx) ∧ psE ps = 0 ∧ r = k ∧ w.grownBy w' R ∧ Post w')) := ⟨_, rfl⟩
 have HPo : Hid ((∀ w', ¬ Ok (l, nx) → Below w.heap.size w w' → post (.returned (.int .i64 9)) w') ∧ (∀ w', Ok (l, nx) → psE ps ≠ 0 → Below w.heap.size w w' → post (.returned (.int .i64 (psE ps))) w') ∧ (∀ w', Ok (l, nx) → psE ps = 0 → w.grownBy w' R → Post w' → post (.returned (.int .i64 k)) w')) :=
   ⟨fun w' h1 h2 => by rw [hpost]; exact ⟨9, rfl, .inl ⟨h1, rfl, h2⟩⟩, fun w' h1 h2 h3 => by rw [hpost]; exact ⟨_, rfl, .inr (.inl ⟨h1, h2, rfl, h3⟩)⟩, fun w' h1 h2 h3 h4 => by rw [hpost]; exact ⟨_, rfl, .inr (.inr ⟨h1, h2, rfl, h3, h4⟩)⟩⟩
 suffices HH : Calls Tryz.prog 86 #[.agg #[.slice a l.length c, .int .i64 nx], .func (.func G) #[] #[c1, c2, c3], .slice av ps.length cv] w fun e w' => post e w' by
   rw [hpost] at HH; exact HH
 obtain ⟨n, hn⟩ := exa (l.length)
 rw [← hn] at HC HW HDO hW ⊢
 obtain ⟨m, hm⟩ := exa (ps.length)
 rw [← hm] at HC ⊢
 obtain ⟨g0, g1, -, -⟩ := HW.out.2.two
 rw [hW] at g0 g1
 clear hA hbW hX hg hst hR hdo hn hm hpost hps
 go_enter Tryz.func86, Tryz.ntmps86
 go_wp2_with fail
 rw [← hW]
 clear hW g0 g1
 refine HC.mono ?_
 rintro e w1 ⟨⟨v, E, rfl, hr⟩, hb1⟩
 have HB1 : Hid (Below w.heap.size w w1 ∧ Box w1 w.heap.size 29 #[.slice a n c, .int .i64 nx]) := ⟨below_any HW.out.1 hb1, HW.out.2.below hb1 HW.out.2.lt⟩
 have HGW : Hid (Glob w1) := HG.out.below HB1.out.1 HG.out.lt
 rcases hr with ⟨ho, hE⟩ | ⟨ho, hp, hE⟩ | ⟨ho, hp, rfl, hL⟩
 · have HO : Hid (¬ Ok (l, nx)) := ho
   rcases hE with ⟨h0, _⟩ | ⟨_, a2, l2, c2, s2, rfl⟩
   · omega
   have hnn := numberOf_ref a2 l2 c2 9 s2 w1 HGW.out
   clear hb1 ho HC
   go_wp2_with fail
   refine hnn.mono ?_
   rintro e w2 ⟨rfl, hb2⟩
   go_wp2
   exact HPo.out.1 _ HO.out (below_any HB1.out.1 hb2)
 · have HO : Hid (Ok (l, nx) ∧ psE ps ≠ 0) := ⟨ho, hp⟩
   generalize psE ps = pe at HPo HO hE HDO
   rcases hE with ⟨h0, _⟩ | ⟨_, a2, l2, c2, s2, rfl⟩
   · exact absurd h0 HO.out.2
   have hnn := numberOf_ref a2 l2 c2 pe s2 w1 HGW.out
   clear hb1 ho hp HC
   go_wp2_with fail
   refine hnn.mono ?_
   rintro e w2 ⟨rfl, hb2⟩
   go_wp2
   exact HPo.out.2.1 _ HO.out.1 HO.out.2 (below_any HB1.out.1 hb2)
 · have HO : Hid (Ok (l, nx) ∧ psE ps = 0) := ⟨ho, hp⟩
   have hL1 : OwnL w.heap.size w1 v ps := by (
 obtain ⟨us, h1, h2⟩ := hL
 exact ⟨us, own_weaken h1 HW.out.1.size, h2.mono fun _ _ h => h.weaken HW.out.1.size⟩)
   have HCD := HDO.out ho hp w1 v w.heap.size HB1.out.1 HB1.out.2 (Nat.le_refl _) hL1
   clear hb1 ho hp hL hL1 HC
   go_wp2_with fail
   refine HCD.mono ?_
   rintro e w2 ⟨⟨E, rfl, hE⟩, hg2, hP2⟩
   have hgg : w.grownBy w2 R := (⟨HB1.out.1.os, HB1.out.1.tape, HB1.out.1.output, HB1.out.1.size, fun j hj _ => HB1.out.1.block j hj⟩ : w.grownBy w1 R).trans hg2
   have H2 : Hid (w.grownBy w2 R ∧ Post w2) := ⟨hgg, hP2⟩
   have HG2 : Hid (Glob w2) := by (
 have h0 := HG.out.lt
 show w2.cell? _ = _
 rw [World.cell?_of_block (a := ⟨0, 0, none⟩) (hgg.block 0 h0 (fun e => by have := HST.out.2 0 e.symm; omega))]
 exact HG.out)
   clear hg2 hP2 hgg HCD
   rcases hE with ⟨rfl, rfl⟩ | ⟨hk, a2, l2, c2, s2, rfl⟩
   · have hnn := numberOf_nil w2
     go_wp2_with fail
     refine hnn.mono ?_
     rintro e w3 ⟨rfl, hb3⟩
     go_wp2
     exact HPo.out.2.2 _ HO.out.1 HO.out.2 (H2.out.1.trans ⟨hb3.os, hb3.tape, hb3.output, hb3.size, fun j hj _ => hb3.block j hj⟩) (HST.out.1 _ _ H2.out.2 hb3)
   · have hnn := numberOf_ref a2 l2 c2 k s2 w2 HG2.out
     clear hk
     go_wp2_with fail
     refine hnn.mono ?_
     rintro e w3 ⟨rfl, hb3⟩
     go_wp2
     exact HPo.out.2.2 _ HO.out.1 HO.out.2 (H2.out.1.trans ⟨hb3.os, hb3.tape, hb3.output, hb3.size, fun j hj _ => hb3.block j hj⟩) (HST.out.1 _ _ H2.out.2 hb3)
end Go.Proofs.YtopcefhncildnaaGreatDoor
namespace Go.Proofs.YtopcefhncildnaaGreatDoor
open Go.RowKit
open F (Fl flN bksN rdE rdO)
open P (ArgT OwnT tv serr sval)
def frE (s : St) (xs : List ByteArray) (off n : Int) : Int := if filE s.1 xs ≠ 0 then filE s.1 xs else rdE (fi (tgt s xs)) off n
def frO (s : St) (xs : List ByteArray) (off n : Int) : List Int := if filE s.1 xs ≠ 0 then [] else rdO (fi (tgt s xs)) off n
def HoldsO (base : Nat) (O : List Int) (Q : Nat) (w : World) : Prop := ∃ a c, Box w Q 25 #[.slice a O.length c] ∧ Arg base w (.slice a O.length c) O
theorem HoldsO.below {base : Nat} {O : List Int} {Q : Nat} {w w' : World} (h : HoldsO base O Q w) (hb : Below w.heap.size w w') : HoldsO base O Q w' := by
 obtain ⟨a, c, h1, h2⟩ := h
 exact ⟨a, c, h1.below hb h1.lt, h2.below hb⟩
theorem HoldsO.nil {base : Nat} {w : World} {Q : Nat} (h : Box w Q 25 #[.slice none 0 0]) : HoldsO base [] Q w := ⟨none, 0, h, .mk ⟨rfl, .inl ⟨rfl, rfl⟩⟩ (fun _ h => by cases h)⟩
theorem OwnL.at2 {base : Nat} {w : World} {v : Value} {ps : List ByteArray} (h : OwnL base w v ps) (i : Nat) (p : ByteArray) (hp : ps[i]? = some p) :
   ∃ b o a c, (∀ W, (Instr.indexAt 106 v (.int .i64 i)).run Tryz.prog W = .ok (.pointer (some ⟨b, o, none⟩)) W) ∧ w.cell? ⟨b, o, none⟩ = some (.slice a (sval p).length c) ∧ ArgT base w (.slice a (sval p).length c) (sval p) ∧ base ≤ b := by
 obtain ⟨us, h1, h2⟩ := h
 obtain ⟨u, hu, hT⟩ := h2.get hp
 obtain ⟨a, c, rfl⟩ := hT.shape
 obtain ⟨i0, hi0, _, hz, _⟩ := info_parts Tryz.info57
 have hC : Cells base w 1 v ps.length us := .own h1
 obtain ⟨b, o, hix, hb, hc⟩ := hC.index (by omega) Tryz.underlying106 hi0 hz i (List.getElem?_eq_some_iff.1 hp).1
 exact ⟨b, o, a, c, hix, hc 0 _ (by simpa using hu), hT.arg, hb⟩
theorem read_split {fe wi : Int} {l : List Nd} {v : Value} {e : Ending} (h : (fe ≠ 0 ∧ (∃ E, e = .returned (.tuple #[.pointer none, E]) ∧ EV fe E)) ∨ (fe = 0 ∧ ∃ k p b o, l[k]? = some p ∧ p.1 = wi ∧ (∀ W, (Instr.indexAt 27 v (.int .i64 (k : Nat))).run Tryz.prog W = .ok (.pointer (some ⟨b, o, none⟩)) W) ∧ e = .returned (.tuple #[.pointer (some ⟨b, o, none⟩), .nilIface]))) :
   ∃ R1 R2, e = .returned (.tuple #[R1, R2]) ∧ ((fe ≠ 0 ∧ R1 = .pointer none ∧ EV fe R2) ∨ (fe = 0 ∧ R2 = .nilIface ∧ ∃ k q b o, l[k]? = some q ∧ q.1 = wi ∧ (∀ W, (Instr.indexAt 27 v (.int .i64 (k : Nat))).run Tryz.prog W = .ok (.pointer (some ⟨b, o, none⟩)) W) ∧ R1 = .pointer (some ⟨b, o, none⟩))) := by
 rcases h with ⟨h0, E, rfl, h⟩ | ⟨h0, k, p, b, o, h1, h2, h3, rfl⟩
 · exact ⟨_, _, rfl, .inl ⟨h0, rfl, h⟩⟩
 · exact ⟨_, _, rfl, .inr ⟨h0, rfl, k, p, b, o, h1, h2, h3, rfl⟩⟩
theorem readDo_any (n0 : Nat) (a : Option Addr) (c : Nat) (s : St) (hK : Wk s) (p : ByteArray) (off nn : Int) (ho : I64 off) (hn : I64 nn) (B Q1 Q2 Q : Nat) (v2 : Value) (w0 V : World) (hA : ndsN.lies n0 w0 [.slice a s.1.length c] s.1) (hb : Below w0.heap.size w0 V) (hB : Box V B 29 #[.slice a s.1.length c, .int .i64 s.2]) (hL : OwnL w0.heap.size V v2 [p]) (hQ1 : Box V Q1 3 #[.int .i64 off]) (hQ2 : Box V Q2 3 #[.int .i64 nn]) (hQ : Box V Q 25 #[.slice none 0 0]) (hQw : Q < w0.heap.size) :
   Calls Tryz.prog 87 #[.pointer (some ⟨B, 0, none⟩), v2, .pointer (some ⟨Q1, 0, none⟩), .pointer (some ⟨Q2, 0, none⟩), .pointer (some ⟨Q, 0, none⟩)] V fun e w' => (∃ E, e = .returned E ∧ EV (frE s (sval p) off nn) E) ∧ V.grownBy w' (some Q) ∧ HoldsO w0.heap.size (frO s (sval p) off nn) Q w' := by
 obtain ⟨pb, po, pa, pc, hix, hpc, hT, hpb⟩ := hL.at2 0 p rfl
 have HPB : Hid (w0.heap.size ≤ pb) := hpb
 have hix : ∀ W, (Instr.indexAt 106 v2 (.int .i64 0)).run Tryz.prog W = .ok (.pointer (some ⟨pb, po, none⟩)) W := hix
 have HC := findFile_any n0 _ a c s hK pa pc (sval p) V.drew (ndsN.below hA (below_any hb (Below.refl _ V).drew)) (hT.below (Below.refl _ V).drew)
 obtain ⟨g0, g1, -, -⟩ := hB.two
 have HQ : Hid (Box V Q 25 #[.slice none 0 0] ∧ Box V Q1 3 #[.int .i64 off] ∧ Box V Q2 3 #[.int .i64 nn] ∧ Q < w0.heap.size ∧ w0.heap.size ≤ V.heap.size ∧ V.cell? ⟨pb, po, none⟩ = some (.slice pa (sval p).length pc)) := ⟨hQ, hQ1, hQ2, hQw, hb.size, hpc⟩
 have HNN : Hid (filE s.1 (sval p) = 0 → (wlk s.1 1 (sval p)).1 = (tgt s (sval p)).1 ∧ ∀ q ∈ s.1, q.1 = (tgt s (sval p)).1 → q = tgt s (sval p)) := fun h0 => by (
 have hl := hK.lead (fil_zero h0).1
 refine ⟨hl.2.1, fun q hq he => ?_⟩
 have h1 := gt_of hK.up hq
 have h2 := gt_of hK.up hl.1
 rw [← h1, he, h2])
 have HAV : Hid (∀ W, Below V.heap.size V W → ndsN.lies n0 W [.slice a s.1.length c] s.1) := fun W hW => ndsN.below hA (below_any hb hW)
 have HRE : Hid (frE s (sval p) off nn = (if filE s.1 (sval p) ≠ 0 then filE s.1 (sval p) else rdE (fi (tgt s (sval p))) off nn) ∧ frO s (sval p) off nn = (if filE s.1 (sval p) ≠ 0 then [] else rdO (fi (tgt s (sval p))) off nn) ∧ I64 off ∧ I64 nn) := ⟨rfl, rfl, ho, hn⟩
 generalize frE s (sval p) off nn = re at HRE ⊢
 generalize frO s (sval p) off nn = ro at HRE ⊢
 generalize tgt s (sval p) = T at HNN HRE
 generalize (wlk s.1 1 (sval p)).1 = wi at HC HNN
 generalize filE s.1 (sval p) = fe at HC HNN HRE
 obtain ⟨n, hn'⟩ := exa (s.1.length)
 obtain ⟨nx, hnx⟩ := exa (s.2)
 obtain ⟨m, hm⟩ := exa ((sval p).length)
 obtain ⟨l, hl⟩ := exa (s.1)
 rw [← hn', ← hnx, ← hm, ← hl] at HC
 rw [← hn', ← hl] at HAV
 rw [← hl] at HNN
 rw [← hm] at HQ hpc
 rw [← hn'] at g0
 rw [← hnx] at g1
 have HS0 : V.drew.cell? ⟨B, 0, none⟩ = some (.slice a n c) ∧ V.drew.cell? ⟨B, 1, none⟩ = some (.int .i64 nx) ∧ V.drew.cell? ⟨pb, po, none⟩ = some (.slice pa m pc) := ⟨g0, g1, hpc⟩
 obtain ⟨post, hpost⟩ : ∃ post : Ending → World → Prop, post = fun e w' => (∃ E, e = .returned E ∧ EV re E) ∧ V.grownBy w' (some Q) ∧ HoldsO w0.heap.size ro Q w' := ⟨_, rfl⟩
 have HPo : Hid (∀ E w', EV re E → V.grownBy w' (some Q) → HoldsO w0.heap.size ro Q w' → post (.returned E) w') := fun E w' h1 h2 h3 => by rw [hpost]; exact ⟨⟨_, rfl, h1⟩, h2, h3⟩
 rw [← hpost]
 clear hA hb hB hL hQ hQ1 hQ2 hT hpb hn' hnx hm hl hK hpost ho hn hQw
 go_enter Tryz.func87, Tryz.ntmps87
 go_wp2
 go_region_held3 (fun U => U.cell? ⟨B, 0, none⟩ = some (.slice a n c) ∧ U.cell? ⟨B, 1, none⟩ = some (.int .i64 nx) ∧ U.cell? ⟨pb, po, none⟩ = some (.slice pa m pc))
   (first | with_reducible exact HS1 | with_reducible exact HS0)
   ((first | (go_at_call 88; refine HC.mono ?_; rintro e w1 ⟨hr, hb1⟩; have HS1 : w1.cell? ⟨B, 0, none⟩ = some (.slice a n c) ∧ w1.cell? ⟨B, 1, none⟩ = some (.int .i64 nx) ∧ w1.cell? ⟨pb, po, none⟩ = some (.slice pa m pc) := ⟨by rw [hb1.cell (p := ⟨B, 0, none⟩) (cell_lt HS0.1)]; exact HS0.1, by rw [hb1.cell (p := ⟨B, 1, none⟩) (cell_lt HS0.2.1)]; exact HS0.2.1, by rw [hb1.cell (p := ⟨pb, po, none⟩) (cell_lt HS0.2.2)]; exact HS0.2.2⟩; obtain ⟨R1, R2, rfl, hr2⟩ : ∃ R1 R2, e = .returned (.tuple #[R1, R2]) ∧ ((fe ≠ 0 ∧ R1 = .pointer none ∧ EV fe R2) ∨ (fe = 0 ∧ R2 = .nilIface ∧ ∃ k q b o, l[k]? = some q ∧ q.1 = wi ∧ (∀ W, (Instr.indexAt 27 (.slice a n c) (.int .i64 (k : Nat))).run Tryz.prog W = .ok (.pointer (some ⟨b, o, none⟩)) W) ∧ R1 = .pointer (some ⟨b, o, none⟩))) := read_split hr)))
 have HBL : Hid (Below V.heap.size V w1) := below_any (Below.refl _ V).drew hb1
 have HPC : Hid (w1.cell? ⟨pb, po, none⟩ = some (.slice pa m pc)) := HS1.2.2
 clear hb1 HS0 HS1 g0 g1 HC hpc hr
 rcases hr2 with ⟨hne, rfl, hE⟩ | ⟨h0, rfl, k, q, b, o, hk, hqw, hixq, rfl⟩
 · have hre : re = fe := by rw [HRE.out.1, if_pos hne]
   have hro : ro = [] := by rw [HRE.out.2.1, if_pos hne]
   have HE : Hid (EV re R2 ∧ HoldsO w0.heap.size ro Q w1) := ⟨by rw [hre]; exact hE, by rw [hro]; exact HoldsO.nil (HQ.out.1.below HBL.out HQ.out.1.lt)⟩
   obtain ⟨a2, l2, c2, s2, rfl⟩ : ∃ a2 l2 c2 s2, R2 = refV (.slice a2 l2 c2) fe s2 := by (
 rcases hE with ⟨h, _⟩ | ⟨_, a2, l2, c2, s2, h⟩
 · exact absurd h hne
 · exact ⟨a2, l2, c2, s2, h⟩)
   clear hE hne hre hro
   go_wp2
   exact HPo.out _ _ HE.out.1 (grown_below HBL.out _) HE.out.2
 subst h0
 have hqT : q = T := (HNN.out rfl).2 q (List.mem_of_getElem? hk) (hqw.trans (HNN.out rfl).1)
 subst hqT
 obtain ⟨b', o', e', f', hix', -, hcs, hLN⟩ := nds_atN (HAV.out w1 HBL.out) k q hk
 have hbo := (hix' w1).symm.trans (hixq w1)
 simp only [Result.ok.injEq, Value.pointer.injEq, Option.some.injEq, Addr.mk.injEq, and_true] at hbo
 obtain ⟨rfl, rfl⟩ := hbo
 obtain ⟨fa, fc, hfe, -, -⟩ := Shape.list_len (S := F.bkN) (ht := Tryz.underlying43) (hc := F.cells43) hLN.2.1
 obtain rfl : f' = _ := by simpa using hfe
 obtain ⟨-, -, -, -, c4, c5⟩ := nv_cells hcs
 have HCR := F.read_any n0 _ (fi q) off nn w1.drew (flN.below hLN.file (Below.refl _ w1).drew) HRE.out.2.2.1 HRE.out.2.2.2
 have HR2 : Hid (re = rdE (fi q) off nn ∧ ro = rdO (fi q) off nn) := by (
 have h1 := HRE.out.1
 have h2 := HRE.out.2.1
 rw [if_neg (by decide)] at h1 h2
 exact ⟨h1, h2⟩)
 have q1 := (HQ.out.2.1.below HBL.out HQ.out.2.1.lt).cell 0 rfl
 have q2 := (HQ.out.2.2.1.below HBL.out HQ.out.2.2.1.lt).cell 0 rfl
 generalize (fi q).1 = z0 at c4 HCR
 generalize (fi q).2.length = l0 at c5 HCR
 generalize rdE (fi q) off nn = rke at HCR HR2
 generalize rdO (fi q) off nn = rko at HCR HR2
 have HS0 : w1.drew.cell? ⟨b', o' + 4, none⟩ = some (.int .i64 z0) ∧ w1.drew.cell? ⟨b', o' + 4 + 1, none⟩ = some (.slice fa l0 fc) ∧ w1.drew.cell? ⟨Q1, 0, none⟩ = some (.int .i64 off) ∧ w1.drew.cell? ⟨Q2, 0, none⟩ = some (.int .i64 nn) := ⟨c4, c5, q1, q2⟩
 clear hcs hLN hfe hix' hixq hqw hk c4 c5 q1 q2
 go_wp2
 go_region_held3 (fun U => U.cell? ⟨b', o' + 4, none⟩ = some (.int .i64 z0) ∧ U.cell? ⟨b', o' + 4 + 1, none⟩ = some (.slice fa l0 fc) ∧ U.cell? ⟨Q1, 0, none⟩ = some (.int .i64 off) ∧ U.cell? ⟨Q2, 0, none⟩ = some (.int .i64 nn))
   (first | with_reducible exact HS1 | with_reducible exact HS0)
   ((first | (go_at_call 89; refine HCR.mono ?_; rintro e2 w2 ⟨⟨v3, rfl, hv3⟩, hb2⟩; have HS1 : w2.cell? ⟨b', o' + 4, none⟩ = some (.int .i64 z0) ∧ w2.cell? ⟨b', o' + 4 + 1, none⟩ = some (.slice fa l0 fc) ∧ w2.cell? ⟨Q1, 0, none⟩ = some (.int .i64 off) ∧ w2.cell? ⟨Q2, 0, none⟩ = some (.int .i64 nn) := ⟨by rw [hb2.cell (cell_lt HS0.1)]; exact HS0.1, by rw [hb2.cell (cell_lt HS0.2.1)]; exact HS0.2.1, by rw [hb2.cell (cell_lt HS0.2.2.1)]; exact HS0.2.2.1, by rw [hb2.cell (cell_lt HS0.2.2.2)]; exact HS0.2.2.2⟩)))
 obtain ⟨ra, rc, rfl, -, -, -⟩ := hv3.shape
 have HB2 : Hid (Below V.heap.size V w2) := below_any HBL.out (below_any (Below.refl _ w1).drew hb2)
 have hQ2 := HQ.out.1.below HB2.out HQ.out.1.lt
 have HF : Hid (HoldsO w0.heap.size ro Q (w2.setCell ⟨Q, 0, none⟩ (.slice ra rko.length rc)) ∧ V.grownBy (w2.setCell ⟨Q, 0, none⟩ (.slice ra rko.length rc)) (some Q)) := by (
 refine ⟨?_, (grown_below HB2.out _).trans (grown_set _ _ _ _)⟩
 rw [HR2.out.2]
 refine ⟨ra, rc, hQ2.set 0 _, ?_⟩
 have h1 : Arg w1.heap.size w2 (.slice ra rko.length rc) rko := hv3
 exact (h1.keep (.set (by have := HQ.out.2.2.2; have := HBL.out.size; omega))).weaken (by have := HQ.out.2.2.2; have := HBL.out.size; omega))
 have y0 := hQ2.cell 0 rfl
 have f0 := hQ2.frozen 0
 have pc0 : (w2.setCell ⟨Q, 0, none⟩ (.slice ra rko.length rc)).cell? ⟨pb, po, none⟩ = some (.slice pa m pc) := by (
 have h1 : w2.cell? ⟨pb, po, none⟩ = some (.slice pa m pc) := by
   have h0 : w1.drew.cell? ⟨pb, po, none⟩ = some (.slice pa m pc) := HPC.out
   rw [hb2.cell (cell_lt h0)]; exact h0
 exact (Same.set (n := w0.heap.size) HQ.out.2.2.2.1).cell HPB.out h1)
 generalize rko.length = rl at HF pc0 ⊢
 clear hv3 hb2 hQ2 HS0 HS1 HCR
 by_cases hz : rke = 0
 · have hre : re = 0 := HR2.out.1.trans hz
   subst hz
   have HRZ : Hid (re = 0) := hre
   have hrf := refuse_ok (.slice pa m pc) (w2.setCell ⟨Q, 0, none⟩ (.slice ra rl rc))
   clear hre
   go_wp2_with fail
   refine hrf.mono ?_
   rintro e5 w5 ⟨rfl, rfl⟩
   go_wp2
   exact HPo.out _ _ (by rw [HRZ.out]; exact ev_nil) HF.out.2 HF.out.1
 · have HRZ : Hid (re = rke ∧ rke ≠ 0) := ⟨HR2.out.1, hz⟩
   have hrf := refuse_bad rke hz pa m pc (w2.setCell ⟨Q, 0, none⟩ (.slice ra rl rc))
   go_wp2_with fail
   refine hrf.mono ?_
   rintro e5 w5 ⟨rfl, rfl⟩
   go_wp2
   exact HPo.out _ _ (by rw [HRZ.out.1]; exact ev_ref HRZ.out.2 _ _ _ _) HF.out.2 HF.out.1
theorem Read_any (n0 : Nat) (a : Option Addr) (c : Nat) (s : St) (p : ByteArray) (hp : p.size ≤ maxLen) (off nn : Int) (ho : I64 off) (hn : I64 nn) (w : World) (hA : ndsN.lies n0 w [.slice a s.1.length c] s.1) (hg : Glob w) :
   Calls Tryz.prog 43 #[.agg #[.slice a s.1.length c, .int .i64 s.2], .string p, .int .i64 off, .int .i64 nn] w fun e w' => (∃ v O k, e = .returned (.tuple #[v, .int .i64 k]) ∧ Arg w.heap.size w' v O ∧ ((¬ Ok s ∧ O = [] ∧ k = 9) ∨ (Ok s ∧ serr p ≠ 0 ∧ O = [] ∧ k = serr p) ∨ (Ok s ∧ serr p = 0 ∧ O = frO s (sval p) off nn ∧ k = frE s (sval p) off nn))) ∧ Below w.heap.size w w' := by
 obtain ⟨W1, hW1⟩ := exa (w.alloc (.cells #[.slice a s.1.length c, .int .i64 s.2] 29))
 obtain ⟨V1, hV1⟩ := exa (W1.alloc (.cells #[.int .i64 off] 3))
 obtain ⟨V2, hV2⟩ := exa (V1.alloc (.cells #[.int .i64 nn] 3))
 obtain ⟨W2, hW2⟩ := exa (V2.alloc (.cells #[.slice none 0 0] 25))
 obtain ⟨W3, hW3⟩ := exa (W2.alloc (.cells #[.string p] 9))
 have hb1 : Below w.heap.size w W1 := by rw [hW1]; exact (Below.refl _ w).alloc (Nat.le_refl _) _
 have hbv : Below w.heap.size w V1 := by rw [hV1]; exact hb1.alloc hb1.size _
 have hbv2 : Below w.heap.size w V2 := by rw [hV2]; exact hbv.alloc hbv.size _
 have hb2 : Below w.heap.size w W2 := by rw [hW2]; exact hbv2.alloc hbv2.size _
 have hb3 : Below w.heap.size w W3 := by rw [hW3]; exact hb2.alloc hb2.size _
 have hs1 : W1.heap.size = w.heap.size + 1 := by rw [hW1]; exact Array.size_push _
 have hsv : V1.heap.size = w.heap.size + 1 + 1 := by rw [hV1, ← hs1]; exact Array.size_push _
 have hsv2 : V2.heap.size = w.heap.size + 1 + 1 + 1 := by rw [hV2, ← hsv]; exact Array.size_push _
 have hs2 : W2.heap.size = w.heap.size + 1 + 1 + 1 + 1 := by rw [hW2, ← hsv2]; exact Array.size_push _
 have hs3 : W3.heap.size = w.heap.size + 1 + 1 + 1 + 1 + 1 := by rw [hW3, ← hs2]; exact Array.size_push _
 have hBS : Box W2 w.heap.size 29 #[.slice a s.1.length c, .int .i64 s.2] := by
   have : Box W1 w.heap.size 29 #[.slice a s.1.length c, .int .i64 s.2] := by rw [hW1]; exact Box.new _ _ _
   rw [hW2, hV2, hV1]; exact ((this.alloc _).alloc _).alloc _
 have hBQ1 : Box W3 (w.heap.size + 1) 3 #[.int .i64 off] := by rw [hW3, hW2, hV2, hV1, ← hs1]; exact (((Box.new _ _ _).alloc _).alloc _).alloc _
 have hBQ2 : Box W3 (w.heap.size + 1 + 1) 3 #[.int .i64 nn] := by rw [hW3, hW2, hV2, ← hsv]; exact ((Box.new _ _ _).alloc _).alloc _
 have hBQ : Box W3 (w.heap.size + 1 + 1 + 1) 25 #[.slice none 0 0] := by rw [hW3, hW2, ← hsv2]; exact (Box.new _ _ _).alloc _
 have hBT : Box W3 W2.heap.size 9 #[.string p] := by rw [hW3]; exact Box.new _ _ _
 have hX : ArgT w.heap.size W3 (.slice (some ⟨W2.heap.size, 0, none⟩) 1 1) [p] := argT_box (ps := [p]) hBT hb2.size (by simp [maxLen]) fun q hq => by rw [List.mem_singleton.1 hq]; exact hp
 have HC := look3_any 87 Tryz.call87 (.pointer (some ⟨w.heap.size + 1, 0, none⟩)) (.pointer (some ⟨w.heap.size + 1 + 1, 0, none⟩)) (.pointer (some ⟨w.heap.size + 1 + 1 + 1, 0, none⟩)) n0 w.heap.size a c s (some ⟨W2.heap.size, 0, none⟩) 1 [p] (by simp) W3 (ndsN.below hA hb3) hX (hg.below hb3 hg.lt) (some (w.heap.size + 1 + 1 + 1)) (frE s (sval p) off nn) (HoldsO W3.heap.size (frO s (sval p) off nn) (w.heap.size + 1 + 1 + 1)) (fun V V' h hb => h.below hb)
   (fun r hr => by cases hr; omega)
   (fun hok _ V v2 B hbV hB hBl hL => readDo_any n0 a c s hok.wk p off nn ho hn B (w.heap.size + 1) (w.heap.size + 1 + 1) (w.heap.size + 1 + 1 + 1) v2 W3 V (ndsN.below hA hb3) hbV hB hL (hBQ1.below hbV hBQ1.lt) (hBQ2.below hbV hBQ2.lt) (hBQ.below hbV hBQ.lt) (by omega))
 rw [hs2] at HC
 have hps : psE [p] = serr p := by rw [psE]; split <;> simp_all [psE]
 rw [hps] at HC
 obtain ⟨post, hpost⟩ : ∃ post : Ending → World → Prop, post = fun e w' => (∃ v O k, e = .returned (.tuple #[v, .int .i64 k]) ∧ Arg w.heap.size w' v O ∧ ((¬ Ok s ∧ O = [] ∧ k = 9) ∨ (Ok s ∧ serr p ≠ 0 ∧ O = [] ∧ k = serr p) ∨ (Ok s ∧ serr p = 0 ∧ O = frO s (sval p) off nn ∧ k = frE s (sval p) off nn))) ∧ Below w.heap.size w w' := ⟨_, rfl⟩
 have HPo : Hid (∀ v O k w', Arg w.heap.size w' v O → ((¬ Ok s ∧ O = [] ∧ k = 9) ∨ (Ok s ∧ serr p ≠ 0 ∧ O = [] ∧ k = serr p) ∨ (Ok s ∧ serr p = 0 ∧ O = frO s (sval p) off nn ∧ k = frE s (sval p) off nn)) → Below w.heap.size w w' → post (.returned (.tuple #[v, .int .i64 k])) w') := fun v O k w' h1 h2 h3 => by rw [hpost]; exact ⟨⟨v, O, k, rfl, h1, h2⟩, h3⟩
 rw [← hpost]
 have HB : Hid (Box W3 (w.heap.size + 1 + 1 + 1) 25 #[.slice none 0 0] ∧ Below w.heap.size w W3) := ⟨hBQ, hb3⟩
 generalize frE s (sval p) off nn = fe at HC HPo
 generalize frO s (sval p) off nn = fo at HC HPo
 generalize serr p = pe at HC HPo
 obtain ⟨g0, g1, -, -⟩ := hBS.two
 rw [hW2, hV2, hV1, hW1] at g0 g1
 obtain ⟨n, hn'⟩ := exa (s.1.length)
 obtain ⟨nx, hnx⟩ := exa (s.2)
 rw [← hn'] at HC hW1 g0 g1 ⊢
 rw [← hnx] at HC hW1 g0 g1 ⊢
 clear hA hg hp hb1 hbv hbv2 hb2 hb3 hBQ hBQ1 hBQ2 hBS hBT hX hn' hnx hpost hs1 hsv hsv2 hs2 hs3 ho hn hps
 go_enter Tryz.func43, Tryz.ntmps43
 go_wp2_with fail
 rw [← hW1, ← hV1, ← hV2, ← hW2, ← hW3]
 clear hW1 hV1 hV2 hW2 hW3 g0 g1
 refine HC.mono ?_
 rintro e w4 ⟨r, rfl, hr⟩
 have hq : ∃ O, HoldsO w.heap.size O (w.heap.size + 1 + 1 + 1) w4 ∧ Below w.heap.size w w4 ∧ ((¬ Ok s ∧ O = [] ∧ r = 9) ∨ (Ok s ∧ pe ≠ 0 ∧ O = [] ∧ r = pe) ∨ (Ok s ∧ pe = 0 ∧ O = fo ∧ r = fe)) := by (
 rcases hr with ⟨h1, h2, h3⟩ | ⟨h1, h2, h3, h4⟩ | ⟨h1, h2, h3, h4, h5⟩
 · exact ⟨[], HoldsO.nil (HB.out.1.below h3 HB.out.1.lt), below_any HB.out.2 h3, .inl ⟨h1, rfl, h2⟩⟩
 · exact ⟨[], HoldsO.nil (HB.out.1.below h4 HB.out.1.lt), below_any HB.out.2 h4, .inr (.inl ⟨h1, h2, rfl, h3⟩)⟩
 · obtain ⟨oa, oc, o1, o2⟩ := h5
   exact ⟨_, ⟨oa, oc, o1, o2.weaken HB.out.2.size⟩, HB.out.2.grown h4 HB.out.2.size (fun k hk => by cases hk; omega), .inr (.inr ⟨h1, h2, rfl, h3⟩)⟩)
 obtain ⟨O, ⟨oa, oc, hz, hAo⟩, hbz, hrz⟩ := hq
 have q0 := hz.cell 0 rfl
 have HF : Hid (post (.returned (.tuple #[.slice oa O.length oc, .int .i64 r])) w4) := HPo.out _ _ _ _ hAo hrz hbz
 generalize O.length = ol at q0 HF
 clear hz hbz hrz hr HC hAo
 go_wp2
 exact HF.out
end Go.Proofs.YtopcefhncildnaaGreatDoor
namespace Go.Proofs.YtopcefhncildnaaGreatDoor
open Go.RowKit
open P (serr sval)
def Told (s : St) (ps : List ByteArray) (K : Int) (s' : St) (k : Int) (S : St) : Prop :=
 (¬ Ok s ∧ k = 9 ∧ S = ([], 0)) ∨ (Ok s ∧ psE ps ≠ 0 ∧ k = psE ps ∧ S = ([], 0)) ∨ (Ok s ∧ psE ps = 0 ∧ K ≠ 0 ∧ k = K ∧ S = ([], 0)) ∨ (Ok s ∧ psE ps = 0 ∧ K = 0 ∧ k = 0 ∧ S = s')
theorem Told.one {s : St} {ps : List ByteArray} {K : Int} {s' : St} {k k2 : Int} {S S2 : St} (h : Told s ps K s' k S) (h2 : Told s ps K s' k2 S2) : k = k2 ∧ S = S2 := by
 rcases h with ⟨a, b, c⟩ | ⟨a, b, c, d⟩ | ⟨a, b, c, d, e⟩ | ⟨a, b, c, d, e⟩ <;> rcases h2 with ⟨a2, b2, c2⟩ | ⟨a2, b2, c2, d2⟩ | ⟨a2, b2, c2, d2, e2⟩ | ⟨a2, b2, c2, d2, e2⟩ <;>
   first
     | (exfalso; contradiction)
     | (subst_vars; exact ⟨rfl, rfl⟩)
     | (exfalso; omega)
theorem Told.ok {s : St} {ps : List ByteArray} {K : Int} {s' : St} {S : St} (h : Told s ps K s' 0 S) : Ok s ∧ psE ps = 0 ∧ K = 0 ∧ S = s' := by
 rcases h with ⟨_, b, _⟩ | ⟨_, b, c, _⟩ | ⟨_, _, c, d, _⟩ | ⟨a, b, c, _, e⟩
 · omega
 · omega
 · omega
 · exact ⟨a, b, c, e⟩
theorem Told.yes {s : St} {ps : List ByteArray} {K : Int} {s' : St} {k : Int} {S : St} (h : Told s ps K s' k S) (h1 : Ok s) (h2 : psE ps = 0) (h3 : K = 0) : k = 0 ∧ S = s' := h.one (.inr (.inr (.inr ⟨h1, h2, h3, rfl, rfl⟩)))
theorem Told.no {s : St} {ps : List ByteArray} {K : Int} {s' : St} {k : Int} {S : St} (h : Told s ps K s' k S) (h1 : Ok s) (h2 : psE ps = 0) (h3 : K ≠ 0) : k = K ∧ S = ([], 0) := h.one (.inr (.inr (.inl ⟨h1, h2, h3, rfl, rfl⟩)))
theorem Told.same {s : St} {ps : List ByteArray} {K : Int} {s' s2 : St} {k k2 : Int} {S S2 : St} (h : Told s ps K s' k S) (h2 : Told s ps K s2 k2 S2) : k = k2 := by
 rcases h with ⟨a, b, c⟩ | ⟨a, b, c, d⟩ | ⟨a, b, c, d, e⟩ | ⟨a, b, c, d, e⟩ <;> rcases h2 with ⟨a2, b2, c2⟩ | ⟨a2, b2, c2, d2⟩ | ⟨a2, b2, c2, d2, e2⟩ | ⟨a2, b2, c2, d2, e2⟩ <;>
   first
     | (exfalso; contradiction)
     | (subst_vars; rfl)
     | (exfalso; omega)
theorem psE_one {p : ByteArray} : psE [p] = serr p := by
 by_cases h : serr p = 0
 · rw [h]; exact psE_all fun q hq => by rw [List.mem_singleton.1 hq]; exact h
 · exact psE_bad (k := 0) (fun q hq => by simp at hq) rfl h
theorem nds_nil (n : Nat) (w : World) : ndsN.lies n w [.slice none 0 0] [] := ndsN.olies (Shape.list_nil ndN 27 Tryz.underlying27 cells27 n w)
theorem nds_shape {n : Nat} {w : World} {v : Value} {l : List Nd} (h : ndsN.lies n w [v] l) : ∃ a c, v = .slice a l.length c := by
 obtain ⟨a, cap, he, _⟩ := Shape.list_len (S := ndN) (ht := Tryz.underlying27) (hc := cells27) h
 exact ⟨a, cap, by simpa using he⟩
def Tells (s : St) (ps : List ByteArray) (K : Int) (s' : St) (w : World) (e : Ending) (w' : World) : Prop :=
 (∃ k S a c, e = .returned (.tuple #[.agg #[.slice a S.1.length c, .int .i64 S.2], .int .i64 k]) ∧ ndsN.lies w.heap.size w' [.slice a S.1.length c] S.1 ∧ Told s ps K s' k S) ∧ Below w.heap.size w w'
theorem Changed.tells {s : St} {ps : List ByteArray} {K : Int} {s' : St} {w : World} {e : Ending} {w' : World} (h : Changed s ps K s' w e w') : Tells s ps K s' w e w' := by
 refine ⟨?_, h.2⟩
 rcases h.1 with ⟨k, he, hk⟩ | ⟨v, he, h1, h2, h3, hl⟩
 · refine ⟨k, ([], 0), none, 0, he, nds_nil _ _, ?_⟩
   rcases hk with ⟨a, b⟩ | ⟨a, b, c⟩ | ⟨a, b, c, d⟩
   · exact .inl ⟨a, b, rfl⟩
   · exact .inr (.inl ⟨a, b, c, rfl⟩)
   · exact .inr (.inr (.inl ⟨a, b, c, d, rfl⟩))
 · obtain ⟨a, c, rfl⟩ := nds_shape hl
   exact ⟨0, s', a, c, he, hl, .inr (.inr (.inr ⟨h1, h2, h3, rfl, rfl⟩))⟩
end Go.Proofs.YtopcefhncildnaaGreatDoor
namespace Go.Proofs.YtopcefhncildnaaGreatDoor
open D (En nameOk inoOk Good Chk there fnd ins del aerr)
open F (Fl chk rdE rdO wrE wrF)
open P (serr sval)
theorem ok_new : Ok ([rootN], 2) := by
 have hm : ∀ n ∈ [rootN], n = rootN := fun n hn => List.mem_singleton.1 hn
 refine ⟨⟨by decide, by decide, List.pairwise_singleton _ _, fun n hn => ?_, ⟨rootN, List.mem_singleton.2 rfl, rfl, rfl⟩, fun n hn _ => ?_, fun n hn hd => ?_, fun n hn e he => ?_, fun n hn => ?_, fun n hn _ => ?_, fun n hn h1 => ?_, fun n hn h1 => ?_⟩, fun _ => 0, rfl, fun n hn _ e he => ?_⟩
 · rw [hm n hn]; decide
 · rw [hm n hn]; exact ⟨⟨by decide, D.fine_nil⟩, rfl⟩
 · rw [hm n hn] at hd; cases hd
 · rw [hm n hn] at he; cases he
 · rw [hm n hn]; rfl
 · rw [hm n hn]; rfl
 · rw [hm n hn] at h1; exact absurd rfl h1
 · rw [hm n hn] at h1; exact absurd rfl h1
 · rw [hm n hn] at he; cases he
def exA : ByteArray := ⟨#[97]⟩
def exF : ByteArray := ⟨#[102]⟩
def exB : List Int := [104, 105, 0, 0, 0, 0, 0, 0, 0, 0, 0, 0, 0, 0, 0, 0, 0, 0, 0, 0, 0, 0, 0, 0, 0, 0, 0, 0, 0, 0, 0, 0]
def ex1 : St := ([(1, true, 0, [(exA, 2)], (0, [])), (2, true, 1, [], (0, []))], 3)
def ex2 : St := ([(1, true, 0, [(exA, 2)], (0, [])), (2, true, 1, [(exF, 3)], (0, [])), (3, false, 1, [], (0, []))], 4)
def ex3 : St := ([(1, true, 0, [(exA, 2)], (0, [])), (2, true, 1, [(exF, 3)], (0, [])), (3, false, 1, [], (2, [(0, exB)]))], 4)
theorem ex_p : serr ⟨#[47, 97]⟩ = 0 ∧ sval ⟨#[47, 97]⟩ = [exA] := by decide +kernel
theorem ex_q : serr ⟨#[47, 97, 47, 102]⟩ = 0 ∧ sval ⟨#[47, 97, 47, 102]⟩ = [exA, exF] := by decide +kernel
theorem ex_1 : mkE ([rootN], 2) [exA] = 0 ∧ mkN ([rootN], 2) (hold ([rootN], 2) [exA]) (lst [exA]) true = ex1 := ⟨by decide +kernel, by kernel_rfl⟩
theorem ex_2 : mkE ex1 [exA, exF] = 0 ∧ mkN ex1 (hold ex1 [exA, exF]) (lst [exA, exF]) false = ex2 := ⟨by decide +kernel, by kernel_rfl⟩
theorem ex_3 : rwE ex2 [exA, exF] (wrE (fi (tgt ex2 [exA, exF])) 0 [104, 105]) = 0 ∧ filN ex2 (tgt ex2 [exA, exF]) (wrF (fi (tgt ex2 [exA, exF])) 0 [104, 105]) = ex3 := ⟨by decide +kernel, by kernel_rfl⟩
theorem ex_4 : frE ex3 [exA, exF] 0 9 = 0 ∧ frO ex3 [exA, exF] 0 9 = [104, 105] := by decide +kernel
theorem ex_5 : filE ex3.1 [exA] = 104 ∧ rmE ex3 [exA] = 105 := by decide +kernel
theorem ex_ok1 : Ok ex1 := by rw [← ex_1.2]; exact mk_ok ok_new (by decide) ex_1.1 true
theorem ex_ok2 : Ok ex2 := by rw [← ex_2.2]; exact mk_ok ex_ok1 (by decide) ex_2.1 false
theorem ex_ok3 : Ok ex3 := by rw [← ex_3.2]; exact write_ok ex_ok2 ex_3.1
end Go.Proofs.YtopcefhncildnaaGreatDoor
