/-
  fs.Link: what it answers.
  fs.rewrite: a file's place is taken by what becomes of it.
  fs.Write and fs.Truncate: what becomes of a file.
  fs.New, fs.clearWay, fs.isBelow.
  What moves keeps all that lies below it.
  What is taken away bars no way to anything else.
  Renaming, as plain mathematics: the list behind each step, and what lies below what moves.
  Renaming: what each step finds.
  fs.Write: what it answers.
  Plain mathematics: the state that each op makes may be.
  What fs.look answers at an op that is known.
-/
import Derived.Test.YtkcnephbaffmbaaGreatDoorH40
set_option maxRecDepth 100000
set_option maxHeartbeats 8000000
namespace Go.Proofs.YtkcnephbaffmbaaGreatDoor
open Go.RowKit
open P (ArgT serr sval)
theorem linkDo_any (n S : Nat) (s : St) (hOk : Ok s) (p q : ByteArray) (hq : serr q = 0) (v2 : Value) (w : World) (hM : MS n w S s) (hnS : n ≤ S) (hL : StayL n w v2 [p, q]) :
   Calls Tryz.prog 78 #[.pointer (some ⟨S, 0, none⟩), v2] w fun e w' => (∃ E, e = .returned E ∧ EV (lnE s (sval p) (sval q)) E) ∧ Below n w w' ∧ (lnE s (sval p) (sval q) = 0 → MS n w' S (lnkN s (hold s (sval q)) (lst (sval q)) (tgt s (sval p)))) := by
 obtain ⟨b, o, av, cv, hix, hc, hX⟩ := hL 0 p rfl
 obtain ⟨b2, o2, bv, dv, hix2, hc2, hY⟩ := hL 1 q rfl
 have hix : ∀ W, (Instr.indexAt 89 v2 (.int .i64 0)).run Tryz.prog W = .ok (.pointer (some ⟨b, o, none⟩)) W := hix
 have hix2 : ∀ W, (Instr.indexAt 89 v2 (.int .i64 1)).run Tryz.prog W = .ok (.pointer (some ⟨b2, o2, none⟩)) W := hix2
 have HC := link_any n S s hOk av bv cv dv (sval p) (sval q) (lst_name hq) w.drew (by exact hM) hnS (hX.below (Below.refl _ w).drew) (hY.below (Below.refl _ w).drew)
 obtain ⟨post, hpost⟩ : ∃ post : Ending → World → Prop, post = fun e w' => (∃ E, e = .returned E ∧ EV (lnE s (sval p) (sval q)) E) ∧ Below n w w' ∧ (lnE s (sval p) (sval q) = 0 → MS n w' S (lnkN s (hold s (sval q)) (lst (sval q)) (tgt s (sval p)))) := ⟨_, rfl⟩
 have HC' := HC.mono (R' := fun e w' => post e w' ∧ (∃ E, e = .returned E ∧ post (.returned E) w') ∧ Below n w w') fun e w' h => by (
 have hb : Below n w w' := (Below.refl _ w).drew.trans h.2.1
 obtain ⟨⟨E, rfl, h1⟩, h2, h3⟩ := h
 have hh : post (.returned E) w' := by rw [hpost]; exact ⟨⟨E, rfl, h1⟩, hb, h3⟩
 exact ⟨hh, ⟨E, rfl, hh⟩, hb⟩)
 rw [← hpost]
 have HCC : Hid (∀ w', Below n w w' → w'.cell? ⟨b, o, none⟩ = some (.slice av (sval p).length cv) ∧ w'.cell? ⟨b2, o2, none⟩ = some (.slice bv (sval q).length dv)) := fun w' hb => ⟨hc w' hb, hc2 w' hb⟩
 obtain ⟨m, hm⟩ := exa ((sval p).length)
 obtain ⟨m2, hm2⟩ := exa ((sval q).length)
 rw [← hm, ← hm2] at HC' HCC
 have HS0 : w.drew.cell? ⟨b, o, none⟩ = some (.slice av m cv) ∧ w.drew.cell? ⟨b2, o2, none⟩ = some (.slice bv m2 dv) := HCC.out w (Below.refl _ _)
 clear hX hY hM hpost hm hm2 hc hc2 hL HC
 go_enter Tryz.func78, Tryz.ntmps78
 go_wp2
 go_region_held3 (fun U => U.cell? ⟨b, o, none⟩ = some (.slice av m cv) ∧ U.cell? ⟨b2, o2, none⟩ = some (.slice bv m2 dv))
   (first | with_reducible exact HS1 | with_reducible exact HS0)
   ((first | (go_at_call 79; refine HC'.mono ?_; rintro e1 w1 ⟨-, ⟨E, rfl, h2⟩, hb1⟩; have HS1 : w1.cell? ⟨b, o, none⟩ = some (.slice av m cv) ∧ w1.cell? ⟨b2, o2, none⟩ = some (.slice bv m2 dv) := HCC.out w1 hb1)))
 have H2 : Hid (post (.returned E) w1) := h2
 clear h2 HC' hb1 HS0 HS1 hix hix2
 go_wp2
 exact H2.out
theorem Link_any (n0 : Nat) (a : Option Addr) (c : Nat) (s : St) (p q : ByteArray) (hp : p.size ≤ maxLen) (hq : q.size ≤ maxLen) (w : World) (hA : ndsN.lies n0 w [.slice a s.1.length c] s.1) (hg : Glob w) :
   Calls Tryz.prog 27 #[.agg #[.slice a s.1.length c, .int .i64 s.2], .string p, .string q] w (Changed s [p, q] (lnE s (sval p) (sval q)) (lnkN s (hold s (sval q)) (lst (sval q)) (tgt s (sval p))) w) := by
 obtain ⟨W1, hW1⟩ := exa (w.alloc (.cells #[.slice a s.1.length c, .int .i64 s.2] 27))
 obtain ⟨W2, hW2⟩ := exa (W1.alloc (.cells #[.slice none 0 0, .int .i64 0] 27))
 obtain ⟨W3, hW3⟩ := exa (W2.alloc (.cells #[.string p, .string q] 9))
 have hb1 : Below w.heap.size w W1 := by rw [hW1]; exact (Below.refl _ w).alloc (Nat.le_refl _) _
 have hb2 : Below w.heap.size w W2 := by rw [hW2]; exact hb1.alloc hb1.size _
 have hb3 : Below w.heap.size w W3 := by rw [hW3]; exact hb2.alloc hb2.size _
 have hs1 : W1.heap.size = w.heap.size + 1 := by rw [hW1]; exact Array.size_push _
 have hs2 : W2.heap.size = w.heap.size + 1 + 1 := by rw [hW2, ← hs1]; exact Array.size_push _
 have hBS : Box W2 w.heap.size 27 #[.slice a s.1.length c, .int .i64 s.2] := by
   have : Box W1 w.heap.size 27 #[.slice a s.1.length c, .int .i64 s.2] := by rw [hW1]; exact Box.new _ _ _
   rw [hW2]; exact this.alloc _
 have hBR : Box W3 (w.heap.size + 1) 27 #[.slice none 0 0, .int .i64 0] := by rw [hW3, hW2, ← hs1]; exact (Box.new _ _ _).alloc _
 have hBT : Box W3 W2.heap.size 9 #[.string p, .string q] := by rw [hW3]; exact Box.new _ _ _
 have hX : ArgT w.heap.size W3 (.slice (some ⟨W2.heap.size, 0, none⟩) 2 2) [p, q] := argT_box (ps := [p, q]) hBT hb2.size (by simp [maxLen]) fun r hr => by (
 rcases List.mem_cons.1 hr with rfl | hr
 · exact hp
 · rw [List.mem_singleton.1 hr]; exact hq)
 have HC := change0_any 78 Tryz.call78 n0 w.heap.size a c s (some ⟨W2.heap.size, 0, none⟩) 2 [p, q] (by simp) W3 (ndsN.below hA hb3) hX (hg.below hb3 hg.lt) (lnE s (sval p) (sval q)) (lnkN s (hold s (sval q)) (lst (sval q)) (tgt s (sval p)))
   (fun hok hps V v2 B S hbV hB hBS hL hM => (linkDo_any B S s hok p q (psE_zero hps q (by simp)) v2 V hM hBS hL).mono fun e w' h => ⟨h.1, h.2.1, fun k => (h.2.2 k).ml⟩)
 rw [hs2] at HC
 have HCH : Hid (∀ e w', Changed s [p, q] (lnE s (sval p) (sval q)) (lnkN s (hold s (sval q)) (lst (sval q)) (tgt s (sval p))) W3 e w' → ∃ a3 n3 c3 x3 k3, e = .returned (.tuple #[.agg #[.slice a3 n3 c3, .int .i64 x3], .int .i64 k3]) ∧ Below W3.heap.size W3 w' ∧ Changed s [p, q] (lnE s (sval p) (sval q)) (lnkN s (hold s (sval q)) (lst (sval q)) (tgt s (sval p))) w (.returned (.tuple #[.agg #[.slice a3 n3 c3, .int .i64 x3], .int .i64 k3])) ((w'.setCell ⟨w.heap.size + 1, 0, none⟩ (.slice a3 n3 c3)).setCell ⟨w.heap.size + 1, 1, none⟩ (.int .i64 x3))) := fun e w' h => changed_up hb3 (by have : W3.heap.size = W2.heap.size + 1 := (by rw [hW3]; exact Array.size_push _); omega) h
 generalize lnE s (sval p) (sval q) = K at HC HCH ⊢
 generalize lnkN s (hold s (sval q)) (lst (sval q)) (tgt s (sval p)) = s' at HC HCH ⊢
 obtain ⟨post, hpost⟩ : ∃ post : Ending → World → Prop, post = Changed s [p, q] K s' w := ⟨_, rfl⟩
 rw [← hpost] at HCH ⊢
 obtain ⟨pre, hpre⟩ : ∃ post : Ending → World → Prop, post = Changed s [p, q] K s' W3 := ⟨_, rfl⟩
 rw [← hpre] at HCH HC
 have HB : Hid (Box W3 (w.heap.size + 1) 27 #[.slice none 0 0, .int .i64 0]) := hBR
 obtain ⟨g0, g1, -, -⟩ := hBS.two
 rw [hW2, hW1] at g0 g1
 obtain ⟨n, hn⟩ := exa (s.1.length)
 obtain ⟨nx, hnx⟩ := exa (s.2)
 rw [← hn] at HC hW1 g0 g1 ⊢
 rw [← hnx] at HC hW1 g0 g1 ⊢
 clear hA hg hp hq hb1 hb2 hb3 hBR hBS hBT hX hn hnx hpost hpre hs1 hs2
 go_enter Tryz.func27, Tryz.ntmps27
 go_wp2_with fail
 rw [← hW1, ← hW2, ← hW3]
 clear hW1 hW2 hW3 g0 g1
 refine HC.mono ?_
 intro e4 w4 h4
 obtain ⟨a3, n3, c3, x3, k3, rfl, hb4, hP⟩ := HCH.out e4 w4 h4
 obtain ⟨d0, d1, e0, e1⟩ := (HB.out.below hb4 HB.out.lt).two
 have HP : Hid (post (.returned (.tuple #[.agg #[.slice a3 n3 c3, .int .i64 x3], .int .i64 k3])) ((w4.setCell ⟨w.heap.size + 1, 0, none⟩ (.slice a3 n3 c3)).setCell ⟨w.heap.size + 1, 1, none⟩ (.int .i64 x3))) := hP
 clear h4 hP hb4 HC HCH
 go_wp2
 refine bodyPost_ret (v := .tuple #[.agg #[.slice a3 n3 c3, .int .i64 x3], .int .i64 k3]) (by simp [results, Tryz.results27, go_sem, *]) rfl HP.out
end Go.Proofs.YtkcnephbaffmbaaGreatDoor
namespace Go.Proofs.YtkcnephbaffmbaaGreatDoor
open Go.RowKit
open F (Fl flN bksN)
open P (ArgT serr sval)
theorem nds_put_file {n : Nat} {w : World} {v : Value} {l : List Nd} (h : ndsN.owns n w [v] l) {k : Nat} {p : Nd} (hp : l[k]? = some p) {b : Nat} (hob : v.ownBlock = some b) (u : Value) (f : Fl) {base : Nat} (hb : b < base) (hn : n ≤ base) (hf : bksN.lies base w [u] f.2) (hI : I64 f.1) :
   ndsN.lies n ((w.setCell ⟨b, k * 6 + 4, none⟩ (.int .i64 f.1)).setCell ⟨b, k * 6 + 5, none⟩ u) [v] (l.set k (wF f p)) ∧ w.grownBy ((w.setCell ⟨b, k * 6 + 4, none⟩ (.int .i64 f.1)).setCell ⟨b, k * 6 + 5, none⟩ u) v.ownBlock := by
 obtain ⟨v', vss, hv, hC, hE⟩ := h
 obtain rfl : v = v' := by simpa using hv
 replace hC : w.ownsRow n 86 6 v l.length vss.flatten := hC
 obtain ⟨us, hu, hO⟩ := hE.get hp
 obtain ⟨e, f0, rfl, hL⟩ := nd_own hO
 obtain ⟨g, cap, rfl⟩ : ∃ g cap, v = .slice (some ⟨g, 0, none⟩) l.length cap := by (
 rcases hC.2 with ⟨_, h0⟩ | ⟨g, cap, cur, h', _⟩
 · have := (List.getElem?_eq_some_iff.1 hp).1; omega
 · exact ⟨g, cap, h'⟩)
 obtain rfl : g = b := Option.some.inj hob
 have hsz : ∀ us ∈ vss, us.length = 6 := fun us h => by
   obtain ⟨q, _, hq⟩ := hE.left h
   exact ndN.length (ndN.olies hq)
 obtain ⟨h1, h2⟩ := hC.stored (k * 6 + 4) (.int .i64 f.1)
 obtain ⟨h3, h4⟩ := h1.stored (k * 6 + 5) u
 have hk : k < vss.length := (List.getElem?_eq_some_iff.1 hu).1
 rw [flat_set hsz hu (by omega)] at h3
 have hsz2 : ∀ us ∈ vss.set k ((nv p e f0).set 4 (.int .i64 f.1)), us.length = 6 := fun us h => by (
 rcases List.mem_or_eq_of_mem_set h with h | rfl
 · exact hsz us h
 · simp [nv])
 rw [flat_set hsz2 (List.getElem?_set_self hk) (by omega), List.set_set] at h3
 have hg := h2.trans h4
 have hcl : Clear w (some g) ndN.ids := Clear.own hC (by decide)
 refine ⟨⟨_, _, rfl, by rw [List.length_set]; exact Cells.own h3, (hE.mono fun _ _ h => ndN.olies (ndN.ogrown h hg hcl)).set k ?_⟩, hg⟩
 have hN := ndN.ogrown (nd_omk hL) hg hcl
 obtain ⟨e2, f2, he, hL2⟩ := nd_own hN
 simp only [nv, List.cons.injEq, and_true, true_and] at he
 obtain ⟨rfl, rfl⟩ := he
 exact nd_mkN (p := wF f p) ⟨hL2.1.arg, bksN.weaken (bksN.keep hf (Same.trans (.set hb) (by simp [World.setCell]) (.set hb))) hn, hL2.2.2.1, hL2.2.2.2.1, hI⟩
def rwE (s : St) (xs : List ByteArray) (ke : Int) : Int := if filE s.1 xs ≠ 0 then filE s.1 xs else ke
theorem rewrite1_any (G : Nat) (hG : ∀ args w, (callFunc G args).run Tryz.prog w = .ok (.enter G args) w) (c1 : Value) (n : Nat) (v : Value) (s : St) (hOk : Ok s) (av : Option Addr) (cv : Nat) (xs : List ByteArray) (ke : Int) (f' : Fl) (w : World) (hO : ndsN.owns n w [v] s.1) (hnw : n ≤ w.heap.size) (hX : Stay n w (.slice av xs.length cv) xs)
   (hw : filE s.1 xs = 0 → ∀ W us, Below w.heap.size w W → flN.lies n W us (fi (tgt s xs)) → Calls Tryz.prog G #[.agg us.toArray, c1] W fun e w' => (∃ us', e = .returned (.tuple #[.agg us'.toArray, .int .i64 ke]) ∧ flN.lies W.heap.size w' us' f') ∧ Below W.heap.size W w') :
   Calls Tryz.prog 82 #[.agg #[v, .int .i64 s.2], .slice av xs.length cv, .func (.func G) #[] #[c1]] w fun e w' => (∃ E, e = .returned E ∧ EV (rwE s xs ke) E) ∧ w.grownBy w' v.ownBlock ∧ (rwE s xs ke = 0 → ndsN.lies n w' [v] (filN s (tgt s xs) f').1) := by
 obtain ⟨a, c, rfl⟩ := own_len hO
 obtain ⟨W, hW⟩ := exa (w.alloc (.cells #[.slice a s.1.length c, .int .i64 s.2] 27))
 have hbW : Below w.heap.size w W := by rw [hW]; exact (Below.refl _ w).alloc (Nat.le_refl _) _
 have hBS : Box W w.heap.size 27 #[.slice a s.1.length c, .int .i64 s.2] := by rw [hW]; exact Box.new _ _ _
 have HFF := findFile_any n 0 a c s hOk.wk av cv xs W (ndsN.olies (ndsN.obelow hO hbW)) (hX.below (hbW.mono hnw)).at
 have HTG : Hid (filE s.1 xs = 0 → (wlk s.1 1 xs).1 = (tgt s xs).1 ∧ ∀ p ∈ s.1, p.1 = (tgt s xs).1 → p = tgt s xs) := fun h0 => by (
 have hl := hOk.wk.lead (fil_zero h0).1
 refine ⟨hl.2.1, fun p hp he => ?_⟩
 have h1 := gt_of hOk.wk.up hp
 have h2 := gt_of hOk.wk.up hl.1
 rw [← h1, he, h2])
 have HW : Hid (filE s.1 xs = 0 → ∀ W us, Below w.heap.size w W → flN.lies n W us (fi (tgt s xs)) → Calls Tryz.prog G #[.agg us.toArray, c1] W fun e w' => (∃ us', e = .returned (.tuple #[.agg us'.toArray, .int .i64 ke]) ∧ flN.lies W.heap.size w' us' f') ∧ Below W.heap.size W w') := hw
 have HS : Hid (ndsN.owns n w [.slice a s.1.length c] s.1 ∧ n ≤ w.heap.size ∧ Ups s.1 ∧ Below w.heap.size w W) := ⟨hO, hnw, hOk.wk.up, hbW⟩
 have HRE : Hid (rwE s xs ke = if filE s.1 xs ≠ 0 then filE s.1 xs else ke) := rfl
 have HSF : Hid ((filN s (tgt s xs) f').1 = ch s.1 (tgt s xs).1 (wF f')) := rfl
 obtain ⟨post, hpost⟩ : ∃ post : Ending → World → Prop, post = fun e w' => (∃ E, e = .returned E ∧ EV (rwE s xs ke) E) ∧ w.grownBy w' (Value.slice a s.1.length c).ownBlock ∧ (rwE s xs ke = 0 → ndsN.lies n w' [.slice a s.1.length c] (filN s (tgt s xs) f').1) := ⟨_, rfl⟩
 have HPo : Hid (∀ E w', EV (rwE s xs ke) E → w.grownBy w' (Value.slice a s.1.length c).ownBlock → (rwE s xs ke = 0 → ndsN.lies n w' [.slice a s.1.length c] (filN s (tgt s xs) f').1) → post (.returned E) w') := fun E w' h1 h2 h3 => by rw [hpost]; exact ⟨⟨E, rfl, h1⟩, h2, h3⟩
 rw [← hpost]
 generalize rwE s xs ke = re at HRE HPo
 obtain ⟨l, nx⟩ := s
 simp only at HFF HTG HW HS HRE HPo HSF hBS ⊢
 generalize (filN (l, nx) (tgt (l, nx) xs) f').1 = l' at HSF HPo
 generalize tgt (l, nx) xs = T at HTG HW HSF
 obtain ⟨g0, g1, -, -⟩ := hBS.two
 obtain ⟨L, hL⟩ := exa (l.length)
 obtain ⟨m, hm⟩ := exa (xs.length)
 rw [hW] at g0 g1
 rw [← hL] at HFF HS g0 g1 HPo hW ⊢
 rw [← hm] at HFF ⊢
 generalize (wlk l 1 xs).1 = wi at HFF HTG
 generalize filE l xs = fe at HFF HTG HRE HW
 clear hO hX hL hm hpost hOk hbW hBS hw
 go_enter Tryz.func82, Tryz.ntmps82
 go_wp2_with fail
 rw [← hW]
 clear hW g0 g1
 refine HFF.mono ?_
 rintro e1 w1 ⟨hr, hb1⟩
 have HB1 : Hid (Below w.heap.size w w1) := below_any HS.out.2.2.2 hb1
 rcases hr with ⟨hne, E, rfl, hE⟩ | ⟨h0, k, p, b, o, hk, hpw, hix, rfl⟩
 · obtain ⟨a2, l2, c2, s2, rfl⟩ : ∃ a2 l2 c2 s2, E = refV (.slice a2 l2 c2) fe s2 := by
     rcases hE with ⟨h, _⟩ | ⟨_, a2, l2, c2, s2, h⟩
     · exact absurd h hne
     · exact ⟨a2, l2, c2, s2, h⟩
   have HN : Hid (fe ≠ 0 ∧ re = fe) := ⟨hne, by rw [HRE.out, if_pos hne]⟩
   clear hne hE hb1 HFF
   go_wp2
   exact HPo.out _ _ (by rw [HN.out.2]; exact ev_ref HN.out.1 _ _ _ _) (grown_below HB1.out _) (fun h => absurd (HN.out.2.symm.trans h) HN.out.1)
 subst h0
 obtain ⟨e', f0, rfl, hnb, hbw, hob, hPu⟩ := found_is HS.out.1 hk hix
 have hpT : p = T := (HTG.out rfl).2 p (List.mem_of_getElem? hk) (hpw.trans (HTG.out rfl).1)
 subst hpT
 have HPU : Hid (∀ W, Below w.heap.size w W → Puts n (.slice a L c) l k p b e' f0 W) := hPu
 have HK : Hid (l[k]? = some p ∧ (Value.slice a L c).ownBlock = some b ∧ b < w.heap.size) := ⟨hk, hob, hbw⟩
 have hP := hPu w1 HB1.out
 obtain ⟨-, -, -, -, c4, c5⟩ := nv_cells hP.1
 obtain ⟨fa, fc, hfe, -, -⟩ := Shape.list_len (S := F.bkN) (ht := Tryz.underlying81) (hc := F.cells81) (bksN.olies hP.2.2.1.2.1)
 obtain rfl : f0 = _ := by simpa using hfe
 have HCF := HW.out rfl w1 [.int .i64 (fi p).1, .slice fa (fi p).2.length fc] HB1.out hP.2.2.1.ln.file
 have HRE2 : Hid (re = ke) := by (
 have := HRE.out
 rw [if_neg (by decide)] at this
 exact this)
 generalize (fi p).1 = pz at c4 HCF
 generalize (fi p).2.length = pl at c5 HCF HPU
 clear hP hPu hk hpw hix hb1 HFF hnb hbw hob hfe
 go_wp2_with fail
 refine HCF.mono ?_
 rintro e2 w2 ⟨⟨us', rfl, hu'⟩, hb2⟩
 obtain ⟨ra, rc, rfl, hrb, hrI, -⟩ := F.fl_viewN hu'
 have HB2 : Hid (Below w.heap.size w w2) := below_any HB1.out hb2
 obtain ⟨W3, hW3⟩ := exa (w2.alloc (.cells #[.int .i64 f'.1, .slice ra f'.2.length rc] 83))
 have hb3 : Below w.heap.size w W3 := by rw [hW3]; exact HB2.out.alloc HB2.out.size _
 have hB3 : Box W3 w2.heap.size 83 #[.int .i64 f'.1, .slice ra f'.2.length rc] := by rw [hW3]; exact Box.new _ _ _
 have hP3 := HPU.out W3 hb3
 have hput := nds_put_file (ndsN.obelow HS.out.1 hb3) HK.out.1 HK.out.2.1 (.slice ra f'.2.length rc) f' (base := w1.heap.size) (by have := HK.out.2.2; have := HB1.out.size; omega) (Nat.le_trans HS.out.2.1 HB1.out.size) (by rw [hW3]; exact bksN.keep hrb (.alloc _ _ _)) hrI
 rw [set_ch HS.out.2.2.1 HK.out.1, ← HSF.out] at hput
 have HPT : Hid (ndsN.lies n ((W3.setCell ⟨b, k * 6 + 4, none⟩ (.int .i64 f'.1)).setCell ⟨b, k * 6 + 5, none⟩ (.slice ra f'.2.length rc)) [.slice a L c] l' ∧ w.grownBy ((W3.setCell ⟨b, k * 6 + 4, none⟩ (.int .i64 f'.1)).setCell ⟨b, k * 6 + 5, none⟩ (.slice ra f'.2.length rc)) (Value.slice a L c).ownBlock ∧ Below w.heap.size w W3) := ⟨hput.1, (grown_below hb3 _).trans hput.2, hb3⟩
 obtain ⟨q0, q1, -, -⟩ := hB3.two
 obtain ⟨-, -, -, -, d4, d5⟩ := nv_cells hP3.1
 have f4 := hP3.2.1 (k * 6 + 4)
 have f5 := hP3.2.1 (k * 6 + 5)
 rw [hW3] at q0 q1 d4 d5 f4 f5
 generalize f'.1 = z' at q0 q1 HPT d4 d5 f4 f5 hW3 ⊢
 generalize f'.2.length = fl' at q0 q1 HPT d4 d5 f4 f5 hW3 ⊢
 clear hu' hrb hrI hb2 hb3 hB3 hP3 hput HCF c4 c5
 by_cases hz : ke = 0
 · have hre : re = 0 := HRE2.out.trans hz
   subst hre
   subst hz
   go_wp2
   refine HPo.out _ _ ev_nil ?_ (fun _ => ?_)
   · rw [← hW3]; exact HPT.out.2.1
   · rw [← hW3]; exact HPT.out.1
 · have hre : re = ke := HRE2.out
   subst hre
   have HZ : Hid (re ≠ 0) := hz
   have hr := refuse_bad re hz av m cv W3
   clear q0 q1 d4 d5 f4 f5
   go_wp2_with fail
   rw [← hW3]
   refine hr.mono ?_
   rintro e3 w3 ⟨rfl, rfl⟩
   go_wp2
   exact HPo.out _ _ (ev_ref HZ.out _ _ _ _) (by rw [← hW3]; exact grown_below HPT.out.2.2 _) (fun h => absurd h HZ.out)
theorem rewrite2_any (G : Nat) (hG : ∀ args w, (callFunc G args).run Tryz.prog w = .ok (.enter G args) w) (c1 : Value) (c2 : Value) (n : Nat) (v : Value) (s : St) (hOk : Ok s) (av : Option Addr) (cv : Nat) (xs : List ByteArray) (ke : Int) (f' : Fl) (w : World) (hO : ndsN.owns n w [v] s.1) (hnw : n ≤ w.heap.size) (hX : Stay n w (.slice av xs.length cv) xs)
   (hw : filE s.1 xs = 0 → ∀ W us, Below w.heap.size w W → flN.lies n W us (fi (tgt s xs)) → Calls Tryz.prog G #[.agg us.toArray, c1, c2] W fun e w' => (∃ us', e = .returned (.tuple #[.agg us'.toArray, .int .i64 ke]) ∧ flN.lies W.heap.size w' us' f') ∧ Below W.heap.size W w') :
   Calls Tryz.prog 82 #[.agg #[v, .int .i64 s.2], .slice av xs.length cv, .func (.func G) #[] #[c1, c2]] w fun e w' => (∃ E, e = .returned E ∧ EV (rwE s xs ke) E) ∧ w.grownBy w' v.ownBlock ∧ (rwE s xs ke = 0 → ndsN.lies n w' [v] (filN s (tgt s xs) f').1) := by
 obtain ⟨a, c, rfl⟩ := own_len hO
 obtain ⟨W, hW⟩ := exa (w.alloc (.cells #[.slice a s.1.length c, .int .i64 s.2] 27))
 have hbW : Below w.heap.size w W := by rw [hW]; exact (Below.refl _ w).alloc (Nat.le_refl _) _
 have hBS : Box W w.heap.size 27 #[.slice a s.1.length c, .int .i64 s.2] := by rw [hW]; exact Box.new _ _ _
 have HFF := findFile_any n 0 a c s hOk.wk av cv xs W (ndsN.olies (ndsN.obelow hO hbW)) (hX.below (hbW.mono hnw)).at
 have HTG : Hid (filE s.1 xs = 0 → (wlk s.1 1 xs).1 = (tgt s xs).1 ∧ ∀ p ∈ s.1, p.1 = (tgt s xs).1 → p = tgt s xs) := fun h0 => by (
 have hl := hOk.wk.lead (fil_zero h0).1
 refine ⟨hl.2.1, fun p hp he => ?_⟩
 have h1 := gt_of hOk.wk.up hp
 have h2 := gt_of hOk.wk.up hl.1
 rw [← h1, he, h2])
 have HW : Hid (filE s.1 xs = 0 → ∀ W us, Below w.heap.size w W → flN.lies n W us (fi (tgt s xs)) → Calls Tryz.prog G #[.agg us.toArray, c1, c2] W fun e w' => (∃ us', e = .returned (.tuple #[.agg us'.toArray, .int .i64 ke]) ∧ flN.lies W.heap.size w' us' f') ∧ Below W.heap.size W w') := hw
 have HS : Hid (ndsN.owns n w [.slice a s.1.length c] s.1 ∧ n ≤ w.heap.size ∧ Ups s.1 ∧ Below w.heap.size w W) := ⟨hO, hnw, hOk.wk.up, hbW⟩
 have HRE : Hid (rwE s xs ke = if filE s.1 xs ≠ 0 then filE s.1 xs else ke) := rfl
 have HSF : Hid ((filN s (tgt s xs) f').1 = ch s.1 (tgt s xs).1 (wF f')) := rfl
 obtain ⟨post, hpost⟩ : ∃ post : Ending → World → Prop, post = fun e w' => (∃ E, e = .returned E ∧ EV (rwE s xs ke) E) ∧ w.grownBy w' (Value.slice a s.1.length c).ownBlock ∧ (rwE s xs ke = 0 → ndsN.lies n w' [.slice a s.1.length c] (filN s (tgt s xs) f').1) := ⟨_, rfl⟩
 have HPo : Hid (∀ E w', EV (rwE s xs ke) E → w.grownBy w' (Value.slice a s.1.length c).ownBlock → (rwE s xs ke = 0 → ndsN.lies n w' [.slice a s.1.length c] (filN s (tgt s xs) f').1) → post (.returned E) w') := fun E w' h1 h2 h3 => by rw [hpost]; exact ⟨⟨E, rfl, h1⟩, h2, h3⟩
 rw [← hpost]
 generalize rwE s xs ke = re at HRE HPo
 obtain ⟨l, nx⟩ := s
 simp only at HFF HTG HW HS HRE HPo HSF hBS ⊢
 generalize (filN (l, nx) (tgt (l, nx) xs) f').1 = l' at HSF HPo
 generalize tgt (l, nx) xs = T at HTG HW HSF
 obtain ⟨g0, g1, -, -⟩ := hBS.two
 obtain ⟨L, hL⟩ := exa (l.length)
 obtain ⟨m, hm⟩ := exa (xs.length)
 rw [hW] at g0 g1
 rw [← hL] at HFF HS g0 g1 HPo hW ⊢
 rw [← hm] at HFF ⊢
 generalize (wlk l 1 xs).1 = wi at HFF HTG
 generalize filE l xs = fe at HFF HTG HRE HW
 clear hO hX hL hm hpost hOk hbW hBS hw
 go_enter Tryz.func82, Tryz.ntmps82
 go_wp2_with fail
 rw [← hW]
 clear hW g0 g1
 refine HFF.mono ?_
 rintro e1 w1 ⟨hr, hb1⟩
 have HB1 : Hid (Below w.heap.size w w1) := below_any HS.out.2.2.2 hb1
 rcases hr with ⟨hne, E, rfl, hE⟩ | ⟨h0, k, p, b, o, hk, hpw, hix, rfl⟩
 · obtain ⟨a2, l2, c2, s2, rfl⟩ : ∃ a2 l2 c2 s2, E = refV (.slice a2 l2 c2) fe s2 := by
     rcases hE with ⟨h, _⟩ | ⟨_, a2, l2, c2, s2, h⟩
     · exact absurd h hne
     · exact ⟨a2, l2, c2, s2, h⟩
   have HN : Hid (fe ≠ 0 ∧ re = fe) := ⟨hne, by rw [HRE.out, if_pos hne]⟩
   clear hne hE hb1 HFF
   go_wp2
   exact HPo.out _ _ (by rw [HN.out.2]; exact ev_ref HN.out.1 _ _ _ _) (grown_below HB1.out _) (fun h => absurd (HN.out.2.symm.trans h) HN.out.1)
 subst h0
 obtain ⟨e', f0, rfl, hnb, hbw, hob, hPu⟩ := found_is HS.out.1 hk hix
 have hpT : p = T := (HTG.out rfl).2 p (List.mem_of_getElem? hk) (hpw.trans (HTG.out rfl).1)
 subst hpT
 have HPU : Hid (∀ W, Below w.heap.size w W → Puts n (.slice a L c) l k p b e' f0 W) := hPu
 have HK : Hid (l[k]? = some p ∧ (Value.slice a L c).ownBlock = some b ∧ b < w.heap.size) := ⟨hk, hob, hbw⟩
 have hP := hPu w1 HB1.out
 obtain ⟨-, -, -, -, c4, c5⟩ := nv_cells hP.1
 obtain ⟨fa, fc, hfe, -, -⟩ := Shape.list_len (S := F.bkN) (ht := Tryz.underlying81) (hc := F.cells81) (bksN.olies hP.2.2.1.2.1)
 obtain rfl : f0 = _ := by simpa using hfe
 have HCF := HW.out rfl w1 [.int .i64 (fi p).1, .slice fa (fi p).2.length fc] HB1.out hP.2.2.1.ln.file
 have HRE2 : Hid (re = ke) := by (
 have := HRE.out
 rw [if_neg (by decide)] at this
 exact this)
 generalize (fi p).1 = pz at c4 HCF
 generalize (fi p).2.length = pl at c5 HCF HPU
 clear hP hPu hk hpw hix hb1 HFF hnb hbw hob hfe
 go_wp2_with fail
 refine HCF.mono ?_
 rintro e2 w2 ⟨⟨us', rfl, hu'⟩, hb2⟩
 obtain ⟨ra, rc, rfl, hrb, hrI, -⟩ := F.fl_viewN hu'
 have HB2 : Hid (Below w.heap.size w w2) := below_any HB1.out hb2
 obtain ⟨W3, hW3⟩ := exa (w2.alloc (.cells #[.int .i64 f'.1, .slice ra f'.2.length rc] 83))
 have hb3 : Below w.heap.size w W3 := by rw [hW3]; exact HB2.out.alloc HB2.out.size _
 have hB3 : Box W3 w2.heap.size 83 #[.int .i64 f'.1, .slice ra f'.2.length rc] := by rw [hW3]; exact Box.new _ _ _
 have hP3 := HPU.out W3 hb3
 have hput := nds_put_file (ndsN.obelow HS.out.1 hb3) HK.out.1 HK.out.2.1 (.slice ra f'.2.length rc) f' (base := w1.heap.size) (by have := HK.out.2.2; have := HB1.out.size; omega) (Nat.le_trans HS.out.2.1 HB1.out.size) (by rw [hW3]; exact bksN.keep hrb (.alloc _ _ _)) hrI
 rw [set_ch HS.out.2.2.1 HK.out.1, ← HSF.out] at hput
 have HPT : Hid (ndsN.lies n ((W3.setCell ⟨b, k * 6 + 4, none⟩ (.int .i64 f'.1)).setCell ⟨b, k * 6 + 5, none⟩ (.slice ra f'.2.length rc)) [.slice a L c] l' ∧ w.grownBy ((W3.setCell ⟨b, k * 6 + 4, none⟩ (.int .i64 f'.1)).setCell ⟨b, k * 6 + 5, none⟩ (.slice ra f'.2.length rc)) (Value.slice a L c).ownBlock ∧ Below w.heap.size w W3) := ⟨hput.1, (grown_below hb3 _).trans hput.2, hb3⟩
 obtain ⟨q0, q1, -, -⟩ := hB3.two
 obtain ⟨-, -, -, -, d4, d5⟩ := nv_cells hP3.1
 have f4 := hP3.2.1 (k * 6 + 4)
 have f5 := hP3.2.1 (k * 6 + 5)
 rw [hW3] at q0 q1 d4 d5 f4 f5
 generalize f'.1 = z' at q0 q1 HPT d4 d5 f4 f5 hW3 ⊢
 generalize f'.2.length = fl' at q0 q1 HPT d4 d5 f4 f5 hW3 ⊢
 clear hu' hrb hrI hb2 hb3 hB3 hP3 hput HCF c4 c5
 by_cases hz : ke = 0
 · have hre : re = 0 := HRE2.out.trans hz
   subst hre
   subst hz
   go_wp2
   refine HPo.out _ _ ev_nil ?_ (fun _ => ?_)
   · rw [← hW3]; exact HPT.out.2.1
   · rw [← hW3]; exact HPT.out.1
 · have hre : re = ke := HRE2.out
   subst hre
   have HZ : Hid (re ≠ 0) := hz
   have hr := refuse_bad re hz av m cv W3
   clear q0 q1 d4 d5 f4 f5
   go_wp2_with fail
   rw [← hW3]
   refine hr.mono ?_
   rintro e3 w3 ⟨rfl, rfl⟩
   go_wp2
   exact HPo.out _ _ (ev_ref HZ.out _ _ _ _) (by rw [← hW3]; exact grown_below HPT.out.2.2 _) (fun h => absurd h HZ.out)
end Go.Proofs.YtkcnephbaffmbaaGreatDoor
namespace Go.Proofs.YtkcnephbaffmbaaGreatDoor
open Go.RowKit
open F (Fl flN bksN)
open P (ArgT serr sval)
theorem writeIn_any (Q1 : Nat) (Q2 : Nat) (off : Int) (da : Option Addr) (dl dc : Nat) (d : List Int) (n : Nat) (us : List Value) (f : Fl) (W : World) (hf : flN.lies n W us f) (n1 : Nat) (ho : I64 off) (hv : Arg n1 W (.slice da dl dc) d) (hB : Box W Q1 3 #[.int .i64 off] ∧ Box W Q2 47 #[.slice da dl dc]) :
   Calls Tryz.prog 83 #[.agg us.toArray, .pointer (some ⟨Q1, 0, none⟩), .pointer (some ⟨Q2, 0, none⟩)] W fun e w' => (∃ us', e = .returned (.tuple #[.agg us'.toArray, .int .i64 (F.wrE f off d)]) ∧ flN.lies W.heap.size w' us' (F.wrF f off d)) ∧ Below W.heap.size W w' := by
 obtain ⟨fa, fc, rfl, -, -, -⟩ := F.fl_viewN hf
 obtain ⟨W1, hW1⟩ := exa (W.alloc (.cells #[.int .i64 f.1, .slice fa f.2.length fc] 83))
 obtain ⟨W2, hW2⟩ := exa (W1.alloc (.cells #[.int .i64 0, .slice none 0 0] 83))
 have hb1 : Below W.heap.size W W1 := by rw [hW1]; exact (Below.refl _ _).alloc (Nat.le_refl _) _
 have hb2 : Below W.heap.size W W2 := by rw [hW2]; exact hb1.alloc hb1.size _
 have hs1 : W1.heap.size = W.heap.size + 1 := by rw [hW1]; exact Array.size_push _
 have hBF : Box W2 W.heap.size 83 #[.int .i64 f.1, .slice fa f.2.length fc] := by
   have : Box W1 W.heap.size 83 #[.int .i64 f.1, .slice fa f.2.length fc] := by rw [hW1]; exact Box.new _ _ _
   rw [hW2]; exact this.alloc _
 have hBR : Box W2 (W.heap.size + 1) 83 #[.int .i64 0, .slice none 0 0] := by rw [hW2, ← hs1]; exact Box.new _ _ _
 have HC := F.write_any n n1 _ f off (.slice da dl dc) d W2 (flN.below hf hb2) ho (hv.below hb2)
 have HB : Hid (Below W.heap.size W W2 ∧ Box W2 (W.heap.size + 1) 83 #[.int .i64 0, .slice none 0 0] ∧ W.heap.size + 2 ≤ W2.heap.size) := ⟨hb2, hBR, by have : W2.heap.size = W1.heap.size + 1 := (by rw [hW2]; exact Array.size_push _); omega⟩
 obtain ⟨g0, g1, -, -⟩ := hBF.two
 have q1 := (hB.1.below hb2 hB.1.lt).cell 0 rfl
 have q2 := (hB.2.below hb2 hB.2.lt).cell 0 rfl
 rw [hW2, hW1] at g0 g1 q1 q2
 generalize F.wrE f off d = ke at HC ⊢
 obtain ⟨post, hpost⟩ : ∃ post : Ending → World → Prop, post = fun e w' => (∃ us', e = .returned (.tuple #[.agg us'.toArray, .int .i64 ke]) ∧ flN.lies W.heap.size w' us' (F.wrF f off d)) ∧ Below W.heap.size W w' := ⟨_, rfl⟩
 have HPo : Hid (∀ z a3 n3 c3 w', flN.lies W2.heap.size w' [.int .i64 z, .slice a3 n3 c3] (F.wrF f off d) → Below W2.heap.size W2 w' → post (.returned (.tuple #[.agg #[.int .i64 z, .slice a3 n3 c3], .int .i64 ke])) ((w'.setCell ⟨W.heap.size + 1, 0, none⟩ (.int .i64 z)).setCell ⟨W.heap.size + 1, 1, none⟩ (.slice a3 n3 c3))) := fun z a3 n3 c3 w' h1 h2 => by
   rw [hpost]
   exact ⟨⟨[_, _], rfl, flN.weaken (flN.keep h1 (.set2 (by have := HB.out.2.2; omega))) HB.out.1.size⟩, below_set2 (below_any HB.out.1 h2) (by omega) _ _⟩
 rw [← hpost]
 generalize f.1 = z0 at HC hW1 g0 g1 q1 q2 ⊢
 generalize f.2.length = l0 at HC hW1 g0 g1 q1 q2 ⊢
 clear hf hb1 hb2 hBF hBR hB hs1 hpost ho hv
 go_enter Tryz.func83, Tryz.ntmps83
 go_wp2_with fail
 rw [← hW1, ← hW2]
 clear hW1 hW2 g0 g1 q1 q2
 refine HC.mono ?_
 rintro e3 w3 ⟨⟨us3, rfl, hu3⟩, hb3⟩
 obtain ⟨ra, rc, rfl, -, -, -⟩ := F.fl_viewN hu3
 have HP := HPo.out _ _ _ _ w3 hu3 hb3
 obtain ⟨d0, d1, e0, e1⟩ := (HB.out.2.1.below hb3 HB.out.2.1.lt).two
 generalize (F.wrF f off d).1 = z3 at HP ⊢
 generalize (F.wrF f off d).2.length = l3 at HP ⊢
 have HP2 : Hid (post (.returned (.tuple #[.agg #[.int .i64 z3, .slice ra l3 rc], .int .i64 ke])) ((w3.setCell ⟨W.heap.size + 1, 0, none⟩ (.int .i64 z3)).setCell ⟨W.heap.size + 1, 1, none⟩ (.slice ra l3 rc))) := HP
 clear HP hu3 hb3 HC HPo
 go_wp2
 refine bodyPost_ret (v := .tuple #[.agg #[.int .i64 z3, .slice ra l3 rc], .int .i64 ke]) (by simp [results, Tryz.results83, go_sem, *]) rfl HP2.out
theorem writeDo_any (Q1 : Nat) (Q2 : Nat) (off : Int) (da : Option Addr) (dl dc : Nat) (d : List Int) (n S : Nat) (s : St) (hOk : Ok s) (p : ByteArray) (v2 : Value) (w : World) (hM : MS n w S s) (hnS : n ≤ S) (hL : StayL n w v2 [p]) (n1 : Nat) (ho : I64 off) (hv : ∀ U, Below n w U → Arg n1 U (.slice da dl dc) d) (hBx : ∀ U, Below n w U → Box U Q1 3 #[.int .i64 off] ∧ Box U Q2 47 #[.slice da dl dc]) :
   Calls Tryz.prog 81 #[.pointer (some ⟨S, 0, none⟩), v2, .pointer (some ⟨Q1, 0, none⟩), .pointer (some ⟨Q2, 0, none⟩)] w fun e w' => (∃ E, e = .returned E ∧ EV (rwE s (sval p) (F.wrE (fi (tgt s (sval p))) off d)) E) ∧ Below n w w' ∧ (rwE s (sval p) (F.wrE (fi (tgt s (sval p))) off d) = 0 → ML n w' S (filN s (tgt s (sval p)) (F.wrF (fi (tgt s (sval p))) off d))) := by
 obtain ⟨b, o, av, cv, hix, hc, hX⟩ := hL 0 p rfl
 have hix : ∀ W, (Instr.indexAt 89 v2 (.int .i64 0)).run Tryz.prog W = .ok (.pointer (some ⟨b, o, none⟩)) W := hix
 obtain ⟨v, hB, hO⟩ := hM
 obtain ⟨a, c, rfl⟩ := own_len hO
 have hnw : n ≤ w.heap.size := by have := hB.lt; omega
 have HC := rewrite2_any 83 Tryz.call83 (.pointer (some ⟨Q1, 0, none⟩)) (.pointer (some ⟨Q2, 0, none⟩)) n (.slice a s.1.length c) s hOk av cv (sval p) (F.wrE (fi (tgt s (sval p))) off d) (F.wrF (fi (tgt s (sval p))) off d) w.drew (by exact hO) hnw (hX.below (Below.refl _ w).drew)
   (fun _ W us hbW hf => writeIn_any Q1 Q2 off da dl dc d n us _ W hf n1 ho (hv W ((Below.refl _ w).drew.trans (hbW.mono hnw))) (hBx W ((Below.refl _ w).drew.trans (hbW.mono hnw))))
 obtain ⟨post, hpost⟩ : ∃ post : Ending → World → Prop, post = fun e w' => (∃ E, e = .returned E ∧ EV (rwE s (sval p) (F.wrE (fi (tgt s (sval p))) off d)) E) ∧ Below n w w' ∧ (rwE s (sval p) (F.wrE (fi (tgt s (sval p))) off d) = 0 → ML n w' S (filN s (tgt s (sval p)) (F.wrF (fi (tgt s (sval p))) off d))) := ⟨_, rfl⟩
 have HC' := HC.mono (R' := fun e w' => (∃ E, e = .returned E ∧ post (.returned E) w') ∧ Below n w w' ∧ Box w' S 27 #[.slice a s.1.length c, .int .i64 s.2]) fun e w' h => by (
 obtain ⟨⟨E, rfl, h1⟩, h2, h3⟩ := h
 have hb : Below n w w' := (Below.refl _ w).drew.trans ((Below.refl _ w.drew).grown h2 hnw (own_base hO))
 have hx : Box w' S 27 #[.slice a s.1.length c, .int .i64 s.2] := hB.drew.grown h2 (own_apart hB hO)
 exact ⟨⟨E, rfl, by rw [hpost]; exact ⟨⟨E, rfl, h1⟩, hb, fun h0 => ⟨_, hx, h3 h0⟩⟩⟩, hb, hx⟩)
 rw [← hpost]
 have HCC : Hid (∀ w', Below n w w' → w'.cell? ⟨b, o, none⟩ = some (.slice av (sval p).length cv)) := fun w' hb => hc w' hb
 obtain ⟨d0, d1, -, -⟩ := hB.two
 obtain ⟨m, hm⟩ := exa ((sval p).length)
 obtain ⟨L, hLL⟩ := exa (s.1.length)
 obtain ⟨nx, hnx⟩ := exa (s.2)
 rw [← hm] at HC' HCC
 rw [← hLL] at HC' d0
 rw [← hnx] at HC' d1
 have HS0 : w.drew.cell? ⟨S, 0, none⟩ = some (.slice a L c) ∧ w.drew.cell? ⟨S, 1, none⟩ = some (.int .i64 nx) ∧ w.drew.cell? ⟨b, o, none⟩ = some (.slice av m cv) := ⟨d0, d1, HCC.out w (Below.refl _ _)⟩
 clear hX hB hO hpost hm hLL hnx hc hL HC d0 d1 hBx
 go_enter Tryz.func81, Tryz.ntmps81
 go_wp2
 go_region_held3 (fun U => U.cell? ⟨S, 0, none⟩ = some (.slice a L c) ∧ U.cell? ⟨S, 1, none⟩ = some (.int .i64 nx) ∧ U.cell? ⟨b, o, none⟩ = some (.slice av m cv))
   (first | with_reducible exact HS1 | with_reducible exact HS0)
   ((first | (go_at_call 82; refine HC'.mono ?_; rintro e1 w1 ⟨⟨E, rfl, h2⟩, hb1, hx1⟩; have HS1 : w1.cell? ⟨S, 0, none⟩ = some (.slice a L c) ∧ w1.cell? ⟨S, 1, none⟩ = some (.int .i64 nx) ∧ w1.cell? ⟨b, o, none⟩ = some (.slice av m cv) := ⟨hx1.two.1, hx1.two.2.1, HCC.out w1 hb1⟩)))
 have H2 : Hid (post (.returned E) w1) := h2
 clear h2 HC' hb1 hx1 HS0 HS1 hix
 go_wp2
 exact H2.out
end Go.Proofs.YtkcnephbaffmbaaGreatDoor
namespace Go.Proofs.YtkcnephbaffmbaaGreatDoor
open Go.RowKit
open P (ArgT)
def rootN : Nd := (1, true, 0, [], (0, []))
theorem New_any (w : World) : Calls Tryz.prog 69 #[] w fun e w' => (∃ v, e = .returned (.agg #[v, .int .i64 2]) ∧ ndsN.owns w.heap.size w' [v] [rootN]) ∧ Below w.heap.size w w' := by
 obtain ⟨W1, hW1⟩ := exa (w.alloc (.cells #[.slice (some ⟨w.heap.size + 1, 0, none⟩) 1 1, .int .i64 2] 27))
 obtain ⟨W2, hW2⟩ := exa (W1.alloc (.cells #[.int .i64 1, .bool true, .int .i64 0, .slice none 0 0, .int .i64 0, .slice none 0 0] 86))
 have hb1 : Below w.heap.size w W1 := by rw [hW1]; exact (Below.refl _ w).alloc (Nat.le_refl _) _
 have hb2 : Below w.heap.size w W2 := by rw [hW2]; exact hb1.alloc hb1.size _
 have hs1 : W1.heap.size = w.heap.size + 1 := by rw [hW1]; exact Array.size_push _
 have hBR : Box W2 w.heap.size 27 #[.slice (some ⟨w.heap.size + 1, 0, none⟩) 1 1, .int .i64 2] := by
   have : Box W1 w.heap.size 27 #[.slice (some ⟨w.heap.size + 1, 0, none⟩) 1 1, .int .i64 2] := by rw [hW1]; exact Box.new _ _ _
   rw [hW2]; exact this.alloc _
 have hO : ndsN.owns (w.heap.size + 1) W2 [.slice (some ⟨w.heap.size + 1, 0, none⟩) 1 1] [rootN] := by (
 refine ⟨_, [nv rootN (.slice none 0 0) (.slice none 0 0)], rfl, ?_, nd_omk (p := rootN) ⟨D.OwnE.nil _ _ _, Shape.list_nil F.bkN 81 Tryz.underlying81 F.cells81 _ _, (show I64 1 from ⟨by omega, by omega⟩), (show I64 0 from ⟨by omega, by omega⟩), (show I64 0 from ⟨by omega, by omega⟩)⟩, trivial⟩
 have := World.ownsRow_lit (base := w.heap.size + 1) (e := 86) (size := 6) W1 #[.int .i64 1, .bool true, .int .i64 0, .slice none 0 0, .int .i64 0, .slice none 0 0] 1 (by omega) (by simp [maxLen]) rfl
 rw [hs1, ← hW2] at this
 exact this)
 have HF : Hid (Box W2 w.heap.size 27 #[.slice (some ⟨w.heap.size + 1, 0, none⟩) 1 1, .int .i64 2] ∧ ndsN.owns (w.heap.size + 1) W2 [.slice (some ⟨w.heap.size + 1, 0, none⟩) 1 1] [rootN] ∧ Below w.heap.size w W2) := ⟨hBR, hO, hb2⟩
 obtain ⟨d0, d1, -, -⟩ := hBR.two
 clear hb1 hb2 hs1 hBR hO
 go_enter Tryz.func69, Tryz.ntmps69
 go_wp2
 rw [← hW1, ← hW2]
 clear hW1 hW2
 refine bodyPost_ret (v := .agg #[.slice (some ⟨w.heap.size + 1, 0, none⟩) 1 1, .int .i64 2]) (by simp [results, Tryz.results69, go_sem, *]) rfl ⟨⟨_, rfl, ?_⟩, HF.out.2.2⟩
 exact ndsN.oweaken (n := w.heap.size + 1) HF.out.2.1 (by omega)
theorem clearWay_any (n S : Nat) (s : St) (hOk : Ok s) (d : Bool) (av : Option Addr) (cv : Nat) (xs : List ByteArray) (w : World) (hM : MS n w S s) (hnS : n ≤ S) (hX : Stay n w (.slice av xs.length cv) xs) :
   Calls Tryz.prog 123 #[.pointer (some ⟨S, 0, none⟩), .bool d, .slice av xs.length cv] w fun e w' => (∃ E, e = .returned E ∧ EV (if d = true then rmE s xs else filE s.1 xs) E) ∧ Below n w w' ∧ ((if d = true then rmE s xs else filE s.1 xs) = 0 → MS n w' S (dropN s (hold s xs) (lst xs) (tgt s xs))) := by
 cases d
 · have HC := unlink_any n S s hOk av cv xs w hM hnS hX
   simp only [Bool.false_eq_true, if_false]
   obtain ⟨post, hpost⟩ : ∃ post : Ending → World → Prop, post = fun e w' => (∃ E, e = .returned E ∧ EV (filE s.1 xs) E) ∧ Below n w w' ∧ (filE s.1 xs = 0 → MS n w' S (dropN s (hold s xs) (lst xs) (tgt s xs))) := ⟨_, rfl⟩
   rw [← hpost] at HC ⊢
   have HPo : Hid (∀ e w', post e w' → ∃ E, e = .returned E ∧ post (.returned E) w') := fun e w' h => by (
 rw [hpost] at h ⊢
 obtain ⟨⟨E, rfl, h1⟩, h2⟩ := h
 exact ⟨E, rfl, ⟨E, rfl, h1⟩, h2⟩)
   obtain ⟨m, hm⟩ := exa (xs.length)
   rw [← hm] at HC ⊢
   clear hX hM hpost hm
   go_enter Tryz.func123, Tryz.ntmps123
   go_wp2_with fail
   refine HC.mono ?_
   intro e1 w1 h1
   obtain ⟨E, rfl, h2⟩ := HPo.out e1 w1 h1
   have H2 : Hid (post (.returned E) w1) := h2
   clear h1 h2 HC
   go_wp2
   exact H2.out
 · have HC := rmdir_any n S s hOk av cv xs w hM hnS hX
   simp only [if_true]
   obtain ⟨post, hpost⟩ : ∃ post : Ending → World → Prop, post = fun e w' => (∃ E, e = .returned E ∧ EV (rmE s xs) E) ∧ Below n w w' ∧ (rmE s xs = 0 → MS n w' S (dropN s (hold s xs) (lst xs) (tgt s xs))) := ⟨_, rfl⟩
   rw [← hpost] at HC ⊢
   have HPo : Hid (∀ e w', post e w' → ∃ E, e = .returned E ∧ post (.returned E) w') := fun e w' h => by (
 rw [hpost] at h ⊢
 obtain ⟨⟨E, rfl, h1⟩, h2⟩ := h
 exact ⟨E, rfl, ⟨E, rfl, h1⟩, h2⟩)
   obtain ⟨m, hm⟩ := exa (xs.length)
   rw [← hm] at HC ⊢
   clear hX hM hpost hm
   go_enter Tryz.func123, Tryz.ntmps123
   go_wp2_with fail
   refine HC.mono ?_
   intro e1 w1 h1
   obtain ⟨E, rfl, h2⟩ := HPo.out e1 w1 h1
   have H2 : Hid (post (.returned E) w1) := h2
   clear h1 h2 HC
   go_wp2
   exact H2.out
def isB (xs ys : List ByteArray) : Bool := decide (xs.length < ys.length) && decide (xs = ys.take xs.length)
theorem isBelow_any (n1 n2 : Nat) (av bv : Option Addr) (cv dv : Nat) (xs ys : List ByteArray) (w : World) (hX : ArgT n1 w (.slice av xs.length cv) xs) (hY : ArgT n2 w (.slice bv ys.length dv) ys) :
   Calls Tryz.prog 122 #[.slice av xs.length cv, .slice bv ys.length dv] w fun e w' => e = .returned (.bool (isB xs ys)) ∧ Below w.heap.size w w' := by
 have hl1 := run_len Tryz.underlying59 av xs.length cv
 have hl2 := run_len Tryz.underlying59 bv ys.length dv
 by_cases hlt : xs.length < ys.length
 · obtain ⟨a, n, c, hn, hA, hsl⟩ := argT_ahead hY xs.length (by omega)
   have HC := (P.equal_any n1 n2 _ _ xs (ys.take xs.length) w hX hA).mono (R' := fun e w' => e = .returned (.bool (isB xs ys)) ∧ Below w.heap.size w w') fun e w' h => by (
 obtain ⟨rfl, q, rfl⟩ := h
 exact ⟨by unfold isB; simp [hlt], below_drewN (Below.refl _ _) q⟩)
   subst hn
   obtain ⟨m, hm⟩ := exa (xs.length)
   obtain ⟨m2, hm2⟩ := exa (ys.length)
   rw [← hm] at HC hl1 hlt hsl ⊢
   rw [← hm2] at hl2 hlt hsl ⊢
   have hli : (m : Int) < (m2 : Int) := by omega
   generalize isB xs ys = r at HC ⊢
   clear hX hY hA hm hm2 hlt
   go_enter Tryz.func122, Tryz.ntmps122
   go_wp2_with fail
   refine HC.mono ?_
   rintro e1 w1 ⟨rfl, hb⟩
   have HB : Hid (Below w.heap.size w w1) := hb
   clear hb HC
   go_wp2
   go_ret
   exact ⟨rfl, HB.out⟩
 · have hr : isB xs ys = false := by unfold isB; simp; omega
   rw [hr]
   obtain ⟨m, hm⟩ := exa (xs.length)
   obtain ⟨m2, hm2⟩ := exa (ys.length)
   rw [← hm] at hl1 hlt ⊢
   rw [← hm2] at hl2 hlt ⊢
   have hli : ¬ (m : Int) < (m2 : Int) := by omega
   clear hX hY hm hm2 hlt hr
   go_enter Tryz.func122, Tryz.ntmps122
   go_wp2
   go_ret
   exact ⟨rfl, Below.refl _ _⟩
end Go.Proofs.YtkcnephbaffmbaaGreatDoor
namespace Go.Proofs.YtkcnephbaffmbaaGreatDoor
open D (En ins del there)
theorem sub_same {l l' : List Nd} : ∀ (k : Nat) {i : Int}, (∀ n j, Way l n i j → kid l' j = kid l j) → dpt l' k i = dpt l k i ∧ (Bd l k i → Bd l' k i)
 | 0, i, h => ⟨rfl, fun hb => by rw [Bd, h 0 i rfl]; exact hb⟩
 | k + 1, i, h => by (
 have h0 := h 0 i rfl
 have hs : ∀ e ∈ kid l i, ∀ n j, Way l n e.2 j → kid l' j = kid l j := fun e he n j hw => h (n + 1) j ⟨e, he, hw⟩
 refine ⟨?_, fun hb => ?_⟩
 · rw [dpt, dpt, h0]
   exact foldmax_congr fun e he => by rw [(sub_same k (hs e he)).1]
 · rw [Bd, h0]
   exact fun e he => (sub_same k (hs e he)).2 (hb e he))
theorem kid_ch {l : List Nd} (hU : Ups l) {p : Nd} (hp : p ∈ l) (es : List En) (j : Int) : kid (ch l p.1 (wE es)) j = if j = p.1 then es else kid l j := by
 have hU' := ups_ch (i := p.1) (f := wE es) (fun _ => rfl) hU
 by_cases hj : j = p.1
 · rw [if_pos hj, hj]
   exact kid_of hU' (n := wE es p) ((mem_ch' hU hp).2 (.inr rfl))
 · rw [if_neg hj]
   cases hf : fd l j with
   | some n => (
 obtain ⟨h1, h2⟩ := fd_mem hf
 have h3 : n ∈ ch l p.1 (wE es) := (mem_ch' hU hp).2 (.inl ⟨h1, by rw [h2]; exact hj⟩)
 have h4 := kid_of hU' h3
 have h5 := kid_of hU h1
 rw [h2] at h4 h5
 rw [h4, h5])
   | none => (
 cases hf' : fd (ch l p.1 (wE es)) j with
 | none => unfold kid; rw [hf, hf']
 | some m => (
 obtain ⟨h1, h2⟩ := fd_mem hf'
 rcases (mem_ch' hU hp).1 h1 with ⟨h3, _⟩ | h3
 · have := fd_of hU h3
   rw [h2, hf] at this
   cases this
 · rw [h3] at h2
   exact absurd h2.symm hj))
theorem not_below {s : St} (h : Ok s) {xs ys : List ByteArray} (hne : ys ≠ []) (hx : (wlk s.1 1 xs).2 = 0) (hy : (wlk s.1 1 (ahd ys)).2 = 0) (hd : isD (hold s ys) = true) (hB : isB xs ys = false) : ∀ j, ¬ Way s.1 j (tgt s xs).1 (hold s ys).1 := fun j hw => by
 obtain ⟨x1, x2, x3⟩ := h.wk.lead hx
 obtain ⟨n, hn, e1, e2, e3⟩ := wlk_in h.wk hy
 have hh : hold s ys = n := e2
 rw [hh] at hw hd
 obtain ⟨zs, -, hz⟩ := way_wlk h.wk hw
 have h1 : Wlk s.1 1 (xs ++ zs) n.1 := wlk_append.2 ⟨_, x3, hz⟩
 have h2 := h.path hn hd h1 e3
 have h3 : xs = ys.take xs.length := by
   have : ys.take xs.length = (ahd ys ++ [lst ys]).take xs.length := by rw [← ahd_lst hne]
   rw [this, ← h2, List.append_assoc, List.take_left]
 have h4 : xs.length < ys.length := by (
 have : ys.length = (ahd ys).length + 1 := by conv => lhs; rw [ahd_lst hne]; simp
 rw [this, ← h2, List.length_append]
 omega)
 unfold isB at hB
 simp [h4, ← h3] at hB
theorem not_round {s : St} (h : Ok s) {xs : List ByteArray} (hne : xs ≠ []) (hx : (wlk s.1 1 xs).2 = 0) : ∀ j, ¬ Way s.1 j (tgt s xs).1 (hold s xs).1 := fun j hw => by
 obtain ⟨x1, x2, x3⟩ := h.wk.lead hx
 obtain ⟨q1, q2, q3, q4, q5⟩ := h.wk.stands hne hx
 have w1 := wlk_way h.wk.up x3
 have w2 : Way s.1 (j + 1) (tgt s xs).1 (tgt s xs).1 := way_snoc.2 ⟨_, hw, _, by rw [kid_of h.wk.up q1]; exact q4, rfl⟩
 obtain ⟨zs, hz, hzs⟩ := way_wlk h.wk w2
 have h1 : Wlk s.1 1 (xs ++ zs) (tgt s xs).1 := wlk_append.2 ⟨_, x3, hzs⟩
 by_cases hd : isD (tgt s xs) = true
 · have h2 := h.path x1 hd h1 x3
   have h3 := congrArg List.length h2
   rw [List.length_append, hz] at h3
   omega
 · obtain ⟨e, he, _⟩ : ∃ e ∈ kid s.1 (tgt s xs).1, Way s.1 j e.2 (tgt s xs).1 := w2
   rw [kid_of h.wk.up x1] at he
   exact hd (h.wk.dir x1 he)
end Go.Proofs.YtkcnephbaffmbaaGreatDoor
namespace Go.Proofs.YtkcnephbaffmbaaGreatDoor
open D (En ins del there Chk)
theorem mem_dropped {s : St} (hW : Wk s) {q z n : Nd} (hq : q ∈ s.1) (hn : n ∈ s.1) (hz : n.1 ≠ z.1) (y : ByteArray) : (if n.1 = q.1 then wE (del (en q) y) q else n) ∈ (dropN s q y z).1 := by
 have h1 : (if n.1 = q.1 then wE (del (en q) y) q else n) ∈ ch s.1 q.1 (wE (del (en q) y)) := by (
 by_cases h : n.1 = q.1
 · rw [if_pos h]; exact (mem_ch' hW.up hq).2 (.inr rfl)
 · rw [if_neg h]; exact (mem_ch' hW.up hq).2 (.inl ⟨hn, h⟩))
 have h2 : (if n.1 = q.1 then wE (del (en q) y) q else n).1 ≠ z.1 := by (
 by_cases h : n.1 = q.1
 · rw [if_pos h]; show q.1 ≠ z.1; rw [← h]; exact hz
 · rw [if_neg h]; exact hz)
 show _ ∈ (if lk z = 1 then rm (ch s.1 q.1 (wE (del (en q) y))) z.1 else ch (ch s.1 q.1 (wE (del (en q) y))) z.1 (wL (lk z - 1)))
 split
 · exact mem_rm.2 ⟨h1, h2⟩
 · exact mem_ch.2 (.inl ⟨h1, h2⟩)
theorem wlk_dropped {s : St} (hW : Wk s) {q z : Nd} (hq : q ∈ s.1) (hz : z ∈ s.1) {y : ByteArray} (hy : (y, z.1) ∈ en q) (he : en z = []) : ∀ {xs : List ByteArray} {i c : Int}, Wlk s.1 i xs c → c ≠ z.1 → Wlk (dropN s q y z).1 i xs c
 | [], _, _, h, _ => h
 | x :: r, i, c, ⟨n, hn, hi, hd, d, hxd, hr⟩, hc => by (
 have hnz : n.1 ≠ z.1 := fun e => by
   rw [ups_eq hW.up hn hz e, he] at hxd
   cases hxd
 have hm := mem_dropped hW hq hn hnz y
 have ih := wlk_dropped hW hq hz hy he hr hc
 by_cases hnq : n.1 = q.1
 · obtain rfl := ups_eq hW.up hn hq hnq
   rw [if_pos rfl] at hm
   have hck := (hW.dirs n hn hd).1
   have hxy : x ≠ y := fun e => by (
 subst e
 have hdz : d = z.1 := by (
 have h1 := D.fnd_mem hck hxd
 have h2 := D.fnd_mem hck hy
 rw [← h1, ← h2])
 subst hdz
 cases r with
 | nil => exact hc (show z.1 = c from hr).symm
 | cons x' r' => (
 obtain ⟨m, hm', hmz, _, d', hd', _⟩ := hr
 rw [ups_eq hW.up hm' hz hmz, he] at hd'
 cases hd'))
   have hin : (x, d) ∈ del (en n) y := by (
 have := ((D.del_perm hck hy).mem_iff (a := (x, d))).1 hxd
 rcases List.mem_cons.1 this with h | h
 · exact absurd (Prod.ext_iff.1 h).1 hxy
 · exact h)
   exact ⟨_, hm, hi, hd, d, hin, ih⟩
 · rw [if_neg hnq] at hm
   exact ⟨n, hm, hi, hd, d, hxd, ih⟩)
theorem ren_walk {s : St} (h : Ok s) {xs : List ByteArray} (hx : (wlk s.1 1 xs).2 = 0) {q z : Nd} (hq : q ∈ s.1) (hz : z ∈ s.1) {y : ByteArray} (hy : (y, z.1) ∈ en q) (he : en z = []) (hne : (tgt s xs).1 ≠ z.1) :
   Ok (dropN s q y z) ∧ wlk (dropN s q y z).1 1 xs = ((tgt s xs).1, 0) := by
 have hO := ok_drop h hq hz hy he
 refine ⟨hO, ?_⟩
 have h1 := wlk_dropped h.wk hq hz hy he (h.wk.lead hx).2.2 hne
 have h2 := (wlk_root hO.wk).2 h1
 exact Prod.ext h2.2 h2.1
end Go.Proofs.YtkcnephbaffmbaaGreatDoor
namespace Go.Proofs.YtkcnephbaffmbaaGreatDoor
open D (En ins del there Chk aerr)
theorem kid_map {l : List Nd} (hU : Ups l) {i : Int} {f : Nd → Nd} (h1 : ∀ n, (f n).1 = n.1) (h2 : ∀ n, en (f n) = en n) (j : Int) : kid (ch l i f) j = kid l j := by
 have hU' := ups_ch (i := i) (f := f) h1 hU
 cases hf : fd l j with
 | some n => (
 obtain ⟨hn, hj⟩ := fd_mem hf
 have h5 := kid_of hU hn
 by_cases hni : n.1 = i
 · have h3 : f n ∈ ch l i f := mem_ch.2 (.inr ⟨n, hn, hni, rfl⟩)
   have h4 := kid_of hU' h3
   rw [h1, h2, hj] at h4
   rw [hj] at h5
   rw [h4, h5]
 · have h3 : n ∈ ch l i f := mem_ch.2 (.inl ⟨hn, hni⟩)
   have h4 := kid_of hU' h3
   rw [hj] at h4 h5
   rw [h4, h5])
 | none => (
 cases hf' : fd (ch l i f) j with
 | none => unfold kid; rw [hf, hf']
 | some m => (
 obtain ⟨hm, hj⟩ := fd_mem hf'
 rcases mem_ch.1 hm with ⟨h3, _⟩ | ⟨m', h3, _, h4⟩
 · have := fd_of hU h3
   rw [hj, hf] at this
   cases this
 · have := fd_of hU h3
   rw [← h1 m', ← h4, hj, hf] at this
   cases this))
theorem kid_rm {l : List Nd} (hU : Ups l) (i j : Int) : kid (rm l i) j = if j = i then [] else kid l j := by
 have hU' : Ups (rm l i) := ups_rm hU
 by_cases hj : j = i
 · rw [if_pos hj]
   cases hf : fd (rm l i) j with
   | none => unfold kid; rw [hf]
   | some m => (
 obtain ⟨hm, he⟩ := fd_mem hf
 exact absurd (he.trans hj) (mem_rm.1 hm).2)
 · rw [if_neg hj]
   cases hf : fd l j with
   | some n => (
 obtain ⟨hn, he⟩ := fd_mem hf
 have h3 : n ∈ rm l i := mem_rm.2 ⟨hn, by rw [he]; exact hj⟩
 have h4 := kid_of hU' h3
 have h5 := kid_of hU hn
 rw [he] at h4 h5
 rw [h4, h5])
   | none => (
 cases hf' : fd (rm l i) j with
 | none => unfold kid; rw [hf, hf']
 | some m => (
 obtain ⟨hm, he⟩ := fd_mem hf'
 have := fd_of hU (mem_rm.1 hm).1
 rw [he, hf] at this
 cases this))
theorem kid_dropped {s : St} (hW : Wk s) {q z : Nd} (hq : q ∈ s.1) (hz : z ∈ s.1) {y : ByteArray} (hy : (y, z.1) ∈ en q) (he : en z = []) (j : Int) : kid (dropN s q y z).1 j = if j = q.1 then del (en q) y else kid s.1 j := by
 have hU1 := ups_ch (i := q.1) (f := wE (del (en q) y)) (fun _ => rfl) hW.up
 have hzq : z.1 ≠ q.1 := fun e => by
   rw [← ups_eq hW.up hz hq e, he] at hy
   cases hy
 show kid (if lk z = 1 then rm (ch s.1 q.1 (wE (del (en q) y))) z.1 else ch (ch s.1 q.1 (wE (del (en q) y))) z.1 (wL (lk z - 1))) j = _
 split
 · rw [kid_rm hU1, kid_ch hW.up hq]
   by_cases hj : j = z.1
   · rw [if_pos hj, if_neg (by rw [hj]; exact hzq), hj, kid_of hW.up hz, he]
   · rw [if_neg hj]
 · rw [kid_map (f := wL (lk z - 1)) hU1 (fun _ => rfl) (fun _ => rfl), kid_ch hW.up hq]
theorem ren_hold {s : St} (h : Ok s) {xs : List ByteArray} (hne : xs ≠ []) (hx : (wlk s.1 1 xs).2 = 0) {q z : Nd} (hq : q ∈ s.1) (hz : z ∈ s.1) {y : ByteArray} (hy : (y, z.1) ∈ en q) (he : en z = []) (hnz : (tgt s xs).1 ≠ z.1) : (hold (dropN s q y z) xs).1 = (hold s xs).1 := by
 obtain ⟨hO, hw⟩ := ren_walk h hx hq hz hy he hnz
 obtain ⟨a1, a2, a3, a4, a5⟩ := h.wk.stands hne hx
 obtain ⟨b1, b2, b3, b4, b5⟩ := hO.wk.stands hne (by rw [hw])
 have hz2 : (hold s xs).1 ≠ z.1 := fun e => by
   rw [ups_eq h.wk.up a1 hz e, he] at a4
   cases a4
 have h1 : Wlk s.1 1 (ahd xs) (hold s xs).1 := (wlk_root h.wk).1 ⟨by rw [a2], by rw [a2]⟩
 have h2 := (wlk_root hO.wk).2 (wlk_dropped h.wk hq hz hy he h1 hz2)
 rw [b2] at h2
 exact h2.2
theorem ok_bd {s : St} (h : Ok s) {n : Nd} (hn : n ∈ s.1) : Bd s.1 8 n.1 := by
 obtain ⟨h1, h2⟩ := h.1.deep.1 h.2
 obtain ⟨j, _, hj⟩ := vis_way.1 (h2 n hn)
 refine bd_way.2 fun x hw => ?_
 have hall : ∀ (a b : Nat) (i k x : Int), Way s.1 a i k → Way s.1 b k x → Way s.1 (a + b) i x := by (
 intro a
 induction a with
 | zero => intro b i k x ha hb; rw [Nat.zero_add]; have e : i = k := ha; rw [e]; exact hb
 | succ a ih => (
 intro b i k x ha hb
 obtain ⟨e, he, ha⟩ := ha
 rw [show a + 1 + b = (a + b) + 1 by omega]
 exact ⟨e, he, ih b _ _ _ ha hb⟩))
 have := way_cut h1 (hall _ _ _ _ _ hj hw)
 omega
def cwE (s : St) (xs ys : List ByteArray) : Int := if isD (tgt s xs) = true then rmE s ys else filE s.1 ys
def ren1 (s : St) (ys : List ByteArray) : St := if stdT s.1 ys = 0 then s else dropN s (hold s ys) (lst ys) (tgt s ys)
def ren2 (s : St) (xs ys : List ByteArray) : List Nd := ch (ren1 s ys).1 (hold (ren1 s ys) xs).1 (wE (del (en (hold (ren1 s ys) xs)) (lst xs)))
def ren3 (s : St) (xs ys : List ByteArray) : List Nd := ch (ren2 s xs ys) (stdI s.1 ys) (wE (ins (en (gt (ren2 s xs ys) (stdI s.1 ys))) (lst ys, (tgt s xs).1)))
def renE (s : St) (xs ys : List ByteArray) : Int :=
 if xs = [] ∨ ys = [] then 108 else if (wlk s.1 1 xs).2 ≠ 0 then (wlk s.1 1 xs).2 else if stdE s.1 ys ≠ 0 then stdE s.1 ys else if isD (tgt s xs) = true ∧ isB xs ys = true then 108 else
 if stdT s.1 ys = (tgt s xs).1 then 0 else if stdT s.1 ys ≠ 0 ∧ cwE s xs ys ≠ 0 then cwE s xs ys else
 if aerr (en (gt (ren2 s xs ys) (stdI s.1 ys))) (lst ys, (tgt s xs).1) ≠ 0 then aerr (en (gt (ren2 s xs ys) (stdI s.1 ys))) (lst ys, (tgt s xs).1) else
 if 8 < ys.length + dpt s.1 8 (tgt s xs).1 then 5 else 0
def renS (s : St) (xs ys : List ByteArray) : St := if stdT s.1 ys = (tgt s xs).1 then s else (ren3 s xs ys, s.2)
end Go.Proofs.YtkcnephbaffmbaaGreatDoor
namespace Go.Proofs.YtkcnephbaffmbaaGreatDoor
open D (En ins del there Chk aerr)
theorem std_zero {s : St} (hK : Wk s) {ys : List ByteArray} (hE : stdE s.1 ys = 0) : (wlk s.1 1 (ahd ys)).2 = 0 ∧ hold s ys ∈ s.1 ∧ stdI s.1 ys = (hold s ys).1 ∧ isD (hold s ys) = true ∧ stdT s.1 ys = entC (hold s ys) (lst ys) := by
 have hE0 := hE
 unfold stdE at hE
 split at hE
 case isFalse h3 => exact absurd hE h3
 rename_i h3
 split at hE
 case isFalse => omega
 rename_i h4
 obtain ⟨n, hn, e1, e2, e3⟩ := wlk_in hK h3
 have hh : hold s ys = n := e2
 refine ⟨h3, by rw [hh]; exact hn, ?_, h4, ?_⟩
 · unfold stdI; rw [if_pos hE0, hh]; exact e1.symm
 · unfold stdT; rw [if_pos hE0]; rfl
theorem rm_zero {s : St} {ys : List ByteArray} (h : rmE s ys = 0) : ys ≠ [] ∧ dirE s.1 ys = 0 ∧ (en (tgt s ys)).length = 0 := by
 unfold rmE at h
 split at h
 · omega
 rename_i h1
 split at h
 · rename_i h2; exact absurd h h2
 rename_i h2
 split at h
 · rename_i h3; exact ⟨h1, Decidable.not_not.1 h2, h3⟩
 · omega
theorem cw_zero {s : St} (hK : Wk s) {xs ys : List ByteArray} (h : cwE s xs ys = 0) : (wlk s.1 1 ys).2 = 0 ∧ en (tgt s ys) = [] := by
 unfold cwE at h
 split at h
 · obtain ⟨_, h1, h2⟩ := rm_zero h
   exact ⟨(dir_zero h1).1, List.eq_nil_of_length_eq_zero h2⟩
 · obtain ⟨h1, h2⟩ := fil_zero h
   exact ⟨h1, (hK.files _ (hK.lead h1).1 h2).1⟩
theorem ren_clear {s : St} (h : Ok s) {xs ys : List ByteArray} (hx0 : xs ≠ []) (hy0 : ys ≠ []) (hx : (wlk s.1 1 xs).2 = 0) (hs : stdE s.1 ys = 0) (hst : stdT s.1 ys ≠ (tgt s xs).1) (hcw : stdT s.1 ys ≠ 0 → cwE s xs ys = 0) :
   Ok (ren1 s ys) ∧ wlk (ren1 s ys).1 1 xs = ((tgt s xs).1, 0) ∧ (ren1 s ys).2 = s.2 ∧ (hold (ren1 s ys) xs).1 = (hold s xs).1 ∧ (∀ j, j ≠ (hold s ys).1 → kid (ren1 s ys).1 j = kid s.1 j) ∧ ∃ m ∈ (ren1 s ys).1, m.1 = stdI s.1 ys ∧ isD m = true := by
 obtain ⟨y1, y2, y3, y4, y5⟩ := std_zero h.wk hs
 unfold ren1
 split
 · rename_i h0
   exact ⟨h, Prod.ext (h.wk.lead hx).2.1 hx, rfl, rfl, fun _ _ => rfl, _, y2, y3.symm, y4⟩
 · rename_i h0
   obtain ⟨w1, w2⟩ := cw_zero h.wk (hcw h0)
   obtain ⟨z1, z2, z3⟩ := h.wk.lead w1
   obtain ⟨q1, q2, q3, q4, q5⟩ := h.wk.stands hy0 w1
   have hck := (h.wk.dirs _ q1 q3).1
   have hT : stdT s.1 ys = (tgt s ys).1 := by (
 rw [y5]
 unfold entC
 rw [if_neg (by rw [q3]; decide), if_neg (by rw [q5]; decide)]
 exact D.fnd_mem hck q4)
   have hnz : (tgt s xs).1 ≠ (tgt s ys).1 := by rw [← hT]; exact Ne.symm hst
   obtain ⟨r1, r2⟩ := ren_walk h hx q1 z1 q4 w2 hnz
   refine ⟨r1, r2, rfl, ren_hold h hx0 hx q1 z1 q4 w2 hnz, fun j hj => ?_, ?_⟩
   · rw [kid_dropped h.wk q1 z1 q4 w2, if_neg hj]
   · have hqz : (hold s ys).1 ≠ (tgt s ys).1 := fun e => by
       rw [ups_eq h.wk.up q1 z1 e, w2] at q4
       cases q4
     have := mem_dropped h.wk q1 q1 hqz (lst ys)
     rw [if_pos rfl] at this
     exact ⟨_, this, y3.symm, q3⟩
theorem ren_struck {s : St} (h : Ok s) {xs ys : List ByteArray} (hx0 : xs ≠ []) (hy0 : ys ≠ []) (hx : (wlk s.1 1 xs).2 = 0) (hs : stdE s.1 ys = 0) (hst : stdT s.1 ys ≠ (tgt s xs).1) (hcw : stdT s.1 ys ≠ 0 → cwE s xs ys = 0) :
   Wk (ren2 s xs ys, s.2) ∧ gt (ren2 s xs ys) (stdI s.1 ys) ∈ ren2 s xs ys ∧ (gt (ren2 s xs ys) (stdI s.1 ys)).1 = stdI s.1 ys ∧ isD (gt (ren2 s xs ys) (stdI s.1 ys)) = true ∧ (∃ m ∈ ren2 s xs ys, m.1 = (tgt s xs).1) ∧ ∀ j, j ≠ (hold s ys).1 → j ≠ (hold s xs).1 → kid (ren2 s xs ys) j = kid s.1 j := by
 obtain ⟨c1, c2, c3, c4, c5, m, hm, hm1, hm2⟩ := ren_clear h hx0 hy0 hx hs hst hcw
 obtain ⟨b1, b2, b3, b4, b5⟩ := c1.wk.stands hx0 (by rw [c2])
 have hW := c1.wk.dele b1 b3 (lst xs)
 rw [c3] at hW
 have hin : ∀ m ∈ (ren1 s ys).1, ∃ m' ∈ ren2 s xs ys, m'.1 = m.1 ∧ isD m' = isD m := fun m hm => by (
 by_cases hb : m.1 = (hold (ren1 s ys) xs).1
 · exact ⟨_, (mem_ch' c1.wk.up b1).2 (.inr rfl), hb.symm, by rw [ups_eq c1.wk.up hm b1 hb]; rfl⟩
 · exact ⟨m, (mem_ch' c1.wk.up b1).2 (.inl ⟨hm, hb⟩), rfl, rfl⟩)
 obtain ⟨m', h1, h2, h3⟩ := hin m hm
 have hg : gt (ren2 s xs ys) (stdI s.1 ys) = m' := by rw [← hm1, ← h2]; exact gt_of hW.up h1
 rw [hg]
 have hN := c1.wk.lead (xs := xs) (by rw [c2])
 obtain ⟨n', n1, n2, _⟩ := hin _ hN.1
 refine ⟨hW, h1, h2.trans hm1, h3.trans hm2, ⟨n', n1, ?_⟩, fun j j1 j2 => ?_⟩
 · rw [n2, ← hN.2.1, c2]
 · have := kid_ch c1.wk.up b1 (del (en (hold (ren1 s ys) xs)) (lst xs)) j
   rw [if_neg (by rw [c4]; exact j2)] at this
   exact this.trans (c5 j j1)
theorem ren_named {s : St} (h : Ok s) {xs ys : List ByteArray} (hx0 : xs ≠ []) (hy0 : ys ≠ []) (hx : (wlk s.1 1 xs).2 = 0) (hs : stdE s.1 ys = 0) (hnb : isD (tgt s xs) = true → isB xs ys = false) (hst : stdT s.1 ys ≠ (tgt s xs).1) (hcw : stdT s.1 ys ≠ 0 → cwE s xs ys = 0) (hae : aerr (en (gt (ren2 s xs ys) (stdI s.1 ys))) (lst ys, (tgt s xs).1) = 0) :
   Wk (ren3 s xs ys, s.2) ∧ (∃ m ∈ ren3 s xs ys, m.1 = (tgt s xs).1) ∧ Bd (ren3 s xs ys) 8 (tgt s xs).1 ∧ dpt (ren3 s xs ys) 8 (tgt s xs).1 = dpt s.1 8 (tgt s xs).1 := by
 obtain ⟨d1, d2, d3, d4, ⟨n', n1, n2⟩, d6⟩ := ren_struck h hx0 hy0 hx hs hst hcw
 obtain ⟨y1, y2, y3, y4, y5⟩ := std_zero h.wk hs
 unfold aerr at hae
 have hck := (d1.dirs _ d2 d4).1
 rw [if_pos hck] at hae
 split at hae
 case isFalse => omega
 rename_i a1
 split at hae
 case isFalse => omega
 rename_i a2
 split at hae
 case isTrue => omega
 rename_i a3
 split at hae
 case isTrue => omega
 rename_i a4
 have hW := d1.inse d2 d4 (e := (lst ys, (tgt s xs).1)) ⟨a1, a2⟩ (by simpa using a3) (by have := hck.1; omega) ⟨n', n1, n2⟩
 have h3 : ren3 s xs ys = ch (ren2 s xs ys) (gt (ren2 s xs ys) (stdI s.1 ys)).1 (wE (ins (en (gt (ren2 s xs ys) (stdI s.1 ys))) (lst ys, (tgt s xs).1))) := by unfold ren3; rw [d3]
 rw [h3]
 have hsub : ∀ n j, Way s.1 n (tgt s xs).1 j → kid (ch (ren2 s xs ys) (gt (ren2 s xs ys) (stdI s.1 ys)).1 (wE (ins (en (gt (ren2 s xs ys) (stdI s.1 ys))) (lst ys, (tgt s xs).1)))) j = kid s.1 j := fun n j hw => by (
 have j2 : j ≠ (hold s xs).1 := fun e => not_round h hx0 hx n (by rw [← e]; exact hw)
 have j1 : j ≠ (hold s ys).1 := fun e => by (
 rw [e] at hw
 by_cases hd : isD (tgt s xs) = true
 · exact not_below h hy0 hx y1 y4 (hnb hd) n hw
 · cases n with
   | zero => (
 have e2 : (tgt s xs).1 = (hold s ys).1 := hw
 rw [ups_eq h.wk.up (h.wk.lead hx).1 y2 e2] at hd
 exact hd y4)
   | succ n => (
 obtain ⟨e, he, _⟩ := hw
 rw [kid_of h.wk.up (h.wk.lead hx).1] at he
 exact hd (h.wk.dir (h.wk.lead hx).1 he)))
 rw [kid_ch d1.up d2, if_neg (by rw [d3, y3]; exact j1), d6 j j1 j2])
 have hss := sub_same 8 hsub
 refine ⟨hW, ?_, hss.2 (ok_bd h (h.wk.lead hx).1), hss.1⟩
 by_cases hb : n'.1 = (gt (ren2 s xs ys) (stdI s.1 ys)).1
 · exact ⟨_, (mem_ch' d1.up d2).2 (.inr rfl), hb.symm.trans n2⟩
 · exact ⟨n', (mem_ch' d1.up d2).2 (.inl ⟨n1, hb⟩), n2⟩
end Go.Proofs.YtkcnephbaffmbaaGreatDoor
namespace Go.Proofs.YtkcnephbaffmbaaGreatDoor
open Go.RowKit
open F (Fl flN bksN)
open P (ArgT serr sval)
def Wrote (s : St) (ps : List ByteArray) (K : Int) (s' : St) (dl : Nat) (w : World) (e : Ending) (w' : World) : Prop :=
 ((∃ k, e = .returned (.tuple #[.agg #[.slice none 0 0, .int .i64 0], .int .i64 0, .int .i64 k]) ∧ ((¬ Ok s ∧ k = 9) ∨ (Ok s ∧ psE ps ≠ 0 ∧ k = psE ps) ∨ (Ok s ∧ psE ps = 0 ∧ K ≠ 0 ∧ k = K))) ∨
  (∃ v, e = .returned (.tuple #[.agg #[v, .int .i64 s'.2], .int .i64 dl, .int .i64 0]) ∧ Ok s ∧ psE ps = 0 ∧ K = 0 ∧ ndsN.lies w.heap.size w' [v] s'.1)) ∧ Below w.heap.size w w'
theorem Write_any (n0 : Nat) (a : Option Addr) (c : Nat) (s : St) (p : ByteArray) (hp : p.size ≤ maxLen) (off : Int) (ho : I64 off) (da : Option Addr) (dc : Nat) (d : List Int) (n1 : Nat) (w : World) (hv : Arg n1 w (.slice da d.length dc) d) (hA : ndsN.lies n0 w [.slice a s.1.length c] s.1) (hg : Glob w) :
   Calls Tryz.prog 30 #[.agg #[.slice a s.1.length c, .int .i64 s.2], .string p, .int .i64 off, .slice da d.length dc] w (Wrote s [p] (rwE s (sval p) (F.wrE (fi (tgt s (sval p))) off d)) (filN s (tgt s (sval p)) (F.wrF (fi (tgt s (sval p))) off d)) d.length w) := by
 obtain ⟨W1, hW1⟩ := exa (w.alloc (.cells #[.slice a s.1.length c, .int .i64 s.2] 27))
 obtain ⟨V1, hV1⟩ := exa (W1.alloc (.cells #[.int .i64 off] 3))
 obtain ⟨V2, hV2⟩ := exa (V1.alloc (.cells #[.slice da d.length dc] 47))
 obtain ⟨W2, hW2⟩ := exa (V2.alloc (.cells #[.slice none 0 0, .int .i64 0] 27))
 obtain ⟨W3, hW3⟩ := exa (W2.alloc (.cells #[.string p] 9))
 have hb1 : Below w.heap.size w W1 := by rw [hW1]; exact (Below.refl _ w).alloc (Nat.le_refl _) _
 have hbv : Below w.heap.size w V1 := by rw [hV1]; exact hb1.alloc hb1.size _
 have hbv2 : Below w.heap.size w V2 := by rw [hV2]; exact hbv.alloc hbv.size _
 have hb2 : Below w.heap.size w W2 := by rw [hW2]; exact hbv2.alloc hbv2.size _
 have hb3 : Below w.heap.size w W3 := by rw [hW3]; exact hb2.alloc hb2.size _
 have hs1 : W1.heap.size = w.heap.size + 1 := by rw [hW1]; exact Array.size_push _
 have hsv : V1.heap.size = w.heap.size + 1 + 1 := by rw [hV1, ← hs1]; exact Array.size_push _
 have hsv2 : V2.heap.size = w.heap.size + 1 + 1 + 1 := by rw [hV2, ← hsv]; exact Array.size_push _
 have hs2 : W2.heap.size = w.heap.size + 1 + 1 + 1 + 1 := by rw [hW2, ← hsv2]; exact Array.size_push _
 have hs3 : W3.heap.size = w.heap.size + 1 + 1 + 1 + 1 + 1 := by rw [hW3, ← hs2]; exact Array.size_push _
 have hBS : Box W2 w.heap.size 27 #[.slice a s.1.length c, .int .i64 s.2] := by
   have : Box W1 w.heap.size 27 #[.slice a s.1.length c, .int .i64 s.2] := by rw [hW1]; exact Box.new _ _ _
   rw [hW2, hV2, hV1]; exact ((this.alloc _).alloc _).alloc _
 have hBQ : Box W3 (w.heap.size + 1) 3 #[.int .i64 off] := by rw [hW3, hW2, hV2, hV1, ← hs1]; exact (((Box.new _ _ _).alloc _).alloc _).alloc _
 have hBD : Box W3 (w.heap.size + 1 + 1) 47 #[.slice da d.length dc] := by rw [hW3, hW2, hV2, ← hsv]; exact ((Box.new _ _ _).alloc _).alloc _
 have hBR : Box W3 (w.heap.size + 1 + 1 + 1) 27 #[.slice none 0 0, .int .i64 0] := by rw [hW3, hW2, ← hsv2]; exact (Box.new _ _ _).alloc _
 have hBT : Box W3 W2.heap.size 9 #[.string p] := by rw [hW3]; exact Box.new _ _ _
 have hX : ArgT w.heap.size W3 (.slice (some ⟨W2.heap.size, 0, none⟩) 1 1) [p] := argT_box (ps := [p]) hBT hb2.size (by simp [maxLen]) fun q hq => by rw [List.mem_singleton.1 hq]; exact hp
 have HC := change2_any 81 Tryz.call81 (.pointer (some ⟨w.heap.size + 1, 0, none⟩)) (.pointer (some ⟨w.heap.size + 1 + 1, 0, none⟩)) n0 w.heap.size a c s (some ⟨W2.heap.size, 0, none⟩) 1 [p] (by simp) W3 (ndsN.below hA hb3) hX (hg.below hb3 hg.lt) (rwE s (sval p) (F.wrE (fi (tgt s (sval p))) off d)) (filN s (tgt s (sval p)) (F.wrF (fi (tgt s (sval p))) off d))
   (fun hok _ V v2 B S hbV hB hBS hL hM => writeDo_any (w.heap.size + 1) (w.heap.size + 1 + 1) off da d.length dc d B S s hok p v2 V hM hBS hL n1 ho (fun U hU => hv.below (below_any hb3 (hbV.trans (hU.mono hB)))) (fun U hU => ⟨(hBQ.below hbV hBQ.lt).kept (hU.block _ (by have := hs3; omega)), (hBD.below hbV hBD.lt).kept (hU.block _ (by have := hs3; omega))⟩))
 rw [hs2] at HC
 generalize rwE s (sval p) (F.wrE (fi (tgt s (sval p))) off d) = K at HC ⊢
 generalize filN s (tgt s (sval p)) (F.wrF (fi (tgt s (sval p))) off d) = s' at HC ⊢
 obtain ⟨post, hpost⟩ : ∃ post : Ending → World → Prop, post = Wrote s [p] K s' d.length w := ⟨_, rfl⟩
 have HPo : Hid ((∀ k w', ((¬ Ok s ∧ k = 9) ∨ (Ok s ∧ psE [p] ≠ 0 ∧ k = psE [p]) ∨ (Ok s ∧ psE [p] = 0 ∧ K ≠ 0 ∧ k = K)) → Below w.heap.size w w' → post (.returned (.tuple #[.agg #[.slice none 0 0, .int .i64 0], .int .i64 0, .int .i64 k])) w') ∧ (∀ v w', Ok s → psE [p] = 0 → K = 0 → ndsN.lies w.heap.size w' [v] s'.1 → Below w.heap.size w w' → post (.returned (.tuple #[.agg #[v, .int .i64 s'.2], .int .i64 d.length, .int .i64 0])) w')) :=
   ⟨fun k w' h1 h2 => by rw [hpost]; exact ⟨.inl ⟨k, rfl, h1⟩, h2⟩, fun v w' h1 h2 h3 h4 h5 => by rw [hpost]; exact ⟨.inr ⟨v, rfl, h1, h2, h3, h4⟩, h5⟩⟩
 rw [← hpost]
 have HB : Hid (Box W3 (w.heap.size + 1 + 1 + 1) 27 #[.slice none 0 0, .int .i64 0] ∧ Box W3 (w.heap.size + 1 + 1) 47 #[.slice da d.length dc] ∧ Below w.heap.size w W3 ∧ W3.heap.size = w.heap.size + 1 + 1 + 1 + 1 + 1) := ⟨hBR, hBD, hb3, hs3⟩
 obtain ⟨g0, g1, -, -⟩ := hBS.two
 rw [hW2, hV2, hV1, hW1] at g0 g1
 obtain ⟨n, hn⟩ := exa (s.1.length)
 obtain ⟨nx, hnx⟩ := exa (s.2)
 obtain ⟨dl, hdl⟩ := exa (d.length)
 have hlen := run_len Tryz.underlying47 da dl dc
 rw [← hdl] at hV2 g0 g1 HPo HB ⊢
 rw [← hn] at HC hW1 g0 g1 ⊢
 rw [← hnx] at HC hW1 g0 g1 ⊢
 clear hA hg hp hb1 hbv hbv2 hb2 hb3 hBR hBS hBT hBQ hBD hX hn hnx hpost hs1 hsv hsv2 hs2 hs3 ho hdl hv
 go_enter Tryz.func30, Tryz.ntmps30
 go_wp2_with fail
 rw [← hW1, ← hV1, ← hV2, ← hW2, ← hW3]
 clear hW1 hV1 hV2 hW2 hW3 g0 g1
 refine HC.mono ?_
 rintro e4 w4 ⟨⟨k, rfl, hk⟩ | ⟨v, rfl, h1, h2, h3, h4⟩, hb4⟩
 · have hk0 : k ≠ 0 := by
     rcases hk with ⟨_, h⟩ | ⟨_, h, h'⟩ | ⟨_, _, h, h'⟩
     · omega
     · rw [h']; exact h
     · rw [h']; exact h
   have HK : Hid ((¬ Ok s ∧ k = 9) ∨ (Ok s ∧ psE [p] ≠ 0 ∧ k = psE [p]) ∨ (Ok s ∧ psE [p] = 0 ∧ K ≠ 0 ∧ k = K)) := hk
   obtain ⟨W5, hW5⟩ := exa (w4.alloc (.cells #[.slice none 0 0, .int .i64 0] 27))
   have hb5 : Below W3.heap.size W3 W5 := by rw [hW5]; exact hb4.alloc hb4.size _
   have H5 : Hid (Below w.heap.size w W5) := below_any HB.out.2.2.1 hb5
   obtain ⟨d0, d1, e0, e1⟩ := (HB.out.1.below hb5 HB.out.1.lt).two
   rw [hW5] at d0 d1 e0 e1
   clear hk hb4 hb5 HC
   go_wp2
   refine bodyPost_ret (v := .tuple #[.agg #[.slice none 0 0, .int .i64 0], .int .i64 0, .int .i64 k]) (by simp [results, Tryz.results30, go_sem, *]) rfl (HPo.out.1 k _ HK.out ?_)
   rw [← hW5]
   exact below_set2 H5.out (by omega) _ _
 · obtain ⟨a3, c3, hve, -, -⟩ := Shape.list_len (S := ndN) (ht := Tryz.underlying25) (hc := cells25) h4
   obtain rfl : v = _ := by simpa using hve
   obtain ⟨W5, hW5⟩ := exa (w4.alloc (.cells #[.slice a3 s'.1.length c3, .int .i64 s'.2] 27))
   have hb5 : Below W3.heap.size W3 W5 := by rw [hW5]; exact hb4.alloc hb4.size _
   have hBN : Box W5 w4.heap.size 27 #[.slice a3 s'.1.length c3, .int .i64 s'.2] := by rw [hW5]; exact Box.new _ _ _
   have H5 : Hid (Below w.heap.size w W5 ∧ ndsN.lies W3.heap.size W5 [.slice a3 s'.1.length c3] s'.1 ∧ Ok s ∧ psE [p] = 0 ∧ K = 0) := ⟨below_any HB.out.2.2.1 hb5, by rw [hW5]; exact ndsN.keep h4 (.alloc _ _ _), h1, h2, h3⟩
   obtain ⟨d0, d1, e0, e1⟩ := (HB.out.1.below hb5 HB.out.1.lt).two
   have q0 := (HB.out.2.1.below hb5 HB.out.2.1.lt).cell 0 rfl
   obtain ⟨x0, x1, -, -⟩ := hBN.two
   obtain ⟨n', hn'⟩ := exa (s'.1.length)
   obtain ⟨nx', hnx'⟩ := exa (s'.2)
   rw [← hn'] at x0 hW5 H5 ⊢
   rw [← hnx'] at x1 hW5 HPo ⊢
   rw [← hn', ← hnx'] at hBN
   have hne : w4.heap.size ≠ w.heap.size + 1 + 1 + 1 := by have := hb4.size; have := HB.out.2.2.2; omega
   have hBN2 := (hBN.other (i := 0) (x := .slice a3 n' c3) hne).other (i := 1) (x := .int .i64 nx') hne
   obtain ⟨z0, z1, -, -⟩ := hBN2.two
   have z2 := (((HB.out.2.1.below hb5 HB.out.2.1.lt).other (B' := w.heap.size + 1 + 1 + 1) (i := 0) (x := .slice a3 n' c3) (by omega)).other (B' := w.heap.size + 1 + 1 + 1) (i := 1) (x := .int .i64 nx') (by omega)).cell 0 rfl
   have HZ : Hid (W3.heap.size = w.heap.size + 1 + 1 + 1 + 1 + 1) := HB.out.2.2.2
   clear hve h1 h2 h3 h4 hb4 hb5 HC hBN hBN2 hn' hnx' hne
   go_wp2
   rw [← hW5]
   clear hW5
   go_region_held3 (fun U => U.cell? ⟨w4.heap.size, 0, none⟩ = some (.slice a3 n' c3) ∧ U.cell? ⟨w4.heap.size, 1, none⟩ = some (.int .i64 nx') ∧ U.cell? ⟨w.heap.size + 1 + 1, 0, none⟩ = some (.slice da dl dc)) (first | exact ⟨x0, x1, q0⟩ | exact ⟨z0, z1, z2⟩ | go_keep) (fail)
   go_wp2
   refine bodyPost_ret (v := .tuple #[.agg #[.slice a3 n' c3, .int .i64 nx'], .int .i64 dl, .int .i64 0]) (by simp [results, Tryz.results30, go_sem, *]) rfl (HPo.out.2 _ _ H5.out.2.2.1 H5.out.2.2.2.1 H5.out.2.2.2.2 ?_ ?_)
   · exact ndsN.weaken (n := W3.heap.size) (ndsN.keep H5.out.2.1 (.set2 (by have := HZ.out; omega))) (by have := HZ.out; omega)
   · exact below_set2 (B := w.heap.size + 1 + 1 + 1) (W := W5.drew) H5.out.1.drew (by omega) _ _
end Go.Proofs.YtkcnephbaffmbaaGreatDoor
namespace Go.Proofs.YtkcnephbaffmbaaGreatDoor
open D (En nameOk inoOk Good Chk there fnd ins del aerr)
open F (Fl chk)
open P (serr sval)
theorem sval_ok {p : ByteArray} (h : serr p = 0) : (sval p).length ≤ 8 ∧ ∀ x ∈ sval p, nameOk x = true := by
 have h1 := P.serr_zero.1 h
 rw [P.sval_zero h]
 exact ⟨h1.2.2.2, fun x hx => List.all_eq_true.1 h1.2.2.1 x hx⟩
theorem aerr_zero {l : List En} {e : En} (h : aerr l e = 0) : Chk l ∧ nameOk e.1 = true ∧ inoOk e.2 = true ∧ there l e.1 = false ∧ l.length < 63 := by
 unfold aerr at h
 split at h
 case isFalse => omega
 rename_i hck
 split at h
 case isFalse => omega
 rename_i a1
 split at h
 case isFalse => omega
 rename_i a2
 split at h
 case isTrue => omega
 rename_i a3
 split at h
 case isTrue => omega
 rename_i a4
 exact ⟨hck, a1, a2, by simpa using a3, by have := hck.1; omega⟩
theorem ahd_len {xs : List ByteArray} (h : xs ≠ []) : (ahd xs).length + 1 = xs.length := by
 have := List.length_pos_iff.2 h
 simp [ahd]; omega
theorem hold_wlk {s : St} (hK : Wk s) {xs : List ByteArray} (h : (wlk s.1 1 (ahd xs)).2 = 0) : hold s xs ∈ s.1 ∧ Wlk s.1 1 (ahd xs) (hold s xs).1 := ⟨(hK.lead h).1, (hK.lead h).2.2⟩
theorem mk_zero {s : St} (h : Ok s) {xs : List ByteArray} (he : mkE s xs = 0) : vacE s.1 xs = 0 ∧ s.1.length < 128 ∧ s.2 < 2147483647 ∧ aerr (en (hold s xs)) (lst xs, s.2) = 0 := by
 unfold mkE at he
 split at he
 · rename_i c; exact absurd he c
 rename_i c
 split at he
 · omega
 rename_i d
 have h1 := h.wk.len
 have h2 := h.wk.nx
 exact ⟨by omega, by omega, by omega, he⟩
theorem mk_ok {s : St} (h : Ok s) {xs : List ByteArray} (hl : xs.length ≤ 8) (he : mkE s xs = 0) (b : Bool) : Ok (mkN s (hold s xs) (lst xs) b) := by
 obtain ⟨h1, h2, h3, h4⟩ := mk_zero h he
 obtain ⟨v1, v2, v3, v4, v5, v6⟩ := vac_zero h.wk h1
 obtain ⟨a1, a2, a3, a4, a5⟩ := aerr_zero h4
 have hw := wlk_way h.wk.up (hold_wlk h.wk v2).2
 have := ahd_len v1
 exact ok_make h v3 v5 a2 a4 a5 h2 h3 hw (by omega) b F.chk_nil ⟨by simp, D.fine_nil⟩
theorem fil_ok {s : St} (h : Ok s) {xs : List ByteArray} (he : filE s.1 xs = 0) : xs ≠ [] ∧ (wlk s.1 1 xs).2 = 0 ∧ en (tgt s xs) = [] ∧ isD (tgt s xs) = false ∧ chk (fi (tgt s xs)) = true ∧ tgt s xs ∈ s.1 := by
 obtain ⟨h1, h2⟩ := fil_zero he
 have h3 := h.wk.files _ (h.wk.lead h1).1 h2
 exact ⟨h.wk.file_ne h2, h1, h3.1, h2, h3.2, (h.wk.lead h1).1⟩
theorem chk_bounds {f : Fl} (h : chk f = true) : 0 ≤ f.1 ∧ f.1 ≤ 2432 := (F.chk_iff.1 h).1
theorem wr_zero {f : Fl} {off : Int} {d : List Int} (h : F.wrE f off d = 0) : chk f = true ∧ 0 ≤ off ∧ (d.length = 0 ∨ off + d.length ≤ 2432) ∧ F.wrF f off d = F.mk (F.wrT (F.txt f) off.toNat d) ∧ (F.wrT (F.txt f) off.toNat d).length ≤ 2432 := by
 have h0 := h
 unfold F.wrE at h
 split at h
 · omega
 rename_i c
 have c' : chk f = true := by simpa using c
 have hb := chk_bounds c'
 split at h
 · omega
 rename_i d1
 refine ⟨c', by omega, ?_, ?_, ?_⟩
 · split at h
   · rename_i e; exact .inl e
   · split at h
     · omega
     · rename_i e; exact .inr (by omega)
 · unfold F.wrF; rw [if_pos h0]
 · split at h
   · rename_i e
     rw [F.wrT_none _ e, F.txt_length]; omega
   · rename_i e
     split at h
     · omega
     · rw [F.wrT_length e, F.txt_length]; omega
theorem wrF_chk {f : Fl} {off : Int} {d : List Int} (h : F.wrE f off d = 0) : chk (F.wrF f off d) = true := by
 obtain ⟨_, _, _, h4, h5⟩ := wr_zero h
 rw [h4]; exact F.chk_mk h5
theorem rw_zero {s : St} {xs : List ByteArray} {k : Int} (h : rwE s xs k = 0) : filE s.1 xs = 0 ∧ k = 0 := by
 unfold rwE at h
 split at h
 · rename_i c; exact absurd h c
 · rename_i c; exact ⟨by omega, h⟩
theorem write_ok {s : St} (h : Ok s) {xs : List ByteArray} {off : Int} {d : List Int} (he : rwE s xs (F.wrE (fi (tgt s xs)) off d) = 0) : Ok (filN s (tgt s xs) (F.wrF (fi (tgt s xs)) off d)) := by
 obtain ⟨h1, h2⟩ := rw_zero he
 obtain ⟨_, _, _, f4, _, f6⟩ := fil_ok h h1
 exact ok_file h f6 f4 (wrF_chk h2)
end Go.Proofs.YtkcnephbaffmbaaGreatDoor
namespace Go.Proofs.YtkcnephbaffmbaaGreatDoor
open Go.RowKit
open P (ArgT OwnT tv serr sval)
theorem look1_any (G : Nat) (hG : ∀ args w, (callFunc G args).run Tryz.prog w = .ok (.enter G args) w) (c1 : Value) (n0 n1 : Nat) (a : Option Addr) (c : Nat) (s : St) (av : Option Addr) (cv : Nat) (ps : List ByteArray) (hps : ps.length ≤ 2) (w : World) (hA : ndsN.lies n0 w [.slice a s.1.length c] s.1) (hX : ArgT n1 w (.slice av ps.length cv) ps) (hg : Glob w) (R : Option Nat) (k : Int) (Post : World → Prop) (hst : ∀ V V', Post V → Below V.heap.size V V' → Post V')
   (hR : ∀ r, R = some r → 0 < r)
   (hdo : Ok s → psE ps = 0 → ∀ V v2 B, Below w.heap.size w V → Box V B 27 #[.slice a s.1.length c, .int .i64 s.2] → w.heap.size ≤ B → OwnL w.heap.size V v2 ps → Calls Tryz.prog G #[.pointer (some ⟨B, 0, none⟩), v2, c1] V fun e w' => (∃ E, e = .returned E ∧ EV k E) ∧ V.grownBy w' R ∧ Post w') :
   Calls Tryz.prog 45 #[.agg #[.slice a s.1.length c, .int .i64 s.2], .func (.func G) #[] #[c1], .slice av ps.length cv] w fun e w' => ∃ r, e = .returned (.int .i64 r) ∧ ((¬ Ok s ∧ r = 9 ∧ Below w.heap.size w w') ∨ (Ok s ∧ psE ps ≠ 0 ∧ r = psE ps ∧ Below w.heap.size w w') ∨ (Ok s ∧ psE ps = 0 ∧ r = k ∧ w.grownBy w' R ∧ Post w')) := by
 obtain ⟨l, nx⟩ := s
 simp only at hA hdo ⊢
 obtain ⟨W, hW⟩ := exa (w.alloc (.cells #[.slice a l.length c, .int .i64 nx] 27))
 have hbW : Below w.heap.size w W := by rw [hW]; exact (Below.refl _ w).alloc (Nat.le_refl _) _
 have HW : Hid (Below w.heap.size w W ∧ Box W w.heap.size 27 #[.slice a l.length c, .int .i64 nx]) := ⟨hbW, by rw [hW]; exact Box.new _ _ _⟩
 have HC := prepare_any n0 n1 a c (l, nx) av cv ps hps W (ndsN.below hA hbW) (hX.below hbW)
 simp only at HC
 have HG : Hid (Glob w) := hg
 have HDO : Hid (Ok (l, nx) → psE ps = 0 → ∀ V v2 B, Below w.heap.size w V → Box V B 27 #[.slice a l.length c, .int .i64 nx] → w.heap.size ≤ B → OwnL w.heap.size V v2 ps → Calls Tryz.prog G #[.pointer (some ⟨B, 0, none⟩), v2, c1] V fun e w' => (∃ E, e = .returned E ∧ EV k E) ∧ V.grownBy w' R ∧ Post w') := hdo
 have HST : Hid ((∀ V V', Post V → Below V.heap.size V V' → Post V') ∧ ∀ r, R = some r → 0 < r) := ⟨hst, hR⟩
 obtain ⟨post, hpost⟩ : ∃ post : Ending → World → Prop, post = fun e w' => ∃ r, e = .returned (.int .i64 r) ∧ ((¬ Ok (l, nx) ∧ r = 9 ∧ Below w.heap.size w w') ∨ (Ok (l, nx) ∧ psE ps ≠ 0 ∧ r = psE ps ∧ Below w.heap.size w w') ∨ (Ok (l, nx) ∧ psE ps = 0 ∧ r = k ∧ w.grownBy w' R ∧ Post w')) := ⟨_, rfl⟩
 have HPo : Hid ((∀ w', ¬ Ok (l, nx) → Below w.heap.size w w' → post (.returned (.int .i64 9)) w') ∧ (∀ w', Ok (l, nx) → psE ps ≠ 0 → Below w.heap.size w w' → post (.returned (.int .i64 (psE ps))) w') ∧ (∀ w', Ok (l, nx) → psE ps = 0 → w.grownBy w' R → Post w' → post (.returned (.int .i64 k)) w')) :=
   ⟨fun w' h1 h2 => by rw [hpost]; exact ⟨9, rfl, .inl ⟨h1, rfl, h2⟩⟩, fun w' h1 h2 h3 => by rw [hpost]; exact ⟨_, rfl, .inr (.inl ⟨h1, h2, rfl, h3⟩)⟩, fun w' h1 h2 h3 h4 => by rw [hpost]; exact ⟨_, rfl, .inr (.inr ⟨h1, h2, rfl, h3, h4⟩)⟩⟩
 suffices HH : Calls Tryz.prog 45 #[.agg #[.slice a l.length c, .int .i64 nx], .func (.func G) #[] #[c1], .slice av ps.length cv] w fun e w' => post e w' by
   rw [hpost] at HH; exact HH
 obtain ⟨n, hn⟩ := exa (l.length)
 rw [← hn] at HC HW HDO hW ⊢
 obtain ⟨m, hm⟩ := exa (ps.length)
 rw [← hm] at HC ⊢
 obtain ⟨g0, g1, -, -⟩ := HW.out.2.two
 rw [hW] at g0 g1
 clear hA hbW hX hg hst hR hdo hn hm hpost hps
 go_enter Tryz.func45, Tryz.ntmps45
 go_wp2_with fail
 rw [← hW]
 clear hW g0 g1
 refine HC.mono ?_
 rintro e w1 ⟨⟨v, E, rfl, hr⟩, hb1⟩
 have HB1 : Hid (Below w.heap.size w w1 ∧ Box w1 w.heap.size 27 #[.slice a n c, .int .i64 nx]) := ⟨below_any HW.out.1 hb1, HW.out.2.below hb1 HW.out.2.lt⟩
 have HGW : Hid (Glob w1) := HG.out.below HB1.out.1 HG.out.lt
 rcases hr with ⟨ho, hE⟩ | ⟨ho, hp, hE⟩ | ⟨ho, hp, rfl, hL⟩
 · have HO : Hid (¬ Ok (l, nx)) := ho
   rcases hE with ⟨h0, _⟩ | ⟨_, a2, l2, c2, s2, rfl⟩
   · omega
   have hnn := numberOf_ref a2 l2 c2 9 s2 w1 HGW.out
   clear hb1 ho HC
   go_wp2_with fail
   refine hnn.mono ?_
   rintro e w2 ⟨rfl, hb2⟩
   go_wp2
   exact HPo.out.1 _ HO.out (below_any HB1.out.1 hb2)
 · have HO : Hid (Ok (l, nx) ∧ psE ps ≠ 0) := ⟨ho, hp⟩
   generalize psE ps = pe at HPo HO hE HDO
   rcases hE with ⟨h0, _⟩ | ⟨_, a2, l2, c2, s2, rfl⟩
   · exact absurd h0 HO.out.2
   have hnn := numberOf_ref a2 l2 c2 pe s2 w1 HGW.out
   clear hb1 ho hp HC
   go_wp2_with fail
   refine hnn.mono ?_
   rintro e w2 ⟨rfl, hb2⟩
   go_wp2
   exact HPo.out.2.1 _ HO.out.1 HO.out.2 (below_any HB1.out.1 hb2)
 · have HO : Hid (Ok (l, nx) ∧ psE ps = 0) := ⟨ho, hp⟩
   have hL1 : OwnL w.heap.size w1 v ps := by (
 obtain ⟨us, h1, h2⟩ := hL
 exact ⟨us, own_weaken h1 HW.out.1.size, h2.mono fun _ _ h => h.weaken HW.out.1.size⟩)
   have HCD := HDO.out ho hp w1 v w.heap.size HB1.out.1 HB1.out.2 (Nat.le_refl _) hL1
   clear hb1 ho hp hL hL1 HC
   go_wp2_with fail
   refine HCD.mono ?_
   rintro e w2 ⟨⟨E, rfl, hE⟩, hg2, hP2⟩
   have hgg : w.grownBy w2 R := (⟨HB1.out.1.os, HB1.out.1.tape, HB1.out.1.output, HB1.out.1.size, fun j hj _ => HB1.out.1.block j hj⟩ : w.grownBy w1 R).trans hg2
   have H2 : Hid (w.grownBy w2 R ∧ Post w2) := ⟨hgg, hP2⟩
   have HG2 : Hid (Glob w2) := by (
 have h0 := HG.out.lt
 show w2.cell? _ = _
 rw [World.cell?_of_block (a := ⟨0, 0, none⟩) (hgg.block 0 h0 (fun e => by have := HST.out.2 0 e.symm; omega))]
 exact HG.out)
   clear hg2 hP2 hgg HCD
   rcases hE with ⟨rfl, rfl⟩ | ⟨hk, a2, l2, c2, s2, rfl⟩
   · have hnn := numberOf_nil w2
     go_wp2_with fail
     refine hnn.mono ?_
     rintro e w3 ⟨rfl, hb3⟩
     go_wp2
     exact HPo.out.2.2 _ HO.out.1 HO.out.2 (H2.out.1.trans ⟨hb3.os, hb3.tape, hb3.output, hb3.size, fun j hj _ => hb3.block j hj⟩) (HST.out.1 _ _ H2.out.2 hb3)
   · have hnn := numberOf_ref a2 l2 c2 k s2 w2 HG2.out
     clear hk
     go_wp2_with fail
     refine hnn.mono ?_
     rintro e w3 ⟨rfl, hb3⟩
     go_wp2
     exact HPo.out.2.2 _ HO.out.1 HO.out.2 (H2.out.1.trans ⟨hb3.os, hb3.tape, hb3.output, hb3.size, fun j hj _ => hb3.block j hj⟩) (HST.out.1 _ _ H2.out.2 hb3)
theorem look3_any (G : Nat) (hG : ∀ args w, (callFunc G args).run Tryz.prog w = .ok (.enter G args) w) (c1 : Value) (c2 : Value) (c3 : Value) (n0 n1 : Nat) (a : Option Addr) (c : Nat) (s : St) (av : Option Addr) (cv : Nat) (ps : List ByteArray) (hps : ps.length ≤ 2) (w : World) (hA : ndsN.lies n0 w [.slice a s.1.length c] s.1) (hX : ArgT n1 w (.slice av ps.length cv) ps) (hg : Glob w) (R : Option Nat) (k : Int) (Post : World → Prop) (hst : ∀ V V', Post V → Below V.heap.size V V' → Post V')
   (hR : ∀ r, R = some r → 0 < r)
   (hdo : Ok s → psE ps = 0 → ∀ V v2 B, Below w.heap.size w V → Box V B 27 #[.slice a s.1.length c, .int .i64 s.2] → w.heap.size ≤ B → OwnL w.heap.size V v2 ps → Calls Tryz.prog G #[.pointer (some ⟨B, 0, none⟩), v2, c1, c2, c3] V fun e w' => (∃ E, e = .returned E ∧ EV k E) ∧ V.grownBy w' R ∧ Post w') :
   Calls Tryz.prog 45 #[.agg #[.slice a s.1.length c, .int .i64 s.2], .func (.func G) #[] #[c1, c2, c3], .slice av ps.length cv] w fun e w' => ∃ r, e = .returned (.int .i64 r) ∧ ((¬ Ok s ∧ r = 9 ∧ Below w.heap.size w w') ∨ (Ok s ∧ psE ps ≠ 0 ∧ r = psE ps ∧ Below w.heap.size w w') ∨ (Ok s ∧ psE ps = 0 ∧ r = k ∧ w.grownBy w' R ∧ Post w')) := by
 obtain ⟨l, nx⟩ := s
 simp only at hA hdo ⊢
 obtain ⟨W, hW⟩ := exa (w.alloc (.cells #[.slice a l.length c, .int .i64 nx] 27))
 have hbW : Below w.heap.size w W := by rw [hW]; exact (Below.refl _ w).alloc (Nat.le_refl _) _
 have HW : Hid (Below w.heap.size w W ∧ Box W w.heap.size 27 #[.slice a l.length c, .int .i64 nx]) := ⟨hbW, by rw [hW]; exact Box.new _ _ _⟩
 have HC := prepare_any n0 n1 a c (l, nx) av cv ps hps W (ndsN.below hA hbW) (hX.below hbW)
 simp only at HC
 have HG : Hid (Glob w) := hg
 have HDO : Hid (Ok (l, nx) → psE ps = 0 → ∀ V v2 B, Below w.heap.size w V → Box V B 27 #[.slice a l.length c, .int .i64 nx] → w.heap.size ≤ B → OwnL w.heap.size V v2 ps → Calls Tryz.prog G #[.pointer (some ⟨B, 0, none⟩), v2, c1, c2, c3] V fun e w' => (∃ E, e = .returned E ∧ EV k E) ∧ V.grownBy w' R ∧ Post w') := hdo
 have HST : Hid ((∀ V V', Post V → Below V.heap.size V V' → Post V') ∧ ∀ r, R = some r → 0 < r) := ⟨hst, hR⟩
 obtain ⟨post, hpost⟩ : ∃ post : Ending → World → Prop, post = fun e w' => ∃ r, e = .returned (.int .i64 r) ∧ ((¬ Ok (l, nx) ∧ r = 9 ∧ Below w.heap.size w w') ∨ (Ok (l, nx) ∧ psE ps ≠ 0 ∧ r = psE ps ∧ Below w.heap.size w w') ∨ (Ok (l, nx) ∧ psE ps = 0 ∧ r = k ∧ w.grownBy w' R ∧ Post w')) := ⟨_, rfl⟩
 have HPo : Hid ((∀ w', ¬ Ok (l, nx) → Below w.heap.size w w' → post (.returned (.int .i64 9)) w') ∧ (∀ w', Ok (l, nx) → psE ps ≠ 0 → Below w.heap.size w w' → post (.returned (.int .i64 (psE ps))) w') ∧ (∀ w', Ok (l, nx) → psE ps = 0 → w.grownBy w' R → Post w' → post (.returned (.int .i64 k)) w')) :=
   ⟨fun w' h1 h2 => by rw [hpost]; exact ⟨9, rfl, .inl ⟨h1, rfl, h2⟩⟩, fun w' h1 h2 h3 => by rw [hpost]; exact ⟨_, rfl, .inr (.inl ⟨h1, h2, rfl, h3⟩)⟩, fun w' h1 h2 h3 h4 => by rw [hpost]; exact ⟨_, rfl, .inr (.inr ⟨h1, h2, rfl, h3, h4⟩)⟩⟩
 suffices HH : Calls Tryz.prog 45 #[.agg #[.slice a l.length c, .int .i64 nx], .func (.func G) #[] #[c1, c2, c3], .slice av ps.length cv] w fun e w' => post e w' by
   rw [hpost] at HH; exact HH
 obtain ⟨n, hn⟩ := exa (l.length)
 rw [← hn] at HC HW HDO hW ⊢
 obtain ⟨m, hm⟩ := exa (ps.length)
 rw [← hm] at HC ⊢
 obtain ⟨g0, g1, -, -⟩ := HW.out.2.two
 rw [hW] at g0 g1
 clear hA hbW hX hg hst hR hdo hn hm hpost hps
 go_enter Tryz.func45, Tryz.ntmps45
 go_wp2_with fail
 rw [← hW]
 clear hW g0 g1
 refine HC.mono ?_
 rintro e w1 ⟨⟨v, E, rfl, hr⟩, hb1⟩
 have HB1 : Hid (Below w.heap.size w w1 ∧ Box w1 w.heap.size 27 #[.slice a n c, .int .i64 nx]) := ⟨below_any HW.out.1 hb1, HW.out.2.below hb1 HW.out.2.lt⟩
 have HGW : Hid (Glob w1) := HG.out.below HB1.out.1 HG.out.lt
 rcases hr with ⟨ho, hE⟩ | ⟨ho, hp, hE⟩ | ⟨ho, hp, rfl, hL⟩
 · have HO : Hid (¬ Ok (l, nx)) := ho
   rcases hE with ⟨h0, _⟩ | ⟨_, a2, l2, c2, s2, rfl⟩
   · omega
   have hnn := numberOf_ref a2 l2 c2 9 s2 w1 HGW.out
   clear hb1 ho HC
   go_wp2_with fail
   refine hnn.mono ?_
   rintro e w2 ⟨rfl, hb2⟩
   go_wp2
   exact HPo.out.1 _ HO.out (below_any HB1.out.1 hb2)
 · have HO : Hid (Ok (l, nx) ∧ psE ps ≠ 0) := ⟨ho, hp⟩
   generalize psE ps = pe at HPo HO hE HDO
   rcases hE with ⟨h0, _⟩ | ⟨_, a2, l2, c2, s2, rfl⟩
   · exact absurd h0 HO.out.2
   have hnn := numberOf_ref a2 l2 c2 pe s2 w1 HGW.out
   clear hb1 ho hp HC
   go_wp2_with fail
   refine hnn.mono ?_
   rintro e w2 ⟨rfl, hb2⟩
   go_wp2
   exact HPo.out.2.1 _ HO.out.1 HO.out.2 (below_any HB1.out.1 hb2)
 · have HO : Hid (Ok (l, nx) ∧ psE ps = 0) := ⟨ho, hp⟩
   have hL1 : OwnL w.heap.size w1 v ps := by (
 obtain ⟨us, h1, h2⟩ := hL
 exact ⟨us, own_weaken h1 HW.out.1.size, h2.mono fun _ _ h => h.weaken HW.out.1.size⟩)
   have HCD := HDO.out ho hp w1 v w.heap.size HB1.out.1 HB1.out.2 (Nat.le_refl _) hL1
   clear hb1 ho hp hL hL1 HC
   go_wp2_with fail
   refine HCD.mono ?_
   rintro e w2 ⟨⟨E, rfl, hE⟩, hg2, hP2⟩
   have hgg : w.grownBy w2 R := (⟨HB1.out.1.os, HB1.out.1.tape, HB1.out.1.output, HB1.out.1.size, fun j hj _ => HB1.out.1.block j hj⟩ : w.grownBy w1 R).trans hg2
   have H2 : Hid (w.grownBy w2 R ∧ Post w2) := ⟨hgg, hP2⟩
   have HG2 : Hid (Glob w2) := by (
 have h0 := HG.out.lt
 show w2.cell? _ = _
 rw [World.cell?_of_block (a := ⟨0, 0, none⟩) (hgg.block 0 h0 (fun e => by have := HST.out.2 0 e.symm; omega))]
 exact HG.out)
   clear hg2 hP2 hgg HCD
   rcases hE with ⟨rfl, rfl⟩ | ⟨hk, a2, l2, c2, s2, rfl⟩
   · have hnn := numberOf_nil w2
     go_wp2_with fail
     refine hnn.mono ?_
     rintro e w3 ⟨rfl, hb3⟩
     go_wp2
     exact HPo.out.2.2 _ HO.out.1 HO.out.2 (H2.out.1.trans ⟨hb3.os, hb3.tape, hb3.output, hb3.size, fun j hj _ => hb3.block j hj⟩) (HST.out.1 _ _ H2.out.2 hb3)
   · have hnn := numberOf_ref a2 l2 c2 k s2 w2 HG2.out
     clear hk
     go_wp2_with fail
     refine hnn.mono ?_
     rintro e w3 ⟨rfl, hb3⟩
     go_wp2
     exact HPo.out.2.2 _ HO.out.1 HO.out.2 (H2.out.1.trans ⟨hb3.os, hb3.tape, hb3.output, hb3.size, fun j hj _ => hb3.block j hj⟩) (HST.out.1 _ _ H2.out.2 hb3)
end Go.Proofs.YtkcnephbaffmbaaGreatDoor
