/-
  fs.drop: a link less, and the node is gone with its last one.
  fs.remove, fs.unlink, fs.rmdir: names are taken away.
  fs.vacant, fs.makeNode: a new node where names lead to nothing yet.
  fs.Create, fs.Mkdir, fs.Unlink, fs.Rmdir: what each answers.
  fs.link: another name for a file.
  fs.Link: what it answers.
  fs.rewrite: a file's place is taken by what becomes of it.
  fs.Write and fs.Truncate: what becomes of a file.
-/
import Derived.Test.YtopcefhncildnaaGreatDoorU36
import Derived.Test.YtopcefhncildnaaGreatDoorU42
set_option maxRecDepth 100000
set_option maxHeartbeats 8000000
namespace Go.Proofs.YtopcefhncildnaaGreatDoor
open Go.RowKit
theorem own_apart {n : Nat} {w : World} {S : Nat} {cs : Array Value} {v : Value} {l : List Nd} (hB : Box w S 29 cs) (h : ndsN.owns n w [v] l) : some S ≠ v.ownBlock := by
 obtain ⟨v', vss, hv, hC, _⟩ := h
 obtain rfl : v = v' := by simpa using hv
 exact hB.apart hC (by decide)
theorem own_base {n : Nat} {w : World} {v : Value} {l : List Nd} (h : ndsN.owns n w [v] l) : ∀ k, v.ownBlock = some k → n ≤ k := fun k hk => by
 obtain ⟨v', vss, hv, hC, _⟩ := h
 obtain rfl : v = v' := by simpa using hv
 exact (hC.lt k hk).1
theorem own_len {n : Nat} {w : World} {v : Value} {l : List Nd} (h : ndsN.owns n w [v] l) : ∃ a c, v = .slice a l.length c := by
 obtain ⟨a, c, _, hv, -, -⟩ := Shape.list_own (S := ndN) (ht := Tryz.underlying27) (hc := cells27) h
 exact ⟨a, c, by simpa using hv⟩
theorem MS.lt {n : Nat} {w : World} {S : Nat} {s : St} (h : MS n w S s) : S < w.heap.size := h.choose_spec.1.lt
theorem MS.below {n : Nat} {w w' : World} {S : Nat} {s : St} (h : MS n w S s) (hb : Below w.heap.size w w') : MS n w' S s := by
 obtain ⟨v, hB, hO⟩ := h
 exact ⟨v, hB.below hb hB.lt, ndsN.obelow hO hb⟩
theorem MS.turned {n : Nat} {w w' : World} {S : Nat} {v : Value} {l l' : List Nd} {nx : Int} (hB : Box w S 29 #[v, .int .i64 nx]) (hO : ndsN.owns n w [v] l) (hg : w.grownBy w' v.ownBlock) (hO' : ndsN.owns n w' [v] l') : MS n w' S (l', nx) := ⟨v, hB.grown hg (own_apart hB hO), hO'⟩
theorem row_below {n : Nat} {w w' : World} {v : Value} {l : List Nd} (hO : ndsN.owns n w [v] l) (hn : n ≤ w.heap.size) (hg : w.grownBy w' v.ownBlock) : Below n w w' := (Below.refl _ w).grown hg hn (own_base hO)
theorem MS.put {n : Nat} {w : World} {S : Nat} {v v' : Value} {l' : List Nd} {nx : Int} (hB : Box w S 29 #[v, .int .i64 nx]) (hO : ndsN.owns n w [v'] l') : MS n (w.setCell ⟨S, 0, none⟩ v') S (l', nx) := ⟨v', hB.set 0 _, ndsN.ogrown hO (grown_set w S 0 _) (hB.clear (by decide))⟩
theorem drop_any (n S : Nat) (s : St) (hU : Ups s.1) (hl : s.1.length ≤ 128) (k : Nat) (p : Nd) (hp : s.1[k]? = some p) (h1 : 1 ≤ lk p) (h16 : lk p ≤ 16) (w : World) (hM : MS n w S s) (hnS : n ≤ S) :
   Calls Tryz.prog 224 #[.pointer (some ⟨S, 0, none⟩), .int .i64 p.1] w fun e w' => e = .returned (.tuple #[]) ∧ MS n w' S (if lk p = 1 then rm s.1 p.1 else ch s.1 p.1 (wL (lk p - 1)), s.2) ∧ Below n w w' := by
 obtain ⟨l, nx⟩ := s
 simp only at hU hl hp ⊢
 obtain ⟨v, hB, hO⟩ := hM
 simp only at hB hO
 obtain ⟨g, cap, e, f, rfl, hng, hgw, hix, hPu⟩ := nds_own_at hO k p hp
 have HPL := place_any n _ l hU p.1 w (ndsN.olies hO) (by omega)
 have hpos : posn l p.1 = k := posn_mem hU hp
 rw [hpos] at HPL
 have HS : Hid (Box w S 29 #[.slice (some ⟨g, 0, none⟩) l.length cap, .int .i64 nx] ∧ ndsN.owns n w [.slice (some ⟨g, 0, none⟩) l.length cap] l ∧ n ≤ S ∧ l.length ≤ 128 ∧ Ups l ∧ l[k]? = some p ∧ n ≤ w.heap.size) := ⟨hB, hO, hnS, hl, hU, hp, by have := hB.lt; omega⟩
 have HPU : Hid (∀ V, Below w.heap.size w V → Puts n (.slice (some ⟨g, 0, none⟩) l.length cap) l k p g e f V) := hPu
 obtain ⟨post, hpost⟩ : ∃ post : Ending → World → Prop, post = fun e w' => e = .returned (.tuple #[]) ∧ MS n w' S (if lk p = 1 then rm l p.1 else ch l p.1 (wL (lk p - 1)), nx) ∧ Below n w w' := ⟨_, rfl⟩
 have HPo : Hid (∀ w', MS n w' S (if lk p = 1 then rm l p.1 else ch l p.1 (wL (lk p - 1)), nx) → Below n w w' → post (.returned (.tuple #[])) w') := fun w' h2 h3 => by rw [hpost]; exact ⟨rfl, h2, h3⟩
 rw [← hpost]
 obtain ⟨g0, g1, -, -⟩ := hB.two
 obtain ⟨L, hL⟩ := exa (l.length)
 obtain ⟨pi, hpi⟩ := exa (p.1)
 obtain ⟨pk, hpk⟩ := exa (lk p)
 rw [← hL] at HPL HS HPU hix g0
 rw [← hpi] at HPL ⊢
 rw [← hpk] at h1 h16 HPo
 have HPK : Hid (pk = lk p ∧ L = l.length) := ⟨hpk, hL⟩
 have hkL : k < L := by rw [hL]; exact (List.getElem?_eq_some_iff.1 hp).1
 have hL128 : L ≤ 128 := by rw [hL]; exact hl
 clear hB hO hPu hpost hp hU hl hL hpi hpk hpos hng hgw g1
 go_enter Tryz.func224, Tryz.ntmps224
 go_wp2_with fail
 refine HPL.mono ?_
 rintro e1 w1 ⟨rfl, hb1⟩
 have HB1 : Hid (Below w.heap.size w w1) := hb1
 have hP := HPU.out w1 hb1
 have hB1 := HS.out.1.below hb1 HS.out.1.lt
 have hO1 := ndsN.obelow HS.out.2.1 hb1
 obtain ⟨c0, -, -, -⟩ := hB1.two
 obtain ⟨-, -, c2, -, -, -⟩ := nv_cells hP.1
 have hfz := hP.2.1 (k * 6 + 2)
 rw [← HPK.out.1] at c2
 have hst := hP.2.2.2 2 (.int .i64 (pk - 1)) (wL (pk - 1) p) e f (by omega) rfl ⟨hP.2.2.1.1, hP.2.2.1.2.1, hP.2.2.1.2.2.1, (show I64 (pk - 1) from ⟨by omega, by omega⟩), hP.2.2.1.2.2.2.2⟩
 obtain ⟨W2, hW2⟩ := exa (w1.setCell ⟨g, k * 6 + 2, none⟩ (.int .i64 (pk - 1)))
 rw [← hW2] at hst
 have hB2 : Box W2 S 29 #[.slice (some ⟨g, 0, none⟩) L cap, .int .i64 nx] := hB1.grown hst.2.2 (own_apart hB1 hO1)
 have HW2 : Hid (ndsN.owns n W2 [.slice (some ⟨g, 0, none⟩) L cap] (l.set k (wL (pk - 1) p)) ∧ Box W2 S 29 #[.slice (some ⟨g, 0, none⟩) L cap, .int .i64 nx] ∧ Below n w W2) :=
   ⟨hst.1, hB2, (hb1.mono HS.out.2.2.2.2.2.2).trans (row_below hO1 (by have := hb1.size; have := HS.out.2.2.2.2.2.2; omega) hst.2.2)⟩
 obtain ⟨d0, -, -, -⟩ := hB2.two
 have d2 : W2.cell? ⟨g, k * 6 + 2, none⟩ = some (.int .i64 (pk - 1)) := by (
 obtain ⟨g', cap', e', f', hv, _, _, _, hPu'⟩ := nds_own_at hst.1 k (wL (pk - 1) p) (by rw [List.getElem?_set_self (by rw [← HPK.out.2]; exact hkL)])
 have hgg : g' = g := by simp at hv; exact hv.1.symm
 subst hgg
 exact (hPu' W2 (Below.refl _ _)).1 2 _ rfl)
 rw [hW2] at d0 d2
 clear hP hst hB1 hB2 hO1 hb1 HPL g0
 by_cases hz : pk = 1
 · have hz0 : pk - 1 = 0 := by omega
   rw [hz0] at d0 d2 hW2 HW2
   have HZ : Hid (pk = 1) := hz
   have HDE := delete_any n (.slice (some ⟨g, 0, none⟩) L cap) (l.set k (wL 0 p)) (by rw [List.length_set, ← HPK.out.2]; omega) k (wL 0 p) (by rw [List.getElem?_set_self (by rw [← HPK.out.2]; exact hkL)]) W2 HW2.out.1
   rw [show ((k + 1 : Nat) : Int) = (k : Int) + 1 by omega] at HDE
   rw [hz] at c2
   clear hz hz0
   go_wp2_with fail
   rw [← hW2]
   refine HDE.mono ?_
   rintro e3 w3 ⟨⟨v3, rfl, hv3⟩, hg3⟩
   obtain ⟨a3, c3, rfl⟩ := own_len hv3
   have hB3 : Box w3 S 29 #[.slice (some ⟨g, 0, none⟩) L cap, .int .i64 nx] := HW2.out.2.1.grown hg3 (own_apart HW2.out.2.1 HW2.out.1)
   obtain ⟨q0, -, f0, -⟩ := hB3.two
   rw [List.eraseIdx_set_eq, erase_rm HS.out.2.2.2.2.1 HS.out.2.2.2.2.2.1] at hv3
   rw [List.eraseIdx_set_eq, erase_rm HS.out.2.2.2.2.1 HS.out.2.2.2.2.2.1]
   have hb3 : Below n w w3 := HW2.out.2.2.trans (row_below HW2.out.1 (by have := HW2.out.2.1.lt; have := HS.out.2.2.1; omega) hg3)
   have H3 : Hid (ndsN.owns n w3 [.slice a3 (rm l p.1).length c3] (rm l p.1) ∧ Box w3 S 29 #[.slice (some ⟨g, 0, none⟩) L cap, .int .i64 nx] ∧ Below n w w3) := ⟨hv3, hB3, hb3⟩
   generalize (rm l p.1).length = rl at H3 ⊢
   clear hv3 hB3 hb3 hg3 HDE hW2 d0 d2 c0 c2 hfz
   go_wp2
   go_end0
   refine HPo.out _ ?_ (H3.out.2.2.setCell (p := ⟨S, 0, none⟩) HS.out.2.2.1 _)
   rw [if_pos HZ.out]
   exact MS.put H3.out.2.1 H3.out.1
 · have hz0 : pk - 1 ≠ 0 := by omega
   have HZ : Hid (pk ≠ 1) := hz
   clear hz
   go_wp2
   rw [← hW2]
   go_end0
   refine HPo.out _ ?_ HW2.out.2.2
   rw [if_neg HZ.out, ← set_ch HS.out.2.2.2.2.1 HS.out.2.2.2.2.2.1]
   exact ⟨_, HW2.out.2.1, HW2.out.1⟩
end Go.Proofs.YtopcefhncildnaaGreatDoor
namespace Go.Proofs.YtopcefhncildnaaGreatDoor
open Go.RowKit
open D (there ins del)
open P (ArgT)
def tgt (s : St) (xs : List ByteArray) : Nd := gt s.1 (wlk s.1 1 xs).1
def hold (s : St) (xs : List ByteArray) : Nd := gt s.1 (wlk s.1 1 (ahd xs)).1
theorem Wk.lead {s : St} (hK : Wk s) {xs : List ByteArray} (h : (wlk s.1 1 xs).2 = 0) : tgt s xs ∈ s.1 ∧ (wlk s.1 1 xs).1 = (tgt s xs).1 ∧ Wlk s.1 1 xs (tgt s xs).1 := by
 obtain ⟨n, hn, h1, h2, h3⟩ := wlk_in hK h
 unfold tgt
 rw [h2]
 exact ⟨hn, h1.symm, h3⟩
theorem Wk.stands {s : St} (hK : Wk s) {xs : List ByteArray} (hne : xs ≠ []) (h : (wlk s.1 1 xs).2 = 0) : hold s xs ∈ s.1 ∧ wlk s.1 1 (ahd xs) = ((hold s xs).1, 0) ∧ isD (hold s xs) = true ∧ (lst xs, (tgt s xs).1) ∈ en (hold s xs) ∧ there (en (hold s xs)) (lst xs) = true := by
 obtain ⟨h1, h2, h3⟩ := hK.lead h
 rw [ahd_lst hne, wlk_snoc] at h3
 obtain ⟨q, hq, h4, h5, h6⟩ := h3
 rw [← ahd_lst hne] at h6
 have h7 := (wlk_root hK).2 h4
 have h8 : hold s xs = q := by unfold hold; rw [h7.2]; exact gt_of hK.up hq
 rw [h8]
 refine ⟨hq, Prod.ext h7.2 h7.1, h5, h6, ?_⟩
 unfold there
 rw [List.any_eq_true]
 exact ⟨_, h6, by simp⟩
theorem ok_lks {s : St} (h : Ok s) {xs : List ByteArray} (hne : xs ≠ []) (he : (wlk s.1 1 xs).2 = 0) : 1 ≤ lk (tgt s xs) ∧ lk (tgt s xs) ≤ 16 := by
 obtain ⟨h1, h2, h3⟩ := h.wk.lead he
 obtain ⟨q1, q2, q3, q4, q5⟩ := h.wk.stands hne he
 have hn := h.named q1 q4
 simp only at hn
 obtain ⟨_, _, a3, a4⟩ := h.lk _ h1
 cases hd : isD (tgt s xs)
 · exact a4 hn hd
 · have := a3 hn hd; omega
theorem remove_any (n S : Nat) (s : St) (hOk : Ok s) (av : Option Addr) (cv : Nat) (xs : List ByteArray) (hne : xs ≠ []) (he : (wlk s.1 1 xs).2 = 0) (w : World) (hM : MS n w S s) (hnS : n ≤ S) (hX : Stay n w (.slice av xs.length cv) xs) :
   Calls Tryz.prog 160 #[.pointer (some ⟨S, 0, none⟩), .slice av xs.length cv, .int .i64 (tgt s xs).1] w fun e w' => e = .returned (.tuple #[]) ∧ MS n w' S (dropN s (hold s xs) (lst xs) (tgt s xs)) ∧ Below n w w' := by
 obtain ⟨p1, p2, p3⟩ := hOk.wk.lead he
 obtain ⟨q1, q2, q3, q4, q5⟩ := hOk.wk.stands hne he
 obtain ⟨h1, h16⟩ := ok_lks hOk hne he
 obtain ⟨kq, hkq⟩ := List.getElem?_of_mem q1
 obtain ⟨kp, hkp⟩ := List.getElem?_of_mem p1
 obtain ⟨v, hB, hO⟩ := hM
 obtain ⟨a, c, rfl⟩ := own_len hO
 have hnw : n ≤ w.heap.size := by have := hB.lt; omega
 have HST := strike_any n 0 _ s hOk.wk kq _ hkq av cv xs hne q2 q3 q5 w hO hX.at
 have HDR : Hid (∀ W, MS n W S (ch s.1 (hold s xs).1 (wE (del (en (hold s xs)) (lst xs))), s.2) → Calls Tryz.prog 224 #[.pointer (some ⟨S, 0, none⟩), .int .i64 (tgt s xs).1] W fun e w' => e = .returned (.tuple #[]) ∧ MS n w' S (dropN s (hold s xs) (lst xs) (tgt s xs)) ∧ Below n W w') := fun W hW => by (
 have hU := ups_ch (i := (hold s xs).1) (f := wE (del (en (hold s xs)) (lst xs))) (fun _ => rfl) hOk.wk.up
 have hk : (ch s.1 (hold s xs).1 (wE (del (en (hold s xs)) (lst xs))))[kp]? = some (if (tgt s xs).1 = (hold s xs).1 then wE (del (en (hold s xs)) (lst xs)) (tgt s xs) else tgt s xs) := by (
 unfold ch
 rw [List.getElem?_map, hkp]
 rfl)
 have h1' : ∀ (b : Prop) [Decidable b], lk (if b then wE (del (en (hold s xs)) (lst xs)) (tgt s xs) else tgt s xs) = lk (tgt s xs) ∧ (if b then wE (del (en (hold s xs)) (lst xs)) (tgt s xs) else tgt s xs).1 = (tgt s xs).1 := fun b _ => by split <;> exact ⟨rfl, rfl⟩
 have h2 := h1' ((tgt s xs).1 = (hold s xs).1)
 have := drop_any n S (ch s.1 (hold s xs).1 (wE (del (en (hold s xs)) (lst xs))), s.2) hU (by simp only [ch_length]; exact hOk.wk.len) kp _ hk (by rw [h2.1]; exact h1) (by rw [h2.1]; exact h16) W hW hnS
 rw [h2.1, h2.2] at this
 exact this)
 have HS : Hid (Box w S 29 #[.slice a s.1.length c, .int .i64 s.2] ∧ ndsN.owns n w [.slice a s.1.length c] s.1 ∧ n ≤ w.heap.size) := ⟨hB, hO, hnw⟩
 obtain ⟨l, nx⟩ := s
 simp only at HST HS hB ⊢
 obtain ⟨g0, g1, -, -⟩ := hB.two
 obtain ⟨L, hL⟩ := exa (l.length)
 obtain ⟨m, hm⟩ := exa (xs.length)
 obtain ⟨pi, hpi⟩ := exa ((tgt (l, nx) xs).1)
 rw [← hL] at HST HS g0
 rw [← hm] at HST ⊢
 rw [← hpi] at HDR ⊢
 generalize dropN (l, nx) (hold (l, nx) xs) (lst xs) (tgt (l, nx) xs) = s' at HDR ⊢
 generalize ch l (hold (l, nx) xs).1 (wE (del (en (hold (l, nx) xs)) (lst xs))) = l1 at HDR HST
 clear hB hO hX hL hm hpi hOk p1 p2 p3 q1 q2 q3 q4 q5 hkq hkp he hne
 go_enter Tryz.func160, Tryz.ntmps160
 go_wp2_with fail
 refine HST.mono ?_
 rintro e1 w1 ⟨rfl, hg1, hO1⟩
 have hM1 : MS n w1 S (l1, nx) := MS.turned HS.out.1 HS.out.2.1 hg1 hO1
 have HB1 : Hid (Below n w w1) := row_below HS.out.2.1 HS.out.2.2 hg1
 have HCD := HDR.out w1 hM1
 clear hg1 hO1 hM1 HST g0 g1
 go_wp2_with fail
 refine HCD.mono ?_
 rintro e2 w2 ⟨rfl, hM2, hb2⟩
 have HF : Hid (MS n w2 S s' ∧ Below n w w2) := ⟨hM2, HB1.out.trans hb2⟩
 clear hM2 hb2 HCD
 go_wp2
 go_end0
 exact ⟨rfl, HF.out⟩
theorem fil_zero {s : St} {xs : List ByteArray} (h : filE s.1 xs = 0) : (wlk s.1 1 xs).2 = 0 ∧ isD (tgt s xs) = false := by
 unfold filE at h
 split at h
 · rename_i h0
   refine ⟨h0, ?_⟩
   split at h
   · omega
   · rename_i h1; unfold tgt; simpa using h1
 · rename_i h0; exact absurd h h0
theorem dir_zero {s : St} {xs : List ByteArray} (h : dirE s.1 xs = 0) : (wlk s.1 1 xs).2 = 0 ∧ isD (tgt s xs) = true := by
 unfold dirE at h
 split at h
 · rename_i h0
   refine ⟨h0, ?_⟩
   split at h
   · omega
   · rename_i h1; unfold tgt; simpa using h1
 · rename_i h0; exact absurd h h0
theorem Wk.root {s : St} (hK : Wk s) : isD (tgt s []) = true := by
 obtain ⟨t, ht, h1, h2⟩ := hK.top
 have : tgt s [] = t := by unfold tgt; rw [show (wlk s.1 1 []).1 = 1 from rfl, ← h1]; exact gt_of hK.up ht
 rw [this]; exact h2
theorem Wk.file_ne {s : St} (hK : Wk s) {xs : List ByteArray} (h : isD (tgt s xs) = false) : xs ≠ [] := fun e => by
 rw [e, hK.root] at h
 cases h
theorem found_is {n : Nat} {w : World} {v : Value} {l : List Nd} (h : ndsN.owns n w [v] l) {k : Nat} {p : Nd} (hp : l[k]? = some p) {b o : Nat} (hix : ∀ W, (Instr.indexAt 27 v (.int .i64 (k : Nat))).run Tryz.prog W = .ok (.pointer (some ⟨b, o, none⟩)) W) :
   ∃ e f, o = k * 6 ∧ n ≤ b ∧ b < w.heap.size ∧ v.ownBlock = some b ∧ ∀ W, Below w.heap.size w W → Puts n v l k p b e f W := by
 obtain ⟨g, cap, e, f, hv, h1, h2, h3, h4⟩ := nds_own_at h k p hp
 have := (h3 w).symm.trans (hix w)
 simp only [Result.ok.injEq, Value.pointer.injEq, Option.some.injEq, Addr.mk.injEq, and_true] at this
 obtain ⟨rfl, rfl⟩ := this
 exact ⟨e, f, rfl, h1, h2, by rw [hv]; rfl, h4⟩
theorem unlink_any (n S : Nat) (s : St) (hOk : Ok s) (av : Option Addr) (cv : Nat) (xs : List ByteArray) (w : World) (hM : MS n w S s) (hnS : n ≤ S) (hX : Stay n w (.slice av xs.length cv) xs) :
   Calls Tryz.prog 92 #[.pointer (some ⟨S, 0, none⟩), .slice av xs.length cv] w fun e w' => (∃ E, e = .returned E ∧ EV (filE s.1 xs) E) ∧ Below n w w' ∧ (filE s.1 xs = 0 → MS n w' S (dropN s (hold s xs) (lst xs) (tgt s xs))) := by
 obtain ⟨v, hB, hO⟩ := hM
 obtain ⟨a, c, rfl⟩ := own_len hO
 have hnw : n ≤ w.heap.size := by have := hB.lt; omega
 have HFF := findFile_any n 0 a c s hOk.wk av cv xs w (ndsN.olies hO) hX.at
 have HRM : Hid (filE s.1 xs = 0 → ∀ W, Below n w W → MS n W S s → Calls Tryz.prog 160 #[.pointer (some ⟨S, 0, none⟩), .slice av xs.length cv, .int .i64 (tgt s xs).1] W fun e w' => e = .returned (.tuple #[]) ∧ MS n w' S (dropN s (hold s xs) (lst xs) (tgt s xs)) ∧ Below n W w') := fun h0 W hbW hW =>
   remove_any n S s hOk av cv xs (hOk.wk.file_ne (fil_zero h0).2) (fil_zero h0).1 W hW hnS (hX.below hbW)
 have HTG : Hid (filE s.1 xs = 0 → (wlk s.1 1 xs).1 = (tgt s xs).1) := fun h0 => (hOk.wk.lead (fil_zero h0).1).2.1
 have HS : Hid (Box w S 29 #[.slice a s.1.length c, .int .i64 s.2] ∧ ndsN.owns n w [.slice a s.1.length c] s.1 ∧ n ≤ w.heap.size) := ⟨hB, hO, hnw⟩
 obtain ⟨post, hpost⟩ : ∃ post : Ending → World → Prop, post = fun e w' => (∃ E, e = .returned E ∧ EV (filE s.1 xs) E) ∧ Below n w w' ∧ (filE s.1 xs = 0 → MS n w' S (dropN s (hold s xs) (lst xs) (tgt s xs))) := ⟨_, rfl⟩
 have HPo : Hid (∀ E w', EV (filE s.1 xs) E → Below n w w' → (filE s.1 xs = 0 → MS n w' S (dropN s (hold s xs) (lst xs) (tgt s xs))) → post (.returned E) w') := fun E w' h1 h2 h3 => by rw [hpost]; exact ⟨⟨E, rfl, h1⟩, h2, h3⟩
 rw [← hpost]
 obtain ⟨l, nx⟩ := s
 simp only at HFF HS hB HTG HPo HRM
 obtain ⟨g0, g1, -, -⟩ := hB.two
 obtain ⟨L, hL⟩ := exa (l.length)
 obtain ⟨m, hm⟩ := exa (xs.length)
 rw [← hL] at HFF HS g0
 rw [← hm] at HFF HRM ⊢
 generalize dropN (l, nx) (hold (l, nx) xs) (lst xs) (tgt (l, nx) xs) = s' at HRM HPo
 generalize tgt (l, nx) xs = T at HRM HTG
 generalize (wlk l 1 xs).1 = wi at HFF HTG
 generalize filE l xs = fe at HFF HTG HRM HPo
 clear hB hO hX hL hm hpost hOk
 go_enter Tryz.func92, Tryz.ntmps92
 go_wp2_with fail
 refine HFF.mono ?_
 rintro e1 w1 ⟨hr, hb1⟩
 have HB1 : Hid (Below w.heap.size w w1) := hb1
 rcases hr with ⟨hne, E, rfl, hE⟩ | ⟨h0, k, p, b, o, hk, hpw, hix, rfl⟩
 · obtain ⟨a2, l2, c2, s2, rfl⟩ : ∃ a2 l2 c2 s2, E = refV (.slice a2 l2 c2) fe s2 := by
     rcases hE with ⟨h, _⟩ | ⟨_, a2, l2, c2, s2, h⟩
     · exact absurd h hne
     · exact ⟨a2, l2, c2, s2, h⟩
   have HN : Hid (fe ≠ 0) := hne
   clear hne hE hb1 HFF g0 g1
   go_wp2
   exact HPo.out _ _ (ev_ref HN.out _ _ _ _) (HB1.out.mono HS.out.2.2) (fun h => absurd h HN.out)
 · subst h0
   obtain ⟨e', f', rfl, hnb, hbw, -, hPu⟩ := found_is HS.out.2.1 hk hix
   have hP := hPu w1 hb1
   obtain ⟨c0, -, -, -, -, -⟩ := nv_cells hP.1
   rw [hpw, HTG.out rfl] at c0
   have HCR := HRM.out rfl w1 (hb1.mono HS.out.2.2) ⟨_, HS.out.1.below hb1 HS.out.1.lt, ndsN.obelow HS.out.2.1 hb1⟩
   generalize T.1 = ti at c0 HCR
   clear hP hPu hnb hbw hk hpw hix hb1 HFF g0 g1
   go_wp2_with fail
   refine HCR.mono ?_
   rintro e2 w2 ⟨rfl, hM2, hb2⟩
   have HF : Hid (MS n w2 S s' ∧ Below n w w2) := ⟨hM2, (HB1.out.mono HS.out.2.2).trans hb2⟩
   clear hM2 hb2 HCR c0
   go_wp2
   exact HPo.out _ _ ev_nil HF.out.2 (fun _ => HF.out.1)
def rmE (s : St) (xs : List ByteArray) : Int := if xs = [] then 108 else if dirE s.1 xs ≠ 0 then dirE s.1 xs else if (en (tgt s xs)).length = 0 then 0 else 105
theorem rmdir_any (n S : Nat) (s : St) (hOk : Ok s) (av : Option Addr) (cv : Nat) (xs : List ByteArray) (w : World) (hM : MS n w S s) (hnS : n ≤ S) (hX : Stay n w (.slice av xs.length cv) xs) :
   Calls Tryz.prog 94 #[.pointer (some ⟨S, 0, none⟩), .slice av xs.length cv] w fun e w' => (∃ E, e = .returned E ∧ EV (rmE s xs) E) ∧ Below n w w' ∧ (rmE s xs = 0 → MS n w' S (dropN s (hold s xs) (lst xs) (tgt s xs))) := by
 obtain ⟨v, hB, hO⟩ := hM
 obtain ⟨a, c, rfl⟩ := own_len hO
 have hnw : n ≤ w.heap.size := by have := hB.lt; omega
 have hl1 := run_len Tryz.underlying57 av xs.length cv
 have HFF := findDir_any n 0 a c s hOk.wk av cv xs w (ndsN.olies hO) hX.at
 have HRM : Hid (xs ≠ [] → dirE s.1 xs = 0 → ∀ W, Below n w W → MS n W S s → Calls Tryz.prog 160 #[.pointer (some ⟨S, 0, none⟩), .slice av xs.length cv, .int .i64 (tgt s xs).1] W fun e w' => e = .returned (.tuple #[]) ∧ MS n w' S (dropN s (hold s xs) (lst xs) (tgt s xs)) ∧ Below n W w') := fun hne h0 W hbW hW =>
   remove_any n S s hOk av cv xs hne (dir_zero h0).1 W hW hnS (hX.below hbW)
 have HTG : Hid (dirE s.1 xs = 0 → (wlk s.1 1 xs).1 = (tgt s xs).1 ∧ ∀ p ∈ s.1, p.1 = (tgt s xs).1 → p = tgt s xs) := fun h0 => ⟨(hOk.wk.lead (dir_zero h0).1).2.1, fun p hp he => by
   have h1 := gt_of hOk.wk.up hp
   have h2 := gt_of hOk.wk.up (hOk.wk.lead (dir_zero h0).1).1
   rw [← h1, he, h2]⟩
 have HS : Hid (Box w S 29 #[.slice a s.1.length c, .int .i64 s.2] ∧ ndsN.owns n w [.slice a s.1.length c] s.1 ∧ n ≤ w.heap.size) := ⟨hB, hO, hnw⟩
 have HRE : Hid (rmE s xs = if xs = [] then 108 else if dirE s.1 xs ≠ 0 then dirE s.1 xs else if (en (tgt s xs)).length = 0 then 0 else 105) := rfl
 obtain ⟨post, hpost⟩ : ∃ post : Ending → World → Prop, post = fun e w' => (∃ E, e = .returned E ∧ EV (rmE s xs) E) ∧ Below n w w' ∧ (rmE s xs = 0 → MS n w' S (dropN s (hold s xs) (lst xs) (tgt s xs))) := ⟨_, rfl⟩
 have HPo : Hid (∀ E w', EV (rmE s xs) E → Below n w w' → (rmE s xs = 0 → MS n w' S (dropN s (hold s xs) (lst xs) (tgt s xs))) → post (.returned E) w') := fun E w' h1 h2 h3 => by rw [hpost]; exact ⟨⟨E, rfl, h1⟩, h2, h3⟩
 rw [← hpost]
 generalize rmE s xs = re at HRE HPo
 obtain ⟨l, nx⟩ := s
 simp only at HFF HS hB HTG HPo HRM HRE
 obtain ⟨g0, g1, -, -⟩ := hB.two
 obtain ⟨L, hL⟩ := exa (l.length)
 obtain ⟨m, hm⟩ := exa (xs.length)
 have HME : Hid (m = 0 ↔ xs = []) := by rw [hm]; exact List.length_eq_zero_iff
 rw [← hL] at HFF HS g0
 rw [← hm] at HFF HRM hl1 ⊢
 generalize dropN (l, nx) (hold (l, nx) xs) (lst xs) (tgt (l, nx) xs) = s' at HRM HPo
 generalize tgt (l, nx) xs = T at HRM HTG HRE
 generalize (wlk l 1 xs).1 = wi at HFF HTG
 generalize dirE l xs = fe at HFF HTG HRM HRE
 clear hB hO hX hL hm hpost hOk
 by_cases hz : m = 0
 · have hre : re = 108 := by rw [HRE.out, if_pos (HME.out.1 hz)]
   subst hre
   subst hz
   have hr := refuse_bad 108 (by decide) av 0 cv w
   clear HFF
   go_enter Tryz.func94, Tryz.ntmps94
   go_wp2_with (go_at_call 90; refine hr.mono ?_; rintro e1 w1 ⟨rfl, rfl⟩)
   exact HPo.out _ _ (ev_ref (by decide) _ _ _ _) (Below.refl _ _) (fun h => by omega)
 have HXN : Hid (xs ≠ []) := fun h => hz (HME.out.2 h)
 rw [if_neg HXN.out] at HRE
 go_enter Tryz.func94, Tryz.ntmps94
 go_wp2_with fail
 refine HFF.mono ?_
 rintro e1 w1 ⟨hr, hb1⟩
 have HB1 : Hid (Below w.heap.size w w1) := hb1
 rcases hr with ⟨hne, E, rfl, hE⟩ | ⟨h0, k, p, b, o, hk, hpw, hix, rfl⟩
 · obtain ⟨a2, l2, c2, s2, rfl⟩ : ∃ a2 l2 c2 s2, E = refV (.slice a2 l2 c2) fe s2 := by
     rcases hE with ⟨h, _⟩ | ⟨_, a2, l2, c2, s2, h⟩
     · exact absurd h hne
     · exact ⟨a2, l2, c2, s2, h⟩
   have HN : Hid (fe ≠ 0 ∧ re = fe) := ⟨hne, by rw [HRE.out, if_pos hne]⟩
   clear hne hE hb1 HFF g0 g1
   go_wp2
   exact HPo.out _ _ (by rw [HN.out.2]; exact ev_ref HN.out.1 _ _ _ _) (HB1.out.mono HS.out.2.2) (fun h => absurd (HN.out.2.symm.trans h) HN.out.1)
 · subst h0
   obtain ⟨e', f', rfl, hnb, hbw, -, hPu⟩ := found_is HS.out.2.1 hk hix
   have hP := hPu w1 hb1
   obtain ⟨ea, ec, rfl⟩ := hP.2.2.1.1.shape
   obtain ⟨c0, -, -, c3, -, -⟩ := nv_cells hP.1
   have hpT : p = T := (HTG.out rfl).2 p (List.mem_of_getElem? hk) (hpw.trans (HTG.out rfl).1)
   rw [hpT] at c0 c3
   have hl2 := run_len Tryz.underlying42 ea (en T).length ec
   have HCR := HRM.out HXN.out rfl w1 (hb1.mono HS.out.2.2) ⟨_, HS.out.1.below hb1 HS.out.1.lt, ndsN.obelow HS.out.2.1 hb1⟩
   rw [if_neg (by decide)] at HRE
   generalize (en T).length = tl at c3 HRE hl2
   generalize T.1 = ti at c0 HCR
   clear hP hPu hnb hbw hk hpw hix hb1 HFF g0 g1 hpT
   by_cases ht : tl = 0
   · have hre : re = 0 := by rw [HRE.out, if_pos ht]
     subst hre
     subst ht
     go_wp2_with fail
     refine HCR.mono ?_
     rintro e2 w2 ⟨rfl, hM2, hb2⟩
     have HF : Hid (MS n w2 S s' ∧ Below n w w2) := ⟨hM2, (HB1.out.mono HS.out.2.2).trans hb2⟩
     clear hM2 hb2 HCR c0 c3
     go_wp2
     exact HPo.out _ _ ev_nil HF.out.2 (fun _ => HF.out.1)
   · have hre : re = 105 := by rw [HRE.out, if_neg ht]
     subst hre
     have htp : (0 : Int) < (tl : Int) := by omega
     have hr := refuse_bad 105 (by decide) av m cv w1
     clear HCR
     go_wp2_with fail
     refine hr.mono ?_
     rintro e2 w2 ⟨rfl, rfl⟩
     go_wp2
     exact HPo.out _ _ (ev_ref (by decide) _ _ _ _) (HB1.out.mono HS.out.2.2) (fun h => by omega)
end Go.Proofs.YtopcefhncildnaaGreatDoor
namespace Go.Proofs.YtopcefhncildnaaGreatDoor
open Go.RowKit
open D (there ins del aerr)
open P (ArgT)
def vacE (l : List Nd) (xs : List ByteArray) : Int := if xs = [] then 102 else if stdE l xs ≠ 0 then stdE l xs else if stdT l xs ≠ 0 then 102 else 0
theorem vacant_any (n0 n1 : Nat) (a : Option Addr) (c : Nat) (s : St) (hK : Wk s) (av : Option Addr) (cv : Nat) (xs : List ByteArray) (hok : xs ≠ [] → (lst xs).data.toList ≠ []) (w : World) (hA : ndsN.lies n0 w [.slice a s.1.length c] s.1) (hX : ArgT n1 w (.slice av xs.length cv) xs) :
   Calls Tryz.prog 109 #[.agg #[.slice a s.1.length c, .int .i64 s.2], .slice av xs.length cv] w fun e w' => (∃ i E, e = .returned (.tuple #[.int .i64 i, E]) ∧ EV (vacE s.1 xs) E ∧ (vacE s.1 xs = 0 → i = stdI s.1 xs)) ∧ Below w.heap.size w w' := by
 obtain ⟨l, nx⟩ := s
 simp only at hA ⊢
 obtain ⟨W, hW⟩ := exa (w.alloc (.cells #[.slice a l.length c, .int .i64 nx] 29))
 have hbW : Below w.heap.size w W := by rw [hW]; exact (Below.refl _ w).alloc (Nat.le_refl _) _
 have hBS : Box W w.heap.size 29 #[.slice a l.length c, .int .i64 nx] := by rw [hW]; exact Box.new _ _ _
 have HSD : Hid (xs ≠ [] → Calls Tryz.prog 174 #[.agg #[.slice a l.length c, .int .i64 nx], .slice av xs.length cv] W fun e w' => (∃ E, e = .returned (.tuple #[.int .i64 (stdI l xs), .int .i64 (stdT l xs), E]) ∧ EV (stdE l xs) E) ∧ Below W.heap.size W w') := fun hne => stand_any n0 n1 a c (l, nx) hK av cv xs hne (hok hne) W (ndsN.below hA hbW) (hX.below hbW)
 have HWW : Hid (Below w.heap.size w W) := hbW
 have hl1 := run_len Tryz.underlying57 av xs.length cv
 have HVE : Hid (vacE l xs = if xs = [] then 102 else if stdE l xs ≠ 0 then stdE l xs else if stdT l xs ≠ 0 then 102 else 0) := rfl
 obtain ⟨post, hpost⟩ : ∃ post : Ending → World → Prop, post = fun e w' => (∃ i E, e = .returned (.tuple #[.int .i64 i, E]) ∧ EV (vacE l xs) E ∧ (vacE l xs = 0 → i = stdI l xs)) ∧ Below w.heap.size w w' := ⟨_, rfl⟩
 have HPo : Hid (∀ i E w', EV (vacE l xs) E → (vacE l xs = 0 → i = stdI l xs) → Below w.heap.size w w' → post (.returned (.tuple #[.int .i64 i, E])) w') := fun i E w' h1 h2 h3 => by rw [hpost]; exact ⟨⟨i, E, rfl, h1, h2⟩, h3⟩
 rw [← hpost]
 generalize vacE l xs = ve at HVE HPo
 generalize stdI l xs = si at HSD HPo
 generalize stdE l xs = se at HSD HVE
 generalize stdT l xs = st at HSD HVE
 obtain ⟨g0, g1, -, -⟩ := hBS.two
 obtain ⟨L, hL⟩ := exa (l.length)
 obtain ⟨m, hm⟩ := exa (xs.length)
 have HME : Hid (m = 0 ↔ xs = []) := by rw [hm]; exact List.length_eq_zero_iff
 rw [← hL] at HSD hW g0 ⊢
 rw [← hm] at HSD hl1 ⊢
 rw [hW] at g0 g1
 clear hA hX hbW hBS hpost hok hK hL hm
 by_cases hz : m = 0
 · have hre : ve = 102 := by rw [HVE.out, if_pos (HME.out.1 hz)]
   subst hre
   subst hz
   have hr := refuse_bad 102 (by decide) av 0 cv W
   clear HSD
   go_enter Tryz.func109, Tryz.ntmps109
   go_wp2_with (go_at_call 90; rw [← hW]; refine hr.mono ?_; rintro e1 w1 ⟨rfl, rfl⟩)
   exact HPo.out _ _ _ (ev_ref (by decide) _ _ _ _) (fun h => by omega) (by rw [← hW]; exact HWW.out)
 have HXN : Hid (xs ≠ []) := fun h => hz (HME.out.2 h)
 rw [if_neg HXN.out] at HVE
 have HCS := HSD.out HXN.out
 go_enter Tryz.func109, Tryz.ntmps109
 go_wp2_with fail
 rw [← hW]
 clear hW g0 g1
 refine HCS.mono ?_
 rintro e1 w1 ⟨⟨E, rfl, hE⟩, hb1⟩
 have HB1 : Hid (Below w.heap.size w w1) := below_any HWW.out hb1
 clear hb1 HCS HSD
 rcases hE with ⟨rfl, rfl⟩ | ⟨hne, a2, l2, c2, s2, rfl⟩
 · rw [if_neg (by decide)] at HVE
   by_cases ht : st = 0
   · have hre : ve = 0 := by rw [HVE.out, if_neg (by rw [ht]; decide)]
     subst hre
     subst ht
     go_wp2
     exact HPo.out _ _ _ ev_nil (fun _ => rfl) HB1.out
   · have hre : ve = 102 := by rw [HVE.out, if_pos ht]
     subst hre
     have hr := refuse_bad 102 (by decide) av m cv w1
     go_wp2_with fail
     refine hr.mono ?_
     rintro e2 w2 ⟨rfl, rfl⟩
     go_wp2
     exact HPo.out _ _ _ (ev_ref (by decide) _ _ _ _) (fun h => by omega) HB1.out
 · have HN : Hid (se ≠ 0 ∧ ve = se) := ⟨hne, by rw [HVE.out, if_pos hne]⟩
   clear hne
   go_wp2
   exact HPo.out _ _ _ (by rw [HN.out.2]; exact ev_ref HN.out.1 _ _ _ _) (fun h => absurd (HN.out.2.symm.trans h) HN.out.1) HB1.out
def newN (i : Int) (b : Bool) : Nd := (i, b, 1, [], (0, []))
def mkE (s : St) (xs : List ByteArray) : Int := if vacE s.1 xs ≠ 0 then vacE s.1 xs else if s.1.length = 128 ∨ s.2 = 2147483647 then 109 else aerr (en (hold s xs)) (lst xs, s.2)
theorem vac_zero {s : St} (hK : Wk s) {xs : List ByteArray} (h : vacE s.1 xs = 0) : xs ≠ [] ∧ (wlk s.1 1 (ahd xs)).2 = 0 ∧ hold s xs ∈ s.1 ∧ stdI s.1 xs = (hold s xs).1 ∧ isD (hold s xs) = true ∧ there (en (hold s xs)) (lst xs) = false := by
 unfold vacE at h
 split at h
 · omega
 rename_i hne
 split at h
 · rename_i h1; exact absurd h h1
 rename_i h1
 split at h
 · omega
 rename_i h2
 have hE : stdE s.1 xs = 0 := Decidable.not_not.1 h1
 have hT : stdT s.1 xs = 0 := Decidable.not_not.1 h2
 have hE0 := hE
 unfold stdE at hE
 split at hE
 case isFalse h3 => exact absurd hE h3
 rename_i h3
 split at hE
 case isFalse => omega
 rename_i h4
 obtain ⟨n, hn, e1, e2, e3⟩ := wlk_in hK h3
 have hh : hold s xs = n := e2
 refine ⟨hne, h3, by rw [hh]; exact hn, ?_, h4, ?_⟩
 · unfold stdI; rw [if_pos hE0, hh]; exact e1.symm
 · unfold stdT at hT
   rw [if_pos hE0] at hT
   cases ht : there (en (hold s xs)) (lst xs) with
   | false => rfl
   | true => (
 exfalso
 have hd : isD (hold s xs) = true := h4
 have hc : entC (hold s xs) (lst xs) = 0 := hT
 unfold entC at hc
 rw [if_neg (by rw [hd]; decide), if_neg (by rw [ht]; decide)] at hc
 have hck := (hK.dirs _ (by rw [hh]; exact hn) hd).1
 unfold there at ht
 rw [List.any_eq_true] at ht
 obtain ⟨q, hq, hqe⟩ := ht
 have hqe : q.1 = lst xs := by simpa using hqe
 have := D.fnd_mem (x := lst xs) (c := q.2) hck (by rw [← hqe]; exact hq)
 rw [hc] at this
 obtain ⟨i, hi⟩ := List.getElem?_of_mem hq
 have hgd := (D.good_at hck.2 hi).2
 simp only [D.inoOk, Bool.and_eq_true, decide_eq_true_eq] at hgd
 omega)
theorem makeNode_any (n S : Nat) (s : St) (hOk : Ok s) (av : Option Addr) (cv : Nat) (xs : List ByteArray) (hok : xs ≠ [] → (lst xs).data.toList ≠ []) (b : Bool) (w : World) (hM : MS n w S s) (hnS : n ≤ S) (hX : Stay n w (.slice av xs.length cv) xs) :
   Calls Tryz.prog 57 #[.pointer (some ⟨S, 0, none⟩), .slice av xs.length cv, .bool b] w fun e w' => (∃ E, e = .returned E ∧ EV (mkE s xs) E) ∧ Below n w w' ∧ (mkE s xs = 0 → MS n w' S (mkN s (hold s xs) (lst xs) b)) := by
 obtain ⟨v, hB, hO⟩ := hM
 obtain ⟨a, c, rfl⟩ := own_len hO
 have hnw : n ≤ w.heap.size := by have := hB.lt; omega
 have HVA := vacant_any n 0 a c s hOk.wk av cv xs hok w (ndsN.olies hO) hX.at
 have HS : Hid (Box w S 29 #[.slice a s.1.length c, .int .i64 s.2] ∧ ndsN.owns n w [.slice a s.1.length c] s.1 ∧ n ≤ w.heap.size ∧ n ≤ S) := ⟨hB, hO, hnw, hnS⟩
 have HEN : Hid (vacE s.1 xs = 0 → ∀ W v, Below n w W → ndsN.owns n W [v] (s.1 ++ [newN s.2 b]) → Calls Tryz.prog 110 #[.agg #[v, .int .i64 (s.2 + 1)], .int .i64 (stdI s.1 xs), .slice av xs.length cv, .int .i64 s.2] W fun e w' => (∃ E, e = .returned E ∧ EV (aerr (en (hold s xs)) (lst xs, s.2)) E) ∧ W.grownBy w' v.ownBlock ∧ (aerr (en (hold s xs)) (lst xs, s.2) = 0 → ndsN.owns n w' [v] (mkN s (hold s xs) (lst xs) b).1)) := fun h0 W v hbW hOW => by (
 obtain ⟨z1, z2, z3, z4, z5, z6⟩ := vac_zero hOk.wk h0
 obtain ⟨k, hk⟩ := List.getElem?_of_mem z3
 have hlow := hOk.wk.low _ z3
 have hU : Ups (s.1 ++ [newN s.2 b]) := List.pairwise_append.2 ⟨hOk.wk.up, List.pairwise_singleton _ _, fun q hq r hr => by rw [List.mem_singleton.1 hr]; exact (hOk.wk.low q hq).2⟩
 have hnx := hOk.wk.nx
 have := enlist_any n 0 v (s.1 ++ [newN s.2 b]) (s.2 + 1) hU (by have := hOk.wk.len; simp; omega) k (hold s xs) (by rw [List.getElem?_append_left (List.getElem?_eq_some_iff.1 hk).1]; exact hk) av cv xs z1 s.2 ⟨by omega, by omega⟩ W hOW (hX.below hbW).at
 rw [← z4] at this
 refine this.mono fun e w' h => ⟨h.1, h.2.1, fun h2 => ?_⟩
 have h3 := h.2.2.1 h2
 rw [z4] at h3
 have he : ch (s.1 ++ [newN s.2 b]) (hold s xs).1 (wE (ins (en (hold s xs)) (lst xs, s.2))) = (mkN s (hold s xs) (lst xs) b).1 := by (
 unfold mkN ch
 rw [List.map_append]
 simp only [List.map_cons, List.map_nil]
 rw [if_neg (by show s.2 ≠ _; omega)]
 rfl)
 rwa [he] at h3)
 have HRE : Hid (mkE s xs = (if vacE s.1 xs ≠ 0 then vacE s.1 xs else if s.1.length = 128 ∨ s.2 = 2147483647 then 109 else aerr (en (hold s xs)) (lst xs, s.2)) ∧ (mkN s (hold s xs) (lst xs) b).2 = s.2 + 1 ∧ 2 ≤ s.2 ∧ s.2 ≤ 2147483647 ∧ s.1.length ≤ 128) := ⟨rfl, rfl, hOk.wk.nx.1, hOk.wk.nx.2, hOk.wk.len⟩
 obtain ⟨post, hpost⟩ : ∃ post : Ending → World → Prop, post = fun e w' => (∃ E, e = .returned E ∧ EV (mkE s xs) E) ∧ Below n w w' ∧ (mkE s xs = 0 → MS n w' S (mkN s (hold s xs) (lst xs) b)) := ⟨_, rfl⟩
 have HPo : Hid (∀ E w', EV (mkE s xs) E → Below n w w' → (mkE s xs = 0 → MS n w' S (mkN s (hold s xs) (lst xs) b)) → post (.returned E) w') := fun E w' h1 h2 h3 => by rw [hpost]; exact ⟨⟨E, rfl, h1⟩, h2, h3⟩
 rw [← hpost]
 generalize mkE s xs = re at HRE HPo
 obtain ⟨l, nx⟩ := s
 simp only at HVA HS hB HPo HEN HRE
 obtain ⟨g0, g1, -, -⟩ := hB.two
 obtain ⟨L, hL⟩ := exa (l.length)
 obtain ⟨m, hm⟩ := exa (xs.length)
 have HLL : Hid (L = l.length) := hL
 rw [← hL] at HVA HS g0 HRE
 rw [← hm] at HVA HEN ⊢
 generalize mkN (l, nx) (hold (l, nx) xs) (lst xs) b = s' at HRE HPo HEN
 generalize aerr (en (hold (l, nx) xs)) (lst xs, nx) = ae at HRE HEN
 generalize stdI l xs = si at HVA HEN
 generalize vacE l xs = ve at HVA HRE HEN
 clear hB hO hX hL hm hpost hOk hok
 go_enter Tryz.func57, Tryz.ntmps57
 go_wp2_with fail
 refine HVA.mono ?_
 rintro e1 w1 ⟨⟨i1, E, rfl, hE, hi1⟩, hb1⟩
 have HB1 : Hid (Below w.heap.size w w1) := hb1
 have HBX1 : Hid (Box w1 S 29 #[.slice a L c, .int .i64 nx]) := HS.out.1.below hb1 HS.out.1.lt
 clear hb1 HVA g0 g1
 by_cases hv : ve = 0
 case neg => (
 obtain ⟨a2, l2, c2, s2, rfl⟩ : ∃ a2 l2 c2 s2, E = refV (.slice a2 l2 c2) ve s2 := by (
 rcases hE with ⟨h, _⟩ | ⟨_, a2, l2, c2, s2, h⟩
 · exact absurd h hv
 · exact ⟨a2, l2, c2, s2, h⟩)
 have HN : Hid (ve ≠ 0 ∧ re = ve) := ⟨hv, by rw [HRE.out.1, if_pos hv]⟩
 clear hv hE hi1
 go_wp2
 exact HPo.out _ _ (by rw [HN.out.2]; exact ev_ref HN.out.1 _ _ _ _) (HB1.out.mono HS.out.2.2.1) (fun h => absurd (HN.out.2.symm.trans h) HN.out.1))
 subst hv
 obtain rfl : E = .nilIface := by (
 rcases hE with ⟨_, h⟩ | ⟨h, _⟩
 · exact h
 · exact absurd rfl h)
 obtain rfl := hi1 rfl
 clear hE hi1
 obtain ⟨c0, c1, f0, f1⟩ := HBX1.out.two
 have hl2 := run_len Tryz.underlying27 a L c
 have HR2 : Hid (re = if L = 128 ∨ nx = 2147483647 then 109 else ae) := by (
 have := HRE.out.1
 rw [if_neg (by decide)] at this
 exact this)
 have hr := refuse_bad 109 (by decide) av m cv w1
 by_cases h128 : L = 128
 · have hre : re = 109 := by rw [HR2.out, if_pos (.inl h128)]
   subst hre
   have hLi : ((L : Nat) : Int) = 128 := by omega
   clear h128
   go_wp2_with fail
   refine hr.mono ?_
   rintro e2 w2 ⟨rfl, rfl⟩
   go_wp2
   exact HPo.out _ _ (ev_ref (by decide) _ _ _ _) (HB1.out.mono HS.out.2.2.1) (fun h => by omega)
 by_cases hmx : nx = 2147483647
 · have hre : re = 109 := by rw [HR2.out, if_pos (.inr hmx)]
   subst hre
   have hLi : ((L : Nat) : Int) ≠ 128 := by omega
   subst hmx
   go_wp2_with fail
   refine hr.mono ?_
   rintro e2 w2 ⟨rfl, rfl⟩
   go_wp2
   exact HPo.out _ _ (ev_ref (by decide) _ _ _ _) (HB1.out.mono HS.out.2.2.1) (fun h => by omega)
 have hre : re = ae := by rw [HR2.out, if_neg (by omega)]
 subst hre
 have hLi : ((L : Nat) : Int) ≠ 128 := by omega
 have hL128 : L < 128 := by have := HRE.out.2.2.2.2; omega
 have hnx : 2 ≤ nx ∧ nx < 2147483647 := by have := HRE.out.2.2.1; have := HRE.out.2.2.2.1; omega
 have e1 : (((L : Nat) : Int) == 128) = false := by simpa using hLi
 have e2 : (nx == 2147483647) = false := by simpa using hmx
 clear hr hLi hmx h128
 obtain ⟨i3, hi3, hz30, hz31, hz32⟩ := info_parts Tryz.info47
 have hOw := ndsN.obelow HS.out.2.1 HB1.out
 obtain ⟨v', vss, hve, hown0, hEE⟩ := hOw
 obtain rfl : Value.slice a L c = v' := by simpa using hve
 rw [← HLL.out] at hown0
 have HO1 : Hid (w1.ownsRow n 47 6 (.slice a L c) L vss.flatten ∧ Each (ndN.owns n w1) vss l ∧ n ≤ w1.heap.size ∧ ndsN.owns n w1 [.slice a L c] l) := ⟨hown0, hEE, Nat.le_trans HS.out.2.2.1 HB1.out.size, ndsN.obelow HS.out.2.1 HB1.out⟩
 clear hve hown0 hEE
 go_wp2
 refine AnyBut.begin (fun W => W.cell? ⟨S, 0, none⟩ = some (.slice a L c) ∧ W.cell? ⟨S, 1, none⟩ = some (.int .i64 nx)) 15 (by kernel_rfl) ?_
 have hSS : w1.drew.cell? ⟨S, 0, none⟩ = some (.slice a L c) ∧ w1.drew.cell? ⟨S, 1, none⟩ = some (.int .i64 nx) := ⟨c0, c1⟩
 refine AnyBut.take (i := 0) (some 35) (v := ?_) rfl rfl (by kernel_rfl) rfl (by kernel_rfl) (by kernel_rfl) (by kernel_rfl) (fun _ _ _ h => h) (.inl ⟨by rfl, ?_⟩) hSS ?_
 rotate_left
 · (intro W hSW; (try dsimp only at hSW); go_simp; try with_reducible rfl)
 simp only [Act.put, List.setIfInBounds_toArray, List.set_cons_zero, List.set_cons_succ]
 refine AnyBut.take (i := 1) (some 36) (v := ?_) rfl rfl (by kernel_rfl) rfl (by kernel_rfl) (by kernel_rfl) (by kernel_rfl) (fun _ _ _ h => h) (.inl ⟨by rfl, ?_⟩) hSS ?_
 rotate_left
 · (intro W hSW; (try dsimp only at hSW); go_simp; try with_reducible rfl)
 simp only [Act.put, List.setIfInBounds_toArray, List.set_cons_zero, List.set_cons_succ]
 refine AnyBut.take (i := 2) (some 37) (v := ?_) rfl rfl (by kernel_rfl) rfl (by kernel_rfl) (by kernel_rfl) (by kernel_rfl) (fun _ _ _ h => h) (.inl ⟨by rfl, ?_⟩) hSS ?_
 rotate_left
 · (intro W hSW; (try dsimp only at hSW); go_simp; try with_reducible rfl)
 simp only [Act.put, List.setIfInBounds_toArray, List.set_cons_zero, List.set_cons_succ]
 refine AnyBut.take (i := 3) (some 38) (v := ?_) rfl rfl (by kernel_rfl) rfl (by kernel_rfl) (by kernel_rfl) (by kernel_rfl) (fun _ _ _ h => h) (.inl ⟨by rfl, ?_⟩) hSS ?_
 rotate_left
 · (intro W hSW; (try dsimp only at hSW); go_simp; try with_reducible rfl)
 simp only [Act.put, List.setIfInBounds_toArray, List.set_cons_zero, List.set_cons_succ]
 refine AnyBut.take (i := 4) (some 39) (v := ?_) rfl rfl (by kernel_rfl) rfl (by kernel_rfl) (by kernel_rfl) (by kernel_rfl) (fun _ _ _ h => h) (.inl ⟨by rfl, ?_⟩) hSS ?_
 rotate_left
 · (intro W hSW; (try dsimp only at hSW); go_simp; try with_reducible rfl)
 simp only [Act.put, List.setIfInBounds_toArray, List.set_cons_zero, List.set_cons_succ]
 refine AnyBut.take (i := 5) (some 40) (v := ?_) rfl rfl (by kernel_rfl) rfl (by kernel_rfl) (by kernel_rfl) (by kernel_rfl) (fun _ _ _ h => h) (.inl ⟨by rfl, ?_⟩) hSS ?_
 rotate_left
 · (intro W hSW; (try dsimp only at hSW); go_simp; try with_reducible rfl)
 simp only [Act.put, List.setIfInBounds_toArray, List.set_cons_zero, List.set_cons_succ]
 refine AnyBut.take (i := 6) (some 41) (v := ?_) rfl rfl (by kernel_rfl) rfl (by kernel_rfl) (by kernel_rfl) (by kernel_rfl) (fun _ _ _ h => h) (.inl ⟨by rfl, ?_⟩) hSS ?_
 rotate_left
 · (intro W hSW; (try dsimp only at hSW); go_simp; try with_reducible rfl)
 simp only [Act.put, List.setIfInBounds_toArray, List.set_cons_zero, List.set_cons_succ]
 refine AnyBut.take (i := 7) (some 42) (v := ?_) rfl rfl (by kernel_rfl) rfl (by kernel_rfl) (by kernel_rfl) (by kernel_rfl) (fun _ _ _ h => h) (.inl ⟨by rfl, ?_⟩) hSS ?_
 rotate_left
 · (intro W hSW; (try dsimp only at hSW); go_simp; try with_reducible rfl)
 simp only [Act.put, List.setIfInBounds_toArray, List.set_cons_zero, List.set_cons_succ]
 refine AnyBut.take (i := 8) (some 43) (v := ?_) rfl rfl (by kernel_rfl) rfl (by kernel_rfl) (by kernel_rfl) (by kernel_rfl) (fun _ _ _ h => h) (.inl ⟨by rfl, ?_⟩) hSS ?_
 rotate_left
 · (intro W hSW; (try dsimp only at hSW); go_simp; try with_reducible rfl)
 simp only [Act.put, List.setIfInBounds_toArray, List.set_cons_zero, List.set_cons_succ]
 refine AnyBut.take (i := 9) (some 44) (v := ?_) rfl rfl (by kernel_rfl) rfl (by kernel_rfl) (by kernel_rfl) (by kernel_rfl) (fun _ _ _ h => h) (.inl ⟨by rfl, ?_⟩) hSS ?_
 rotate_left
 · (intro W hSW; (try dsimp only at hSW); go_simp; try with_reducible rfl)
 simp only [Act.put, List.setIfInBounds_toArray, List.set_cons_zero, List.set_cons_succ]
 refine AnyBut.take (i := 10) (some 45) (v := ?_) rfl rfl (by kernel_rfl) rfl (by kernel_rfl) (by kernel_rfl) (by kernel_rfl) (fun _ _ _ h => h) (.inl ⟨by rfl, ?_⟩) hSS ?_
 rotate_left
 · (intro W hSW; (try dsimp only at hSW); go_simp; try with_reducible rfl)
 simp only [Act.put, List.setIfInBounds_toArray, List.set_cons_zero, List.set_cons_succ]
 refine AnyBut.step (i := 11) (by kernel_rfl) rfl (fun K hK => ?_)
 go_simp
 have hx3 := (HBX1.out.drew).alloc (.cells #[.int .i64 nx, .bool b, .int .i64 1, .slice none 0 0, .int .i64 0, .slice none 0 0] 47)
 refine hK.out _ _ ⟨hx3.two.1, hx3.two.2.1⟩ ?_
 clear hK hSS
 have hSS : (w1.drew.alloc (.cells #[.int .i64 nx, .bool b, .int .i64 1, .slice none 0 0, .int .i64 0, .slice none 0 0] 47)).cell? ⟨S, 0, none⟩ = some (.slice a L c) ∧ (w1.drew.alloc (.cells #[.int .i64 nx, .bool b, .int .i64 1, .slice none 0 0, .int .i64 0, .slice none 0 0] 47)).cell? ⟨S, 1, none⟩ = some (.int .i64 nx) := ⟨hx3.two.1, hx3.two.2.1⟩
 refine AnyBut.step (i := 12) (by kernel_rfl) rfl (fun K hK => ?_)
 refine step_append_lies _ (by rfl) _ _ _ (by rfl) n 47 i3 _ 6 80 Tryz.underlying27 hi3 hz30 hz31 hz32 rfl (by omega) _ L _ (by rfl) (World.ownsRow.alloc (w := w1.drew) HO1.out.1 _) ⟨w1.heap.size, 0, none⟩ 1 1 [.int .i64 nx, .bool b, .int .i64 1, .slice none 0 0, .int .i64 0, .slice none 0 0] (by rfl) (by rfl)
   (World.news_of_block (cs := #[.int .i64 nx, .bool b, .int .i64 1, .slice none 0 0, .int .i64 0, .slice none 0 0]) (t := 47) (fr := (0, 0)) (heap_alloc_new w1.drew _)) (by simp [Value.oneCell']) (by omega) (by unfold maxLen; omega) (by omega) (by have := HO1.out.2.2.1; simp; omega) (w1.heap.size + 1) (by simp) ?_
 intro gg cap3 w3 hown3 hgrow3 hat hltg
 have hx4 := hx3.grown hgrow3 (own_apart HBX1.out HO1.out.2.2.2)
 refine hK.out _ _ ⟨hx4.two.1, hx4.two.2.1⟩ ?_
 clear hK hSS
 have hSS : w3.cell? ⟨S, 0, none⟩ = some (.slice a L c) ∧ w3.cell? ⟨S, 1, none⟩ = some (.int .i64 nx) := ⟨hx4.two.1, hx4.two.2.1⟩
 refine AnyBut.step (i := 13) (by kernel_rfl) rfl (fun K hK => ?_)
 go_simp
 refine hK.out _ _ hSS ?_
 clear hK
 refine AnyBut.step (i := 14) (by kernel_rfl) rfl (fun K hK => ?_)
 go_simp
 refine hK.out _ _ hSS ?_
 clear hK
 refine AnyBut.last (by kernel_rfl) (by kernel_rfl) rfl (fun K hK => ?_)
 obtain ⟨y0, y1, z0, z1⟩ := hx4.two
 go_simp
 refine hK.out _ _ ?_
 clear hK hSS
 have hgW : w1.grownBy w3 (Value.slice a L c).ownBlock := ⟨hgrow3.os, hgrow3.tape, hgrow3.output, Nat.le_trans (by simp) hgrow3.size, fun k hk hne => (hgrow3.block k (by simp; omega) hne).trans (Below.heap_alloc w1.drew _ k hk)⟩
 have hkA : Same n w1 (w1.drew.alloc (.cells #[.int .i64 nx, .bool b, .int .i64 1, .slice none 0 0, .int .i64 0, .slice none 0 0] 47)) := Same.alloc n w1.drew _
 have hown4 : ndsN.owns n w3 [.slice (some ⟨gg, 0, none⟩) (L + 1) cap3] (l ++ [newN nx b]) := by
   refine Shape.list_push (S := ndN) (ht := Tryz.underlying27) (hc := cells27) (us := [.int .i64 nx, .bool b, .int .i64 1, .slice none 0 0, .int .i64 0, .slice none 0 0]) (by decide) (HO1.out.2.1.mono fun _ _ h => ndN.osame h hkA) (by rw [← HLL.out]; exact own_same HO1.out.1 hkA) ?_ hgrow3 (by rw [← HLL.out]; exact hown3)
   exact nd_omk (p := newN nx b) ⟨D.OwnE.nil _ _ _, Shape.list_nil F.bkN 43 Tryz.underlying43 F.cells43 _ _, (show I64 nx from ⟨by omega, by omega⟩), (show I64 1 from ⟨by omega, by omega⟩), (show I64 0 from ⟨by omega, by omega⟩)⟩
 have hb3 : Below n w w3 := (HB1.out.mono HS.out.2.2.1).trans (row_below HO1.out.2.2.2 HO1.out.2.2.1 hgW)
 have hM4 : MS n (w3.setCell ⟨S, 0, none⟩ (.slice (some ⟨gg, 0, none⟩) (L + 1) cap3)) S (l ++ [newN nx b], nx) := MS.put hx4 hown4
 obtain ⟨W4, hW4⟩ := exa (w3.setCell ⟨S, 0, none⟩ (.slice (some ⟨gg, 0, none⟩) (L + 1) cap3))
 have hx5 : Box W4 S 29 #[.slice (some ⟨gg, 0, none⟩) (L + 1) cap3, .int .i64 nx] := by rw [hW4]; exact hx4.set 0 _
 have hown5 : ndsN.owns n W4 [.slice (some ⟨gg, 0, none⟩) (L + 1) cap3] (l ++ [newN nx b]) := by rw [hW4]; exact ndsN.ogrown hown4 (grown_set w3 S 0 _) (hx4.clear (by decide))
 have hb5 : Below n w W4 := by rw [hW4]; exact hb3.setCell (p := ⟨S, 0, none⟩) HS.out.2.2.2 _
 rw [← hW4]
 clear hW4 hM4 hb3 hown4 hkA hgW hown3 hgrow3 hat hltg hx4 hx3 y0 y1 z0 z1 c0 c1 f0 f1 e1 e2 hl2
 obtain ⟨W6, hW6⟩ := exa (W4.setCell ⟨S, 1, none⟩ (.int .i64 (nx + 1)))
 have hx6 : Box W6 S 29 #[.slice (some ⟨gg, 0, none⟩) (L + 1) cap3, .int .i64 (nx + 1)] := by rw [hW6]; exact hx5.set 1 _
 have hown6 : ndsN.owns n W6 [.slice (some ⟨gg, 0, none⟩) (L + 1) cap3] (l ++ [newN nx b]) := by rw [hW6]; exact ndsN.ogrown hown5 (grown_set W4 S 1 _) (hx5.clear (by decide))
 have hb6 : Below n w W6 := by rw [hW6]; exact hb5.setCell (p := ⟨S, 1, none⟩) HS.out.2.2.2 _
 have H6 : Hid (Box W6 S 29 #[.slice (some ⟨gg, 0, none⟩) (L + 1) cap3, .int .i64 (nx + 1)] ∧ ndsN.owns n W6 [.slice (some ⟨gg, 0, none⟩) (L + 1) cap3] (l ++ [newN nx b]) ∧ Below n w W6 ∧ n ≤ W6.heap.size) := ⟨hx6, hown6, hb6, by have := hx6.lt; have := HS.out.2.2.2; omega⟩
 obtain ⟨c0, c1, f0, f1⟩ := hx5.two
 have HCE := HEN.out (by simp) W6.drew _ (hb6.drew) (by exact hown6)
 obtain ⟨d0, d1, -, -⟩ := hx6.two
 have HS0 : W6.drew.cell? ⟨S, 0, none⟩ = some (.slice (some ⟨gg, 0, none⟩) (L + 1) cap3) ∧ W6.drew.cell? ⟨S, 1, none⟩ = some (.int .i64 (nx + 1)) := ⟨d0, d1⟩
 clear hx6 hown6 hb6 hx5 hown5 hb5 d0 d1
 have hna : IntKind.i64.wrap nx = nx := by rw [IntWalk.i64_left]; exact IntWalk.wrap64_in _ ⟨by omega, by omega⟩
 go_wp2
 rw [← hW6]
 clear hW6 c0 c1 f0 f1
 go_region_held3 (fun U => U.cell? ⟨S, 0, none⟩ = some (.slice (some ⟨gg, 0, none⟩) (L + 1) cap3) ∧ U.cell? ⟨S, 1, none⟩ = some (.int .i64 (nx + 1)))
   (first | with_reducible exact HS1 | with_reducible exact HS0)
   ((first | (go_at_call 110; refine HCE.mono ?_; rintro e7 w7 ⟨⟨E, rfl, hE⟩, hg7, hO7⟩; have hx7 : Box w7 S 29 #[.slice (some ⟨gg, 0, none⟩) (L + 1) cap3, .int .i64 (nx + 1)] := H6.out.1.drew.grown hg7 (own_apart H6.out.1 H6.out.2.1); have HS1 : w7.cell? ⟨S, 0, none⟩ = some (.slice (some ⟨gg, 0, none⟩) (L + 1) cap3) ∧ w7.cell? ⟨S, 1, none⟩ = some (.int .i64 (nx + 1)) := ⟨hx7.two.1, hx7.two.2.1⟩)))
 have HF : Hid (EV re E ∧ Below n w w7 ∧ (re = 0 → MS n w7 S s')) := by (
 refine ⟨hE, H6.out.2.2.1.trans ((Below.refl _ W6).drew.grown hg7 (by exact H6.out.2.2.2) (own_base H6.out.2.1)), fun h0 => ⟨.slice (some ⟨gg, 0, none⟩) (L + 1) cap3, ?_, hO7 h0⟩⟩
 rw [HRE.out.2.1]
 exact hx7)
 clear hE hg7 hO7 hx7 HS1 HS0 HCE
 go_wp2
 exact HPo.out _ _ HF.out.1 HF.out.2.1 HF.out.2.2
end Go.Proofs.YtopcefhncildnaaGreatDoor
namespace Go.Proofs.YtopcefhncildnaaGreatDoor
open Go.RowKit
open P (ArgT serr sval)
theorem lst_name {p : ByteArray} (h : serr p = 0) : sval p ≠ [] → (lst (sval p)).data.toList ≠ [] := fun hne => by
 have h1 := P.serr_zero.1 h
 rw [P.sval_zero h] at hne ⊢
 have h2 : lst (P.pts p) ∈ P.pts p := lst_mem hne
 have h3 := (P.name_size (List.all_eq_true.1 h1.2.2.1 _ h2)).2
 intro h4
 have : (lst (P.pts p)).size = 0 := by
   show (lst (P.pts p)).data.size = 0
   rw [← Array.length_toList, h4]; rfl
 omega
theorem changed_up {s : St} {ps : List ByteArray} {K : Int} {s' : St} {w W3 : World} (hb : Below w.heap.size w W3) (hs : w.heap.size + 2 ≤ W3.heap.size) {e : Ending} {w' : World} (h : Changed s ps K s' W3 e w') :
   ∃ a3 n3 c3 x3 k3, e = .returned (.tuple #[.agg #[.slice a3 n3 c3, .int .i64 x3], .int .i64 k3]) ∧ Below W3.heap.size W3 w' ∧ Changed s ps K s' w (.returned (.tuple #[.agg #[.slice a3 n3 c3, .int .i64 x3], .int .i64 k3])) ((w'.setCell ⟨w.heap.size + 1, 0, none⟩ (.slice a3 n3 c3)).setCell ⟨w.heap.size + 1, 1, none⟩ (.int .i64 x3)) := by
 obtain ⟨⟨k, rfl, hk⟩ | ⟨v, rfl, h1, h2, h3, h4⟩, hbw⟩ := h
 · exact ⟨none, 0, 0, 0, k, rfl, hbw, .inl ⟨k, rfl, hk⟩, below_set2 (below_any hb hbw) (by omega) _ _⟩
 · obtain ⟨a, c, hv, -, -⟩ := Shape.list_len (S := ndN) (ht := Tryz.underlying27) (hc := cells27) h4
   obtain rfl : v = _ := by simpa using hv
   exact ⟨a, _, c, s'.2, 0, rfl, hbw, .inr ⟨_, rfl, h1, h2, h3, ndsN.weaken (n := W3.heap.size) (ndsN.keep h4 (.set2 (by omega))) (by omega)⟩, below_set2 (below_any hb hbw) (by omega) _ _⟩
theorem createDo_any (n S : Nat) (s : St) (hOk : Ok s) (p : ByteArray) (hp : serr p = 0) (v2 : Value) (w : World) (hM : MS n w S s) (hnS : n ≤ S) (hL : StayL n w v2 [p]) :
   Calls Tryz.prog 56 #[.pointer (some ⟨S, 0, none⟩), v2] w fun e w' => (∃ E, e = .returned E ∧ EV (mkE s (sval p)) E) ∧ Below n w w' ∧ (mkE s (sval p) = 0 → MS n w' S (mkN s (hold s (sval p)) (lst (sval p)) false)) := by
 obtain ⟨b, o, av, cv, hix, hc, hX⟩ := hL 0 p rfl
 have hix : ∀ W, (Instr.indexAt 106 v2 (.int .i64 0)).run Tryz.prog W = .ok (.pointer (some ⟨b, o, none⟩)) W := hix
 have hc0 := hc w (Below.refl _ _)
 have hok : sval p ≠ [] → (lst (sval p)).data.toList ≠ [] := lst_name hp
 generalize sval p = xs at hok hc0 hX ⊢
 have HC := makeNode_any n S s hOk av cv xs hok false w hM hnS hX
 obtain ⟨post, hpost⟩ : ∃ post : Ending → World → Prop, post = fun e w' => (∃ E, e = .returned E ∧ EV (mkE s xs) E) ∧ Below n w w' ∧ (mkE s xs = 0 → MS n w' S (mkN s (hold s xs) (lst xs) false)) := ⟨_, rfl⟩
 rw [← hpost] at HC ⊢
 have HPo : Hid (∀ e w', post e w' → ∃ E, e = .returned E ∧ post (.returned E) w') := fun e w' h => by (
 rw [hpost] at h ⊢
 obtain ⟨⟨E, rfl, h1⟩, h2⟩ := h
 exact ⟨E, rfl, ⟨E, rfl, h1⟩, h2⟩)
 obtain ⟨m, hm⟩ := exa (xs.length)
 rw [← hm] at hc0 HC
 clear hX hM hpost hm hok hc hL
 go_enter Tryz.func56, Tryz.ntmps56
 go_wp2_with fail
 refine HC.mono ?_
 intro e1 w1 h1
 obtain ⟨E, rfl, h2⟩ := HPo.out e1 w1 h1
 have H2 : Hid (post (.returned E) w1) := h2
 clear h1 h2 HC hc0 hix
 go_wp2
 exact H2.out
theorem Create_any (n0 : Nat) (a : Option Addr) (c : Nat) (s : St) (p : ByteArray) (hp : p.size ≤ maxLen) (w : World) (hA : ndsN.lies n0 w [.slice a s.1.length c] s.1) (hg : Glob w) :
   Calls Tryz.prog 14 #[.agg #[.slice a s.1.length c, .int .i64 s.2], .string p] w (Changed s [p] (mkE s (sval p)) (mkN s (hold s (sval p)) (lst (sval p)) false) w) := by
 obtain ⟨W1, hW1⟩ := exa (w.alloc (.cells #[.slice a s.1.length c, .int .i64 s.2] 29))
 obtain ⟨W2, hW2⟩ := exa (W1.alloc (.cells #[.slice none 0 0, .int .i64 0] 29))
 obtain ⟨W3, hW3⟩ := exa (W2.alloc (.cells #[.string p] 9))
 have hb1 : Below w.heap.size w W1 := by rw [hW1]; exact (Below.refl _ w).alloc (Nat.le_refl _) _
 have hb2 : Below w.heap.size w W2 := by rw [hW2]; exact hb1.alloc hb1.size _
 have hb3 : Below w.heap.size w W3 := by rw [hW3]; exact hb2.alloc hb2.size _
 have hs1 : W1.heap.size = w.heap.size + 1 := by rw [hW1]; exact Array.size_push _
 have hs2 : W2.heap.size = w.heap.size + 1 + 1 := by rw [hW2, ← hs1]; exact Array.size_push _
 have hBS : Box W2 w.heap.size 29 #[.slice a s.1.length c, .int .i64 s.2] := by
   have : Box W1 w.heap.size 29 #[.slice a s.1.length c, .int .i64 s.2] := by rw [hW1]; exact Box.new _ _ _
   rw [hW2]; exact this.alloc _
 have hBR : Box W3 (w.heap.size + 1) 29 #[.slice none 0 0, .int .i64 0] := by rw [hW3, hW2, ← hs1]; exact (Box.new _ _ _).alloc _
 have hBT : Box W3 W2.heap.size 9 #[.string p] := by rw [hW3]; exact Box.new _ _ _
 have hX : ArgT w.heap.size W3 (.slice (some ⟨W2.heap.size, 0, none⟩) 1 1) [p] := argT_box (ps := [p]) hBT hb2.size (by simp [maxLen]) fun q hq => by rw [List.mem_singleton.1 hq]; exact hp
 have HC := change0_any 56 Tryz.call56 n0 w.heap.size a c s (some ⟨W2.heap.size, 0, none⟩) 1 [p] (by simp) W3 (ndsN.below hA hb3) hX (hg.below hb3 hg.lt) (mkE s (sval p)) (mkN s (hold s (sval p)) (lst (sval p)) false)
   (fun hok hps V v2 B S hbV hB hBS hL hM => (createDo_any B S s hok p (by rw [psE] at hps; split at hps <;> simp_all) v2 V hM hBS hL).mono fun e w' h => ⟨h.1, h.2.1, fun k => (h.2.2 k).ml⟩)
 rw [hs2] at HC
 have HCH : Hid (∀ e w', Changed s [p] (mkE s (sval p)) (mkN s (hold s (sval p)) (lst (sval p)) false) W3 e w' → ∃ a3 n3 c3 x3 k3, e = .returned (.tuple #[.agg #[.slice a3 n3 c3, .int .i64 x3], .int .i64 k3]) ∧ Below W3.heap.size W3 w' ∧ Changed s [p] (mkE s (sval p)) (mkN s (hold s (sval p)) (lst (sval p)) false) w (.returned (.tuple #[.agg #[.slice a3 n3 c3, .int .i64 x3], .int .i64 k3])) ((w'.setCell ⟨w.heap.size + 1, 0, none⟩ (.slice a3 n3 c3)).setCell ⟨w.heap.size + 1, 1, none⟩ (.int .i64 x3))) := fun e w' h => changed_up hb3 (by have : W3.heap.size = W2.heap.size + 1 := (by rw [hW3]; exact Array.size_push _); omega) h
 generalize mkE s (sval p) = K at HC HCH ⊢
 generalize mkN s (hold s (sval p)) (lst (sval p)) false = s' at HC HCH ⊢
 obtain ⟨post, hpost⟩ : ∃ post : Ending → World → Prop, post = Changed s [p] K s' w := ⟨_, rfl⟩
 rw [← hpost] at HCH ⊢
 obtain ⟨pre, hpre⟩ : ∃ post : Ending → World → Prop, post = Changed s [p] K s' W3 := ⟨_, rfl⟩
 rw [← hpre] at HCH HC
 have HB : Hid (Box W3 (w.heap.size + 1) 29 #[.slice none 0 0, .int .i64 0]) := hBR
 obtain ⟨g0, g1, -, -⟩ := hBS.two
 rw [hW2, hW1] at g0 g1
 obtain ⟨n, hn⟩ := exa (s.1.length)
 obtain ⟨nx, hnx⟩ := exa (s.2)
 rw [← hn] at HC hW1 g0 g1 ⊢
 rw [← hnx] at HC hW1 g0 g1 ⊢
 clear hA hg hp hb1 hb2 hb3 hBR hBS hBT hX hn hnx hpost hpre hs1 hs2
 go_enter Tryz.func14, Tryz.ntmps14
 go_wp2_with fail
 rw [← hW1, ← hW2, ← hW3]
 clear hW1 hW2 hW3 g0 g1
 refine HC.mono ?_
 intro e4 w4 h4
 obtain ⟨a3, n3, c3, x3, k3, rfl, hb4, hP⟩ := HCH.out e4 w4 h4
 obtain ⟨d0, d1, e0, e1⟩ := (HB.out.below hb4 HB.out.lt).two
 have HP : Hid (post (.returned (.tuple #[.agg #[.slice a3 n3 c3, .int .i64 x3], .int .i64 k3])) ((w4.setCell ⟨w.heap.size + 1, 0, none⟩ (.slice a3 n3 c3)).setCell ⟨w.heap.size + 1, 1, none⟩ (.int .i64 x3))) := hP
 clear h4 hP hb4 HC HCH
 go_wp2
 refine bodyPost_ret (v := .tuple #[.agg #[.slice a3 n3 c3, .int .i64 x3], .int .i64 k3]) (by simp [results, Tryz.results14, go_sem, *]) rfl HP.out
theorem mkdirDo_any (n S : Nat) (s : St) (hOk : Ok s) (p : ByteArray) (hp : serr p = 0) (v2 : Value) (w : World) (hM : MS n w S s) (hnS : n ≤ S) (hL : StayL n w v2 [p]) :
   Calls Tryz.prog 85 #[.pointer (some ⟨S, 0, none⟩), v2] w fun e w' => (∃ E, e = .returned E ∧ EV (mkE s (sval p)) E) ∧ Below n w w' ∧ (mkE s (sval p) = 0 → MS n w' S (mkN s (hold s (sval p)) (lst (sval p)) true)) := by
 obtain ⟨b, o, av, cv, hix, hc, hX⟩ := hL 0 p rfl
 have hix : ∀ W, (Instr.indexAt 106 v2 (.int .i64 0)).run Tryz.prog W = .ok (.pointer (some ⟨b, o, none⟩)) W := hix
 have hc0 := hc w (Below.refl _ _)
 have hok : sval p ≠ [] → (lst (sval p)).data.toList ≠ [] := lst_name hp
 generalize sval p = xs at hok hc0 hX ⊢
 have HC := makeNode_any n S s hOk av cv xs hok true w hM hnS hX
 obtain ⟨post, hpost⟩ : ∃ post : Ending → World → Prop, post = fun e w' => (∃ E, e = .returned E ∧ EV (mkE s xs) E) ∧ Below n w w' ∧ (mkE s xs = 0 → MS n w' S (mkN s (hold s xs) (lst xs) true)) := ⟨_, rfl⟩
 rw [← hpost] at HC ⊢
 have HPo : Hid (∀ e w', post e w' → ∃ E, e = .returned E ∧ post (.returned E) w') := fun e w' h => by (
 rw [hpost] at h ⊢
 obtain ⟨⟨E, rfl, h1⟩, h2⟩ := h
 exact ⟨E, rfl, ⟨E, rfl, h1⟩, h2⟩)
 obtain ⟨m, hm⟩ := exa (xs.length)
 rw [← hm] at hc0 HC
 clear hX hM hpost hm hok hc hL
 go_enter Tryz.func85, Tryz.ntmps85
 go_wp2_with fail
 refine HC.mono ?_
 intro e1 w1 h1
 obtain ⟨E, rfl, h2⟩ := HPo.out e1 w1 h1
 have H2 : Hid (post (.returned E) w1) := h2
 clear h1 h2 HC hc0 hix
 go_wp2
 exact H2.out
theorem Mkdir_any (n0 : Nat) (a : Option Addr) (c : Nat) (s : St) (p : ByteArray) (hp : p.size ≤ maxLen) (w : World) (hA : ndsN.lies n0 w [.slice a s.1.length c] s.1) (hg : Glob w) :
   Calls Tryz.prog 42 #[.agg #[.slice a s.1.length c, .int .i64 s.2], .string p] w (Changed s [p] (mkE s (sval p)) (mkN s (hold s (sval p)) (lst (sval p)) true) w) := by
 obtain ⟨W1, hW1⟩ := exa (w.alloc (.cells #[.slice a s.1.length c, .int .i64 s.2] 29))
 obtain ⟨W2, hW2⟩ := exa (W1.alloc (.cells #[.slice none 0 0, .int .i64 0] 29))
 obtain ⟨W3, hW3⟩ := exa (W2.alloc (.cells #[.string p] 9))
 have hb1 : Below w.heap.size w W1 := by rw [hW1]; exact (Below.refl _ w).alloc (Nat.le_refl _) _
 have hb2 : Below w.heap.size w W2 := by rw [hW2]; exact hb1.alloc hb1.size _
 have hb3 : Below w.heap.size w W3 := by rw [hW3]; exact hb2.alloc hb2.size _
 have hs1 : W1.heap.size = w.heap.size + 1 := by rw [hW1]; exact Array.size_push _
 have hs2 : W2.heap.size = w.heap.size + 1 + 1 := by rw [hW2, ← hs1]; exact Array.size_push _
 have hBS : Box W2 w.heap.size 29 #[.slice a s.1.length c, .int .i64 s.2] := by
   have : Box W1 w.heap.size 29 #[.slice a s.1.length c, .int .i64 s.2] := by rw [hW1]; exact Box.new _ _ _
   rw [hW2]; exact this.alloc _
 have hBR : Box W3 (w.heap.size + 1) 29 #[.slice none 0 0, .int .i64 0] := by rw [hW3, hW2, ← hs1]; exact (Box.new _ _ _).alloc _
 have hBT : Box W3 W2.heap.size 9 #[.string p] := by rw [hW3]; exact Box.new _ _ _
 have hX : ArgT w.heap.size W3 (.slice (some ⟨W2.heap.size, 0, none⟩) 1 1) [p] := argT_box (ps := [p]) hBT hb2.size (by simp [maxLen]) fun q hq => by rw [List.mem_singleton.1 hq]; exact hp
 have HC := change0_any 85 Tryz.call85 n0 w.heap.size a c s (some ⟨W2.heap.size, 0, none⟩) 1 [p] (by simp) W3 (ndsN.below hA hb3) hX (hg.below hb3 hg.lt) (mkE s (sval p)) (mkN s (hold s (sval p)) (lst (sval p)) true)
   (fun hok hps V v2 B S hbV hB hBS hL hM => (mkdirDo_any B S s hok p (by rw [psE] at hps; split at hps <;> simp_all) v2 V hM hBS hL).mono fun e w' h => ⟨h.1, h.2.1, fun k => (h.2.2 k).ml⟩)
 rw [hs2] at HC
 have HCH : Hid (∀ e w', Changed s [p] (mkE s (sval p)) (mkN s (hold s (sval p)) (lst (sval p)) true) W3 e w' → ∃ a3 n3 c3 x3 k3, e = .returned (.tuple #[.agg #[.slice a3 n3 c3, .int .i64 x3], .int .i64 k3]) ∧ Below W3.heap.size W3 w' ∧ Changed s [p] (mkE s (sval p)) (mkN s (hold s (sval p)) (lst (sval p)) true) w (.returned (.tuple #[.agg #[.slice a3 n3 c3, .int .i64 x3], .int .i64 k3])) ((w'.setCell ⟨w.heap.size + 1, 0, none⟩ (.slice a3 n3 c3)).setCell ⟨w.heap.size + 1, 1, none⟩ (.int .i64 x3))) := fun e w' h => changed_up hb3 (by have : W3.heap.size = W2.heap.size + 1 := (by rw [hW3]; exact Array.size_push _); omega) h
 generalize mkE s (sval p) = K at HC HCH ⊢
 generalize mkN s (hold s (sval p)) (lst (sval p)) true = s' at HC HCH ⊢
 obtain ⟨post, hpost⟩ : ∃ post : Ending → World → Prop, post = Changed s [p] K s' w := ⟨_, rfl⟩
 rw [← hpost] at HCH ⊢
 obtain ⟨pre, hpre⟩ : ∃ post : Ending → World → Prop, post = Changed s [p] K s' W3 := ⟨_, rfl⟩
 rw [← hpre] at HCH HC
 have HB : Hid (Box W3 (w.heap.size + 1) 29 #[.slice none 0 0, .int .i64 0]) := hBR
 obtain ⟨g0, g1, -, -⟩ := hBS.two
 rw [hW2, hW1] at g0 g1
 obtain ⟨n, hn⟩ := exa (s.1.length)
 obtain ⟨nx, hnx⟩ := exa (s.2)
 rw [← hn] at HC hW1 g0 g1 ⊢
 rw [← hnx] at HC hW1 g0 g1 ⊢
 clear hA hg hp hb1 hb2 hb3 hBR hBS hBT hX hn hnx hpost hpre hs1 hs2
 go_enter Tryz.func42, Tryz.ntmps42
 go_wp2_with fail
 rw [← hW1, ← hW2, ← hW3]
 clear hW1 hW2 hW3 g0 g1
 refine HC.mono ?_
 intro e4 w4 h4
 obtain ⟨a3, n3, c3, x3, k3, rfl, hb4, hP⟩ := HCH.out e4 w4 h4
 obtain ⟨d0, d1, e0, e1⟩ := (HB.out.below hb4 HB.out.lt).two
 have HP : Hid (post (.returned (.tuple #[.agg #[.slice a3 n3 c3, .int .i64 x3], .int .i64 k3])) ((w4.setCell ⟨w.heap.size + 1, 0, none⟩ (.slice a3 n3 c3)).setCell ⟨w.heap.size + 1, 1, none⟩ (.int .i64 x3))) := hP
 clear h4 hP hb4 HC HCH
 go_wp2
 refine bodyPost_ret (v := .tuple #[.agg #[.slice a3 n3 c3, .int .i64 x3], .int .i64 k3]) (by simp [results, Tryz.results42, go_sem, *]) rfl HP.out
theorem unlinkDo_any (n S : Nat) (s : St) (hOk : Ok s) (p : ByteArray) (hp : serr p = 0) (v2 : Value) (w : World) (hM : MS n w S s) (hnS : n ≤ S) (hL : StayL n w v2 [p]) :
   Calls Tryz.prog 91 #[.pointer (some ⟨S, 0, none⟩), v2] w fun e w' => (∃ E, e = .returned E ∧ EV (filE s.1 (sval p)) E) ∧ Below n w w' ∧ (filE s.1 (sval p) = 0 → MS n w' S (dropN s (hold s (sval p)) (lst (sval p)) (tgt s (sval p)))) := by
 obtain ⟨b, o, av, cv, hix, hc, hX⟩ := hL 0 p rfl
 have hix : ∀ W, (Instr.indexAt 106 v2 (.int .i64 0)).run Tryz.prog W = .ok (.pointer (some ⟨b, o, none⟩)) W := hix
 have hc0 := hc w (Below.refl _ _)
 have hok : sval p ≠ [] → (lst (sval p)).data.toList ≠ [] := lst_name hp
 generalize sval p = xs at hok hc0 hX ⊢
 have HC := unlink_any n S s hOk av cv xs w hM hnS hX
 obtain ⟨post, hpost⟩ : ∃ post : Ending → World → Prop, post = fun e w' => (∃ E, e = .returned E ∧ EV (filE s.1 xs) E) ∧ Below n w w' ∧ (filE s.1 xs = 0 → MS n w' S (dropN s (hold s xs) (lst xs) (tgt s xs))) := ⟨_, rfl⟩
 rw [← hpost] at HC ⊢
 have HPo : Hid (∀ e w', post e w' → ∃ E, e = .returned E ∧ post (.returned E) w') := fun e w' h => by (
 rw [hpost] at h ⊢
 obtain ⟨⟨E, rfl, h1⟩, h2⟩ := h
 exact ⟨E, rfl, ⟨E, rfl, h1⟩, h2⟩)
 obtain ⟨m, hm⟩ := exa (xs.length)
 rw [← hm] at hc0 HC
 clear hX hM hpost hm hok hc hL
 go_enter Tryz.func91, Tryz.ntmps91
 go_wp2_with fail
 refine HC.mono ?_
 intro e1 w1 h1
 obtain ⟨E, rfl, h2⟩ := HPo.out e1 w1 h1
 have H2 : Hid (post (.returned E) w1) := h2
 clear h1 h2 HC hc0 hix
 go_wp2
 exact H2.out
theorem Unlink_any (n0 : Nat) (a : Option Addr) (c : Nat) (s : St) (p : ByteArray) (hp : p.size ≤ maxLen) (w : World) (hA : ndsN.lies n0 w [.slice a s.1.length c] s.1) (hg : Glob w) :
   Calls Tryz.prog 44 #[.agg #[.slice a s.1.length c, .int .i64 s.2], .string p] w (Changed s [p] (filE s.1 (sval p)) (dropN s (hold s (sval p)) (lst (sval p)) (tgt s (sval p))) w) := by
 obtain ⟨W1, hW1⟩ := exa (w.alloc (.cells #[.slice a s.1.length c, .int .i64 s.2] 29))
 obtain ⟨W2, hW2⟩ := exa (W1.alloc (.cells #[.slice none 0 0, .int .i64 0] 29))
 obtain ⟨W3, hW3⟩ := exa (W2.alloc (.cells #[.string p] 9))
 have hb1 : Below w.heap.size w W1 := by rw [hW1]; exact (Below.refl _ w).alloc (Nat.le_refl _) _
 have hb2 : Below w.heap.size w W2 := by rw [hW2]; exact hb1.alloc hb1.size _
 have hb3 : Below w.heap.size w W3 := by rw [hW3]; exact hb2.alloc hb2.size _
 have hs1 : W1.heap.size = w.heap.size + 1 := by rw [hW1]; exact Array.size_push _
 have hs2 : W2.heap.size = w.heap.size + 1 + 1 := by rw [hW2, ← hs1]; exact Array.size_push _
 have hBS : Box W2 w.heap.size 29 #[.slice a s.1.length c, .int .i64 s.2] := by
   have : Box W1 w.heap.size 29 #[.slice a s.1.length c, .int .i64 s.2] := by rw [hW1]; exact Box.new _ _ _
   rw [hW2]; exact this.alloc _
 have hBR : Box W3 (w.heap.size + 1) 29 #[.slice none 0 0, .int .i64 0] := by rw [hW3, hW2, ← hs1]; exact (Box.new _ _ _).alloc _
 have hBT : Box W3 W2.heap.size 9 #[.string p] := by rw [hW3]; exact Box.new _ _ _
 have hX : ArgT w.heap.size W3 (.slice (some ⟨W2.heap.size, 0, none⟩) 1 1) [p] := argT_box (ps := [p]) hBT hb2.size (by simp [maxLen]) fun q hq => by rw [List.mem_singleton.1 hq]; exact hp
 have HC := change0_any 91 Tryz.call91 n0 w.heap.size a c s (some ⟨W2.heap.size, 0, none⟩) 1 [p] (by simp) W3 (ndsN.below hA hb3) hX (hg.below hb3 hg.lt) (filE s.1 (sval p)) (dropN s (hold s (sval p)) (lst (sval p)) (tgt s (sval p)))
   (fun hok hps V v2 B S hbV hB hBS hL hM => (unlinkDo_any B S s hok p (by rw [psE] at hps; split at hps <;> simp_all) v2 V hM hBS hL).mono fun e w' h => ⟨h.1, h.2.1, fun k => (h.2.2 k).ml⟩)
 rw [hs2] at HC
 have HCH : Hid (∀ e w', Changed s [p] (filE s.1 (sval p)) (dropN s (hold s (sval p)) (lst (sval p)) (tgt s (sval p))) W3 e w' → ∃ a3 n3 c3 x3 k3, e = .returned (.tuple #[.agg #[.slice a3 n3 c3, .int .i64 x3], .int .i64 k3]) ∧ Below W3.heap.size W3 w' ∧ Changed s [p] (filE s.1 (sval p)) (dropN s (hold s (sval p)) (lst (sval p)) (tgt s (sval p))) w (.returned (.tuple #[.agg #[.slice a3 n3 c3, .int .i64 x3], .int .i64 k3])) ((w'.setCell ⟨w.heap.size + 1, 0, none⟩ (.slice a3 n3 c3)).setCell ⟨w.heap.size + 1, 1, none⟩ (.int .i64 x3))) := fun e w' h => changed_up hb3 (by have : W3.heap.size = W2.heap.size + 1 := (by rw [hW3]; exact Array.size_push _); omega) h
 generalize filE s.1 (sval p) = K at HC HCH ⊢
 generalize dropN s (hold s (sval p)) (lst (sval p)) (tgt s (sval p)) = s' at HC HCH ⊢
 obtain ⟨post, hpost⟩ : ∃ post : Ending → World → Prop, post = Changed s [p] K s' w := ⟨_, rfl⟩
 rw [← hpost] at HCH ⊢
 obtain ⟨pre, hpre⟩ : ∃ post : Ending → World → Prop, post = Changed s [p] K s' W3 := ⟨_, rfl⟩
 rw [← hpre] at HCH HC
 have HB : Hid (Box W3 (w.heap.size + 1) 29 #[.slice none 0 0, .int .i64 0]) := hBR
 obtain ⟨g0, g1, -, -⟩ := hBS.two
 rw [hW2, hW1] at g0 g1
 obtain ⟨n, hn⟩ := exa (s.1.length)
 obtain ⟨nx, hnx⟩ := exa (s.2)
 rw [← hn] at HC hW1 g0 g1 ⊢
 rw [← hnx] at HC hW1 g0 g1 ⊢
 clear hA hg hp hb1 hb2 hb3 hBR hBS hBT hX hn hnx hpost hpre hs1 hs2
 go_enter Tryz.func44, Tryz.ntmps44
 go_wp2_with fail
 rw [← hW1, ← hW2, ← hW3]
 clear hW1 hW2 hW3 g0 g1
 refine HC.mono ?_
 intro e4 w4 h4
 obtain ⟨a3, n3, c3, x3, k3, rfl, hb4, hP⟩ := HCH.out e4 w4 h4
 obtain ⟨d0, d1, e0, e1⟩ := (HB.out.below hb4 HB.out.lt).two
 have HP : Hid (post (.returned (.tuple #[.agg #[.slice a3 n3 c3, .int .i64 x3], .int .i64 k3])) ((w4.setCell ⟨w.heap.size + 1, 0, none⟩ (.slice a3 n3 c3)).setCell ⟨w.heap.size + 1, 1, none⟩ (.int .i64 x3))) := hP
 clear h4 hP hb4 HC HCH
 go_wp2
 refine bodyPost_ret (v := .tuple #[.agg #[.slice a3 n3 c3, .int .i64 x3], .int .i64 k3]) (by simp [results, Tryz.results44, go_sem, *]) rfl HP.out
theorem rmdirDo_any (n S : Nat) (s : St) (hOk : Ok s) (p : ByteArray) (hp : serr p = 0) (v2 : Value) (w : World) (hM : MS n w S s) (hnS : n ≤ S) (hL : StayL n w v2 [p]) :
   Calls Tryz.prog 93 #[.pointer (some ⟨S, 0, none⟩), v2] w fun e w' => (∃ E, e = .returned E ∧ EV (rmE s (sval p)) E) ∧ Below n w w' ∧ (rmE s (sval p) = 0 → MS n w' S (dropN s (hold s (sval p)) (lst (sval p)) (tgt s (sval p)))) := by
 obtain ⟨b, o, av, cv, hix, hc, hX⟩ := hL 0 p rfl
 have hix : ∀ W, (Instr.indexAt 106 v2 (.int .i64 0)).run Tryz.prog W = .ok (.pointer (some ⟨b, o, none⟩)) W := hix
 have hc0 := hc w (Below.refl _ _)
 have hok : sval p ≠ [] → (lst (sval p)).data.toList ≠ [] := lst_name hp
 generalize sval p = xs at hok hc0 hX ⊢
 have HC := rmdir_any n S s hOk av cv xs w hM hnS hX
 obtain ⟨post, hpost⟩ : ∃ post : Ending → World → Prop, post = fun e w' => (∃ E, e = .returned E ∧ EV (rmE s xs) E) ∧ Below n w w' ∧ (rmE s xs = 0 → MS n w' S (dropN s (hold s xs) (lst xs) (tgt s xs))) := ⟨_, rfl⟩
 rw [← hpost] at HC ⊢
 have HPo : Hid (∀ e w', post e w' → ∃ E, e = .returned E ∧ post (.returned E) w') := fun e w' h => by (
 rw [hpost] at h ⊢
 obtain ⟨⟨E, rfl, h1⟩, h2⟩ := h
 exact ⟨E, rfl, ⟨E, rfl, h1⟩, h2⟩)
 obtain ⟨m, hm⟩ := exa (xs.length)
 rw [← hm] at hc0 HC
 clear hX hM hpost hm hok hc hL
 go_enter Tryz.func93, Tryz.ntmps93
 go_wp2_with fail
 refine HC.mono ?_
 intro e1 w1 h1
 obtain ⟨E, rfl, h2⟩ := HPo.out e1 w1 h1
 have H2 : Hid (post (.returned E) w1) := h2
 clear h1 h2 HC hc0 hix
 go_wp2
 exact H2.out
theorem Rmdir_any (n0 : Nat) (a : Option Addr) (c : Nat) (s : St) (p : ByteArray) (hp : p.size ≤ maxLen) (w : World) (hA : ndsN.lies n0 w [.slice a s.1.length c] s.1) (hg : Glob w) :
   Calls Tryz.prog 45 #[.agg #[.slice a s.1.length c, .int .i64 s.2], .string p] w (Changed s [p] (rmE s (sval p)) (dropN s (hold s (sval p)) (lst (sval p)) (tgt s (sval p))) w) := by
 obtain ⟨W1, hW1⟩ := exa (w.alloc (.cells #[.slice a s.1.length c, .int .i64 s.2] 29))
 obtain ⟨W2, hW2⟩ := exa (W1.alloc (.cells #[.slice none 0 0, .int .i64 0] 29))
 obtain ⟨W3, hW3⟩ := exa (W2.alloc (.cells #[.string p] 9))
 have hb1 : Below w.heap.size w W1 := by rw [hW1]; exact (Below.refl _ w).alloc (Nat.le_refl _) _
 have hb2 : Below w.heap.size w W2 := by rw [hW2]; exact hb1.alloc hb1.size _
 have hb3 : Below w.heap.size w W3 := by rw [hW3]; exact hb2.alloc hb2.size _
 have hs1 : W1.heap.size = w.heap.size + 1 := by rw [hW1]; exact Array.size_push _
 have hs2 : W2.heap.size = w.heap.size + 1 + 1 := by rw [hW2, ← hs1]; exact Array.size_push _
 have hBS : Box W2 w.heap.size 29 #[.slice a s.1.length c, .int .i64 s.2] := by
   have : Box W1 w.heap.size 29 #[.slice a s.1.length c, .int .i64 s.2] := by rw [hW1]; exact Box.new _ _ _
   rw [hW2]; exact this.alloc _
 have hBR : Box W3 (w.heap.size + 1) 29 #[.slice none 0 0, .int .i64 0] := by rw [hW3, hW2, ← hs1]; exact (Box.new _ _ _).alloc _
 have hBT : Box W3 W2.heap.size 9 #[.string p] := by rw [hW3]; exact Box.new _ _ _
 have hX : ArgT w.heap.size W3 (.slice (some ⟨W2.heap.size, 0, none⟩) 1 1) [p] := argT_box (ps := [p]) hBT hb2.size (by simp [maxLen]) fun q hq => by rw [List.mem_singleton.1 hq]; exact hp
 have HC := change0_any 93 Tryz.call93 n0 w.heap.size a c s (some ⟨W2.heap.size, 0, none⟩) 1 [p] (by simp) W3 (ndsN.below hA hb3) hX (hg.below hb3 hg.lt) (rmE s (sval p)) (dropN s (hold s (sval p)) (lst (sval p)) (tgt s (sval p)))
   (fun hok hps V v2 B S hbV hB hBS hL hM => (rmdirDo_any B S s hok p (by rw [psE] at hps; split at hps <;> simp_all) v2 V hM hBS hL).mono fun e w' h => ⟨h.1, h.2.1, fun k => (h.2.2 k).ml⟩)
 rw [hs2] at HC
 have HCH : Hid (∀ e w', Changed s [p] (rmE s (sval p)) (dropN s (hold s (sval p)) (lst (sval p)) (tgt s (sval p))) W3 e w' → ∃ a3 n3 c3 x3 k3, e = .returned (.tuple #[.agg #[.slice a3 n3 c3, .int .i64 x3], .int .i64 k3]) ∧ Below W3.heap.size W3 w' ∧ Changed s [p] (rmE s (sval p)) (dropN s (hold s (sval p)) (lst (sval p)) (tgt s (sval p))) w (.returned (.tuple #[.agg #[.slice a3 n3 c3, .int .i64 x3], .int .i64 k3])) ((w'.setCell ⟨w.heap.size + 1, 0, none⟩ (.slice a3 n3 c3)).setCell ⟨w.heap.size + 1, 1, none⟩ (.int .i64 x3))) := fun e w' h => changed_up hb3 (by have : W3.heap.size = W2.heap.size + 1 := (by rw [hW3]; exact Array.size_push _); omega) h
 generalize rmE s (sval p) = K at HC HCH ⊢
 generalize dropN s (hold s (sval p)) (lst (sval p)) (tgt s (sval p)) = s' at HC HCH ⊢
 obtain ⟨post, hpost⟩ : ∃ post : Ending → World → Prop, post = Changed s [p] K s' w := ⟨_, rfl⟩
 rw [← hpost] at HCH ⊢
 obtain ⟨pre, hpre⟩ : ∃ post : Ending → World → Prop, post = Changed s [p] K s' W3 := ⟨_, rfl⟩
 rw [← hpre] at HCH HC
 have HB : Hid (Box W3 (w.heap.size + 1) 29 #[.slice none 0 0, .int .i64 0]) := hBR
 obtain ⟨g0, g1, -, -⟩ := hBS.two
 rw [hW2, hW1] at g0 g1
 obtain ⟨n, hn⟩ := exa (s.1.length)
 obtain ⟨nx, hnx⟩ := exa (s.2)
 rw [← hn] at HC hW1 g0 g1 ⊢
 rw [← hnx] at HC hW1 g0 g1 ⊢
 clear hA hg hp hb1 hb2 hb3 hBR hBS hBT hX hn hnx hpost hpre hs1 hs2
 go_enter Tryz.func45, Tryz.ntmps45
 go_wp2_with fail
 rw [← hW1, ← hW2, ← hW3]
 clear hW1 hW2 hW3 g0 g1
 refine HC.mono ?_
 intro e4 w4 h4
 obtain ⟨a3, n3, c3, x3, k3, rfl, hb4, hP⟩ := HCH.out e4 w4 h4
 obtain ⟨d0, d1, e0, e1⟩ := (HB.out.below hb4 HB.out.lt).two
 have HP : Hid (post (.returned (.tuple #[.agg #[.slice a3 n3 c3, .int .i64 x3], .int .i64 k3])) ((w4.setCell ⟨w.heap.size + 1, 0, none⟩ (.slice a3 n3 c3)).setCell ⟨w.heap.size + 1, 1, none⟩ (.int .i64 x3))) := hP
 clear h4 hP hb4 HC HCH
 go_wp2
 refine bodyPost_ret (v := .tuple #[.agg #[.slice a3 n3 c3, .int .i64 x3], .int .i64 k3]) (by simp [results, Tryz.results45, go_sem, *]) rfl HP.out
end Go.Proofs.YtopcefhncildnaaGreatDoor
namespace Go.Proofs.YtopcefhncildnaaGreatDoor
open Go.RowKit
open D (there ins del aerr)
open P (ArgT serr sval)
theorem ch_comm {l : List Nd} {i j : Int} {f g : Nd → Nd} (hij : i ≠ j) (hf : ∀ n, (f n).1 = n.1) (hg : ∀ n, (g n).1 = n.1) : ch (ch l i f) j g = ch (ch l j g) i f := by
 unfold ch
 rw [List.map_map, List.map_map]
 apply List.map_congr_left
 intro n _
 simp only [Function.comp]
 by_cases h1 : n.1 = i
 · have h2 : n.1 ≠ j := by omega
   have h3 : (f n).1 ≠ j := by rw [hf]; exact h2
   simp only [h1, if_true, if_neg h3, if_neg hij]
 · by_cases h2 : n.1 = j
   · have h3 : (g n).1 ≠ i := by rw [hg]; exact h1
     simp [h2, h3, Ne.symm hij]
   · simp [h1, h2]
theorem ch_at {l : List Nd} {i : Int} {f : Nd → Nd} (hf : ∀ n, (f n).1 = n.1) {k : Nat} {p : Nd} (h : l[k]? = some p) : ∃ p', (ch l i f)[k]? = some p' ∧ p'.1 = p.1 := by
 refine ⟨if p.1 = i then f p else p, by unfold ch; rw [List.getElem?_map, h]; rfl, ?_⟩
 split
 · exact hf p
 · rfl
def lnE (s : St) (xs ys : List ByteArray) : Int := if filE s.1 xs ≠ 0 then filE s.1 xs else if vacE s.1 ys ≠ 0 then vacE s.1 ys else if lk (tgt s xs) = 16 then 110 else aerr (en (hold s ys)) (lst ys, (tgt s xs).1)
theorem link_any (n S : Nat) (s : St) (hOk : Ok s) (av bv : Option Addr) (cv dv : Nat) (xs ys : List ByteArray) (hok : ys ≠ [] → (lst ys).data.toList ≠ []) (w : World) (hM : MS n w S s) (hnS : n ≤ S) (hX : Stay n w (.slice av xs.length cv) xs) (hY : Stay n w (.slice bv ys.length dv) ys) :
   Calls Tryz.prog 250 #[.pointer (some ⟨S, 0, none⟩), .slice av xs.length cv, .slice bv ys.length dv] w fun e w' => (∃ E, e = .returned E ∧ EV (lnE s xs ys) E) ∧ Below n w w' ∧ (lnE s xs ys = 0 → MS n w' S (lnkN s (hold s ys) (lst ys) (tgt s xs))) := by
 obtain ⟨v, hB, hO⟩ := hM
 obtain ⟨a, c, rfl⟩ := own_len hO
 have hnw : n ≤ w.heap.size := by have := hB.lt; omega
 have HFF := findFile_any n 0 a c s hOk.wk av cv xs w (ndsN.olies hO) hX.at
 have HVA : Hid (∀ W, Below w.heap.size w W → Calls Tryz.prog 109 #[.agg #[.slice a s.1.length c, .int .i64 s.2], .slice bv ys.length dv] W fun e w' => (∃ i E, e = .returned (.tuple #[.int .i64 i, E]) ∧ EV (vacE s.1 ys) E ∧ (vacE s.1 ys = 0 → i = stdI s.1 ys)) ∧ Below W.heap.size W w') := fun W hW => vacant_any n 0 a c s hOk.wk bv dv ys hok W (ndsN.olies (ndsN.obelow hO hW)) (hY.below (hW.mono hnw)).at
 have HTG : Hid (filE s.1 xs = 0 → (wlk s.1 1 xs).1 = (tgt s xs).1 ∧ (∀ p ∈ s.1, p.1 = (tgt s xs).1 → p = tgt s xs) ∧ 1 ≤ lk (tgt s xs) ∧ lk (tgt s xs) ≤ 16 ∧ I64 (tgt s xs).1) := fun h0 => by (
 have hl := hOk.wk.lead (fil_zero h0).1
 have hk := ok_lks hOk (hOk.wk.file_ne (fil_zero h0).2) (fil_zero h0).1
 have hlow := hOk.wk.low _ hl.1
 have hnx := hOk.wk.nx
 refine ⟨hl.2.1, fun p hp he => ?_, hk.1, hk.2, ⟨by omega, by omega⟩⟩
 have h1 := gt_of hOk.wk.up hp
 have h2 := gt_of hOk.wk.up hl.1
 rw [← h1, he, h2])
 have HEN : Hid (filE s.1 xs = 0 → vacE s.1 ys = 0 → ∀ W v, Below n w W → ndsN.owns n W [v] (ch s.1 (tgt s xs).1 (wL (lk (tgt s xs) + 1))) → Calls Tryz.prog 110 #[.agg #[v, .int .i64 s.2], .int .i64 (stdI s.1 ys), .slice bv ys.length dv, .int .i64 (tgt s xs).1] W fun e w' => (∃ E, e = .returned E ∧ EV (aerr (en (hold s ys)) (lst ys, (tgt s xs).1)) E) ∧ W.grownBy w' v.ownBlock ∧ (aerr (en (hold s ys)) (lst ys, (tgt s xs).1) = 0 → ndsN.owns n w' [v] (lnkN s (hold s ys) (lst ys) (tgt s xs)).1) ∧ (aerr (en (hold s ys)) (lst ys, (tgt s xs).1) ≠ 0 → Below W.heap.size W w')) := fun h0 h1 W v hbW hOW => by (
 obtain ⟨z1, z2, z3, z4, z5, z6⟩ := vac_zero hOk.wk h1
 have hl := hOk.wk.lead (fil_zero h0).1
 have hne : (tgt s xs).1 ≠ (hold s ys).1 := fun e => by (
 have h1 := gt_of hOk.wk.up z3
 have h2 := gt_of hOk.wk.up hl.1
 rw [← e, h2] at h1
 rw [← h1, (fil_zero h0).2] at z5
 cases z5)
 obtain ⟨k, hk⟩ := List.getElem?_of_mem z3
 have hU := ups_ch (i := (tgt s xs).1) (f := wL (lk (tgt s xs) + 1)) (fun _ => rfl) hOk.wk.up
 have hk' : (ch s.1 (tgt s xs).1 (wL (lk (tgt s xs) + 1)))[k]? = some (hold s ys) := by (
 unfold ch
 rw [List.getElem?_map, hk]
 simp only [Option.map_some]
 rw [if_neg (Ne.symm hne)])
 have := enlist_any n 0 v _ s.2 hU (by rw [ch_length]; have := hOk.wk.len; omega) k (hold s ys) hk' bv dv ys z1 (tgt s xs).1 (HTG.out h0).2.2.2.2 W hOW (hY.below hbW).at
 rw [← z4] at this
 refine this.mono fun e w' h => ⟨h.1, h.2.1, fun h2 => ?_, h.2.2.2⟩
 have h3 := h.2.2.1 h2
 rw [z4, ch_comm (f := wL _) (g := wE _) hne (fun _ => rfl) (fun _ => rfl)] at h3
 exact h3)
 have HS : Hid (Box w S 29 #[.slice a s.1.length c, .int .i64 s.2] ∧ ndsN.owns n w [.slice a s.1.length c] s.1 ∧ n ≤ w.heap.size ∧ n ≤ S ∧ Ups s.1) := ⟨hB, hO, hnw, hnS, hOk.wk.up⟩
 have HRE : Hid (lnE s xs ys = (if filE s.1 xs ≠ 0 then filE s.1 xs else if vacE s.1 ys ≠ 0 then vacE s.1 ys else if lk (tgt s xs) = 16 then 110 else aerr (en (hold s ys)) (lst ys, (tgt s xs).1)) ∧ (lnkN s (hold s ys) (lst ys) (tgt s xs)).2 = s.2) := ⟨rfl, rfl⟩
 obtain ⟨post, hpost⟩ : ∃ post : Ending → World → Prop, post = fun e w' => (∃ E, e = .returned E ∧ EV (lnE s xs ys) E) ∧ Below n w w' ∧ (lnE s xs ys = 0 → MS n w' S (lnkN s (hold s ys) (lst ys) (tgt s xs))) := ⟨_, rfl⟩
 have HPo : Hid (∀ E w', EV (lnE s xs ys) E → Below n w w' → (lnE s xs ys = 0 → MS n w' S (lnkN s (hold s ys) (lst ys) (tgt s xs))) → post (.returned E) w') := fun E w' h1 h2 h3 => by rw [hpost]; exact ⟨⟨E, rfl, h1⟩, h2, h3⟩
 rw [← hpost]
 have HSK : Hid (∀ (k : Nat) (p : Nd), s.1[k]? = some p → ∃ p' : Nd, (lnkN s (hold s ys) (lst ys) (tgt s xs)).1[k]? = some p' ∧ p'.1 = p.1) := fun k p h => by (
 obtain ⟨p1, h1, h2⟩ := ch_at (i := (hold s ys).1) (f := wE (ins (en (hold s ys)) (lst ys, (tgt s xs).1))) (fun _ => rfl) h
 obtain ⟨p2, h3, h4⟩ := ch_at (i := (tgt s xs).1) (f := wL (lk (tgt s xs) + 1)) (fun _ => rfl) h1
 exact ⟨p2, h3, h4.trans h2⟩)
 generalize lnE s xs ys = re at HRE HPo
 obtain ⟨l, nx⟩ := s
 simp only at HFF HVA HS hB HTG HPo HEN HRE HSK
 obtain ⟨g0, g1, -, -⟩ := hB.two
 obtain ⟨L, hL⟩ := exa (l.length)
 obtain ⟨m, hm⟩ := exa (xs.length)
 obtain ⟨m2, hm2⟩ := exa (ys.length)
 rw [← hL] at HFF HVA HS g0
 rw [← hm] at HFF ⊢
 rw [← hm2] at HVA HEN ⊢
 generalize lnkN (l, nx) (hold (l, nx) ys) (lst ys) (tgt (l, nx) xs) = s' at HRE HPo HEN HSK
 generalize tgt (l, nx) xs = T at HRE HEN HTG
 generalize aerr (en (hold (l, nx) ys)) (lst ys, T.1) = ae at HRE HEN
 generalize stdI l ys = si at HVA HEN
 generalize vacE l ys = ve at HVA HRE HEN
 generalize (wlk l 1 xs).1 = wi at HFF HTG
 generalize filE l xs = fe at HFF HTG HRE HEN
 clear hB hO hX hY hL hm hm2 hpost hOk hok
 go_enter Tryz.func250, Tryz.ntmps250
 go_wp2_with fail
 refine HFF.mono ?_
 rintro e1 w1 ⟨hr, hb1⟩
 have HB1 : Hid (Below w.heap.size w w1) := hb1
 rcases hr with ⟨hne, E, rfl, hE⟩ | ⟨h0, k, p, b, o, hk, hpw, hix, rfl⟩
 · obtain ⟨a2, l2, c2, s2, rfl⟩ : ∃ a2 l2 c2 s2, E = refV (.slice a2 l2 c2) fe s2 := by
     rcases hE with ⟨h, _⟩ | ⟨_, a2, l2, c2, s2, h⟩
     · exact absurd h hne
     · exact ⟨a2, l2, c2, s2, h⟩
   have HN : Hid (fe ≠ 0 ∧ re = fe) := ⟨hne, by rw [HRE.out.1, if_pos hne]⟩
   clear hne hE hb1 HFF g0 g1
   go_wp2
   exact HPo.out _ _ (by rw [HN.out.2]; exact ev_ref HN.out.1 _ _ _ _) (HB1.out.mono HS.out.2.2.1) (fun h => absurd (HN.out.2.symm.trans h) HN.out.1)
 subst h0
 obtain ⟨e', f', rfl, hnb, hbw, hob, hPu⟩ := found_is HS.out.2.1 hk hix
 have hpT : p = T := (HTG.out rfl).2.1 p (List.mem_of_getElem? hk) (hpw.trans (HTG.out rfl).1)
 subst hpT
 have HPU : Hid (∀ W, Below w.heap.size w W → Puts n (.slice a L c) l k p b e' f' W) := hPu
 have HK : Hid (l[k]? = some p ∧ 1 ≤ lk p ∧ lk p ≤ 16 ∧ (Value.slice a L c).ownBlock = some b) := ⟨hk, (HTG.out rfl).2.2.1, (HTG.out rfl).2.2.2.1, hob⟩
 have HCV := HVA.out w1 hb1
 have HBX1 : Hid (Box w1 S 29 #[.slice a L c, .int .i64 nx]) := HS.out.1.below hb1 HS.out.1.lt
 obtain ⟨c0, c1, -, -⟩ := HBX1.out.two
 clear hPu hk hpw hix hb1 HFF g0 g1 hnb hbw hob HVA
 go_wp2_with fail
 refine HCV.mono ?_
 rintro e2 w2 ⟨⟨i2, E, rfl, hE, hi2⟩, hb2⟩
 have HB2 : Hid (Below w.heap.size w w2) := below_any HB1.out hb2
 have HBX2 : Hid (Box w2 S 29 #[.slice a L c, .int .i64 nx]) := HBX1.out.below hb2 HBX1.out.lt
 clear hb2 HCV c0 c1
 by_cases hv : ve = 0
 case neg => (
 obtain ⟨a2, l2, c2, s2, rfl⟩ : ∃ a2 l2 c2 s2, E = refV (.slice a2 l2 c2) ve s2 := by (
 rcases hE with ⟨h, _⟩ | ⟨_, a2, l2, c2, s2, h⟩
 · exact absurd h hv
 · exact ⟨a2, l2, c2, s2, h⟩)
 have HN : Hid (ve ≠ 0 ∧ re = ve) := ⟨hv, by rw [HRE.out.1, if_neg (by decide), if_pos hv]⟩
 clear hv hE hi2
 go_wp2
 exact HPo.out _ _ (by rw [HN.out.2]; exact ev_ref HN.out.1 _ _ _ _) (HB2.out.mono HS.out.2.2.1) (fun h => absurd (HN.out.2.symm.trans h) HN.out.1))
 subst hv
 obtain rfl : E = .nilIface := by (
 rcases hE with ⟨_, h⟩ | ⟨h, _⟩
 · exact h
 · exact absurd rfl h)
 obtain rfl := hi2 rfl
 clear hE hi2
 have hP := HPU.out w2 HB2.out
 obtain ⟨-, -, c2, -, -, -⟩ := nv_cells hP.1
 have hfz := hP.2.1 (k * 6 + 2)
 have HR2 : Hid (re = if lk p = 16 then 110 else ae) := by (
 have := HRE.out.1
 rw [if_neg (by decide), if_neg (by decide)] at this
 exact this)
 have hlk : 1 ≤ lk p ∧ lk p ≤ 16 := ⟨HK.out.2.1, HK.out.2.2.1⟩
 obtain ⟨pk, hpk⟩ := exa (lk p)
 have HPK : Hid (pk = lk p) := hpk
 rw [← hpk] at c2 HR2 hlk HEN
 clear hpk
 by_cases h16 : pk = 16
 · have hre : re = 110 := by rw [HR2.out, if_pos h16]
   subst hre
   subst h16
   have hr := refuse_bad 110 (by decide) av m cv w2
   clear hP HEN
   go_wp2_with fail
   refine hr.mono ?_
   rintro e3 w3 ⟨rfl, rfl⟩
   go_wp2
   exact HPo.out _ _ (ev_ref (by decide) _ _ _ _) (HB2.out.mono HS.out.2.2.1) (fun h => by omega)
 have hre : re = ae := by rw [HR2.out, if_neg h16]
 subst hre
 have hst := hP.2.2.2 2 (.int .i64 (pk + 1)) (wL (pk + 1) p) e' f' (by omega) rfl ⟨hP.2.2.1.1, hP.2.2.1.2.1, hP.2.2.1.2.2.1, (show I64 (pk + 1) from ⟨by omega, by omega⟩), hP.2.2.1.2.2.2.2⟩
 obtain ⟨W3, hW3⟩ := exa (w2.setCell ⟨b, k * 6 + 2, none⟩ (.int .i64 (pk + 1)))
 rw [← hW3] at hst
 have hO2 := ndsN.obelow HS.out.2.1 HB2.out
 have hB3 : Box W3 S 29 #[.slice a L c, .int .i64 nx] := HBX2.out.grown hst.2.2 (own_apart HBX2.out hO2)
 have hb3 : Below n w W3 := (HB2.out.mono HS.out.2.2.1).trans (row_below hO2 (Nat.le_trans HS.out.2.2.1 HB2.out.size) hst.2.2)
 have hO3 := hst.1
 rw [set_ch HS.out.2.2.2.2 HK.out.1] at hO3
 have H3 : Hid (Box W3 S 29 #[.slice a L c, .int .i64 nx] ∧ Below n w W3 ∧ ndsN.owns n W3 [.slice a L c] (ch l p.1 (wL (pk + 1))) ∧ n ≤ W3.heap.size) := ⟨hB3, hb3, hO3, by have := hB3.lt; have := HS.out.2.2.2.1; omega⟩
 have hcell : ∀ W (l' : List Nd) (p' : Nd), ndsN.owns n W [.slice a L c] l' → l'[k]? = some p' → p'.1 = p.1 → W.cell? ⟨b, k * 6, none⟩ = some (.int .i64 p.1) := fun W l' p' h1 h2 h3 => by (
 obtain ⟨g', cap', e2, f2, hv, _, _, _, hPu'⟩ := nds_own_at h1 k p' h2
 have hgg : b = g' := by (
 have := HK.out.2.2.2
 rw [hv] at this
 exact (Option.some.inj this).symm)
 subst hgg
 rw [← h3]
 exact (hPu' W (Below.refl _ _)).1 0 _ rfl)
 have HCL : Hid (∀ W (l' : List Nd) (p' : Nd), ndsN.owns n W [.slice a L c] l' → l'[k]? = some p' → p'.1 = p.1 → W.cell? ⟨b, k * 6, none⟩ = some (.int .i64 p.1)) := hcell
 have hk3 : (ch l p.1 (wL (pk + 1)))[k]? = some (wL (pk + 1) p) := by (
 unfold ch
 rw [List.getElem?_map, HK.out.1]
 simp)
 have d2 := hcell W3 _ _ hO3 hk3 rfl
 have HCE := HEN.out (by simp) (by simp) W3.drew _ hb3.drew (by exact hO3)
 obtain ⟨d0, d1, -, -⟩ := hB3.two
 obtain ⟨pi, hpi⟩ := exa (p.1)
 rw [← hpi] at d2 HCE HCL
 have HPI : Hid (pi = p.1) := hpi
 have HS0 : W3.drew.cell? ⟨S, 0, none⟩ = some (.slice a L c) ∧ W3.drew.cell? ⟨S, 1, none⟩ = some (.int .i64 nx) ∧ W3.drew.cell? ⟨b, k * 6, none⟩ = some (.int .i64 pi) := ⟨d0, d1, d2⟩
 clear hst hO2 hB3 hb3 hO3 hcell d0 d1 d2 hP HEN hpi
 go_wp2
 rw [← hW3]
 clear hW3 c2 hfz
 have HP7 : Hid (∀ w7, (re = 0 → ndsN.owns n w7 [.slice a L c] s'.1) → (re ≠ 0 → Below W3.drew.heap.size W3.drew w7) → w7.cell? ⟨b, k * 6, none⟩ = some (.int .i64 pi)) := fun w7 hO7 hb7 => by (
 by_cases hz : re = 0
 · obtain ⟨p', h1, h2⟩ := HSK.out k p HK.out.1
   exact HCL.out w7 _ p' (hO7 hz) h1 (h2.trans HPI.out.symm)
 · rw [(hb7 hz).cell (p := ⟨b, k * 6, none⟩) (cell_lt HS0.2.2)]
   exact HS0.2.2)
 go_region_held3 (fun U => U.cell? ⟨S, 0, none⟩ = some (.slice a L c) ∧ U.cell? ⟨S, 1, none⟩ = some (.int .i64 nx) ∧ U.cell? ⟨b, k * 6, none⟩ = some (.int .i64 pi))
   (first | with_reducible exact HS1 | with_reducible exact HS0)
   ((first | (go_at_call 110; refine HCE.mono ?_; rintro e7 w7 ⟨⟨E, rfl, hE⟩, hg7, hO7, hb7⟩; have hx7 : Box w7 S 29 #[.slice a L c, .int .i64 nx] := H3.out.1.drew.grown hg7 (own_apart H3.out.1 H3.out.2.2.1); have hp7 := HP7.out w7 hO7 hb7; have HS1 : w7.cell? ⟨S, 0, none⟩ = some (.slice a L c) ∧ w7.cell? ⟨S, 1, none⟩ = some (.int .i64 nx) ∧ w7.cell? ⟨b, k * 6, none⟩ = some (.int .i64 pi) := ⟨hx7.two.1, hx7.two.2.1, hp7⟩)))
 have HF : Hid (EV re E ∧ Below n w w7 ∧ (re = 0 → MS n w7 S s')) := by (
 refine ⟨hE, H3.out.2.1.trans ((Below.refl _ W3).drew.grown hg7 (by exact H3.out.2.2.2) (own_base H3.out.2.2.1)), fun h0 => ⟨.slice a L c, ?_, hO7 h0⟩⟩
 rw [HRE.out.2]
 exact hx7)
 clear hE hg7 hO7 hx7 hb7 hp7 HS1 HS0 HCE
 go_wp2
 exact HPo.out _ _ HF.out.1 HF.out.2.1 HF.out.2.2
end Go.Proofs.YtopcefhncildnaaGreatDoor
namespace Go.Proofs.YtopcefhncildnaaGreatDoor
open Go.RowKit
open P (ArgT serr sval)
theorem linkDo_any (n S : Nat) (s : St) (hOk : Ok s) (p q : ByteArray) (hq : serr q = 0) (v2 : Value) (w : World) (hM : MS n w S s) (hnS : n ≤ S) (hL : StayL n w v2 [p, q]) :
   Calls Tryz.prog 249 #[.pointer (some ⟨S, 0, none⟩), v2] w fun e w' => (∃ E, e = .returned E ∧ EV (lnE s (sval p) (sval q)) E) ∧ Below n w w' ∧ (lnE s (sval p) (sval q) = 0 → MS n w' S (lnkN s (hold s (sval q)) (lst (sval q)) (tgt s (sval p)))) := by
 obtain ⟨b, o, av, cv, hix, hc, hX⟩ := hL 0 p rfl
 obtain ⟨b2, o2, bv, dv, hix2, hc2, hY⟩ := hL 1 q rfl
 have hix : ∀ W, (Instr.indexAt 106 v2 (.int .i64 0)).run Tryz.prog W = .ok (.pointer (some ⟨b, o, none⟩)) W := hix
 have hix2 : ∀ W, (Instr.indexAt 106 v2 (.int .i64 1)).run Tryz.prog W = .ok (.pointer (some ⟨b2, o2, none⟩)) W := hix2
 have HC := link_any n S s hOk av bv cv dv (sval p) (sval q) (lst_name hq) w.drew (by exact hM) hnS (hX.below (Below.refl _ w).drew) (hY.below (Below.refl _ w).drew)
 obtain ⟨post, hpost⟩ : ∃ post : Ending → World → Prop, post = fun e w' => (∃ E, e = .returned E ∧ EV (lnE s (sval p) (sval q)) E) ∧ Below n w w' ∧ (lnE s (sval p) (sval q) = 0 → MS n w' S (lnkN s (hold s (sval q)) (lst (sval q)) (tgt s (sval p)))) := ⟨_, rfl⟩
 have HC' := HC.mono (R' := fun e w' => post e w' ∧ (∃ E, e = .returned E ∧ post (.returned E) w') ∧ Below n w w') fun e w' h => by (
 have hb : Below n w w' := (Below.refl _ w).drew.trans h.2.1
 obtain ⟨⟨E, rfl, h1⟩, h2, h3⟩ := h
 have hh : post (.returned E) w' := by rw [hpost]; exact ⟨⟨E, rfl, h1⟩, hb, h3⟩
 exact ⟨hh, ⟨E, rfl, hh⟩, hb⟩)
 rw [← hpost]
 have HCC : Hid (∀ w', Below n w w' → w'.cell? ⟨b, o, none⟩ = some (.slice av (sval p).length cv) ∧ w'.cell? ⟨b2, o2, none⟩ = some (.slice bv (sval q).length dv)) := fun w' hb => ⟨hc w' hb, hc2 w' hb⟩
 obtain ⟨m, hm⟩ := exa ((sval p).length)
 obtain ⟨m2, hm2⟩ := exa ((sval q).length)
 rw [← hm, ← hm2] at HC' HCC
 have HS0 : w.drew.cell? ⟨b, o, none⟩ = some (.slice av m cv) ∧ w.drew.cell? ⟨b2, o2, none⟩ = some (.slice bv m2 dv) := HCC.out w (Below.refl _ _)
 clear hX hY hM hpost hm hm2 hc hc2 hL HC
 go_enter Tryz.func249, Tryz.ntmps249
 go_wp2
 go_region_held3 (fun U => U.cell? ⟨b, o, none⟩ = some (.slice av m cv) ∧ U.cell? ⟨b2, o2, none⟩ = some (.slice bv m2 dv))
   (first | with_reducible exact HS1 | with_reducible exact HS0)
   ((first | (go_at_call 250; refine HC'.mono ?_; rintro e1 w1 ⟨-, ⟨E, rfl, h2⟩, hb1⟩; have HS1 : w1.cell? ⟨b, o, none⟩ = some (.slice av m cv) ∧ w1.cell? ⟨b2, o2, none⟩ = some (.slice bv m2 dv) := HCC.out w1 hb1)))
 have H2 : Hid (post (.returned E) w1) := h2
 clear h2 HC' hb1 HS0 HS1 hix hix2
 go_wp2
 exact H2.out
theorem Link_any (n0 : Nat) (a : Option Addr) (c : Nat) (s : St) (p q : ByteArray) (hp : p.size ≤ maxLen) (hq : q.size ≤ maxLen) (w : World) (hA : ndsN.lies n0 w [.slice a s.1.length c] s.1) (hg : Glob w) :
   Calls Tryz.prog 186 #[.agg #[.slice a s.1.length c, .int .i64 s.2], .string p, .string q] w (Changed s [p, q] (lnE s (sval p) (sval q)) (lnkN s (hold s (sval q)) (lst (sval q)) (tgt s (sval p))) w) := by
 obtain ⟨W1, hW1⟩ := exa (w.alloc (.cells #[.slice a s.1.length c, .int .i64 s.2] 29))
 obtain ⟨W2, hW2⟩ := exa (W1.alloc (.cells #[.slice none 0 0, .int .i64 0] 29))
 obtain ⟨W3, hW3⟩ := exa (W2.alloc (.cells #[.string p, .string q] 9))
 have hb1 : Below w.heap.size w W1 := by rw [hW1]; exact (Below.refl _ w).alloc (Nat.le_refl _) _
 have hb2 : Below w.heap.size w W2 := by rw [hW2]; exact hb1.alloc hb1.size _
 have hb3 : Below w.heap.size w W3 := by rw [hW3]; exact hb2.alloc hb2.size _
 have hs1 : W1.heap.size = w.heap.size + 1 := by rw [hW1]; exact Array.size_push _
 have hs2 : W2.heap.size = w.heap.size + 1 + 1 := by rw [hW2, ← hs1]; exact Array.size_push _
 have hBS : Box W2 w.heap.size 29 #[.slice a s.1.length c, .int .i64 s.2] := by
   have : Box W1 w.heap.size 29 #[.slice a s.1.length c, .int .i64 s.2] := by rw [hW1]; exact Box.new _ _ _
   rw [hW2]; exact this.alloc _
 have hBR : Box W3 (w.heap.size + 1) 29 #[.slice none 0 0, .int .i64 0] := by rw [hW3, hW2, ← hs1]; exact (Box.new _ _ _).alloc _
 have hBT : Box W3 W2.heap.size 9 #[.string p, .string q] := by rw [hW3]; exact Box.new _ _ _
 have hX : ArgT w.heap.size W3 (.slice (some ⟨W2.heap.size, 0, none⟩) 2 2) [p, q] := argT_box (ps := [p, q]) hBT hb2.size (by simp [maxLen]) fun r hr => by (
 rcases List.mem_cons.1 hr with rfl | hr
 · exact hp
 · rw [List.mem_singleton.1 hr]; exact hq)
 have HC := change0_any 249 Tryz.call249 n0 w.heap.size a c s (some ⟨W2.heap.size, 0, none⟩) 2 [p, q] (by simp) W3 (ndsN.below hA hb3) hX (hg.below hb3 hg.lt) (lnE s (sval p) (sval q)) (lnkN s (hold s (sval q)) (lst (sval q)) (tgt s (sval p)))
   (fun hok hps V v2 B S hbV hB hBS hL hM => (linkDo_any B S s hok p q (psE_zero hps q (by simp)) v2 V hM hBS hL).mono fun e w' h => ⟨h.1, h.2.1, fun k => (h.2.2 k).ml⟩)
 rw [hs2] at HC
 have HCH : Hid (∀ e w', Changed s [p, q] (lnE s (sval p) (sval q)) (lnkN s (hold s (sval q)) (lst (sval q)) (tgt s (sval p))) W3 e w' → ∃ a3 n3 c3 x3 k3, e = .returned (.tuple #[.agg #[.slice a3 n3 c3, .int .i64 x3], .int .i64 k3]) ∧ Below W3.heap.size W3 w' ∧ Changed s [p, q] (lnE s (sval p) (sval q)) (lnkN s (hold s (sval q)) (lst (sval q)) (tgt s (sval p))) w (.returned (.tuple #[.agg #[.slice a3 n3 c3, .int .i64 x3], .int .i64 k3])) ((w'.setCell ⟨w.heap.size + 1, 0, none⟩ (.slice a3 n3 c3)).setCell ⟨w.heap.size + 1, 1, none⟩ (.int .i64 x3))) := fun e w' h => changed_up hb3 (by have : W3.heap.size = W2.heap.size + 1 := (by rw [hW3]; exact Array.size_push _); omega) h
 generalize lnE s (sval p) (sval q) = K at HC HCH ⊢
 generalize lnkN s (hold s (sval q)) (lst (sval q)) (tgt s (sval p)) = s' at HC HCH ⊢
 obtain ⟨post, hpost⟩ : ∃ post : Ending → World → Prop, post = Changed s [p, q] K s' w := ⟨_, rfl⟩
 rw [← hpost] at HCH ⊢
 obtain ⟨pre, hpre⟩ : ∃ post : Ending → World → Prop, post = Changed s [p, q] K s' W3 := ⟨_, rfl⟩
 rw [← hpre] at HCH HC
 have HB : Hid (Box W3 (w.heap.size + 1) 29 #[.slice none 0 0, .int .i64 0]) := hBR
 obtain ⟨g0, g1, -, -⟩ := hBS.two
 rw [hW2, hW1] at g0 g1
 obtain ⟨n, hn⟩ := exa (s.1.length)
 obtain ⟨nx, hnx⟩ := exa (s.2)
 rw [← hn] at HC hW1 g0 g1 ⊢
 rw [← hnx] at HC hW1 g0 g1 ⊢
 clear hA hg hp hq hb1 hb2 hb3 hBR hBS hBT hX hn hnx hpost hpre hs1 hs2
 go_enter Tryz.func186, Tryz.ntmps186
 go_wp2_with fail
 rw [← hW1, ← hW2, ← hW3]
 clear hW1 hW2 hW3 g0 g1
 refine HC.mono ?_
 intro e4 w4 h4
 obtain ⟨a3, n3, c3, x3, k3, rfl, hb4, hP⟩ := HCH.out e4 w4 h4
 obtain ⟨d0, d1, e0, e1⟩ := (HB.out.below hb4 HB.out.lt).two
 have HP : Hid (post (.returned (.tuple #[.agg #[.slice a3 n3 c3, .int .i64 x3], .int .i64 k3])) ((w4.setCell ⟨w.heap.size + 1, 0, none⟩ (.slice a3 n3 c3)).setCell ⟨w.heap.size + 1, 1, none⟩ (.int .i64 x3))) := hP
 clear h4 hP hb4 HC HCH
 go_wp2
 refine bodyPost_ret (v := .tuple #[.agg #[.slice a3 n3 c3, .int .i64 x3], .int .i64 k3]) (by simp [results, Tryz.results186, go_sem, *]) rfl HP.out
end Go.Proofs.YtopcefhncildnaaGreatDoor
namespace Go.Proofs.YtopcefhncildnaaGreatDoor
open Go.RowKit
open F (Fl flN bksN)
open P (ArgT serr sval)
theorem nds_put_file {n : Nat} {w : World} {v : Value} {l : List Nd} (h : ndsN.owns n w [v] l) {k : Nat} {p : Nd} (hp : l[k]? = some p) {b : Nat} (hob : v.ownBlock = some b) (u : Value) (f : Fl) {base : Nat} (hb : b < base) (hn : n ≤ base) (hf : bksN.lies base w [u] f.2) (hI : I64 f.1) :
   ndsN.lies n ((w.setCell ⟨b, k * 6 + 4, none⟩ (.int .i64 f.1)).setCell ⟨b, k * 6 + 5, none⟩ u) [v] (l.set k (wF f p)) ∧ w.grownBy ((w.setCell ⟨b, k * 6 + 4, none⟩ (.int .i64 f.1)).setCell ⟨b, k * 6 + 5, none⟩ u) v.ownBlock := by
 obtain ⟨v', vss, hv, hC, hE⟩ := h
 obtain rfl : v = v' := by simpa using hv
 replace hC : w.ownsRow n 47 6 v l.length vss.flatten := hC
 obtain ⟨us, hu, hO⟩ := hE.get hp
 obtain ⟨e, f0, rfl, hL⟩ := nd_own hO
 obtain ⟨g, cap, rfl⟩ : ∃ g cap, v = .slice (some ⟨g, 0, none⟩) l.length cap := by (
 rcases hC.2 with ⟨_, h0⟩ | ⟨g, cap, cur, h', _⟩
 · have := (List.getElem?_eq_some_iff.1 hp).1; omega
 · exact ⟨g, cap, h'⟩)
 obtain rfl : g = b := Option.some.inj hob
 have hsz : ∀ us ∈ vss, us.length = 6 := fun us h => by
   obtain ⟨q, _, hq⟩ := hE.left h
   exact ndN.length (ndN.olies hq)
 obtain ⟨h1, h2⟩ := hC.stored (k * 6 + 4) (.int .i64 f.1)
 obtain ⟨h3, h4⟩ := h1.stored (k * 6 + 5) u
 have hk : k < vss.length := (List.getElem?_eq_some_iff.1 hu).1
 rw [flat_set hsz hu (by omega)] at h3
 have hsz2 : ∀ us ∈ vss.set k ((nv p e f0).set 4 (.int .i64 f.1)), us.length = 6 := fun us h => by (
 rcases List.mem_or_eq_of_mem_set h with h | rfl
 · exact hsz us h
 · simp [nv])
 rw [flat_set hsz2 (List.getElem?_set_self hk) (by omega), List.set_set] at h3
 have hg := h2.trans h4
 have hcl : Clear w (some g) ndN.ids := Clear.own hC (by decide)
 refine ⟨⟨_, _, rfl, by rw [List.length_set]; exact Cells.own h3, (hE.mono fun _ _ h => ndN.olies (ndN.ogrown h hg hcl)).set k ?_⟩, hg⟩
 have hN := ndN.ogrown (nd_omk hL) hg hcl
 obtain ⟨e2, f2, he, hL2⟩ := nd_own hN
 simp only [nv, List.cons.injEq, and_true, true_and] at he
 obtain ⟨rfl, rfl⟩ := he
 exact nd_mkN (p := wF f p) ⟨hL2.1.arg, bksN.weaken (bksN.keep hf (Same.trans (.set hb) (by simp [World.setCell]) (.set hb))) hn, hL2.2.2.1, hL2.2.2.2.1, hI⟩
def rwE (s : St) (xs : List ByteArray) (ke : Int) : Int := if filE s.1 xs ≠ 0 then filE s.1 xs else ke
theorem rewrite1_any (G : Nat) (hG : ∀ args w, (callFunc G args).run Tryz.prog w = .ok (.enter G args) w) (c1 : Value) (n : Nat) (v : Value) (s : St) (hOk : Ok s) (av : Option Addr) (cv : Nat) (xs : List ByteArray) (ke : Int) (f' : Fl) (w : World) (hO : ndsN.owns n w [v] s.1) (hnw : n ≤ w.heap.size) (hX : Stay n w (.slice av xs.length cv) xs)
   (hw : filE s.1 xs = 0 → ∀ W us, Below w.heap.size w W → flN.lies n W us (fi (tgt s xs)) → Calls Tryz.prog G #[.agg us.toArray, c1] W fun e w' => (∃ us', e = .returned (.tuple #[.agg us'.toArray, .int .i64 ke]) ∧ flN.lies W.heap.size w' us' f') ∧ Below W.heap.size W w') :
   Calls Tryz.prog 50 #[.agg #[v, .int .i64 s.2], .slice av xs.length cv, .func (.func G) #[] #[c1]] w fun e w' => (∃ E, e = .returned E ∧ EV (rwE s xs ke) E) ∧ w.grownBy w' v.ownBlock ∧ (rwE s xs ke = 0 → ndsN.lies n w' [v] (filN s (tgt s xs) f').1) := by
 obtain ⟨a, c, rfl⟩ := own_len hO
 obtain ⟨W, hW⟩ := exa (w.alloc (.cells #[.slice a s.1.length c, .int .i64 s.2] 29))
 have hbW : Below w.heap.size w W := by rw [hW]; exact (Below.refl _ w).alloc (Nat.le_refl _) _
 have hBS : Box W w.heap.size 29 #[.slice a s.1.length c, .int .i64 s.2] := by rw [hW]; exact Box.new _ _ _
 have HFF := findFile_any n 0 a c s hOk.wk av cv xs W (ndsN.olies (ndsN.obelow hO hbW)) (hX.below (hbW.mono hnw)).at
 have HTG : Hid (filE s.1 xs = 0 → (wlk s.1 1 xs).1 = (tgt s xs).1 ∧ ∀ p ∈ s.1, p.1 = (tgt s xs).1 → p = tgt s xs) := fun h0 => by (
 have hl := hOk.wk.lead (fil_zero h0).1
 refine ⟨hl.2.1, fun p hp he => ?_⟩
 have h1 := gt_of hOk.wk.up hp
 have h2 := gt_of hOk.wk.up hl.1
 rw [← h1, he, h2])
 have HW : Hid (filE s.1 xs = 0 → ∀ W us, Below w.heap.size w W → flN.lies n W us (fi (tgt s xs)) → Calls Tryz.prog G #[.agg us.toArray, c1] W fun e w' => (∃ us', e = .returned (.tuple #[.agg us'.toArray, .int .i64 ke]) ∧ flN.lies W.heap.size w' us' f') ∧ Below W.heap.size W w') := hw
 have HS : Hid (ndsN.owns n w [.slice a s.1.length c] s.1 ∧ n ≤ w.heap.size ∧ Ups s.1 ∧ Below w.heap.size w W) := ⟨hO, hnw, hOk.wk.up, hbW⟩
 have HRE : Hid (rwE s xs ke = if filE s.1 xs ≠ 0 then filE s.1 xs else ke) := rfl
 have HSF : Hid ((filN s (tgt s xs) f').1 = ch s.1 (tgt s xs).1 (wF f')) := rfl
 obtain ⟨post, hpost⟩ : ∃ post : Ending → World → Prop, post = fun e w' => (∃ E, e = .returned E ∧ EV (rwE s xs ke) E) ∧ w.grownBy w' (Value.slice a s.1.length c).ownBlock ∧ (rwE s xs ke = 0 → ndsN.lies n w' [.slice a s.1.length c] (filN s (tgt s xs) f').1) := ⟨_, rfl⟩
 have HPo : Hid (∀ E w', EV (rwE s xs ke) E → w.grownBy w' (Value.slice a s.1.length c).ownBlock → (rwE s xs ke = 0 → ndsN.lies n w' [.slice a s.1.length c] (filN s (tgt s xs) f').1) → post (.returned E) w') := fun E w' h1 h2 h3 => by rw [hpost]; exact ⟨⟨E, rfl, h1⟩, h2, h3⟩
 rw [← hpost]
 generalize rwE s xs ke = re at HRE HPo
 obtain ⟨l, nx⟩ := s
 simp only at HFF HTG HW HS HRE HPo HSF hBS ⊢
 generalize (filN (l, nx) (tgt (l, nx) xs) f').1 = l' at HSF HPo
 generalize tgt (l, nx) xs = T at HTG HW HSF
 obtain ⟨g0, g1, -, -⟩ := hBS.two
 obtain ⟨L, hL⟩ := exa (l.length)
 obtain ⟨m, hm⟩ := exa (xs.length)
 rw [hW] at g0 g1
 rw [← hL] at HFF HS g0 g1 HPo hW ⊢
 rw [← hm] at HFF ⊢
 generalize (wlk l 1 xs).1 = wi at HFF HTG
 generalize filE l xs = fe at HFF HTG HRE HW
 clear hO hX hL hm hpost hOk hbW hBS hw
 go_enter Tryz.func50, Tryz.ntmps50
 go_wp2_with fail
 rw [← hW]
 clear hW g0 g1
 refine HFF.mono ?_
 rintro e1 w1 ⟨hr, hb1⟩
 have HB1 : Hid (Below w.heap.size w w1) := below_any HS.out.2.2.2 hb1
 rcases hr with ⟨hne, E, rfl, hE⟩ | ⟨h0, k, p, b, o, hk, hpw, hix, rfl⟩
 · obtain ⟨a2, l2, c2, s2, rfl⟩ : ∃ a2 l2 c2 s2, E = refV (.slice a2 l2 c2) fe s2 := by
     rcases hE with ⟨h, _⟩ | ⟨_, a2, l2, c2, s2, h⟩
     · exact absurd h hne
     · exact ⟨a2, l2, c2, s2, h⟩
   have HN : Hid (fe ≠ 0 ∧ re = fe) := ⟨hne, by rw [HRE.out, if_pos hne]⟩
   clear hne hE hb1 HFF
   go_wp2
   exact HPo.out _ _ (by rw [HN.out.2]; exact ev_ref HN.out.1 _ _ _ _) (grown_below HB1.out _) (fun h => absurd (HN.out.2.symm.trans h) HN.out.1)
 subst h0
 obtain ⟨e', f0, rfl, hnb, hbw, hob, hPu⟩ := found_is HS.out.1 hk hix
 have hpT : p = T := (HTG.out rfl).2 p (List.mem_of_getElem? hk) (hpw.trans (HTG.out rfl).1)
 subst hpT
 have HPU : Hid (∀ W, Below w.heap.size w W → Puts n (.slice a L c) l k p b e' f0 W) := hPu
 have HK : Hid (l[k]? = some p ∧ (Value.slice a L c).ownBlock = some b ∧ b < w.heap.size) := ⟨hk, hob, hbw⟩
 have hP := hPu w1 HB1.out
 obtain ⟨-, -, -, -, c4, c5⟩ := nv_cells hP.1
 obtain ⟨fa, fc, hfe, -, -⟩ := Shape.list_len (S := F.bkN) (ht := Tryz.underlying43) (hc := F.cells43) (bksN.olies hP.2.2.1.2.1)
 obtain rfl : f0 = _ := by simpa using hfe
 have HCF := HW.out rfl w1 [.int .i64 (fi p).1, .slice fa (fi p).2.length fc] HB1.out hP.2.2.1.ln.file
 have HRE2 : Hid (re = ke) := by (
 have := HRE.out
 rw [if_neg (by decide)] at this
 exact this)
 generalize (fi p).1 = pz at c4 HCF
 generalize (fi p).2.length = pl at c5 HCF HPU
 clear hP hPu hk hpw hix hb1 HFF hnb hbw hob hfe
 go_wp2_with fail
 refine HCF.mono ?_
 rintro e2 w2 ⟨⟨us', rfl, hu'⟩, hb2⟩
 obtain ⟨ra, rc, rfl, hrb, hrI, -⟩ := F.fl_viewN hu'
 have HB2 : Hid (Below w.heap.size w w2) := below_any HB1.out hb2
 obtain ⟨W3, hW3⟩ := exa (w2.alloc (.cells #[.int .i64 f'.1, .slice ra f'.2.length rc] 45))
 have hb3 : Below w.heap.size w W3 := by rw [hW3]; exact HB2.out.alloc HB2.out.size _
 have hB3 : Box W3 w2.heap.size 45 #[.int .i64 f'.1, .slice ra f'.2.length rc] := by rw [hW3]; exact Box.new _ _ _
 have hP3 := HPU.out W3 hb3
 have hput := nds_put_file (ndsN.obelow HS.out.1 hb3) HK.out.1 HK.out.2.1 (.slice ra f'.2.length rc) f' (base := w1.heap.size) (by have := HK.out.2.2; have := HB1.out.size; omega) (Nat.le_trans HS.out.2.1 HB1.out.size) (by rw [hW3]; exact bksN.keep hrb (.alloc _ _ _)) hrI
 rw [set_ch HS.out.2.2.1 HK.out.1, ← HSF.out] at hput
 have HPT : Hid (ndsN.lies n ((W3.setCell ⟨b, k * 6 + 4, none⟩ (.int .i64 f'.1)).setCell ⟨b, k * 6 + 5, none⟩ (.slice ra f'.2.length rc)) [.slice a L c] l' ∧ w.grownBy ((W3.setCell ⟨b, k * 6 + 4, none⟩ (.int .i64 f'.1)).setCell ⟨b, k * 6 + 5, none⟩ (.slice ra f'.2.length rc)) (Value.slice a L c).ownBlock ∧ Below w.heap.size w W3) := ⟨hput.1, (grown_below hb3 _).trans hput.2, hb3⟩
 obtain ⟨q0, q1, -, -⟩ := hB3.two
 obtain ⟨-, -, -, -, d4, d5⟩ := nv_cells hP3.1
 have f4 := hP3.2.1 (k * 6 + 4)
 have f5 := hP3.2.1 (k * 6 + 5)
 rw [hW3] at q0 q1 d4 d5 f4 f5
 generalize f'.1 = z' at q0 q1 HPT d4 d5 f4 f5 hW3 ⊢
 generalize f'.2.length = fl' at q0 q1 HPT d4 d5 f4 f5 hW3 ⊢
 clear hu' hrb hrI hb2 hb3 hB3 hP3 hput HCF c4 c5
 by_cases hz : ke = 0
 · have hre : re = 0 := HRE2.out.trans hz
   subst hre
   subst hz
   go_wp2
   refine HPo.out _ _ ev_nil ?_ (fun _ => ?_)
   · rw [← hW3]; exact HPT.out.2.1
   · rw [← hW3]; exact HPT.out.1
 · have hre : re = ke := HRE2.out
   subst hre
   have HZ : Hid (re ≠ 0) := hz
   have hr := refuse_bad re hz av m cv W3
   clear q0 q1 d4 d5 f4 f5
   go_wp2_with fail
   rw [← hW3]
   refine hr.mono ?_
   rintro e3 w3 ⟨rfl, rfl⟩
   go_wp2
   exact HPo.out _ _ (ev_ref HZ.out _ _ _ _) (by rw [← hW3]; exact grown_below HPT.out.2.2 _) (fun h => absurd h HZ.out)
theorem rewrite2_any (G : Nat) (hG : ∀ args w, (callFunc G args).run Tryz.prog w = .ok (.enter G args) w) (c1 : Value) (c2 : Value) (n : Nat) (v : Value) (s : St) (hOk : Ok s) (av : Option Addr) (cv : Nat) (xs : List ByteArray) (ke : Int) (f' : Fl) (w : World) (hO : ndsN.owns n w [v] s.1) (hnw : n ≤ w.heap.size) (hX : Stay n w (.slice av xs.length cv) xs)
   (hw : filE s.1 xs = 0 → ∀ W us, Below w.heap.size w W → flN.lies n W us (fi (tgt s xs)) → Calls Tryz.prog G #[.agg us.toArray, c1, c2] W fun e w' => (∃ us', e = .returned (.tuple #[.agg us'.toArray, .int .i64 ke]) ∧ flN.lies W.heap.size w' us' f') ∧ Below W.heap.size W w') :
   Calls Tryz.prog 50 #[.agg #[v, .int .i64 s.2], .slice av xs.length cv, .func (.func G) #[] #[c1, c2]] w fun e w' => (∃ E, e = .returned E ∧ EV (rwE s xs ke) E) ∧ w.grownBy w' v.ownBlock ∧ (rwE s xs ke = 0 → ndsN.lies n w' [v] (filN s (tgt s xs) f').1) := by
 obtain ⟨a, c, rfl⟩ := own_len hO
 obtain ⟨W, hW⟩ := exa (w.alloc (.cells #[.slice a s.1.length c, .int .i64 s.2] 29))
 have hbW : Below w.heap.size w W := by rw [hW]; exact (Below.refl _ w).alloc (Nat.le_refl _) _
 have hBS : Box W w.heap.size 29 #[.slice a s.1.length c, .int .i64 s.2] := by rw [hW]; exact Box.new _ _ _
 have HFF := findFile_any n 0 a c s hOk.wk av cv xs W (ndsN.olies (ndsN.obelow hO hbW)) (hX.below (hbW.mono hnw)).at
 have HTG : Hid (filE s.1 xs = 0 → (wlk s.1 1 xs).1 = (tgt s xs).1 ∧ ∀ p ∈ s.1, p.1 = (tgt s xs).1 → p = tgt s xs) := fun h0 => by (
 have hl := hOk.wk.lead (fil_zero h0).1
 refine ⟨hl.2.1, fun p hp he => ?_⟩
 have h1 := gt_of hOk.wk.up hp
 have h2 := gt_of hOk.wk.up hl.1
 rw [← h1, he, h2])
 have HW : Hid (filE s.1 xs = 0 → ∀ W us, Below w.heap.size w W → flN.lies n W us (fi (tgt s xs)) → Calls Tryz.prog G #[.agg us.toArray, c1, c2] W fun e w' => (∃ us', e = .returned (.tuple #[.agg us'.toArray, .int .i64 ke]) ∧ flN.lies W.heap.size w' us' f') ∧ Below W.heap.size W w') := hw
 have HS : Hid (ndsN.owns n w [.slice a s.1.length c] s.1 ∧ n ≤ w.heap.size ∧ Ups s.1 ∧ Below w.heap.size w W) := ⟨hO, hnw, hOk.wk.up, hbW⟩
 have HRE : Hid (rwE s xs ke = if filE s.1 xs ≠ 0 then filE s.1 xs else ke) := rfl
 have HSF : Hid ((filN s (tgt s xs) f').1 = ch s.1 (tgt s xs).1 (wF f')) := rfl
 obtain ⟨post, hpost⟩ : ∃ post : Ending → World → Prop, post = fun e w' => (∃ E, e = .returned E ∧ EV (rwE s xs ke) E) ∧ w.grownBy w' (Value.slice a s.1.length c).ownBlock ∧ (rwE s xs ke = 0 → ndsN.lies n w' [.slice a s.1.length c] (filN s (tgt s xs) f').1) := ⟨_, rfl⟩
 have HPo : Hid (∀ E w', EV (rwE s xs ke) E → w.grownBy w' (Value.slice a s.1.length c).ownBlock → (rwE s xs ke = 0 → ndsN.lies n w' [.slice a s.1.length c] (filN s (tgt s xs) f').1) → post (.returned E) w') := fun E w' h1 h2 h3 => by rw [hpost]; exact ⟨⟨E, rfl, h1⟩, h2, h3⟩
 rw [← hpost]
 generalize rwE s xs ke = re at HRE HPo
 obtain ⟨l, nx⟩ := s
 simp only at HFF HTG HW HS HRE HPo HSF hBS ⊢
 generalize (filN (l, nx) (tgt (l, nx) xs) f').1 = l' at HSF HPo
 generalize tgt (l, nx) xs = T at HTG HW HSF
 obtain ⟨g0, g1, -, -⟩ := hBS.two
 obtain ⟨L, hL⟩ := exa (l.length)
 obtain ⟨m, hm⟩ := exa (xs.length)
 rw [hW] at g0 g1
 rw [← hL] at HFF HS g0 g1 HPo hW ⊢
 rw [← hm] at HFF ⊢
 generalize (wlk l 1 xs).1 = wi at HFF HTG
 generalize filE l xs = fe at HFF HTG HRE HW
 clear hO hX hL hm hpost hOk hbW hBS hw
 go_enter Tryz.func50, Tryz.ntmps50
 go_wp2_with fail
 rw [← hW]
 clear hW g0 g1
 refine HFF.mono ?_
 rintro e1 w1 ⟨hr, hb1⟩
 have HB1 : Hid (Below w.heap.size w w1) := below_any HS.out.2.2.2 hb1
 rcases hr with ⟨hne, E, rfl, hE⟩ | ⟨h0, k, p, b, o, hk, hpw, hix, rfl⟩
 · obtain ⟨a2, l2, c2, s2, rfl⟩ : ∃ a2 l2 c2 s2, E = refV (.slice a2 l2 c2) fe s2 := by
     rcases hE with ⟨h, _⟩ | ⟨_, a2, l2, c2, s2, h⟩
     · exact absurd h hne
     · exact ⟨a2, l2, c2, s2, h⟩
   have HN : Hid (fe ≠ 0 ∧ re = fe) := ⟨hne, by rw [HRE.out, if_pos hne]⟩
   clear hne hE hb1 HFF
   go_wp2
   exact HPo.out _ _ (by rw [HN.out.2]; exact ev_ref HN.out.1 _ _ _ _) (grown_below HB1.out _) (fun h => absurd (HN.out.2.symm.trans h) HN.out.1)
 subst h0
 obtain ⟨e', f0, rfl, hnb, hbw, hob, hPu⟩ := found_is HS.out.1 hk hix
 have hpT : p = T := (HTG.out rfl).2 p (List.mem_of_getElem? hk) (hpw.trans (HTG.out rfl).1)
 subst hpT
 have HPU : Hid (∀ W, Below w.heap.size w W → Puts n (.slice a L c) l k p b e' f0 W) := hPu
 have HK : Hid (l[k]? = some p ∧ (Value.slice a L c).ownBlock = some b ∧ b < w.heap.size) := ⟨hk, hob, hbw⟩
 have hP := hPu w1 HB1.out
 obtain ⟨-, -, -, -, c4, c5⟩ := nv_cells hP.1
 obtain ⟨fa, fc, hfe, -, -⟩ := Shape.list_len (S := F.bkN) (ht := Tryz.underlying43) (hc := F.cells43) (bksN.olies hP.2.2.1.2.1)
 obtain rfl : f0 = _ := by simpa using hfe
 have HCF := HW.out rfl w1 [.int .i64 (fi p).1, .slice fa (fi p).2.length fc] HB1.out hP.2.2.1.ln.file
 have HRE2 : Hid (re = ke) := by (
 have := HRE.out
 rw [if_neg (by decide)] at this
 exact this)
 generalize (fi p).1 = pz at c4 HCF
 generalize (fi p).2.length = pl at c5 HCF HPU
 clear hP hPu hk hpw hix hb1 HFF hnb hbw hob hfe
 go_wp2_with fail
 refine HCF.mono ?_
 rintro e2 w2 ⟨⟨us', rfl, hu'⟩, hb2⟩
 obtain ⟨ra, rc, rfl, hrb, hrI, -⟩ := F.fl_viewN hu'
 have HB2 : Hid (Below w.heap.size w w2) := below_any HB1.out hb2
 obtain ⟨W3, hW3⟩ := exa (w2.alloc (.cells #[.int .i64 f'.1, .slice ra f'.2.length rc] 45))
 have hb3 : Below w.heap.size w W3 := by rw [hW3]; exact HB2.out.alloc HB2.out.size _
 have hB3 : Box W3 w2.heap.size 45 #[.int .i64 f'.1, .slice ra f'.2.length rc] := by rw [hW3]; exact Box.new _ _ _
 have hP3 := HPU.out W3 hb3
 have hput := nds_put_file (ndsN.obelow HS.out.1 hb3) HK.out.1 HK.out.2.1 (.slice ra f'.2.length rc) f' (base := w1.heap.size) (by have := HK.out.2.2; have := HB1.out.size; omega) (Nat.le_trans HS.out.2.1 HB1.out.size) (by rw [hW3]; exact bksN.keep hrb (.alloc _ _ _)) hrI
 rw [set_ch HS.out.2.2.1 HK.out.1, ← HSF.out] at hput
 have HPT : Hid (ndsN.lies n ((W3.setCell ⟨b, k * 6 + 4, none⟩ (.int .i64 f'.1)).setCell ⟨b, k * 6 + 5, none⟩ (.slice ra f'.2.length rc)) [.slice a L c] l' ∧ w.grownBy ((W3.setCell ⟨b, k * 6 + 4, none⟩ (.int .i64 f'.1)).setCell ⟨b, k * 6 + 5, none⟩ (.slice ra f'.2.length rc)) (Value.slice a L c).ownBlock ∧ Below w.heap.size w W3) := ⟨hput.1, (grown_below hb3 _).trans hput.2, hb3⟩
 obtain ⟨q0, q1, -, -⟩ := hB3.two
 obtain ⟨-, -, -, -, d4, d5⟩ := nv_cells hP3.1
 have f4 := hP3.2.1 (k * 6 + 4)
 have f5 := hP3.2.1 (k * 6 + 5)
 rw [hW3] at q0 q1 d4 d5 f4 f5
 generalize f'.1 = z' at q0 q1 HPT d4 d5 f4 f5 hW3 ⊢
 generalize f'.2.length = fl' at q0 q1 HPT d4 d5 f4 f5 hW3 ⊢
 clear hu' hrb hrI hb2 hb3 hB3 hP3 hput HCF c4 c5
 by_cases hz : ke = 0
 · have hre : re = 0 := HRE2.out.trans hz
   subst hre
   subst hz
   go_wp2
   refine HPo.out _ _ ev_nil ?_ (fun _ => ?_)
   · rw [← hW3]; exact HPT.out.2.1
   · rw [← hW3]; exact HPT.out.1
 · have hre : re = ke := HRE2.out
   subst hre
   have HZ : Hid (re ≠ 0) := hz
   have hr := refuse_bad re hz av m cv W3
   clear q0 q1 d4 d5 f4 f5
   go_wp2_with fail
   rw [← hW3]
   refine hr.mono ?_
   rintro e3 w3 ⟨rfl, rfl⟩
   go_wp2
   exact HPo.out _ _ (ev_ref HZ.out _ _ _ _) (by rw [← hW3]; exact grown_below HPT.out.2.2 _) (fun h => absurd h HZ.out)
end Go.Proofs.YtopcefhncildnaaGreatDoor
namespace Go.Proofs.YtopcefhncildnaaGreatDoor
open Go.RowKit
open F (Fl flN bksN)
open P (ArgT serr sval)
theorem writeIn_any (Q1 : Nat) (Q2 : Nat) (off : Int) (da : Option Addr) (dl dc : Nat) (d : List Int) (n : Nat) (us : List Value) (f : Fl) (W : World) (hf : flN.lies n W us f) (n1 : Nat) (ho : I64 off) (hv : Arg n1 W (.slice da dl dc) d) (hB : Box W Q1 3 #[.int .i64 off] ∧ Box W Q2 25 #[.slice da dl dc]) :
   Calls Tryz.prog 51 #[.agg us.toArray, .pointer (some ⟨Q1, 0, none⟩), .pointer (some ⟨Q2, 0, none⟩)] W fun e w' => (∃ us', e = .returned (.tuple #[.agg us'.toArray, .int .i64 (F.wrE f off d)]) ∧ flN.lies W.heap.size w' us' (F.wrF f off d)) ∧ Below W.heap.size W w' := by
 obtain ⟨fa, fc, rfl, -, -, -⟩ := F.fl_viewN hf
 obtain ⟨W1, hW1⟩ := exa (W.alloc (.cells #[.int .i64 f.1, .slice fa f.2.length fc] 45))
 obtain ⟨W2, hW2⟩ := exa (W1.alloc (.cells #[.int .i64 0, .slice none 0 0] 45))
 have hb1 : Below W.heap.size W W1 := by rw [hW1]; exact (Below.refl _ _).alloc (Nat.le_refl _) _
 have hb2 : Below W.heap.size W W2 := by rw [hW2]; exact hb1.alloc hb1.size _
 have hs1 : W1.heap.size = W.heap.size + 1 := by rw [hW1]; exact Array.size_push _
 have hBF : Box W2 W.heap.size 45 #[.int .i64 f.1, .slice fa f.2.length fc] := by
   have : Box W1 W.heap.size 45 #[.int .i64 f.1, .slice fa f.2.length fc] := by rw [hW1]; exact Box.new _ _ _
   rw [hW2]; exact this.alloc _
 have hBR : Box W2 (W.heap.size + 1) 45 #[.int .i64 0, .slice none 0 0] := by rw [hW2, ← hs1]; exact Box.new _ _ _
 have HC := F.write_any n n1 _ f off (.slice da dl dc) d W2 (flN.below hf hb2) ho (hv.below hb2)
 have HB : Hid (Below W.heap.size W W2 ∧ Box W2 (W.heap.size + 1) 45 #[.int .i64 0, .slice none 0 0] ∧ W.heap.size + 2 ≤ W2.heap.size) := ⟨hb2, hBR, by have : W2.heap.size = W1.heap.size + 1 := (by rw [hW2]; exact Array.size_push _); omega⟩
 obtain ⟨g0, g1, -, -⟩ := hBF.two
 have q1 := (hB.1.below hb2 hB.1.lt).cell 0 rfl
 have q2 := (hB.2.below hb2 hB.2.lt).cell 0 rfl
 rw [hW2, hW1] at g0 g1 q1 q2
 generalize F.wrE f off d = ke at HC ⊢
 obtain ⟨post, hpost⟩ : ∃ post : Ending → World → Prop, post = fun e w' => (∃ us', e = .returned (.tuple #[.agg us'.toArray, .int .i64 ke]) ∧ flN.lies W.heap.size w' us' (F.wrF f off d)) ∧ Below W.heap.size W w' := ⟨_, rfl⟩
 have HPo : Hid (∀ z a3 n3 c3 w', flN.lies W2.heap.size w' [.int .i64 z, .slice a3 n3 c3] (F.wrF f off d) → Below W2.heap.size W2 w' → post (.returned (.tuple #[.agg #[.int .i64 z, .slice a3 n3 c3], .int .i64 ke])) ((w'.setCell ⟨W.heap.size + 1, 0, none⟩ (.int .i64 z)).setCell ⟨W.heap.size + 1, 1, none⟩ (.slice a3 n3 c3))) := fun z a3 n3 c3 w' h1 h2 => by
   rw [hpost]
   exact ⟨⟨[_, _], rfl, flN.weaken (flN.keep h1 (.set2 (by have := HB.out.2.2; omega))) HB.out.1.size⟩, below_set2 (below_any HB.out.1 h2) (by omega) _ _⟩
 rw [← hpost]
 generalize f.1 = z0 at HC hW1 g0 g1 q1 q2 ⊢
 generalize f.2.length = l0 at HC hW1 g0 g1 q1 q2 ⊢
 clear hf hb1 hb2 hBF hBR hB hs1 hpost ho hv
 go_enter Tryz.func51, Tryz.ntmps51
 go_wp2_with fail
 rw [← hW1, ← hW2]
 clear hW1 hW2 g0 g1 q1 q2
 refine HC.mono ?_
 rintro e3 w3 ⟨⟨us3, rfl, hu3⟩, hb3⟩
 obtain ⟨ra, rc, rfl, -, -, -⟩ := F.fl_viewN hu3
 have HP := HPo.out _ _ _ _ w3 hu3 hb3
 obtain ⟨d0, d1, e0, e1⟩ := (HB.out.2.1.below hb3 HB.out.2.1.lt).two
 generalize (F.wrF f off d).1 = z3 at HP ⊢
 generalize (F.wrF f off d).2.length = l3 at HP ⊢
 have HP2 : Hid (post (.returned (.tuple #[.agg #[.int .i64 z3, .slice ra l3 rc], .int .i64 ke])) ((w3.setCell ⟨W.heap.size + 1, 0, none⟩ (.int .i64 z3)).setCell ⟨W.heap.size + 1, 1, none⟩ (.slice ra l3 rc))) := HP
 clear HP hu3 hb3 HC HPo
 go_wp2
 refine bodyPost_ret (v := .tuple #[.agg #[.int .i64 z3, .slice ra l3 rc], .int .i64 ke]) (by simp [results, Tryz.results51, go_sem, *]) rfl HP2.out
theorem truncateIn_any (Q1 : Nat) (sz : Int) (n : Nat) (us : List Value) (f : Fl) (W : World) (hf : flN.lies n W us f) (ho : I64 sz) (hB : Box W Q1 3 #[.int .i64 sz]) :
   Calls Tryz.prog 252 #[.agg us.toArray, .pointer (some ⟨Q1, 0, none⟩)] W fun e w' => (∃ us', e = .returned (.tuple #[.agg us'.toArray, .int .i64 (F.trE f sz)]) ∧ flN.lies W.heap.size w' us' (F.trF f sz)) ∧ Below W.heap.size W w' := by
 obtain ⟨fa, fc, rfl, -, -, -⟩ := F.fl_viewN hf
 obtain ⟨W1, hW1⟩ := exa (W.alloc (.cells #[.int .i64 f.1, .slice fa f.2.length fc] 45))
 obtain ⟨W2, hW2⟩ := exa (W1.alloc (.cells #[.int .i64 0, .slice none 0 0] 45))
 have hb1 : Below W.heap.size W W1 := by rw [hW1]; exact (Below.refl _ _).alloc (Nat.le_refl _) _
 have hb2 : Below W.heap.size W W2 := by rw [hW2]; exact hb1.alloc hb1.size _
 have hs1 : W1.heap.size = W.heap.size + 1 := by rw [hW1]; exact Array.size_push _
 have hBF : Box W2 W.heap.size 45 #[.int .i64 f.1, .slice fa f.2.length fc] := by
   have : Box W1 W.heap.size 45 #[.int .i64 f.1, .slice fa f.2.length fc] := by rw [hW1]; exact Box.new _ _ _
   rw [hW2]; exact this.alloc _
 have hBR : Box W2 (W.heap.size + 1) 45 #[.int .i64 0, .slice none 0 0] := by rw [hW2, ← hs1]; exact Box.new _ _ _
 have HC := F.trunc_any n _ f sz W2 (flN.below hf hb2) ho
 have HB : Hid (Below W.heap.size W W2 ∧ Box W2 (W.heap.size + 1) 45 #[.int .i64 0, .slice none 0 0] ∧ W.heap.size + 2 ≤ W2.heap.size) := ⟨hb2, hBR, by have : W2.heap.size = W1.heap.size + 1 := (by rw [hW2]; exact Array.size_push _); omega⟩
 obtain ⟨g0, g1, -, -⟩ := hBF.two
 have q1 := (hB.below hb2 hB.lt).cell 0 rfl
 rw [hW2, hW1] at g0 g1 q1
 generalize F.trE f sz = ke at HC ⊢
 obtain ⟨post, hpost⟩ : ∃ post : Ending → World → Prop, post = fun e w' => (∃ us', e = .returned (.tuple #[.agg us'.toArray, .int .i64 ke]) ∧ flN.lies W.heap.size w' us' (F.trF f sz)) ∧ Below W.heap.size W w' := ⟨_, rfl⟩
 have HPo : Hid (∀ z a3 n3 c3 w', flN.lies W2.heap.size w' [.int .i64 z, .slice a3 n3 c3] (F.trF f sz) → Below W2.heap.size W2 w' → post (.returned (.tuple #[.agg #[.int .i64 z, .slice a3 n3 c3], .int .i64 ke])) ((w'.setCell ⟨W.heap.size + 1, 0, none⟩ (.int .i64 z)).setCell ⟨W.heap.size + 1, 1, none⟩ (.slice a3 n3 c3))) := fun z a3 n3 c3 w' h1 h2 => by
   rw [hpost]
   exact ⟨⟨[_, _], rfl, flN.weaken (flN.keep h1 (.set2 (by have := HB.out.2.2; omega))) HB.out.1.size⟩, below_set2 (below_any HB.out.1 h2) (by omega) _ _⟩
 rw [← hpost]
 generalize f.1 = z0 at HC hW1 g0 g1 q1 ⊢
 generalize f.2.length = l0 at HC hW1 g0 g1 q1 ⊢
 clear hf hb1 hb2 hBF hBR hB hs1 hpost ho
 go_enter Tryz.func252, Tryz.ntmps252
 go_wp2_with fail
 rw [← hW1, ← hW2]
 clear hW1 hW2 g0 g1 q1
 refine HC.mono ?_
 rintro e3 w3 ⟨⟨us3, rfl, hu3⟩, hb3⟩
 obtain ⟨ra, rc, rfl, -, -, -⟩ := F.fl_viewN hu3
 have HP := HPo.out _ _ _ _ w3 hu3 hb3
 obtain ⟨d0, d1, e0, e1⟩ := (HB.out.2.1.below hb3 HB.out.2.1.lt).two
 generalize (F.trF f sz).1 = z3 at HP ⊢
 generalize (F.trF f sz).2.length = l3 at HP ⊢
 have HP2 : Hid (post (.returned (.tuple #[.agg #[.int .i64 z3, .slice ra l3 rc], .int .i64 ke])) ((w3.setCell ⟨W.heap.size + 1, 0, none⟩ (.int .i64 z3)).setCell ⟨W.heap.size + 1, 1, none⟩ (.slice ra l3 rc))) := HP
 clear HP hu3 hb3 HC HPo
 go_wp2
 refine bodyPost_ret (v := .tuple #[.agg #[.int .i64 z3, .slice ra l3 rc], .int .i64 ke]) (by simp [results, Tryz.results252, go_sem, *]) rfl HP2.out
theorem writeDo_any (Q1 : Nat) (Q2 : Nat) (off : Int) (da : Option Addr) (dl dc : Nat) (d : List Int) (n S : Nat) (s : St) (hOk : Ok s) (p : ByteArray) (v2 : Value) (w : World) (hM : MS n w S s) (hnS : n ≤ S) (hL : StayL n w v2 [p]) (n1 : Nat) (ho : I64 off) (hv : ∀ U, Below n w U → Arg n1 U (.slice da dl dc) d) (hBx : ∀ U, Below n w U → Box U Q1 3 #[.int .i64 off] ∧ Box U Q2 25 #[.slice da dl dc]) :
   Calls Tryz.prog 49 #[.pointer (some ⟨S, 0, none⟩), v2, .pointer (some ⟨Q1, 0, none⟩), .pointer (some ⟨Q2, 0, none⟩)] w fun e w' => (∃ E, e = .returned E ∧ EV (rwE s (sval p) (F.wrE (fi (tgt s (sval p))) off d)) E) ∧ Below n w w' ∧ (rwE s (sval p) (F.wrE (fi (tgt s (sval p))) off d) = 0 → ML n w' S (filN s (tgt s (sval p)) (F.wrF (fi (tgt s (sval p))) off d))) := by
 obtain ⟨b, o, av, cv, hix, hc, hX⟩ := hL 0 p rfl
 have hix : ∀ W, (Instr.indexAt 106 v2 (.int .i64 0)).run Tryz.prog W = .ok (.pointer (some ⟨b, o, none⟩)) W := hix
 obtain ⟨v, hB, hO⟩ := hM
 obtain ⟨a, c, rfl⟩ := own_len hO
 have hnw : n ≤ w.heap.size := by have := hB.lt; omega
 have HC := rewrite2_any 51 Tryz.call51 (.pointer (some ⟨Q1, 0, none⟩)) (.pointer (some ⟨Q2, 0, none⟩)) n (.slice a s.1.length c) s hOk av cv (sval p) (F.wrE (fi (tgt s (sval p))) off d) (F.wrF (fi (tgt s (sval p))) off d) w.drew (by exact hO) hnw (hX.below (Below.refl _ w).drew)
   (fun _ W us hbW hf => writeIn_any Q1 Q2 off da dl dc d n us _ W hf n1 ho (hv W ((Below.refl _ w).drew.trans (hbW.mono hnw))) (hBx W ((Below.refl _ w).drew.trans (hbW.mono hnw))))
 obtain ⟨post, hpost⟩ : ∃ post : Ending → World → Prop, post = fun e w' => (∃ E, e = .returned E ∧ EV (rwE s (sval p) (F.wrE (fi (tgt s (sval p))) off d)) E) ∧ Below n w w' ∧ (rwE s (sval p) (F.wrE (fi (tgt s (sval p))) off d) = 0 → ML n w' S (filN s (tgt s (sval p)) (F.wrF (fi (tgt s (sval p))) off d))) := ⟨_, rfl⟩
 have HC' := HC.mono (R' := fun e w' => (∃ E, e = .returned E ∧ post (.returned E) w') ∧ Below n w w' ∧ Box w' S 29 #[.slice a s.1.length c, .int .i64 s.2]) fun e w' h => by (
 obtain ⟨⟨E, rfl, h1⟩, h2, h3⟩ := h
 have hb : Below n w w' := (Below.refl _ w).drew.trans ((Below.refl _ w.drew).grown h2 hnw (own_base hO))
 have hx : Box w' S 29 #[.slice a s.1.length c, .int .i64 s.2] := hB.drew.grown h2 (own_apart hB hO)
 exact ⟨⟨E, rfl, by rw [hpost]; exact ⟨⟨E, rfl, h1⟩, hb, fun h0 => ⟨_, hx, h3 h0⟩⟩⟩, hb, hx⟩)
 rw [← hpost]
 have HCC : Hid (∀ w', Below n w w' → w'.cell? ⟨b, o, none⟩ = some (.slice av (sval p).length cv)) := fun w' hb => hc w' hb
 obtain ⟨d0, d1, -, -⟩ := hB.two
 obtain ⟨m, hm⟩ := exa ((sval p).length)
 obtain ⟨L, hLL⟩ := exa (s.1.length)
 obtain ⟨nx, hnx⟩ := exa (s.2)
 rw [← hm] at HC' HCC
 rw [← hLL] at HC' d0
 rw [← hnx] at HC' d1
 have HS0 : w.drew.cell? ⟨S, 0, none⟩ = some (.slice a L c) ∧ w.drew.cell? ⟨S, 1, none⟩ = some (.int .i64 nx) ∧ w.drew.cell? ⟨b, o, none⟩ = some (.slice av m cv) := ⟨d0, d1, HCC.out w (Below.refl _ _)⟩
 clear hX hB hO hpost hm hLL hnx hc hL HC d0 d1 hBx
 go_enter Tryz.func49, Tryz.ntmps49
 go_wp2
 go_region_held3 (fun U => U.cell? ⟨S, 0, none⟩ = some (.slice a L c) ∧ U.cell? ⟨S, 1, none⟩ = some (.int .i64 nx) ∧ U.cell? ⟨b, o, none⟩ = some (.slice av m cv))
   (first | with_reducible exact HS1 | with_reducible exact HS0)
   ((first | (go_at_call 50; refine HC'.mono ?_; rintro e1 w1 ⟨⟨E, rfl, h2⟩, hb1, hx1⟩; have HS1 : w1.cell? ⟨S, 0, none⟩ = some (.slice a L c) ∧ w1.cell? ⟨S, 1, none⟩ = some (.int .i64 nx) ∧ w1.cell? ⟨b, o, none⟩ = some (.slice av m cv) := ⟨hx1.two.1, hx1.two.2.1, HCC.out w1 hb1⟩)))
 have H2 : Hid (post (.returned E) w1) := h2
 clear h2 HC' hb1 hx1 HS0 HS1 hix
 go_wp2
 exact H2.out
theorem truncateDo_any (Q1 : Nat) (sz : Int) (n S : Nat) (s : St) (hOk : Ok s) (p : ByteArray) (v2 : Value) (w : World) (hM : MS n w S s) (hnS : n ≤ S) (hL : StayL n w v2 [p]) (ho : I64 sz) (hBx : ∀ U, Below n w U → Box U Q1 3 #[.int .i64 sz]) :
   Calls Tryz.prog 251 #[.pointer (some ⟨S, 0, none⟩), v2, .pointer (some ⟨Q1, 0, none⟩)] w fun e w' => (∃ E, e = .returned E ∧ EV (rwE s (sval p) (F.trE (fi (tgt s (sval p))) sz)) E) ∧ Below n w w' ∧ (rwE s (sval p) (F.trE (fi (tgt s (sval p))) sz) = 0 → ML n w' S (filN s (tgt s (sval p)) (F.trF (fi (tgt s (sval p))) sz))) := by
 obtain ⟨b, o, av, cv, hix, hc, hX⟩ := hL 0 p rfl
 have hix : ∀ W, (Instr.indexAt 106 v2 (.int .i64 0)).run Tryz.prog W = .ok (.pointer (some ⟨b, o, none⟩)) W := hix
 obtain ⟨v, hB, hO⟩ := hM
 obtain ⟨a, c, rfl⟩ := own_len hO
 have hnw : n ≤ w.heap.size := by have := hB.lt; omega
 have HC := rewrite1_any 252 Tryz.call252 (.pointer (some ⟨Q1, 0, none⟩)) n (.slice a s.1.length c) s hOk av cv (sval p) (F.trE (fi (tgt s (sval p))) sz) (F.trF (fi (tgt s (sval p))) sz) w.drew (by exact hO) hnw (hX.below (Below.refl _ w).drew)
   (fun _ W us hbW hf => truncateIn_any Q1 sz n us _ W hf ho (hBx W ((Below.refl _ w).drew.trans (hbW.mono hnw))))
 obtain ⟨post, hpost⟩ : ∃ post : Ending → World → Prop, post = fun e w' => (∃ E, e = .returned E ∧ EV (rwE s (sval p) (F.trE (fi (tgt s (sval p))) sz)) E) ∧ Below n w w' ∧ (rwE s (sval p) (F.trE (fi (tgt s (sval p))) sz) = 0 → ML n w' S (filN s (tgt s (sval p)) (F.trF (fi (tgt s (sval p))) sz))) := ⟨_, rfl⟩
 have HC' := HC.mono (R' := fun e w' => (∃ E, e = .returned E ∧ post (.returned E) w') ∧ Below n w w' ∧ Box w' S 29 #[.slice a s.1.length c, .int .i64 s.2]) fun e w' h => by (
 obtain ⟨⟨E, rfl, h1⟩, h2, h3⟩ := h
 have hb : Below n w w' := (Below.refl _ w).drew.trans ((Below.refl _ w.drew).grown h2 hnw (own_base hO))
 have hx : Box w' S 29 #[.slice a s.1.length c, .int .i64 s.2] := hB.drew.grown h2 (own_apart hB hO)
 exact ⟨⟨E, rfl, by rw [hpost]; exact ⟨⟨E, rfl, h1⟩, hb, fun h0 => ⟨_, hx, h3 h0⟩⟩⟩, hb, hx⟩)
 rw [← hpost]
 have HCC : Hid (∀ w', Below n w w' → w'.cell? ⟨b, o, none⟩ = some (.slice av (sval p).length cv)) := fun w' hb => hc w' hb
 obtain ⟨d0, d1, -, -⟩ := hB.two
 obtain ⟨m, hm⟩ := exa ((sval p).length)
 obtain ⟨L, hLL⟩ := exa (s.1.length)
 obtain ⟨nx, hnx⟩ := exa (s.2)
 rw [← hm] at HC' HCC
 rw [← hLL] at HC' d0
 rw [← hnx] at HC' d1
 have HS0 : w.drew.cell? ⟨S, 0, none⟩ = some (.slice a L c) ∧ w.drew.cell? ⟨S, 1, none⟩ = some (.int .i64 nx) ∧ w.drew.cell? ⟨b, o, none⟩ = some (.slice av m cv) := ⟨d0, d1, HCC.out w (Below.refl _ _)⟩
 clear hX hB hO hpost hm hLL hnx hc hL HC d0 d1 hBx
 go_enter Tryz.func251, Tryz.ntmps251
 go_wp2
 go_region_held3 (fun U => U.cell? ⟨S, 0, none⟩ = some (.slice a L c) ∧ U.cell? ⟨S, 1, none⟩ = some (.int .i64 nx) ∧ U.cell? ⟨b, o, none⟩ = some (.slice av m cv))
   (first | with_reducible exact HS1 | with_reducible exact HS0)
   ((first | (go_at_call 50; refine HC'.mono ?_; rintro e1 w1 ⟨⟨E, rfl, h2⟩, hb1, hx1⟩; have HS1 : w1.cell? ⟨S, 0, none⟩ = some (.slice a L c) ∧ w1.cell? ⟨S, 1, none⟩ = some (.int .i64 nx) ∧ w1.cell? ⟨b, o, none⟩ = some (.slice av m cv) := ⟨hx1.two.1, hx1.two.2.1, HCC.out w1 hb1⟩)))
 have H2 : Hid (post (.returned E) w1) := h2
 clear h2 HC' hb1 hx1 HS0 HS1 hix
 go_wp2
 exact H2.out
end Go.Proofs.YtopcefhncildnaaGreatDoor
