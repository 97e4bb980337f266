/-
  fs.remove, fs.unlink, fs.rmdir: names are taken away.
  fs.vacant, fs.makeNode: a new node where names lead to nothing yet.
  fs.link: another name for a file.
  fs.rewrite: a file's place is taken by what becomes of it.
  fs.New, fs.clearWay, fs.isBelow.
  What moves keeps all that lies below it.
  What is taken away bars no way to anything else.
  Renaming, as plain mathematics: the list behind each step, and what lies below what moves.
  Renaming: what each step finds.
  What each op tells, in one word for all its answers: its error's number and the state.
  What fs.look answers at an op that is known.
  fs.Stat: what it answers.
  fs.Read: what it answers.
  fs.List: what it answers.
  Plain mathematics: the state that each op makes may be.
  Plain mathematics: the page's example.
-/
import Derived.Test.YtopcefhncildnaaGreatDoorZ27
import Derived.Test.YtopcefhncildnaaGreatDoorZ42
import Derived.Laws.Slices
import Derived.Laws.IdiomCopy
set_option maxRecDepth 100000
set_option maxHeartbeats 8000000
namespace Go.Proofs.YtopcefhncildnaaGreatDoor
open Go.RowKit
open D (there ins del)
open P (ArgT)
def tgt (s : St) (xs : List ByteArray) : Nd := gt s.1 (wlk s.1 1 xs).1
def hold (s : St) (xs : List ByteArray) : Nd := gt s.1 (wlk s.1 1 (ahd xs)).1
theorem Wk.lead {s : St} (hK : Wk s) {xs : List ByteArray} (h : (wlk s.1 1 xs).2 = 0) : tgt s xs ∈ s.1 ∧ (wlk s.1 1 xs).1 = (tgt s xs).1 ∧ Wlk s.1 1 xs (tgt s xs).1 := by
 obtain ⟨n, hn, h1, h2, h3⟩ := wlk_in hK h
 unfold tgt
 rw [h2]
 exact ⟨hn, h1.symm, h3⟩
theorem Wk.stands {s : St} (hK : Wk s) {xs : List ByteArray} (hne : xs ≠ []) (h : (wlk s.1 1 xs).2 = 0) : hold s xs ∈ s.1 ∧ wlk s.1 1 (ahd xs) = ((hold s xs).1, 0) ∧ isD (hold s xs) = true ∧ (lst xs, (tgt s xs).1) ∈ en (hold s xs) ∧ there (en (hold s xs)) (lst xs) = true := by
 obtain ⟨h1, h2, h3⟩ := hK.lead h
 rw [ahd_lst hne, wlk_snoc] at h3
 obtain ⟨q, hq, h4, h5, h6⟩ := h3
 rw [← ahd_lst hne] at h6
 have h7 := (wlk_root hK).2 h4
 have h8 : hold s xs = q := by unfold hold; rw [h7.2]; exact gt_of hK.up hq
 rw [h8]
 refine ⟨hq, Prod.ext h7.2 h7.1, h5, h6, ?_⟩
 unfold there
 rw [List.any_eq_true]
 exact ⟨_, h6, by simp⟩
theorem ok_lks {s : St} (h : Ok s) {xs : List ByteArray} (hne : xs ≠ []) (he : (wlk s.1 1 xs).2 = 0) : 1 ≤ lk (tgt s xs) ∧ lk (tgt s xs) ≤ 16 := by
 obtain ⟨h1, h2, h3⟩ := h.wk.lead he
 obtain ⟨q1, q2, q3, q4, q5⟩ := h.wk.stands hne he
 have hn := h.named q1 q4
 simp only at hn
 obtain ⟨_, _, a3, a4⟩ := h.lk _ h1
 cases hd : isD (tgt s xs)
 · exact a4 hn hd
 · have := a3 hn hd; omega
theorem fil_zero {s : St} {xs : List ByteArray} (h : filE s.1 xs = 0) : (wlk s.1 1 xs).2 = 0 ∧ isD (tgt s xs) = false := by
 unfold filE at h
 split at h
 · rename_i h0
   refine ⟨h0, ?_⟩
   split at h
   · omega
   · rename_i h1; unfold tgt; simpa using h1
 · rename_i h0; exact absurd h h0
theorem dir_zero {s : St} {xs : List ByteArray} (h : dirE s.1 xs = 0) : (wlk s.1 1 xs).2 = 0 ∧ isD (tgt s xs) = true := by
 unfold dirE at h
 split at h
 · rename_i h0
   refine ⟨h0, ?_⟩
   split at h
   · omega
   · rename_i h1; unfold tgt; simpa using h1
 · rename_i h0; exact absurd h h0
theorem Wk.root {s : St} (hK : Wk s) : isD (tgt s []) = true := by
 obtain ⟨t, ht, h1, h2⟩ := hK.top
 have : tgt s [] = t := by unfold tgt; rw [show (wlk s.1 1 []).1 = 1 from rfl, ← h1]; exact gt_of hK.up ht
 rw [this]; exact h2
theorem Wk.file_ne {s : St} (hK : Wk s) {xs : List ByteArray} (h : isD (tgt s xs) = false) : xs ≠ [] := fun e => by
 rw [e, hK.root] at h
 cases h
def rmE (s : St) (xs : List ByteArray) : Int := if xs = [] then 108 else if dirE s.1 xs ≠ 0 then dirE s.1 xs else if (en (tgt s xs)).length = 0 then 0 else 105
end Go.Proofs.YtopcefhncildnaaGreatDoor
namespace Go.Proofs.YtopcefhncildnaaGreatDoor
open Go.RowKit
open D (there ins del aerr)
open P (ArgT)
def vacE (l : List Nd) (xs : List ByteArray) : Int := if xs = [] then 102 else if stdE l xs ≠ 0 then stdE l xs else if stdT l xs ≠ 0 then 102 else 0
theorem vacant_any (n0 n1 : Nat) (a : Option Addr) (c : Nat) (s : St) (hK : Wk s) (av : Option Addr) (cv : Nat) (xs : List ByteArray) (hok : xs ≠ [] → (lst xs).data.toList ≠ []) (w : World) (hA : ndsN.lies n0 w [.slice a s.1.length c] s.1) (hX : ArgT n1 w (.slice av xs.length cv) xs) :
   Calls Tryz.prog 109 #[.agg #[.slice a s.1.length c, .int .i64 s.2], .slice av xs.length cv] w fun e w' => (∃ i E, e = .returned (.tuple #[.int .i64 i, E]) ∧ EV (vacE s.1 xs) E ∧ (vacE s.1 xs = 0 → i = stdI s.1 xs)) ∧ Below w.heap.size w w' := by
 obtain ⟨l, nx⟩ := s
 simp only at hA ⊢
 obtain ⟨W, hW⟩ := exa (w.alloc (.cells #[.slice a l.length c, .int .i64 nx] 29))
 have hbW : Below w.heap.size w W := by rw [hW]; exact (Below.refl _ w).alloc (Nat.le_refl _) _
 have hBS : Box W w.heap.size 29 #[.slice a l.length c, .int .i64 nx] := by rw [hW]; exact Box.new _ _ _
 have HSD : Hid (xs ≠ [] → Calls Tryz.prog 174 #[.agg #[.slice a l.length c, .int .i64 nx], .slice av xs.length cv] W fun e w' => (∃ E, e = .returned (.tuple #[.int .i64 (stdI l xs), .int .i64 (stdT l xs), E]) ∧ EV (stdE l xs) E) ∧ Below W.heap.size W w') := fun hne => stand_any n0 n1 a c (l, nx) hK av cv xs hne (hok hne) W (ndsN.below hA hbW) (hX.below hbW)
 have HWW : Hid (Below w.heap.size w W) := hbW
 have hl1 := run_len Tryz.underlying57 av xs.length cv
 have HVE : Hid (vacE l xs = if xs = [] then 102 else if stdE l xs ≠ 0 then stdE l xs else if stdT l xs ≠ 0 then 102 else 0) := rfl
 obtain ⟨post, hpost⟩ : ∃ post : Ending → World → Prop, post = fun e w' => (∃ i E, e = .returned (.tuple #[.int .i64 i, E]) ∧ EV (vacE l xs) E ∧ (vacE l xs = 0 → i = stdI l xs)) ∧ Below w.heap.size w w' := ⟨_, rfl⟩
 have HPo : Hid (∀ i E w', EV (vacE l xs) E → (vacE l xs = 0 → i = stdI l xs) → Below w.heap.size w w' → post (.returned (.tuple #[.int .i64 i, E])) w') := fun i E w' h1 h2 h3 => by rw [hpost]; exact ⟨⟨i, E, rfl, h1, h2⟩, h3⟩
 rw [← hpost]
 generalize vacE l xs = ve at HVE HPo
 generalize stdI l xs = si at HSD HPo
 generalize stdE l xs = se at HSD HVE
 generalize stdT l xs = st at HSD HVE
 obtain ⟨g0, g1, -, -⟩ := hBS.two
 obtain ⟨L, hL⟩ := exa (l.length)
 obtain ⟨m, hm⟩ := exa (xs.length)
 have HME : Hid (m = 0 ↔ xs = []) := by rw [hm]; exact List.length_eq_zero_iff
 rw [← hL] at HSD hW g0 ⊢
 rw [← hm] at HSD hl1 ⊢
 rw [hW] at g0 g1
 clear hA hX hbW hBS hpost hok hK hL hm
 by_cases hz : m = 0
 · have hre : ve = 102 := by rw [HVE.out, if_pos (HME.out.1 hz)]
   subst hre
   subst hz
   have hr := refuse_bad 102 (by decide) av 0 cv W
   clear HSD
   go_enter Tryz.func109, Tryz.ntmps109
   go_wp2_with (go_at_call 90; rw [← hW]; refine hr.mono ?_; rintro e1 w1 ⟨rfl, rfl⟩)
   exact HPo.out _ _ _ (ev_ref (by decide) _ _ _ _) (fun h => by omega) (by rw [← hW]; exact HWW.out)
 have HXN : Hid (xs ≠ []) := fun h => hz (HME.out.2 h)
 rw [if_neg HXN.out] at HVE
 have HCS := HSD.out HXN.out
 go_enter Tryz.func109, Tryz.ntmps109
 go_wp2_with fail
 rw [← hW]
 clear hW g0 g1
 refine HCS.mono ?_
 rintro e1 w1 ⟨⟨E, rfl, hE⟩, hb1⟩
 have HB1 : Hid (Below w.heap.size w w1) := below_any HWW.out hb1
 clear hb1 HCS HSD
 rcases hE with ⟨rfl, rfl⟩ | ⟨hne, a2, l2, c2, s2, rfl⟩
 · rw [if_neg (by decide)] at HVE
   by_cases ht : st = 0
   · have hre : ve = 0 := by rw [HVE.out, if_neg (by rw [ht]; decide)]
     subst hre
     subst ht
     go_wp2
     exact HPo.out _ _ _ ev_nil (fun _ => rfl) HB1.out
   · have hre : ve = 102 := by rw [HVE.out, if_pos ht]
     subst hre
     have hr := refuse_bad 102 (by decide) av m cv w1
     go_wp2_with fail
     refine hr.mono ?_
     rintro e2 w2 ⟨rfl, rfl⟩
     go_wp2
     exact HPo.out _ _ _ (ev_ref (by decide) _ _ _ _) (fun h => by omega) HB1.out
 · have HN : Hid (se ≠ 0 ∧ ve = se) := ⟨hne, by rw [HVE.out, if_pos hne]⟩
   clear hne
   go_wp2
   exact HPo.out _ _ _ (by rw [HN.out.2]; exact ev_ref HN.out.1 _ _ _ _) (fun h => absurd (HN.out.2.symm.trans h) HN.out.1) HB1.out
def mkE (s : St) (xs : List ByteArray) : Int := if vacE s.1 xs ≠ 0 then vacE s.1 xs else if s.1.length = 128 ∨ s.2 = 2147483647 then 109 else aerr (en (hold s xs)) (lst xs, s.2)
theorem vac_zero {s : St} (hK : Wk s) {xs : List ByteArray} (h : vacE s.1 xs = 0) : xs ≠ [] ∧ (wlk s.1 1 (ahd xs)).2 = 0 ∧ hold s xs ∈ s.1 ∧ stdI s.1 xs = (hold s xs).1 ∧ isD (hold s xs) = true ∧ there (en (hold s xs)) (lst xs) = false := by
 unfold vacE at h
 split at h
 · omega
 rename_i hne
 split at h
 · rename_i h1; exact absurd h h1
 rename_i h1
 split at h
 · omega
 rename_i h2
 have hE : stdE s.1 xs = 0 := Decidable.not_not.1 h1
 have hT : stdT s.1 xs = 0 := Decidable.not_not.1 h2
 have hE0 := hE
 unfold stdE at hE
 split at hE
 case isFalse h3 => exact absurd hE h3
 rename_i h3
 split at hE
 case isFalse => omega
 rename_i h4
 obtain ⟨n, hn, e1, e2, e3⟩ := wlk_in hK h3
 have hh : hold s xs = n := e2
 refine ⟨hne, h3, by rw [hh]; exact hn, ?_, h4, ?_⟩
 · unfold stdI; rw [if_pos hE0, hh]; exact e1.symm
 · unfold stdT at hT
   rw [if_pos hE0] at hT
   cases ht : there (en (hold s xs)) (lst xs) with
   | false => rfl
   | true => (
 exfalso
 have hd : isD (hold s xs) = true := h4
 have hc : entC (hold s xs) (lst xs) = 0 := hT
 unfold entC at hc
 rw [if_neg (by rw [hd]; decide), if_neg (by rw [ht]; decide)] at hc
 have hck := (hK.dirs _ (by rw [hh]; exact hn) hd).1
 unfold there at ht
 rw [List.any_eq_true] at ht
 obtain ⟨q, hq, hqe⟩ := ht
 have hqe : q.1 = lst xs := by simpa using hqe
 have := D.fnd_mem (x := lst xs) (c := q.2) hck (by rw [← hqe]; exact hq)
 rw [hc] at this
 obtain ⟨i, hi⟩ := List.getElem?_of_mem hq
 have hgd := (D.good_at hck.2 hi).2
 simp only [D.inoOk, Bool.and_eq_true, decide_eq_true_eq] at hgd
 omega)
end Go.Proofs.YtopcefhncildnaaGreatDoor
namespace Go.Proofs.YtopcefhncildnaaGreatDoor
open Go.RowKit
open D (there ins del aerr)
open P (ArgT serr sval)
def lnE (s : St) (xs ys : List ByteArray) : Int := if filE s.1 xs ≠ 0 then filE s.1 xs else if vacE s.1 ys ≠ 0 then vacE s.1 ys else if lk (tgt s xs) = 16 then 110 else aerr (en (hold s ys)) (lst ys, (tgt s xs).1)
end Go.Proofs.YtopcefhncildnaaGreatDoor
namespace Go.Proofs.YtopcefhncildnaaGreatDoor
open Go.RowKit
open F (Fl flN bksN)
open P (ArgT serr sval)
def rwE (s : St) (xs : List ByteArray) (ke : Int) : Int := if filE s.1 xs ≠ 0 then filE s.1 xs else ke
end Go.Proofs.YtopcefhncildnaaGreatDoor
namespace Go.Proofs.YtopcefhncildnaaGreatDoor
open Go.RowKit
open P (ArgT)
def rootN : Nd := (1, true, 0, [], (0, []))
theorem New_any (w : World) : Calls Tryz.prog 38 #[] w fun e w' => (∃ v, e = .returned (.agg #[v, .int .i64 2]) ∧ ndsN.owns w.heap.size w' [v] [rootN]) ∧ Below w.heap.size w w' := by
 obtain ⟨W1, hW1⟩ := exa (w.alloc (.cells #[.slice (some ⟨w.heap.size + 1, 0, none⟩) 1 1, .int .i64 2] 29))
 obtain ⟨W2, hW2⟩ := exa (W1.alloc (.cells #[.int .i64 1, .bool true, .int .i64 0, .slice none 0 0, .int .i64 0, .slice none 0 0] 47))
 have hb1 : Below w.heap.size w W1 := by rw [hW1]; exact (Below.refl _ w).alloc (Nat.le_refl _) _
 have hb2 : Below w.heap.size w W2 := by rw [hW2]; exact hb1.alloc hb1.size _
 have hs1 : W1.heap.size = w.heap.size + 1 := by rw [hW1]; exact Array.size_push _
 have hBR : Box W2 w.heap.size 29 #[.slice (some ⟨w.heap.size + 1, 0, none⟩) 1 1, .int .i64 2] := by
   have : Box W1 w.heap.size 29 #[.slice (some ⟨w.heap.size + 1, 0, none⟩) 1 1, .int .i64 2] := by rw [hW1]; exact Box.new _ _ _
   rw [hW2]; exact this.alloc _
 have hO : ndsN.owns (w.heap.size + 1) W2 [.slice (some ⟨w.heap.size + 1, 0, none⟩) 1 1] [rootN] := by (
 refine ⟨_, [nv rootN (.slice none 0 0) (.slice none 0 0)], rfl, ?_, nd_omk (p := rootN) ⟨D.OwnE.nil _ _ _, Shape.list_nil F.bkN 43 Tryz.underlying43 F.cells43 _ _, (show I64 1 from ⟨by omega, by omega⟩), (show I64 0 from ⟨by omega, by omega⟩), (show I64 0 from ⟨by omega, by omega⟩)⟩, trivial⟩
 have := World.ownsRow_lit (base := w.heap.size + 1) (e := 47) (size := 6) W1 #[.int .i64 1, .bool true, .int .i64 0, .slice none 0 0, .int .i64 0, .slice none 0 0] 1 (by omega) (by simp [maxLen]) rfl
 rw [hs1, ← hW2] at this
 exact this)
 have HF : Hid (Box W2 w.heap.size 29 #[.slice (some ⟨w.heap.size + 1, 0, none⟩) 1 1, .int .i64 2] ∧ ndsN.owns (w.heap.size + 1) W2 [.slice (some ⟨w.heap.size + 1, 0, none⟩) 1 1] [rootN] ∧ Below w.heap.size w W2) := ⟨hBR, hO, hb2⟩
 obtain ⟨d0, d1, -, -⟩ := hBR.two
 clear hb1 hb2 hs1 hBR hO
 go_enter Tryz.func38, Tryz.ntmps38
 go_wp2
 rw [← hW1, ← hW2]
 clear hW1 hW2
 refine bodyPost_ret (v := .agg #[.slice (some ⟨w.heap.size + 1, 0, none⟩) 1 1, .int .i64 2]) (by simp [results, Tryz.results38, go_sem, *]) rfl ⟨⟨_, rfl, ?_⟩, HF.out.2.2⟩
 exact ndsN.oweaken (n := w.heap.size + 1) HF.out.2.1 (by omega)
def isB (xs ys : List ByteArray) : Bool := decide (xs.length < ys.length) && decide (xs = ys.take xs.length)
end Go.Proofs.YtopcefhncildnaaGreatDoor
namespace Go.Proofs.YtopcefhncildnaaGreatDoor
open D (En ins del there)
theorem kid_ch {l : List Nd} (hU : Ups l) {p : Nd} (hp : p ∈ l) (es : List En) (j : Int) : kid (ch l p.1 (wE es)) j = if j = p.1 then es else kid l j := by
 have hU' := ups_ch (i := p.1) (f := wE es) (fun _ => rfl) hU
 by_cases hj : j = p.1
 · rw [if_pos hj, hj]
   exact kid_of hU' (n := wE es p) ((mem_ch' hU hp).2 (.inr rfl))
 · rw [if_neg hj]
   cases hf : fd l j with
   | some n => (
 obtain ⟨h1, h2⟩ := fd_mem hf
 have h3 : n ∈ ch l p.1 (wE es) := (mem_ch' hU hp).2 (.inl ⟨h1, by rw [h2]; exact hj⟩)
 have h4 := kid_of hU' h3
 have h5 := kid_of hU h1
 rw [h2] at h4 h5
 rw [h4, h5])
   | none => (
 cases hf' : fd (ch l p.1 (wE es)) j with
 | none => unfold kid; rw [hf, hf']
 | some m => (
 obtain ⟨h1, h2⟩ := fd_mem hf'
 rcases (mem_ch' hU hp).1 h1 with ⟨h3, _⟩ | h3
 · have := fd_of hU h3
   rw [h2, hf] at this
   cases this
 · rw [h3] at h2
   exact absurd h2.symm hj))
theorem not_below {s : St} (h : Ok s) {xs ys : List ByteArray} (hne : ys ≠ []) (hx : (wlk s.1 1 xs).2 = 0) (hy : (wlk s.1 1 (ahd ys)).2 = 0) (hd : isD (hold s ys) = true) (hB : isB xs ys = false) : ∀ j, ¬ Way s.1 j (tgt s xs).1 (hold s ys).1 := fun j hw => by
 obtain ⟨x1, x2, x3⟩ := h.wk.lead hx
 obtain ⟨n, hn, e1, e2, e3⟩ := wlk_in h.wk hy
 have hh : hold s ys = n := e2
 rw [hh] at hw hd
 obtain ⟨zs, -, hz⟩ := way_wlk h.wk hw
 have h1 : Wlk s.1 1 (xs ++ zs) n.1 := wlk_append.2 ⟨_, x3, hz⟩
 have h2 := h.path hn hd h1 e3
 have h3 : xs = ys.take xs.length := by
   have : ys.take xs.length = (ahd ys ++ [lst ys]).take xs.length := by rw [← ahd_lst hne]
   rw [this, ← h2, List.append_assoc, List.take_left]
 have h4 : xs.length < ys.length := by (
 have : ys.length = (ahd ys).length + 1 := by conv => lhs; rw [ahd_lst hne]; simp
 rw [this, ← h2, List.length_append]
 omega)
 unfold isB at hB
 simp [h4, ← h3] at hB
end Go.Proofs.YtopcefhncildnaaGreatDoor
namespace Go.Proofs.YtopcefhncildnaaGreatDoor
open D (En ins del there Chk)
theorem mem_dropped {s : St} (hW : Wk s) {q z n : Nd} (hq : q ∈ s.1) (hn : n ∈ s.1) (hz : n.1 ≠ z.1) (y : ByteArray) : (if n.1 = q.1 then wE (del (en q) y) q else n) ∈ (dropN s q y z).1 := by
 have h1 : (if n.1 = q.1 then wE (del (en q) y) q else n) ∈ ch s.1 q.1 (wE (del (en q) y)) := by (
 by_cases h : n.1 = q.1
 · rw [if_pos h]; exact (mem_ch' hW.up hq).2 (.inr rfl)
 · rw [if_neg h]; exact (mem_ch' hW.up hq).2 (.inl ⟨hn, h⟩))
 have h2 : (if n.1 = q.1 then wE (del (en q) y) q else n).1 ≠ z.1 := by (
 by_cases h : n.1 = q.1
 · rw [if_pos h]; show q.1 ≠ z.1; rw [← h]; exact hz
 · rw [if_neg h]; exact hz)
 show _ ∈ (if lk z = 1 then rm (ch s.1 q.1 (wE (del (en q) y))) z.1 else ch (ch s.1 q.1 (wE (del (en q) y))) z.1 (wL (lk z - 1)))
 split
 · exact mem_rm.2 ⟨h1, h2⟩
 · exact mem_ch.2 (.inl ⟨h1, h2⟩)
theorem wlk_dropped {s : St} (hW : Wk s) {q z : Nd} (hq : q ∈ s.1) (hz : z ∈ s.1) {y : ByteArray} (hy : (y, z.1) ∈ en q) (he : en z = []) : ∀ {xs : List ByteArray} {i c : Int}, Wlk s.1 i xs c → c ≠ z.1 → Wlk (dropN s q y z).1 i xs c
 | [], _, _, h, _ => h
 | x :: r, i, c, ⟨n, hn, hi, hd, d, hxd, hr⟩, hc => by (
 have hnz : n.1 ≠ z.1 := fun e => by
   rw [ups_eq hW.up hn hz e, he] at hxd
   cases hxd
 have hm := mem_dropped hW hq hn hnz y
 have ih := wlk_dropped hW hq hz hy he hr hc
 by_cases hnq : n.1 = q.1
 · obtain rfl := ups_eq hW.up hn hq hnq
   rw [if_pos rfl] at hm
   have hck := (hW.dirs n hn hd).1
   have hxy : x ≠ y := fun e => by (
 subst e
 have hdz : d = z.1 := by (
 have h1 := D.fnd_mem hck hxd
 have h2 := D.fnd_mem hck hy
 rw [← h1, ← h2])
 subst hdz
 cases r with
 | nil => exact hc (show z.1 = c from hr).symm
 | cons x' r' => (
 obtain ⟨m, hm', hmz, _, d', hd', _⟩ := hr
 rw [ups_eq hW.up hm' hz hmz, he] at hd'
 cases hd'))
   have hin : (x, d) ∈ del (en n) y := by (
 have := ((D.del_perm hck hy).mem_iff (a := (x, d))).1 hxd
 rcases List.mem_cons.1 this with h | h
 · exact absurd (Prod.ext_iff.1 h).1 hxy
 · exact h)
   exact ⟨_, hm, hi, hd, d, hin, ih⟩
 · rw [if_neg hnq] at hm
   exact ⟨n, hm, hi, hd, d, hxd, ih⟩)
theorem ren_walk {s : St} (h : Ok s) {xs : List ByteArray} (hx : (wlk s.1 1 xs).2 = 0) {q z : Nd} (hq : q ∈ s.1) (hz : z ∈ s.1) {y : ByteArray} (hy : (y, z.1) ∈ en q) (he : en z = []) (hne : (tgt s xs).1 ≠ z.1) :
   Ok (dropN s q y z) ∧ wlk (dropN s q y z).1 1 xs = ((tgt s xs).1, 0) := by
 have hO := ok_drop h hq hz hy he
 refine ⟨hO, ?_⟩
 have h1 := wlk_dropped h.wk hq hz hy he (h.wk.lead hx).2.2 hne
 have h2 := (wlk_root hO.wk).2 h1
 exact Prod.ext h2.2 h2.1
end Go.Proofs.YtopcefhncildnaaGreatDoor
namespace Go.Proofs.YtopcefhncildnaaGreatDoor
open D (En ins del there Chk aerr)
theorem kid_map {l : List Nd} (hU : Ups l) {i : Int} {f : Nd → Nd} (h1 : ∀ n, (f n).1 = n.1) (h2 : ∀ n, en (f n) = en n) (j : Int) : kid (ch l i f) j = kid l j := by
 have hU' := ups_ch (i := i) (f := f) h1 hU
 cases hf : fd l j with
 | some n => (
 obtain ⟨hn, hj⟩ := fd_mem hf
 have h5 := kid_of hU hn
 by_cases hni : n.1 = i
 · have h3 : f n ∈ ch l i f := mem_ch.2 (.inr ⟨n, hn, hni, rfl⟩)
   have h4 := kid_of hU' h3
   rw [h1, h2, hj] at h4
   rw [hj] at h5
   rw [h4, h5]
 · have h3 : n ∈ ch l i f := mem_ch.2 (.inl ⟨hn, hni⟩)
   have h4 := kid_of hU' h3
   rw [hj] at h4 h5
   rw [h4, h5])
 | none => (
 cases hf' : fd (ch l i f) j with
 | none => unfold kid; rw [hf, hf']
 | some m => (
 obtain ⟨hm, hj⟩ := fd_mem hf'
 rcases mem_ch.1 hm with ⟨h3, _⟩ | ⟨m', h3, _, h4⟩
 · have := fd_of hU h3
   rw [hj, hf] at this
   cases this
 · have := fd_of hU h3
   rw [← h1 m', ← h4, hj, hf] at this
   cases this))
theorem kid_rm {l : List Nd} (hU : Ups l) (i j : Int) : kid (rm l i) j = if j = i then [] else kid l j := by
 have hU' : Ups (rm l i) := ups_rm hU
 by_cases hj : j = i
 · rw [if_pos hj]
   cases hf : fd (rm l i) j with
   | none => unfold kid; rw [hf]
   | some m => (
 obtain ⟨hm, he⟩ := fd_mem hf
 exact absurd (he.trans hj) (mem_rm.1 hm).2)
 · rw [if_neg hj]
   cases hf : fd l j with
   | some n => (
 obtain ⟨hn, he⟩ := fd_mem hf
 have h3 : n ∈ rm l i := mem_rm.2 ⟨hn, by rw [he]; exact hj⟩
 have h4 := kid_of hU' h3
 have h5 := kid_of hU hn
 rw [he] at h4 h5
 rw [h4, h5])
   | none => (
 cases hf' : fd (rm l i) j with
 | none => unfold kid; rw [hf, hf']
 | some m => (
 obtain ⟨hm, he⟩ := fd_mem hf'
 have := fd_of hU (mem_rm.1 hm).1
 rw [he, hf] at this
 cases this))
theorem kid_dropped {s : St} (hW : Wk s) {q z : Nd} (hq : q ∈ s.1) (hz : z ∈ s.1) {y : ByteArray} (hy : (y, z.1) ∈ en q) (he : en z = []) (j : Int) : kid (dropN s q y z).1 j = if j = q.1 then del (en q) y else kid s.1 j := by
 have hU1 := ups_ch (i := q.1) (f := wE (del (en q) y)) (fun _ => rfl) hW.up
 have hzq : z.1 ≠ q.1 := fun e => by
   rw [← ups_eq hW.up hz hq e, he] at hy
   cases hy
 show kid (if lk z = 1 then rm (ch s.1 q.1 (wE (del (en q) y))) z.1 else ch (ch s.1 q.1 (wE (del (en q) y))) z.1 (wL (lk z - 1))) j = _
 split
 · rw [kid_rm hU1, kid_ch hW.up hq]
   by_cases hj : j = z.1
   · rw [if_pos hj, if_neg (by rw [hj]; exact hzq), hj, kid_of hW.up hz, he]
   · rw [if_neg hj]
 · rw [kid_map (f := wL (lk z - 1)) hU1 (fun _ => rfl) (fun _ => rfl), kid_ch hW.up hq]
theorem ren_hold {s : St} (h : Ok s) {xs : List ByteArray} (hne : xs ≠ []) (hx : (wlk s.1 1 xs).2 = 0) {q z : Nd} (hq : q ∈ s.1) (hz : z ∈ s.1) {y : ByteArray} (hy : (y, z.1) ∈ en q) (he : en z = []) (hnz : (tgt s xs).1 ≠ z.1) : (hold (dropN s q y z) xs).1 = (hold s xs).1 := by
 obtain ⟨hO, hw⟩ := ren_walk h hx hq hz hy he hnz
 obtain ⟨a1, a2, a3, a4, a5⟩ := h.wk.stands hne hx
 obtain ⟨b1, b2, b3, b4, b5⟩ := hO.wk.stands hne (by rw [hw])
 have hz2 : (hold s xs).1 ≠ z.1 := fun e => by
   rw [ups_eq h.wk.up a1 hz e, he] at a4
   cases a4
 have h1 : Wlk s.1 1 (ahd xs) (hold s xs).1 := (wlk_root h.wk).1 ⟨by rw [a2], by rw [a2]⟩
 have h2 := (wlk_root hO.wk).2 (wlk_dropped h.wk hq hz hy he h1 hz2)
 rw [b2] at h2
 exact h2.2
def cwE (s : St) (xs ys : List ByteArray) : Int := if isD (tgt s xs) = true then rmE s ys else filE s.1 ys
def ren1 (s : St) (ys : List ByteArray) : St := if stdT s.1 ys = 0 then s else dropN s (hold s ys) (lst ys) (tgt s ys)
def ren2 (s : St) (xs ys : List ByteArray) : List Nd := ch (ren1 s ys).1 (hold (ren1 s ys) xs).1 (wE (del (en (hold (ren1 s ys) xs)) (lst xs)))
def ren3 (s : St) (xs ys : List ByteArray) : List Nd := ch (ren2 s xs ys) (stdI s.1 ys) (wE (ins (en (gt (ren2 s xs ys) (stdI s.1 ys))) (lst ys, (tgt s xs).1)))
def renE (s : St) (xs ys : List ByteArray) : Int :=
 if xs = [] ∨ ys = [] then 108 else if (wlk s.1 1 xs).2 ≠ 0 then (wlk s.1 1 xs).2 else if stdE s.1 ys ≠ 0 then stdE s.1 ys else if isD (tgt s xs) = true ∧ isB xs ys = true then 108 else
 if stdT s.1 ys = (tgt s xs).1 then 0 else if stdT s.1 ys ≠ 0 ∧ cwE s xs ys ≠ 0 then cwE s xs ys else
 if aerr (en (gt (ren2 s xs ys) (stdI s.1 ys))) (lst ys, (tgt s xs).1) ≠ 0 then aerr (en (gt (ren2 s xs ys) (stdI s.1 ys))) (lst ys, (tgt s xs).1) else
 if 8 < ys.length + dpt s.1 8 (tgt s xs).1 then 5 else 0
def renS (s : St) (xs ys : List ByteArray) : St := if stdT s.1 ys = (tgt s xs).1 then s else (ren3 s xs ys, s.2)
end Go.Proofs.YtopcefhncildnaaGreatDoor
namespace Go.Proofs.YtopcefhncildnaaGreatDoor
open D (En ins del there Chk aerr)
theorem std_zero {s : St} (hK : Wk s) {ys : List ByteArray} (hE : stdE s.1 ys = 0) : (wlk s.1 1 (ahd ys)).2 = 0 ∧ hold s ys ∈ s.1 ∧ stdI s.1 ys = (hold s ys).1 ∧ isD (hold s ys) = true ∧ stdT s.1 ys = entC (hold s ys) (lst ys) := by
 have hE0 := hE
 unfold stdE at hE
 split at hE
 case isFalse h3 => exact absurd hE h3
 rename_i h3
 split at hE
 case isFalse => omega
 rename_i h4
 obtain ⟨n, hn, e1, e2, e3⟩ := wlk_in hK h3
 have hh : hold s ys = n := e2
 refine ⟨h3, by rw [hh]; exact hn, ?_, h4, ?_⟩
 · unfold stdI; rw [if_pos hE0, hh]; exact e1.symm
 · unfold stdT; rw [if_pos hE0]; rfl
theorem rm_zero {s : St} {ys : List ByteArray} (h : rmE s ys = 0) : ys ≠ [] ∧ dirE s.1 ys = 0 ∧ (en (tgt s ys)).length = 0 := by
 unfold rmE at h
 split at h
 · omega
 rename_i h1
 split at h
 · rename_i h2; exact absurd h h2
 rename_i h2
 split at h
 · rename_i h3; exact ⟨h1, Decidable.not_not.1 h2, h3⟩
 · omega
theorem cw_zero {s : St} (hK : Wk s) {xs ys : List ByteArray} (h : cwE s xs ys = 0) : (wlk s.1 1 ys).2 = 0 ∧ en (tgt s ys) = [] := by
 unfold cwE at h
 split at h
 · obtain ⟨_, h1, h2⟩ := rm_zero h
   exact ⟨(dir_zero h1).1, List.eq_nil_of_length_eq_zero h2⟩
 · obtain ⟨h1, h2⟩ := fil_zero h
   exact ⟨h1, (hK.files _ (hK.lead h1).1 h2).1⟩
theorem ren_clear {s : St} (h : Ok s) {xs ys : List ByteArray} (hx0 : xs ≠ []) (hy0 : ys ≠ []) (hx : (wlk s.1 1 xs).2 = 0) (hs : stdE s.1 ys = 0) (hst : stdT s.1 ys ≠ (tgt s xs).1) (hcw : stdT s.1 ys ≠ 0 → cwE s xs ys = 0) :
   Ok (ren1 s ys) ∧ wlk (ren1 s ys).1 1 xs = ((tgt s xs).1, 0) ∧ (ren1 s ys).2 = s.2 ∧ (hold (ren1 s ys) xs).1 = (hold s xs).1 ∧ (∀ j, j ≠ (hold s ys).1 → kid (ren1 s ys).1 j = kid s.1 j) ∧ ∃ m ∈ (ren1 s ys).1, m.1 = stdI s.1 ys ∧ isD m = true := by
 obtain ⟨y1, y2, y3, y4, y5⟩ := std_zero h.wk hs
 unfold ren1
 split
 · rename_i h0
   exact ⟨h, Prod.ext (h.wk.lead hx).2.1 hx, rfl, rfl, fun _ _ => rfl, _, y2, y3.symm, y4⟩
 · rename_i h0
   obtain ⟨w1, w2⟩ := cw_zero h.wk (hcw h0)
   obtain ⟨z1, z2, z3⟩ := h.wk.lead w1
   obtain ⟨q1, q2, q3, q4, q5⟩ := h.wk.stands hy0 w1
   have hck := (h.wk.dirs _ q1 q3).1
   have hT : stdT s.1 ys = (tgt s ys).1 := by (
 rw [y5]
 unfold entC
 rw [if_neg (by rw [q3]; decide), if_neg (by rw [q5]; decide)]
 exact D.fnd_mem hck q4)
   have hnz : (tgt s xs).1 ≠ (tgt s ys).1 := by rw [← hT]; exact Ne.symm hst
   obtain ⟨r1, r2⟩ := ren_walk h hx q1 z1 q4 w2 hnz
   refine ⟨r1, r2, rfl, ren_hold h hx0 hx q1 z1 q4 w2 hnz, fun j hj => ?_, ?_⟩
   · rw [kid_dropped h.wk q1 z1 q4 w2, if_neg hj]
   · have hqz : (hold s ys).1 ≠ (tgt s ys).1 := fun e => by
       rw [ups_eq h.wk.up q1 z1 e, w2] at q4
       cases q4
     have := mem_dropped h.wk q1 q1 hqz (lst ys)
     rw [if_pos rfl] at this
     exact ⟨_, this, y3.symm, q3⟩
theorem ren_struck {s : St} (h : Ok s) {xs ys : List ByteArray} (hx0 : xs ≠ []) (hy0 : ys ≠ []) (hx : (wlk s.1 1 xs).2 = 0) (hs : stdE s.1 ys = 0) (hst : stdT s.1 ys ≠ (tgt s xs).1) (hcw : stdT s.1 ys ≠ 0 → cwE s xs ys = 0) :
   Wk (ren2 s xs ys, s.2) ∧ gt (ren2 s xs ys) (stdI s.1 ys) ∈ ren2 s xs ys ∧ (gt (ren2 s xs ys) (stdI s.1 ys)).1 = stdI s.1 ys ∧ isD (gt (ren2 s xs ys) (stdI s.1 ys)) = true ∧ (∃ m ∈ ren2 s xs ys, m.1 = (tgt s xs).1) ∧ ∀ j, j ≠ (hold s ys).1 → j ≠ (hold s xs).1 → kid (ren2 s xs ys) j = kid s.1 j := by
 obtain ⟨c1, c2, c3, c4, c5, m, hm, hm1, hm2⟩ := ren_clear h hx0 hy0 hx hs hst hcw
 obtain ⟨b1, b2, b3, b4, b5⟩ := c1.wk.stands hx0 (by rw [c2])
 have hW := c1.wk.dele b1 b3 (lst xs)
 rw [c3] at hW
 have hin : ∀ m ∈ (ren1 s ys).1, ∃ m' ∈ ren2 s xs ys, m'.1 = m.1 ∧ isD m' = isD m := fun m hm => by (
 by_cases hb : m.1 = (hold (ren1 s ys) xs).1
 · exact ⟨_, (mem_ch' c1.wk.up b1).2 (.inr rfl), hb.symm, by rw [ups_eq c1.wk.up hm b1 hb]; rfl⟩
 · exact ⟨m, (mem_ch' c1.wk.up b1).2 (.inl ⟨hm, hb⟩), rfl, rfl⟩)
 obtain ⟨m', h1, h2, h3⟩ := hin m hm
 have hg : gt (ren2 s xs ys) (stdI s.1 ys) = m' := by rw [← hm1, ← h2]; exact gt_of hW.up h1
 rw [hg]
 have hN := c1.wk.lead (xs := xs) (by rw [c2])
 obtain ⟨n', n1, n2, _⟩ := hin _ hN.1
 refine ⟨hW, h1, h2.trans hm1, h3.trans hm2, ⟨n', n1, ?_⟩, fun j j1 j2 => ?_⟩
 · rw [n2, ← hN.2.1, c2]
 · have := kid_ch c1.wk.up b1 (del (en (hold (ren1 s ys) xs)) (lst xs)) j
   rw [if_neg (by rw [c4]; exact j2)] at this
   exact this.trans (c5 j j1)
end Go.Proofs.YtopcefhncildnaaGreatDoor
namespace Go.Proofs.YtopcefhncildnaaGreatDoor
open Go.RowKit
open P (serr sval)
def Told (s : St) (ps : List ByteArray) (K : Int) (s' : St) (k : Int) (S : St) : Prop :=
 (¬ Ok s ∧ k = 9 ∧ S = ([], 0)) ∨ (Ok s ∧ psE ps ≠ 0 ∧ k = psE ps ∧ S = ([], 0)) ∨ (Ok s ∧ psE ps = 0 ∧ K ≠ 0 ∧ k = K ∧ S = ([], 0)) ∨ (Ok s ∧ psE ps = 0 ∧ K = 0 ∧ k = 0 ∧ S = s')
theorem Told.one {s : St} {ps : List ByteArray} {K : Int} {s' : St} {k k2 : Int} {S S2 : St} (h : Told s ps K s' k S) (h2 : Told s ps K s' k2 S2) : k = k2 ∧ S = S2 := by
 rcases h with ⟨a, b, c⟩ | ⟨a, b, c, d⟩ | ⟨a, b, c, d, e⟩ | ⟨a, b, c, d, e⟩ <;> rcases h2 with ⟨a2, b2, c2⟩ | ⟨a2, b2, c2, d2⟩ | ⟨a2, b2, c2, d2, e2⟩ | ⟨a2, b2, c2, d2, e2⟩ <;>
   first
     | (exfalso; contradiction)
     | (subst_vars; exact ⟨rfl, rfl⟩)
     | (exfalso; omega)
theorem Told.ok {s : St} {ps : List ByteArray} {K : Int} {s' : St} {S : St} (h : Told s ps K s' 0 S) : Ok s ∧ psE ps = 0 ∧ K = 0 ∧ S = s' := by
 rcases h with ⟨_, b, _⟩ | ⟨_, b, c, _⟩ | ⟨_, _, c, d, _⟩ | ⟨a, b, c, _, e⟩
 · omega
 · omega
 · omega
 · exact ⟨a, b, c, e⟩
theorem Told.same {s : St} {ps : List ByteArray} {K : Int} {s' s2 : St} {k k2 : Int} {S S2 : St} (h : Told s ps K s' k S) (h2 : Told s ps K s2 k2 S2) : k = k2 := by
 rcases h with ⟨a, b, c⟩ | ⟨a, b, c, d⟩ | ⟨a, b, c, d, e⟩ | ⟨a, b, c, d, e⟩ <;> rcases h2 with ⟨a2, b2, c2⟩ | ⟨a2, b2, c2, d2⟩ | ⟨a2, b2, c2, d2, e2⟩ | ⟨a2, b2, c2, d2, e2⟩ <;>
   first
     | (exfalso; contradiction)
     | (subst_vars; rfl)
     | (exfalso; omega)
theorem nds_nil (n : Nat) (w : World) : ndsN.lies n w [.slice none 0 0] [] := ndsN.olies (Shape.list_nil ndN 27 Tryz.underlying27 cells27 n w)
theorem nds_shape {n : Nat} {w : World} {v : Value} {l : List Nd} (h : ndsN.lies n w [v] l) : ∃ a c, v = .slice a l.length c := by
 obtain ⟨a, cap, he, _⟩ := Shape.list_len (S := ndN) (ht := Tryz.underlying27) (hc := cells27) h
 exact ⟨a, cap, by simpa using he⟩
end Go.Proofs.YtopcefhncildnaaGreatDoor
namespace Go.Proofs.YtopcefhncildnaaGreatDoor
open Go.RowKit
open P (ArgT OwnT tv serr sval)
theorem look1_any (G : Nat) (hG : ∀ args w, (callFunc G args).run Tryz.prog w = .ok (.enter G args) w) (c1 : Value) (n0 n1 : Nat) (a : Option Addr) (c : Nat) (s : St) (av : Option Addr) (cv : Nat) (ps : List ByteArray) (hps : ps.length ≤ 2) (w : World) (hA : ndsN.lies n0 w [.slice a s.1.length c] s.1) (hX : ArgT n1 w (.slice av ps.length cv) ps) (hg : Glob w) (R : Option Nat) (k : Int) (Post : World → Prop) (hst : ∀ V V', Post V → Below V.heap.size V V' → Post V')
   (hR : ∀ r, R = some r → 0 < r)
   (hdo : Ok s → psE ps = 0 → ∀ V v2 B, Below w.heap.size w V → Box V B 29 #[.slice a s.1.length c, .int .i64 s.2] → w.heap.size ≤ B → OwnL w.heap.size V v2 ps → Calls Tryz.prog G #[.pointer (some ⟨B, 0, none⟩), v2, c1] V fun e w' => (∃ E, e = .returned E ∧ EV k E) ∧ V.grownBy w' R ∧ Post w') :
   Calls Tryz.prog 86 #[.agg #[.slice a s.1.length c, .int .i64 s.2], .func (.func G) #[] #[c1], .slice av ps.length cv] w fun e w' => ∃ r, e = .returned (.int .i64 r) ∧ ((¬ Ok s ∧ r = 9 ∧ Below w.heap.size w w') ∨ (Ok s ∧ psE ps ≠ 0 ∧ r = psE ps ∧ Below w.heap.size w w') ∨ (Ok s ∧ psE ps = 0 ∧ r = k ∧ w.grownBy w' R ∧ Post w')) := by
 obtain ⟨l, nx⟩ := s
 simp only at hA hdo ⊢
 obtain ⟨W, hW⟩ := exa (w.alloc (.cells #[.slice a l.length c, .int .i64 nx] 29))
 have hbW : Below w.heap.size w W := by rw [hW]; exact (Below.refl _ w).alloc (Nat.le_refl _) _
 have HW : Hid (Below w.heap.size w W ∧ Box W w.heap.size 29 #[.slice a l.length c, .int .i64 nx]) := ⟨hbW, by rw [hW]; exact Box.new _ _ _⟩
 have HC := prepare_any n0 n1 a c (l, nx) av cv ps hps W (ndsN.below hA hbW) (hX.below hbW)
 simp only at HC
 have HG : Hid (Glob w) := hg
 have HDO : Hid (Ok (l, nx) → psE ps = 0 → ∀ V v2 B, Below w.heap.size w V → Box V B 29 #[.slice a l.length c, .int .i64 nx] → w.heap.size ≤ B → OwnL w.heap.size V v2 ps → Calls Tryz.prog G #[.pointer (some ⟨B, 0, none⟩), v2, c1] V fun e w' => (∃ E, e = .returned E ∧ EV k E) ∧ V.grownBy w' R ∧ Post w') := hdo
 have HST : Hid ((∀ V V', Post V → Below V.heap.size V V' → Post V') ∧ ∀ r, R = some r → 0 < r) := ⟨hst, hR⟩
 obtain ⟨post, hpost⟩ : ∃ post : Ending → World → Prop, post = fun e w' => ∃ r, e = .returned (.int .i64 r) ∧ ((¬ Ok (l, nx) ∧ r = 9 ∧ Below w.heap.size w w') ∨ (Ok (l, nx) ∧ psE ps ≠ 0 ∧ r = psE ps ∧ Below w.heap.size w w') ∨ (Ok (l, nx) ∧ psE ps = 0 ∧ r = k ∧ w.grownBy w' R ∧ Post w')) := ⟨_, rfl⟩
 have HPo : Hid ((∀ w', ¬ Ok (l, nx) → Below w.heap.size w w' → post (.returned (.int .i64 9)) w') ∧ (∀ w', Ok (l, nx) → psE ps ≠ 0 → Below w.heap.size w w' → post (.returned (.int .i64 (psE ps))) w') ∧ (∀ w', Ok (l, nx) → psE ps = 0 → w.grownBy w' R → Post w' → post (.returned (.int .i64 k)) w')) :=
   ⟨fun w' h1 h2 => by rw [hpost]; exact ⟨9, rfl, .inl ⟨h1, rfl, h2⟩⟩, fun w' h1 h2 h3 => by rw [hpost]; exact ⟨_, rfl, .inr (.inl ⟨h1, h2, rfl, h3⟩)⟩, fun w' h1 h2 h3 h4 => by rw [hpost]; exact ⟨_, rfl, .inr (.inr ⟨h1, h2, rfl, h3, h4⟩)⟩⟩
 suffices HH : Calls Tryz.prog 86 #[.agg #[.slice a l.length c, .int .i64 nx], .func (.func G) #[] #[c1], .slice av ps.length cv] w fun e w' => post e w' by
   rw [hpost] at HH; exact HH
 obtain ⟨n, hn⟩ := exa (l.length)
 rw [← hn] at HC HW HDO hW ⊢
 obtain ⟨m, hm⟩ := exa (ps.length)
 rw [← hm] at HC ⊢
 obtain ⟨g0, g1, -, -⟩ := HW.out.2.two
 rw [hW] at g0 g1
 clear hA hbW hX hg hst hR hdo hn hm hpost hps
 go_enter Tryz.func86, Tryz.ntmps86
 go_wp2_with fail
 rw [← hW]
 clear hW g0 g1
 refine HC.mono ?_
 rintro e w1 ⟨⟨v, E, rfl, hr⟩, hb1⟩
 have HB1 : Hid (Below w.heap.size w w1 ∧ Box w1 w.heap.size 29 #[.slice a n c, .int .i64 nx]) := ⟨below_any HW.out.1 hb1, HW.out.2.below hb1 HW.out.2.lt⟩
 have HGW : Hid (Glob w1) := HG.out.below HB1.out.1 HG.out.lt
 rcases hr with ⟨ho, hE⟩ | ⟨ho, hp, hE⟩ | ⟨ho, hp, rfl, hL⟩
 · have HO : Hid (¬ Ok (l, nx)) := ho
   rcases hE with ⟨h0, _⟩ | ⟨_, a2, l2, c2, s2, rfl⟩
   · omega
   have hnn := numberOf_ref a2 l2 c2 9 s2 w1 HGW.out
   clear hb1 ho HC
   go_wp2_with fail
   refine hnn.mono ?_
   rintro e w2 ⟨rfl, hb2⟩
   go_wp2
   exact HPo.out.1 _ HO.out (below_any HB1.out.1 hb2)
 · have HO : Hid (Ok (l, nx) ∧ psE ps ≠ 0) := ⟨ho, hp⟩
   generalize psE ps = pe at HPo HO hE HDO
   rcases hE with ⟨h0, _⟩ | ⟨_, a2, l2, c2, s2, rfl⟩
   · exact absurd h0 HO.out.2
   have hnn := numberOf_ref a2 l2 c2 pe s2 w1 HGW.out
   clear hb1 ho hp HC
   go_wp2_with fail
   refine hnn.mono ?_
   rintro e w2 ⟨rfl, hb2⟩
   go_wp2
   exact HPo.out.2.1 _ HO.out.1 HO.out.2 (below_any HB1.out.1 hb2)
 · have HO : Hid (Ok (l, nx) ∧ psE ps = 0) := ⟨ho, hp⟩
   have hL1 : OwnL w.heap.size w1 v ps := by (
 obtain ⟨us, h1, h2⟩ := hL
 exact ⟨us, own_weaken h1 HW.out.1.size, h2.mono fun _ _ h => h.weaken HW.out.1.size⟩)
   have HCD := HDO.out ho hp w1 v w.heap.size HB1.out.1 HB1.out.2 (Nat.le_refl _) hL1
   clear hb1 ho hp hL hL1 HC
   go_wp2_with fail
   refine HCD.mono ?_
   rintro e w2 ⟨⟨E, rfl, hE⟩, hg2, hP2⟩
   have hgg : w.grownBy w2 R := (⟨HB1.out.1.os, HB1.out.1.tape, HB1.out.1.output, HB1.out.1.size, fun j hj _ => HB1.out.1.block j hj⟩ : w.grownBy w1 R).trans hg2
   have H2 : Hid (w.grownBy w2 R ∧ Post w2) := ⟨hgg, hP2⟩
   have HG2 : Hid (Glob w2) := by (
 have h0 := HG.out.lt
 show w2.cell? _ = _
 rw [World.cell?_of_block (a := ⟨0, 0, none⟩) (hgg.block 0 h0 (fun e => by have := HST.out.2 0 e.symm; omega))]
 exact HG.out)
   clear hg2 hP2 hgg HCD
   rcases hE with ⟨rfl, rfl⟩ | ⟨hk, a2, l2, c2, s2, rfl⟩
   · have hnn := numberOf_nil w2
     go_wp2_with fail
     refine hnn.mono ?_
     rintro e w3 ⟨rfl, hb3⟩
     go_wp2
     exact HPo.out.2.2 _ HO.out.1 HO.out.2 (H2.out.1.trans ⟨hb3.os, hb3.tape, hb3.output, hb3.size, fun j hj _ => hb3.block j hj⟩) (HST.out.1 _ _ H2.out.2 hb3)
   · have hnn := numberOf_ref a2 l2 c2 k s2 w2 HG2.out
     clear hk
     go_wp2_with fail
     refine hnn.mono ?_
     rintro e w3 ⟨rfl, hb3⟩
     go_wp2
     exact HPo.out.2.2 _ HO.out.1 HO.out.2 (H2.out.1.trans ⟨hb3.os, hb3.tape, hb3.output, hb3.size, fun j hj _ => hb3.block j hj⟩) (HST.out.1 _ _ H2.out.2 hb3)
theorem look3_any (G : Nat) (hG : ∀ args w, (callFunc G args).run Tryz.prog w = .ok (.enter G args) w) (c1 : Value) (c2 : Value) (c3 : Value) (n0 n1 : Nat) (a : Option Addr) (c : Nat) (s : St) (av : Option Addr) (cv : Nat) (ps : List ByteArray) (hps : ps.length ≤ 2) (w : World) (hA : ndsN.lies n0 w [.slice a s.1.length c] s.1) (hX : ArgT n1 w (.slice av ps.length cv) ps) (hg : Glob w) (R : Option Nat) (k : Int) (Post : World → Prop) (hst : ∀ V V', Post V → Below V.heap.size V V' → Post V')
   (hR : ∀ r, R = some r → 0 < r)
   (hdo : Ok s → psE ps = 0 → ∀ V v2 B, Below w.heap.size w V → Box V B 29 #[.slice a s.1.length c, .int .i64 s.2] → w.heap.size ≤ B → OwnL w.heap.size V v2 ps → Calls Tryz.prog G #[.pointer (some ⟨B, 0, none⟩), v2, c1, c2, c3] V fun e w' => (∃ E, e = .returned E ∧ EV k E) ∧ V.grownBy w' R ∧ Post w') :
   Calls Tryz.prog 86 #[.agg #[.slice a s.1.length c, .int .i64 s.2], .func (.func G) #[] #[c1, c2, c3], .slice av ps.length cv] w fun e w' => ∃ r, e = .returned (.int .i64 r) ∧ ((¬ Ok s ∧ r = 9 ∧ Below w.heap.size w w') ∨ (Ok s ∧ psE ps ≠ 0 ∧ r = psE ps ∧ Below w.heap.size w w') ∨ (Ok s ∧ psE ps = 0 ∧ r = k ∧ w.grownBy w' R ∧ Post w')) := by
 obtain ⟨l, nx⟩ := s
 simp only at hA hdo ⊢
 obtain ⟨W, hW⟩ := exa (w.alloc (.cells #[.slice a l.length c, .int .i64 nx] 29))
 have hbW : Below w.heap.size w W := by rw [hW]; exact (Below.refl _ w).alloc (Nat.le_refl _) _
 have HW : Hid (Below w.heap.size w W ∧ Box W w.heap.size 29 #[.slice a l.length c, .int .i64 nx]) := ⟨hbW, by rw [hW]; exact Box.new _ _ _⟩
 have HC := prepare_any n0 n1 a c (l, nx) av cv ps hps W (ndsN.below hA hbW) (hX.below hbW)
 simp only at HC
 have HG : Hid (Glob w) := hg
 have HDO : Hid (Ok (l, nx) → psE ps = 0 → ∀ V v2 B, Below w.heap.size w V → Box V B 29 #[.slice a l.length c, .int .i64 nx] → w.heap.size ≤ B → OwnL w.heap.size V v2 ps → Calls Tryz.prog G #[.pointer (some ⟨B, 0, none⟩), v2, c1, c2, c3] V fun e w' => (∃ E, e = .returned E ∧ EV k E) ∧ V.grownBy w' R ∧ Post w') := hdo
 have HST : Hid ((∀ V V', Post V → Below V.heap.size V V' → Post V') ∧ ∀ r, R = some r → 0 < r) := ⟨hst, hR⟩
 obtain ⟨post, hpost⟩ : ∃ post : Ending → World → Prop, post = fun e w' => ∃ r, e = .returned (.int .i64 r) ∧ ((¬ Ok (l, nx) ∧ r = 9 ∧ Below w.heap.size w w') ∨ (Ok (l, nx) ∧ psE ps ≠ 0 ∧ r = psE ps ∧ Below w.heap.size w w') ∨ (Ok (l, nx) ∧ psE ps = 0 ∧ r = k ∧ w.grownBy w' R ∧ Post w')) := ⟨_, rfl⟩
 have HPo : Hid ((∀ w', ¬ Ok (l, nx) → Below w.heap.size w w' → post (.returned (.int .i64 9)) w') ∧ (∀ w', Ok (l, nx) → psE ps ≠ 0 → Below w.heap.size w w' → post (.returned (.int .i64 (psE ps))) w') ∧ (∀ w', Ok (l, nx) → psE ps = 0 → w.grownBy w' R → Post w' → post (.returned (.int .i64 k)) w')) :=
   ⟨fun w' h1 h2 => by rw [hpost]; exact ⟨9, rfl, .inl ⟨h1, rfl, h2⟩⟩, fun w' h1 h2 h3 => by rw [hpost]; exact ⟨_, rfl, .inr (.inl ⟨h1, h2, rfl, h3⟩)⟩, fun w' h1 h2 h3 h4 => by rw [hpost]; exact ⟨_, rfl, .inr (.inr ⟨h1, h2, rfl, h3, h4⟩)⟩⟩
 suffices HH : Calls Tryz.prog 86 #[.agg #[.slice a l.length c, .int .i64 nx], .func (.func G) #[] #[c1, c2, c3], .slice av ps.length cv] w fun e w' => post e w' by
   rw [hpost] at HH; exact HH
 obtain ⟨n, hn⟩ := exa (l.length)
 rw [← hn] at HC HW HDO hW ⊢
 obtain ⟨m, hm⟩ := exa (ps.length)
 rw [← hm] at HC ⊢
 obtain ⟨g0, g1, -, -⟩ := HW.out.2.two
 rw [hW] at g0 g1
 clear hA hbW hX hg hst hR hdo hn hm hpost hps
 go_enter Tryz.func86, Tryz.ntmps86
 go_wp2_with fail
 rw [← hW]
 clear hW g0 g1
 refine HC.mono ?_
 rintro e w1 ⟨⟨v, E, rfl, hr⟩, hb1⟩
 have HB1 : Hid (Below w.heap.size w w1 ∧ Box w1 w.heap.size 29 #[.slice a n c, .int .i64 nx]) := ⟨below_any HW.out.1 hb1, HW.out.2.below hb1 HW.out.2.lt⟩
 have HGW : Hid (Glob w1) := HG.out.below HB1.out.1 HG.out.lt
 rcases hr with ⟨ho, hE⟩ | ⟨ho, hp, hE⟩ | ⟨ho, hp, rfl, hL⟩
 · have HO : Hid (¬ Ok (l, nx)) := ho
   rcases hE with ⟨h0, _⟩ | ⟨_, a2, l2, c2, s2, rfl⟩
   · omega
   have hnn := numberOf_ref a2 l2 c2 9 s2 w1 HGW.out
   clear hb1 ho HC
   go_wp2_with fail
   refine hnn.mono ?_
   rintro e w2 ⟨rfl, hb2⟩
   go_wp2
   exact HPo.out.1 _ HO.out (below_any HB1.out.1 hb2)
 · have HO : Hid (Ok (l, nx) ∧ psE ps ≠ 0) := ⟨ho, hp⟩
   generalize psE ps = pe at HPo HO hE HDO
   rcases hE with ⟨h0, _⟩ | ⟨_, a2, l2, c2, s2, rfl⟩
   · exact absurd h0 HO.out.2
   have hnn := numberOf_ref a2 l2 c2 pe s2 w1 HGW.out
   clear hb1 ho hp HC
   go_wp2_with fail
   refine hnn.mono ?_
   rintro e w2 ⟨rfl, hb2⟩
   go_wp2
   exact HPo.out.2.1 _ HO.out.1 HO.out.2 (below_any HB1.out.1 hb2)
 · have HO : Hid (Ok (l, nx) ∧ psE ps = 0) := ⟨ho, hp⟩
   have hL1 : OwnL w.heap.size w1 v ps := by (
 obtain ⟨us, h1, h2⟩ := hL
 exact ⟨us, own_weaken h1 HW.out.1.size, h2.mono fun _ _ h => h.weaken HW.out.1.size⟩)
   have HCD := HDO.out ho hp w1 v w.heap.size HB1.out.1 HB1.out.2 (Nat.le_refl _) hL1
   clear hb1 ho hp hL hL1 HC
   go_wp2_with fail
   refine HCD.mono ?_
   rintro e w2 ⟨⟨E, rfl, hE⟩, hg2, hP2⟩
   have hgg : w.grownBy w2 R := (⟨HB1.out.1.os, HB1.out.1.tape, HB1.out.1.output, HB1.out.1.size, fun j hj _ => HB1.out.1.block j hj⟩ : w.grownBy w1 R).trans hg2
   have H2 : Hid (w.grownBy w2 R ∧ Post w2) := ⟨hgg, hP2⟩
   have HG2 : Hid (Glob w2) := by (
 have h0 := HG.out.lt
 show w2.cell? _ = _
 rw [World.cell?_of_block (a := ⟨0, 0, none⟩) (hgg.block 0 h0 (fun e => by have := HST.out.2 0 e.symm; omega))]
 exact HG.out)
   clear hg2 hP2 hgg HCD
   rcases hE with ⟨rfl, rfl⟩ | ⟨hk, a2, l2, c2, s2, rfl⟩
   · have hnn := numberOf_nil w2
     go_wp2_with fail
     refine hnn.mono ?_
     rintro e w3 ⟨rfl, hb3⟩
     go_wp2
     exact HPo.out.2.2 _ HO.out.1 HO.out.2 (H2.out.1.trans ⟨hb3.os, hb3.tape, hb3.output, hb3.size, fun j hj _ => hb3.block j hj⟩) (HST.out.1 _ _ H2.out.2 hb3)
   · have hnn := numberOf_ref a2 l2 c2 k s2 w2 HG2.out
     clear hk
     go_wp2_with fail
     refine hnn.mono ?_
     rintro e w3 ⟨rfl, hb3⟩
     go_wp2
     exact HPo.out.2.2 _ HO.out.1 HO.out.2 (H2.out.1.trans ⟨hb3.os, hb3.tape, hb3.output, hb3.size, fun j hj _ => hb3.block j hj⟩) (HST.out.1 _ _ H2.out.2 hb3)
end Go.Proofs.YtopcefhncildnaaGreatDoor
namespace Go.Proofs.YtopcefhncildnaaGreatDoor
open Go.RowKit
open P (ArgT OwnT tv serr sval)
def statN (s : St) (xs : List ByteArray) : Nd := if (wlk s.1 1 xs).2 = 0 then tgt s xs else nd0
def HoldsN (N : Nd) (Q : Nat) (w : World) : Prop := ∃ ea ec fa fc, Box w Q 47 #[.int .i64 N.1, .bool (isD N), .int .i64 (lk N), .slice ea (en N).length ec, .int .i64 (fi N).1, .slice fa (fi N).2.length fc]
theorem HoldsN.nil {w : World} {Q : Nat} (h : Box w Q 47 #[.int .i64 0, .bool false, .int .i64 0, .slice none 0 0, .int .i64 0, .slice none 0 0]) : HoldsN nd0 Q w := ⟨none, 0, none, 0, h⟩
theorem HoldsN.below {N : Nd} {Q : Nat} {w w' : World} (h : HoldsN N Q w) (hb : Below w.heap.size w w') : HoldsN N Q w' := by
 obtain ⟨ea, ec, fa, fc, h⟩ := h
 exact ⟨ea, ec, fa, fc, h.below hb h.lt⟩
end Go.Proofs.YtopcefhncildnaaGreatDoor
namespace Go.Proofs.YtopcefhncildnaaGreatDoor
open Go.RowKit
open F (Fl flN bksN rdE rdO)
open P (ArgT OwnT tv serr sval)
def frE (s : St) (xs : List ByteArray) (off n : Int) : Int := if filE s.1 xs ≠ 0 then filE s.1 xs else rdE (fi (tgt s xs)) off n
def frO (s : St) (xs : List ByteArray) (off n : Int) : List Int := if filE s.1 xs ≠ 0 then [] else rdO (fi (tgt s xs)) off n
def HoldsO (base : Nat) (O : List Int) (Q : Nat) (w : World) : Prop := ∃ a c, Box w Q 25 #[.slice a O.length c] ∧ Arg base w (.slice a O.length c) O
theorem HoldsO.below {base : Nat} {O : List Int} {Q : Nat} {w w' : World} (h : HoldsO base O Q w) (hb : Below w.heap.size w w') : HoldsO base O Q w' := by
 obtain ⟨a, c, h1, h2⟩ := h
 exact ⟨a, c, h1.below hb h1.lt, h2.below hb⟩
theorem HoldsO.nil {base : Nat} {w : World} {Q : Nat} (h : Box w Q 25 #[.slice none 0 0]) : HoldsO base [] Q w := ⟨none, 0, h, .mk ⟨rfl, .inl ⟨rfl, rfl⟩⟩ (fun _ h => by cases h)⟩
theorem OwnL.at2 {base : Nat} {w : World} {v : Value} {ps : List ByteArray} (h : OwnL base w v ps) (i : Nat) (p : ByteArray) (hp : ps[i]? = some p) :
   ∃ b o a c, (∀ W, (Instr.indexAt 106 v (.int .i64 i)).run Tryz.prog W = .ok (.pointer (some ⟨b, o, none⟩)) W) ∧ w.cell? ⟨b, o, none⟩ = some (.slice a (sval p).length c) ∧ ArgT base w (.slice a (sval p).length c) (sval p) ∧ base ≤ b := by
 obtain ⟨us, h1, h2⟩ := h
 obtain ⟨u, hu, hT⟩ := h2.get hp
 obtain ⟨a, c, rfl⟩ := hT.shape
 obtain ⟨i0, hi0, _, hz, _⟩ := info_parts Tryz.info57
 have hC : Cells base w 1 v ps.length us := .own h1
 obtain ⟨b, o, hix, hb, hc⟩ := hC.index (by omega) Tryz.underlying106 hi0 hz i (List.getElem?_eq_some_iff.1 hp).1
 exact ⟨b, o, a, c, hix, hc 0 _ (by simpa using hu), hT.arg, hb⟩
theorem read_split {fe wi : Int} {l : List Nd} {v : Value} {e : Ending} (h : (fe ≠ 0 ∧ (∃ E, e = .returned (.tuple #[.pointer none, E]) ∧ EV fe E)) ∨ (fe = 0 ∧ ∃ k p b o, l[k]? = some p ∧ p.1 = wi ∧ (∀ W, (Instr.indexAt 27 v (.int .i64 (k : Nat))).run Tryz.prog W = .ok (.pointer (some ⟨b, o, none⟩)) W) ∧ e = .returned (.tuple #[.pointer (some ⟨b, o, none⟩), .nilIface]))) :
   ∃ R1 R2, e = .returned (.tuple #[R1, R2]) ∧ ((fe ≠ 0 ∧ R1 = .pointer none ∧ EV fe R2) ∨ (fe = 0 ∧ R2 = .nilIface ∧ ∃ k q b o, l[k]? = some q ∧ q.1 = wi ∧ (∀ W, (Instr.indexAt 27 v (.int .i64 (k : Nat))).run Tryz.prog W = .ok (.pointer (some ⟨b, o, none⟩)) W) ∧ R1 = .pointer (some ⟨b, o, none⟩))) := by
 rcases h with ⟨h0, E, rfl, h⟩ | ⟨h0, k, p, b, o, h1, h2, h3, rfl⟩
 · exact ⟨_, _, rfl, .inl ⟨h0, rfl, h⟩⟩
 · exact ⟨_, _, rfl, .inr ⟨h0, rfl, k, p, b, o, h1, h2, h3, rfl⟩⟩
theorem readDo_any (n0 : Nat) (a : Option Addr) (c : Nat) (s : St) (hK : Wk s) (p : ByteArray) (off nn : Int) (ho : I64 off) (hn : I64 nn) (B Q1 Q2 Q : Nat) (v2 : Value) (w0 V : World) (hA : ndsN.lies n0 w0 [.slice a s.1.length c] s.1) (hb : Below w0.heap.size w0 V) (hB : Box V B 29 #[.slice a s.1.length c, .int .i64 s.2]) (hL : OwnL w0.heap.size V v2 [p]) (hQ1 : Box V Q1 3 #[.int .i64 off]) (hQ2 : Box V Q2 3 #[.int .i64 nn]) (hQ : Box V Q 25 #[.slice none 0 0]) (hQw : Q < w0.heap.size) :
   Calls Tryz.prog 87 #[.pointer (some ⟨B, 0, none⟩), v2, .pointer (some ⟨Q1, 0, none⟩), .pointer (some ⟨Q2, 0, none⟩), .pointer (some ⟨Q, 0, none⟩)] V fun e w' => (∃ E, e = .returned E ∧ EV (frE s (sval p) off nn) E) ∧ V.grownBy w' (some Q) ∧ HoldsO w0.heap.size (frO s (sval p) off nn) Q w' := by
 obtain ⟨pb, po, pa, pc, hix, hpc, hT, hpb⟩ := hL.at2 0 p rfl
 have HPB : Hid (w0.heap.size ≤ pb) := hpb
 have hix : ∀ W, (Instr.indexAt 106 v2 (.int .i64 0)).run Tryz.prog W = .ok (.pointer (some ⟨pb, po, none⟩)) W := hix
 have HC := findFile_any n0 _ a c s hK pa pc (sval p) V.drew (ndsN.below hA (below_any hb (Below.refl _ V).drew)) (hT.below (Below.refl _ V).drew)
 obtain ⟨g0, g1, -, -⟩ := hB.two
 have HQ : Hid (Box V Q 25 #[.slice none 0 0] ∧ Box V Q1 3 #[.int .i64 off] ∧ Box V Q2 3 #[.int .i64 nn] ∧ Q < w0.heap.size ∧ w0.heap.size ≤ V.heap.size ∧ V.cell? ⟨pb, po, none⟩ = some (.slice pa (sval p).length pc)) := ⟨hQ, hQ1, hQ2, hQw, hb.size, hpc⟩
 have HNN : Hid (filE s.1 (sval p) = 0 → (wlk s.1 1 (sval p)).1 = (tgt s (sval p)).1 ∧ ∀ q ∈ s.1, q.1 = (tgt s (sval p)).1 → q = tgt s (sval p)) := fun h0 => by (
 have hl := hK.lead (fil_zero h0).1
 refine ⟨hl.2.1, fun q hq he => ?_⟩
 have h1 := gt_of hK.up hq
 have h2 := gt_of hK.up hl.1
 rw [← h1, he, h2])
 have HAV : Hid (∀ W, Below V.heap.size V W → ndsN.lies n0 W [.slice a s.1.length c] s.1) := fun W hW => ndsN.below hA (below_any hb hW)
 have HRE : Hid (frE s (sval p) off nn = (if filE s.1 (sval p) ≠ 0 then filE s.1 (sval p) else rdE (fi (tgt s (sval p))) off nn) ∧ frO s (sval p) off nn = (if filE s.1 (sval p) ≠ 0 then [] else rdO (fi (tgt s (sval p))) off nn) ∧ I64 off ∧ I64 nn) := ⟨rfl, rfl, ho, hn⟩
 generalize frE s (sval p) off nn = re at HRE ⊢
 generalize frO s (sval p) off nn = ro at HRE ⊢
 generalize tgt s (sval p) = T at HNN HRE
 generalize (wlk s.1 1 (sval p)).1 = wi at HC HNN
 generalize filE s.1 (sval p) = fe at HC HNN HRE
 obtain ⟨n, hn'⟩ := exa (s.1.length)
 obtain ⟨nx, hnx⟩ := exa (s.2)
 obtain ⟨m, hm⟩ := exa ((sval p).length)
 obtain ⟨l, hl⟩ := exa (s.1)
 rw [← hn', ← hnx, ← hm, ← hl] at HC
 rw [← hn', ← hl] at HAV
 rw [← hl] at HNN
 rw [← hm] at HQ hpc
 rw [← hn'] at g0
 rw [← hnx] at g1
 have HS0 : V.drew.cell? ⟨B, 0, none⟩ = some (.slice a n c) ∧ V.drew.cell? ⟨B, 1, none⟩ = some (.int .i64 nx) ∧ V.drew.cell? ⟨pb, po, none⟩ = some (.slice pa m pc) := ⟨g0, g1, hpc⟩
 obtain ⟨post, hpost⟩ : ∃ post : Ending → World → Prop, post = fun e w' => (∃ E, e = .returned E ∧ EV re E) ∧ V.grownBy w' (some Q) ∧ HoldsO w0.heap.size ro Q w' := ⟨_, rfl⟩
 have HPo : Hid (∀ E w', EV re E → V.grownBy w' (some Q) → HoldsO w0.heap.size ro Q w' → post (.returned E) w') := fun E w' h1 h2 h3 => by rw [hpost]; exact ⟨⟨_, rfl, h1⟩, h2, h3⟩
 rw [← hpost]
 clear hA hb hB hL hQ hQ1 hQ2 hT hpb hn' hnx hm hl hK hpost ho hn hQw
 go_enter Tryz.func87, Tryz.ntmps87
 go_wp2
 go_region_held3 (fun U => U.cell? ⟨B, 0, none⟩ = some (.slice a n c) ∧ U.cell? ⟨B, 1, none⟩ = some (.int .i64 nx) ∧ U.cell? ⟨pb, po, none⟩ = some (.slice pa m pc))
   (first | with_reducible exact HS1 | with_reducible exact HS0)
   ((first | (go_at_call 88; refine HC.mono ?_; rintro e w1 ⟨hr, hb1⟩; have HS1 : w1.cell? ⟨B, 0, none⟩ = some (.slice a n c) ∧ w1.cell? ⟨B, 1, none⟩ = some (.int .i64 nx) ∧ w1.cell? ⟨pb, po, none⟩ = some (.slice pa m pc) := ⟨by rw [hb1.cell (p := ⟨B, 0, none⟩) (cell_lt HS0.1)]; exact HS0.1, by rw [hb1.cell (p := ⟨B, 1, none⟩) (cell_lt HS0.2.1)]; exact HS0.2.1, by rw [hb1.cell (p := ⟨pb, po, none⟩) (cell_lt HS0.2.2)]; exact HS0.2.2⟩; obtain ⟨R1, R2, rfl, hr2⟩ : ∃ R1 R2, e = .returned (.tuple #[R1, R2]) ∧ ((fe ≠ 0 ∧ R1 = .pointer none ∧ EV fe R2) ∨ (fe = 0 ∧ R2 = .nilIface ∧ ∃ k q b o, l[k]? = some q ∧ q.1 = wi ∧ (∀ W, (Instr.indexAt 27 (.slice a n c) (.int .i64 (k : Nat))).run Tryz.prog W = .ok (.pointer (some ⟨b, o, none⟩)) W) ∧ R1 = .pointer (some ⟨b, o, none⟩))) := read_split hr)))
 have HBL : Hid (Below V.heap.size V w1) := below_any (Below.refl _ V).drew hb1
 have HPC : Hid (w1.cell? ⟨pb, po, none⟩ = some (.slice pa m pc)) := HS1.2.2
 clear hb1 HS0 HS1 g0 g1 HC hpc hr
 rcases hr2 with ⟨hne, rfl, hE⟩ | ⟨h0, rfl, k, q, b, o, hk, hqw, hixq, rfl⟩
 · have hre : re = fe := by rw [HRE.out.1, if_pos hne]
   have hro : ro = [] := by rw [HRE.out.2.1, if_pos hne]
   have HE : Hid (EV re R2 ∧ HoldsO w0.heap.size ro Q w1) := ⟨by rw [hre]; exact hE, by rw [hro]; exact HoldsO.nil (HQ.out.1.below HBL.out HQ.out.1.lt)⟩
   obtain ⟨a2, l2, c2, s2, rfl⟩ : ∃ a2 l2 c2 s2, R2 = refV (.slice a2 l2 c2) fe s2 := by (
 rcases hE with ⟨h, _⟩ | ⟨_, a2, l2, c2, s2, h⟩
 · exact absurd h hne
 · exact ⟨a2, l2, c2, s2, h⟩)
   clear hE hne hre hro
   go_wp2
   exact HPo.out _ _ HE.out.1 (grown_below HBL.out _) HE.out.2
 subst h0
 have hqT : q = T := (HNN.out rfl).2 q (List.mem_of_getElem? hk) (hqw.trans (HNN.out rfl).1)
 subst hqT
 obtain ⟨b', o', e', f', hix', -, hcs, hLN⟩ := nds_atN (HAV.out w1 HBL.out) k q hk
 have hbo := (hix' w1).symm.trans (hixq w1)
 simp only [Result.ok.injEq, Value.pointer.injEq, Option.some.injEq, Addr.mk.injEq, and_true] at hbo
 obtain ⟨rfl, rfl⟩ := hbo
 obtain ⟨fa, fc, hfe, -, -⟩ := Shape.list_len (S := F.bkN) (ht := Tryz.underlying43) (hc := F.cells43) hLN.2.1
 obtain rfl : f' = _ := by simpa using hfe
 obtain ⟨-, -, -, -, c4, c5⟩ := nv_cells hcs
 have HCR := F.read_any n0 _ (fi q) off nn w1.drew (flN.below hLN.file (Below.refl _ w1).drew) HRE.out.2.2.1 HRE.out.2.2.2
 have HR2 : Hid (re = rdE (fi q) off nn ∧ ro = rdO (fi q) off nn) := by (
 have h1 := HRE.out.1
 have h2 := HRE.out.2.1
 rw [if_neg (by decide)] at h1 h2
 exact ⟨h1, h2⟩)
 have q1 := (HQ.out.2.1.below HBL.out HQ.out.2.1.lt).cell 0 rfl
 have q2 := (HQ.out.2.2.1.below HBL.out HQ.out.2.2.1.lt).cell 0 rfl
 generalize (fi q).1 = z0 at c4 HCR
 generalize (fi q).2.length = l0 at c5 HCR
 generalize rdE (fi q) off nn = rke at HCR HR2
 generalize rdO (fi q) off nn = rko at HCR HR2
 have HS0 : w1.drew.cell? ⟨b', o' + 4, none⟩ = some (.int .i64 z0) ∧ w1.drew.cell? ⟨b', o' + 4 + 1, none⟩ = some (.slice fa l0 fc) ∧ w1.drew.cell? ⟨Q1, 0, none⟩ = some (.int .i64 off) ∧ w1.drew.cell? ⟨Q2, 0, none⟩ = some (.int .i64 nn) := ⟨c4, c5, q1, q2⟩
 clear hcs hLN hfe hix' hixq hqw hk c4 c5 q1 q2
 go_wp2
 go_region_held3 (fun U => U.cell? ⟨b', o' + 4, none⟩ = some (.int .i64 z0) ∧ U.cell? ⟨b', o' + 4 + 1, none⟩ = some (.slice fa l0 fc) ∧ U.cell? ⟨Q1, 0, none⟩ = some (.int .i64 off) ∧ U.cell? ⟨Q2, 0, none⟩ = some (.int .i64 nn))
   (first | with_reducible exact HS1 | with_reducible exact HS0)
   ((first | (go_at_call 89; refine HCR.mono ?_; rintro e2 w2 ⟨⟨v3, rfl, hv3⟩, hb2⟩; have HS1 : w2.cell? ⟨b', o' + 4, none⟩ = some (.int .i64 z0) ∧ w2.cell? ⟨b', o' + 4 + 1, none⟩ = some (.slice fa l0 fc) ∧ w2.cell? ⟨Q1, 0, none⟩ = some (.int .i64 off) ∧ w2.cell? ⟨Q2, 0, none⟩ = some (.int .i64 nn) := ⟨by rw [hb2.cell (cell_lt HS0.1)]; exact HS0.1, by rw [hb2.cell (cell_lt HS0.2.1)]; exact HS0.2.1, by rw [hb2.cell (cell_lt HS0.2.2.1)]; exact HS0.2.2.1, by rw [hb2.cell (cell_lt HS0.2.2.2)]; exact HS0.2.2.2⟩)))
 obtain ⟨ra, rc, rfl, -, -, -⟩ := hv3.shape
 have HB2 : Hid (Below V.heap.size V w2) := below_any HBL.out (below_any (Below.refl _ w1).drew hb2)
 have hQ2 := HQ.out.1.below HB2.out HQ.out.1.lt
 have HF : Hid (HoldsO w0.heap.size ro Q (w2.setCell ⟨Q, 0, none⟩ (.slice ra rko.length rc)) ∧ V.grownBy (w2.setCell ⟨Q, 0, none⟩ (.slice ra rko.length rc)) (some Q)) := by (
 refine ⟨?_, (grown_below HB2.out _).trans (grown_set _ _ _ _)⟩
 rw [HR2.out.2]
 refine ⟨ra, rc, hQ2.set 0 _, ?_⟩
 have h1 : Arg w1.heap.size w2 (.slice ra rko.length rc) rko := hv3
 exact (h1.keep (.set (by have := HQ.out.2.2.2; have := HBL.out.size; omega))).weaken (by have := HQ.out.2.2.2; have := HBL.out.size; omega))
 have y0 := hQ2.cell 0 rfl
 have f0 := hQ2.frozen 0
 have pc0 : (w2.setCell ⟨Q, 0, none⟩ (.slice ra rko.length rc)).cell? ⟨pb, po, none⟩ = some (.slice pa m pc) := by (
 have h1 : w2.cell? ⟨pb, po, none⟩ = some (.slice pa m pc) := by
   have h0 : w1.drew.cell? ⟨pb, po, none⟩ = some (.slice pa m pc) := HPC.out
   rw [hb2.cell (cell_lt h0)]; exact h0
 exact (Same.set (n := w0.heap.size) HQ.out.2.2.2.1).cell HPB.out h1)
 generalize rko.length = rl at HF pc0 ⊢
 clear hv3 hb2 hQ2 HS0 HS1 HCR
 by_cases hz : rke = 0
 · have hre : re = 0 := HR2.out.1.trans hz
   subst hz
   have HRZ : Hid (re = 0) := hre
   have hrf := refuse_ok (.slice pa m pc) (w2.setCell ⟨Q, 0, none⟩ (.slice ra rl rc))
   clear hre
   go_wp2_with fail
   refine hrf.mono ?_
   rintro e5 w5 ⟨rfl, rfl⟩
   go_wp2
   exact HPo.out _ _ (by rw [HRZ.out]; exact ev_nil) HF.out.2 HF.out.1
 · have HRZ : Hid (re = rke ∧ rke ≠ 0) := ⟨HR2.out.1, hz⟩
   have hrf := refuse_bad rke hz pa m pc (w2.setCell ⟨Q, 0, none⟩ (.slice ra rl rc))
   go_wp2_with fail
   refine hrf.mono ?_
   rintro e5 w5 ⟨rfl, rfl⟩
   go_wp2
   exact HPo.out _ _ (by rw [HRZ.out.1]; exact ev_ref HRZ.out.2 _ _ _ _) HF.out.2 HF.out.1
theorem Read_any (n0 : Nat) (a : Option Addr) (c : Nat) (s : St) (p : ByteArray) (hp : p.size ≤ maxLen) (off nn : Int) (ho : I64 off) (hn : I64 nn) (w : World) (hA : ndsN.lies n0 w [.slice a s.1.length c] s.1) (hg : Glob w) :
   Calls Tryz.prog 43 #[.agg #[.slice a s.1.length c, .int .i64 s.2], .string p, .int .i64 off, .int .i64 nn] w fun e w' => (∃ v O k, e = .returned (.tuple #[v, .int .i64 k]) ∧ Arg w.heap.size w' v O ∧ ((¬ Ok s ∧ O = [] ∧ k = 9) ∨ (Ok s ∧ serr p ≠ 0 ∧ O = [] ∧ k = serr p) ∨ (Ok s ∧ serr p = 0 ∧ O = frO s (sval p) off nn ∧ k = frE s (sval p) off nn))) ∧ Below w.heap.size w w' := by
 obtain ⟨W1, hW1⟩ := exa (w.alloc (.cells #[.slice a s.1.length c, .int .i64 s.2] 29))
 obtain ⟨V1, hV1⟩ := exa (W1.alloc (.cells #[.int .i64 off] 3))
 obtain ⟨V2, hV2⟩ := exa (V1.alloc (.cells #[.int .i64 nn] 3))
 obtain ⟨W2, hW2⟩ := exa (V2.alloc (.cells #[.slice none 0 0] 25))
 obtain ⟨W3, hW3⟩ := exa (W2.alloc (.cells #[.string p] 9))
 have hb1 : Below w.heap.size w W1 := by rw [hW1]; exact (Below.refl _ w).alloc (Nat.le_refl _) _
 have hbv : Below w.heap.size w V1 := by rw [hV1]; exact hb1.alloc hb1.size _
 have hbv2 : Below w.heap.size w V2 := by rw [hV2]; exact hbv.alloc hbv.size _
 have hb2 : Below w.heap.size w W2 := by rw [hW2]; exact hbv2.alloc hbv2.size _
 have hb3 : Below w.heap.size w W3 := by rw [hW3]; exact hb2.alloc hb2.size _
 have hs1 : W1.heap.size = w.heap.size + 1 := by rw [hW1]; exact Array.size_push _
 have hsv : V1.heap.size = w.heap.size + 1 + 1 := by rw [hV1, ← hs1]; exact Array.size_push _
 have hsv2 : V2.heap.size = w.heap.size + 1 + 1 + 1 := by rw [hV2, ← hsv]; exact Array.size_push _
 have hs2 : W2.heap.size = w.heap.size + 1 + 1 + 1 + 1 := by rw [hW2, ← hsv2]; exact Array.size_push _
 have hs3 : W3.heap.size = w.heap.size + 1 + 1 + 1 + 1 + 1 := by rw [hW3, ← hs2]; exact Array.size_push _
 have hBS : Box W2 w.heap.size 29 #[.slice a s.1.length c, .int .i64 s.2] := by
   have : Box W1 w.heap.size 29 #[.slice a s.1.length c, .int .i64 s.2] := by rw [hW1]; exact Box.new _ _ _
   rw [hW2, hV2, hV1]; exact ((this.alloc _).alloc _).alloc _
 have hBQ1 : Box W3 (w.heap.size + 1) 3 #[.int .i64 off] := by rw [hW3, hW2, hV2, hV1, ← hs1]; exact (((Box.new _ _ _).alloc _).alloc _).alloc _
 have hBQ2 : Box W3 (w.heap.size + 1 + 1) 3 #[.int .i64 nn] := by rw [hW3, hW2, hV2, ← hsv]; exact ((Box.new _ _ _).alloc _).alloc _
 have hBQ : Box W3 (w.heap.size + 1 + 1 + 1) 25 #[.slice none 0 0] := by rw [hW3, hW2, ← hsv2]; exact (Box.new _ _ _).alloc _
 have hBT : Box W3 W2.heap.size 9 #[.string p] := by rw [hW3]; exact Box.new _ _ _
 have hX : ArgT w.heap.size W3 (.slice (some ⟨W2.heap.size, 0, none⟩) 1 1) [p] := argT_box (ps := [p]) hBT hb2.size (by simp [maxLen]) fun q hq => by rw [List.mem_singleton.1 hq]; exact hp
 have HC := look3_any 87 Tryz.call87 (.pointer (some ⟨w.heap.size + 1, 0, none⟩)) (.pointer (some ⟨w.heap.size + 1 + 1, 0, none⟩)) (.pointer (some ⟨w.heap.size + 1 + 1 + 1, 0, none⟩)) n0 w.heap.size a c s (some ⟨W2.heap.size, 0, none⟩) 1 [p] (by simp) W3 (ndsN.below hA hb3) hX (hg.below hb3 hg.lt) (some (w.heap.size + 1 + 1 + 1)) (frE s (sval p) off nn) (HoldsO W3.heap.size (frO s (sval p) off nn) (w.heap.size + 1 + 1 + 1)) (fun V V' h hb => h.below hb)
   (fun r hr => by cases hr; omega)
   (fun hok _ V v2 B hbV hB hBl hL => readDo_any n0 a c s hok.wk p off nn ho hn B (w.heap.size + 1) (w.heap.size + 1 + 1) (w.heap.size + 1 + 1 + 1) v2 W3 V (ndsN.below hA hb3) hbV hB hL (hBQ1.below hbV hBQ1.lt) (hBQ2.below hbV hBQ2.lt) (hBQ.below hbV hBQ.lt) (by omega))
 rw [hs2] at HC
 have hps : psE [p] = serr p := by rw [psE]; split <;> simp_all [psE]
 rw [hps] at HC
 obtain ⟨post, hpost⟩ : ∃ post : Ending → World → Prop, post = fun e w' => (∃ v O k, e = .returned (.tuple #[v, .int .i64 k]) ∧ Arg w.heap.size w' v O ∧ ((¬ Ok s ∧ O = [] ∧ k = 9) ∨ (Ok s ∧ serr p ≠ 0 ∧ O = [] ∧ k = serr p) ∨ (Ok s ∧ serr p = 0 ∧ O = frO s (sval p) off nn ∧ k = frE s (sval p) off nn))) ∧ Below w.heap.size w w' := ⟨_, rfl⟩
 have HPo : Hid (∀ v O k w', Arg w.heap.size w' v O → ((¬ Ok s ∧ O = [] ∧ k = 9) ∨ (Ok s ∧ serr p ≠ 0 ∧ O = [] ∧ k = serr p) ∨ (Ok s ∧ serr p = 0 ∧ O = frO s (sval p) off nn ∧ k = frE s (sval p) off nn)) → Below w.heap.size w w' → post (.returned (.tuple #[v, .int .i64 k])) w') := fun v O k w' h1 h2 h3 => by rw [hpost]; exact ⟨⟨v, O, k, rfl, h1, h2⟩, h3⟩
 rw [← hpost]
 have HB : Hid (Box W3 (w.heap.size + 1 + 1 + 1) 25 #[.slice none 0 0] ∧ Below w.heap.size w W3) := ⟨hBQ, hb3⟩
 generalize frE s (sval p) off nn = fe at HC HPo
 generalize frO s (sval p) off nn = fo at HC HPo
 generalize serr p = pe at HC HPo
 obtain ⟨g0, g1, -, -⟩ := hBS.two
 rw [hW2, hV2, hV1, hW1] at g0 g1
 obtain ⟨n, hn'⟩ := exa (s.1.length)
 obtain ⟨nx, hnx⟩ := exa (s.2)
 rw [← hn'] at HC hW1 g0 g1 ⊢
 rw [← hnx] at HC hW1 g0 g1 ⊢
 clear hA hg hp hb1 hbv hbv2 hb2 hb3 hBQ hBQ1 hBQ2 hBS hBT hX hn' hnx hpost hs1 hsv hsv2 hs2 hs3 ho hn hps
 go_enter Tryz.func43, Tryz.ntmps43
 go_wp2_with fail
 rw [← hW1, ← hV1, ← hV2, ← hW2, ← hW3]
 clear hW1 hV1 hV2 hW2 hW3 g0 g1
 refine HC.mono ?_
 rintro e w4 ⟨r, rfl, hr⟩
 have hq : ∃ O, HoldsO w.heap.size O (w.heap.size + 1 + 1 + 1) w4 ∧ Below w.heap.size w w4 ∧ ((¬ Ok s ∧ O = [] ∧ r = 9) ∨ (Ok s ∧ pe ≠ 0 ∧ O = [] ∧ r = pe) ∨ (Ok s ∧ pe = 0 ∧ O = fo ∧ r = fe)) := by (
 rcases hr with ⟨h1, h2, h3⟩ | ⟨h1, h2, h3, h4⟩ | ⟨h1, h2, h3, h4, h5⟩
 · exact ⟨[], HoldsO.nil (HB.out.1.below h3 HB.out.1.lt), below_any HB.out.2 h3, .inl ⟨h1, rfl, h2⟩⟩
 · exact ⟨[], HoldsO.nil (HB.out.1.below h4 HB.out.1.lt), below_any HB.out.2 h4, .inr (.inl ⟨h1, h2, rfl, h3⟩)⟩
 · obtain ⟨oa, oc, o1, o2⟩ := h5
   exact ⟨_, ⟨oa, oc, o1, o2.weaken HB.out.2.size⟩, HB.out.2.grown h4 HB.out.2.size (fun k hk => by cases hk; omega), .inr (.inr ⟨h1, h2, rfl, h3⟩)⟩)
 obtain ⟨O, ⟨oa, oc, hz, hAo⟩, hbz, hrz⟩ := hq
 have q0 := hz.cell 0 rfl
 have HF : Hid (post (.returned (.tuple #[.slice oa O.length oc, .int .i64 r])) w4) := HPo.out _ _ _ _ hAo hrz hbz
 generalize O.length = ol at q0 HF
 clear hz hbz hrz hr HC hAo
 go_wp2
 exact HF.out
end Go.Proofs.YtopcefhncildnaaGreatDoor
namespace Go.Proofs.YtopcefhncildnaaGreatDoor
open Go.RowKit
open D (En ArgE)
open P (ArgT OwnT tv TOk serr sval)
attribute [local go_sem ↓] Go.wp_at_zero Go.wp_at_succ
def lsO (s : St) (xs : List ByteArray) : List ByteArray := if dirE s.1 xs ≠ 0 then [] else (en (tgt s xs)).map (·.1)
def HoldsT (base : Nat) (O : List ByteArray) (Q : Nat) (w : World) : Prop := ∃ v, Box w Q 57 #[v] ∧ OwnT base w v O
theorem HoldsT.below {base : Nat} {O : List ByteArray} {Q : Nat} {w w' : World} (h : HoldsT base O Q w) (hb : Below w.heap.size w w') : HoldsT base O Q w' := by
 obtain ⟨v, h1, h2⟩ := h
 exact ⟨v, h1.below hb h1.lt, h2.below hb⟩
theorem HoldsT.nil {base : Nat} {w : World} {Q : Nat} (h : Box w Q 57 #[.slice none 0 0]) : HoldsT base [] Q w := ⟨_, h, World.ownsRow_nil _ _ _ _, fun _ h => by cases h⟩
end Go.Proofs.YtopcefhncildnaaGreatDoor
namespace Go.Proofs.YtopcefhncildnaaGreatDoor
open D (En nameOk inoOk Good Chk there fnd ins del aerr)
open F (Fl chk)
open P (serr sval)
theorem sval_ok {p : ByteArray} (h : serr p = 0) : (sval p).length ≤ 8 ∧ ∀ x ∈ sval p, nameOk x = true := by
 have h1 := P.serr_zero.1 h
 rw [P.sval_zero h]
 exact ⟨h1.2.2.2, fun x hx => List.all_eq_true.1 h1.2.2.1 x hx⟩
theorem aerr_zero {l : List En} {e : En} (h : aerr l e = 0) : Chk l ∧ nameOk e.1 = true ∧ inoOk e.2 = true ∧ there l e.1 = false ∧ l.length < 63 := by
 unfold aerr at h
 split at h
 case isFalse => omega
 rename_i hck
 split at h
 case isFalse => omega
 rename_i a1
 split at h
 case isFalse => omega
 rename_i a2
 split at h
 case isTrue => omega
 rename_i a3
 split at h
 case isTrue => omega
 rename_i a4
 exact ⟨hck, a1, a2, by simpa using a3, by have := hck.1; omega⟩
theorem ahd_len {xs : List ByteArray} (h : xs ≠ []) : (ahd xs).length + 1 = xs.length := by
 have := List.length_pos_iff.2 h
 simp [ahd]; omega
theorem hold_wlk {s : St} (hK : Wk s) {xs : List ByteArray} (h : (wlk s.1 1 (ahd xs)).2 = 0) : hold s xs ∈ s.1 ∧ Wlk s.1 1 (ahd xs) (hold s xs).1 := ⟨(hK.lead h).1, (hK.lead h).2.2⟩
theorem mk_zero {s : St} (h : Ok s) {xs : List ByteArray} (he : mkE s xs = 0) : vacE s.1 xs = 0 ∧ s.1.length < 128 ∧ s.2 < 2147483647 ∧ aerr (en (hold s xs)) (lst xs, s.2) = 0 := by
 unfold mkE at he
 split at he
 · rename_i c; exact absurd he c
 rename_i c
 split at he
 · omega
 rename_i d
 have h1 := h.wk.len
 have h2 := h.wk.nx
 exact ⟨by omega, by omega, by omega, he⟩
theorem mk_ok {s : St} (h : Ok s) {xs : List ByteArray} (hl : xs.length ≤ 8) (he : mkE s xs = 0) (b : Bool) : Ok (mkN s (hold s xs) (lst xs) b) := by
 obtain ⟨h1, h2, h3, h4⟩ := mk_zero h he
 obtain ⟨v1, v2, v3, v4, v5, v6⟩ := vac_zero h.wk h1
 obtain ⟨a1, a2, a3, a4, a5⟩ := aerr_zero h4
 have hw := wlk_way h.wk.up (hold_wlk h.wk v2).2
 have := ahd_len v1
 exact ok_make h v3 v5 a2 a4 a5 h2 h3 hw (by omega) b F.chk_nil ⟨by simp, D.fine_nil⟩
theorem drop_ok {s : St} (h : Ok s) {xs : List ByteArray} (hne : xs ≠ []) (hw : (wlk s.1 1 xs).2 = 0) (he : en (tgt s xs) = []) : Ok (dropN s (hold s xs) (lst xs) (tgt s xs)) := by
 obtain ⟨q1, q2, q3, q4, q5⟩ := h.wk.stands hne hw
 exact ok_drop h q1 (h.wk.lead hw).1 q4 he
theorem fil_ok {s : St} (h : Ok s) {xs : List ByteArray} (he : filE s.1 xs = 0) : xs ≠ [] ∧ (wlk s.1 1 xs).2 = 0 ∧ en (tgt s xs) = [] ∧ isD (tgt s xs) = false ∧ chk (fi (tgt s xs)) = true ∧ tgt s xs ∈ s.1 := by
 obtain ⟨h1, h2⟩ := fil_zero he
 have h3 := h.wk.files _ (h.wk.lead h1).1 h2
 exact ⟨h.wk.file_ne h2, h1, h3.1, h2, h3.2, (h.wk.lead h1).1⟩
theorem unlink_ok {s : St} (h : Ok s) {xs : List ByteArray} (he : filE s.1 xs = 0) : Ok (dropN s (hold s xs) (lst xs) (tgt s xs)) := by
 obtain ⟨h1, h2, h3, _⟩ := fil_ok h he
 exact drop_ok h h1 h2 h3
theorem rmdir_ok {s : St} (h : Ok s) {xs : List ByteArray} (he : rmE s xs = 0) : Ok (dropN s (hold s xs) (lst xs) (tgt s xs)) := by
 obtain ⟨h1, h2, h3⟩ := rm_zero he
 exact drop_ok h h1 (dir_zero h2).1 (List.eq_nil_of_length_eq_zero h3)
theorem ln_zero {s : St} (h : Ok s) {xs ys : List ByteArray} (he : lnE s xs ys = 0) : filE s.1 xs = 0 ∧ vacE s.1 ys = 0 ∧ lk (tgt s xs) < 16 ∧ aerr (en (hold s ys)) (lst ys, (tgt s xs).1) = 0 := by
 unfold lnE at he
 split at he
 · rename_i c; exact absurd he c
 rename_i c
 split at he
 · rename_i d; exact absurd he d
 rename_i d
 split at he
 · omega
 rename_i e
 have c' : filE s.1 xs = 0 := by omega
 obtain ⟨f1, f2, f3, f4, f5, f6⟩ := fil_ok h c'
 have := ok_lks h f1 f2
 exact ⟨c', by omega, by omega, he⟩
theorem link_ok {s : St} (h : Ok s) {xs ys : List ByteArray} (hl : ys.length ≤ 8) (he : lnE s xs ys = 0) : Ok (lnkN s (hold s ys) (lst ys) (tgt s xs)) := by
 obtain ⟨h1, h2, h3, h4⟩ := ln_zero h he
 obtain ⟨f1, f2, f3, f4, f5, f6⟩ := fil_ok h h1
 obtain ⟨v1, v2, v3, v4, v5, v6⟩ := vac_zero h.wk h2
 obtain ⟨a1, a2, a3, a4, a5⟩ := aerr_zero h4
 have hw := wlk_way h.wk.up (hold_wlk h.wk v2).2
 have := ahd_len v1
 exact ok_link h v3 v5 f6 f4 a2 a4 a5 h3 hw (by omega)
theorem chk_bounds {f : Fl} (h : chk f = true) : 0 ≤ f.1 ∧ f.1 ≤ 2432 := (F.chk_iff.1 h).1
theorem wr_zero {f : Fl} {off : Int} {d : List Int} (h : F.wrE f off d = 0) : chk f = true ∧ 0 ≤ off ∧ (d.length = 0 ∨ off + d.length ≤ 2432) ∧ F.wrF f off d = F.mk (F.wrT (F.txt f) off.toNat d) ∧ (F.wrT (F.txt f) off.toNat d).length ≤ 2432 := by
 have h0 := h
 unfold F.wrE at h
 split at h
 · omega
 rename_i c
 have c' : chk f = true := by simpa using c
 have hb := chk_bounds c'
 split at h
 · omega
 rename_i d1
 refine ⟨c', by omega, ?_, ?_, ?_⟩
 · split at h
   · rename_i e; exact .inl e
   · split at h
     · omega
     · rename_i e; exact .inr (by omega)
 · unfold F.wrF; rw [if_pos h0]
 · split at h
   · rename_i e
     rw [F.wrT_none _ e, F.txt_length]; omega
   · rename_i e
     split at h
     · omega
     · rw [F.wrT_length e, F.txt_length]; omega
theorem wrF_chk {f : Fl} {off : Int} {d : List Int} (h : F.wrE f off d = 0) : chk (F.wrF f off d) = true := by
 obtain ⟨_, _, _, h4, h5⟩ := wr_zero h
 rw [h4]; exact F.chk_mk h5
theorem trF_chk {f : Fl} {n : Int} (h : F.trE f n = 0) : chk (F.trF f n) = true := by
 have h0 := h
 unfold F.trE at h
 split at h
 · omega
 split at h
 · omega
 split at h
 · omega
 unfold F.trF; rw [if_pos h0]
 exact F.chk_mk (by rw [F.cutT_length]; omega)
theorem rw_zero {s : St} {xs : List ByteArray} {k : Int} (h : rwE s xs k = 0) : filE s.1 xs = 0 ∧ k = 0 := by
 unfold rwE at h
 split at h
 · rename_i c; exact absurd h c
 · rename_i c; exact ⟨by omega, h⟩
theorem write_ok {s : St} (h : Ok s) {xs : List ByteArray} {off : Int} {d : List Int} (he : rwE s xs (F.wrE (fi (tgt s xs)) off d) = 0) : Ok (filN s (tgt s xs) (F.wrF (fi (tgt s xs)) off d)) := by
 obtain ⟨h1, h2⟩ := rw_zero he
 obtain ⟨_, _, _, f4, _, f6⟩ := fil_ok h h1
 exact ok_file h f6 f4 (wrF_chk h2)
theorem trunc_ok {s : St} (h : Ok s) {xs : List ByteArray} {n : Int} (he : rwE s xs (F.trE (fi (tgt s xs)) n) = 0) : Ok (filN s (tgt s xs) (F.trF (fi (tgt s xs)) n)) := by
 obtain ⟨h1, h2⟩ := rw_zero he
 obtain ⟨_, _, _, f4, _, f6⟩ := fil_ok h h1
 exact ok_file h f6 f4 (trF_chk h2)
theorem way_sub {l l' : List Nd} (h : ∀ j, ∀ e ∈ kid l' j, e ∈ kid l j) : ∀ {k : Nat} {i x : Int}, Way l' k i x → Way l k i x
 | 0, _, _, hw => hw
 | _ + 1, i, _, ⟨e, he, hw⟩ => ⟨e, h i e he, way_sub h hw⟩
theorem dpt_sub {l l' : List Nd} (h : ∀ j, ∀ e ∈ kid l' j, e ∈ kid l j) : ∀ (k : Nat) (i : Int), dpt l' k i ≤ dpt l k i
 | 0, _ => Nat.le_refl _
 | k + 1, i => by (
 rw [dpt, foldmax_le]
 refine ⟨Nat.zero_le _, fun e he => ?_⟩
 have h1 := dpt_sub h k e.2
 have h2 := ((foldmax_le (fun e : En => 1 + dpt l k e.2) (dpt l (k + 1) i) (kid l i) 0).1 (Nat.le_refl _)).2 e (h i e he)
 omega)
theorem ren_zero {s : St} {xs ys : List ByteArray} (h : renE s xs ys = 0) : xs ≠ [] ∧ ys ≠ [] ∧ (wlk s.1 1 xs).2 = 0 ∧ stdE s.1 ys = 0 ∧ (isD (tgt s xs) = true → isB xs ys = false) ∧
   (stdT s.1 ys ≠ (tgt s xs).1 → (stdT s.1 ys ≠ 0 → cwE s xs ys = 0) ∧ aerr (en (gt (ren2 s xs ys) (stdI s.1 ys))) (lst ys, (tgt s xs).1) = 0 ∧ ys.length + dpt s.1 8 (tgt s xs).1 ≤ 8) := by
 unfold renE at h
 split at h
 · omega
 rename_i c1
 split at h
 · rename_i c; exact absurd h c
 rename_i c2
 split at h
 · rename_i c; exact absurd h c
 rename_i c3
 split at h
 · omega
 rename_i c4
 refine ⟨fun e => c1 (.inl e), fun e => c1 (.inr e), by omega, by omega, fun hd => ?_, fun hne => ?_⟩
 · cases hB : isB xs ys
   · rfl
   · exact absurd ⟨hd, hB⟩ c4
 rw [if_neg hne] at h
 split at h
 · rename_i c; exact absurd h c.2
 rename_i c5
 split at h
 · rename_i c; exact absurd h c
 rename_i c6
 split at h
 · omega
 rename_i c7
 refine ⟨fun h0 => ?_, by omega, by omega⟩
 apply Classical.byContradiction
 intro h1
 exact c5 ⟨h0, h1⟩
theorem ren_move {s : St} (h : Ok s) {xs ys : List ByteArray} (he : renE s xs ys = 0) (hst : stdT s.1 ys ≠ (tgt s xs).1) :
   Ok (ren1 s ys) ∧ wlk (ren1 s ys).1 1 xs = ((tgt s xs).1, 0) ∧ ∃ q ∈ (ren1 s ys).1, q.1 = (hold s ys).1 ∧ isD q = true ∧ Wlk (ren1 s ys).1 1 (ahd ys) q.1 ∧ (ren1 s ys).2 = s.2 ∧
     renS s xs ys = movN (ren1 s ys) (hold (ren1 s ys) xs) (lst xs) q (lst ys) (tgt s xs).1 ∧ aerr (qeN (hold (ren1 s ys) xs) (lst xs) q) (lst ys, (tgt s xs).1) = 0 ∧ (∀ j, ∀ e ∈ kid (ren1 s ys).1 j, e ∈ kid s.1 j) := by
 obtain ⟨hx0, hy0, hx, hs, hnb, hrest⟩ := ren_zero he
 obtain ⟨hcw, hae, hlong⟩ := hrest hst
 obtain ⟨c1, c2, c3, c4, c5, m, hm, hm1, hm2⟩ := ren_clear h hx0 hy0 hx hs hst hcw
 obtain ⟨d1, d2, d3, d4, -, d6⟩ := ren_struck h hx0 hy0 hx hs hst hcw
 obtain ⟨y1, y2, y3, y4, y5⟩ := std_zero h.wk hs
 obtain ⟨b1, b2, b3, b4, b5⟩ := c1.wk.stands hx0 (by rw [c2])
 have hq : en (gt (ren2 s xs ys) (stdI s.1 ys)) = qeN (hold (ren1 s ys) xs) (lst xs) m := by (
 have hmem := (mem_ch' c1.wk.up b1 (f := wE (del (en (hold (ren1 s ys) xs)) (lst xs)))).1 d2
 unfold qeN
 rcases hmem with ⟨k1, k2⟩ | k1
 · rw [d3, ← hm1] at k2
   rw [if_neg k2, ups_eq c1.wk.up k1 hm (by rw [d3, hm1])]
 · have k2 : m.1 = (hold (ren1 s ys) xs).1 := by rw [hm1, ← d3, k1]; rfl
   rw [if_pos k2, k1]; rfl)
 have hkid : ∀ j, ∀ e ∈ kid (ren1 s ys).1 j, e ∈ kid s.1 j := fun j e hj => by (
 by_cases hh : j = (hold s ys).1
 · unfold ren1 at hj
   split at hj
   · exact hj
   · rename_i h0
     obtain ⟨w1, w2⟩ := cw_zero h.wk (hcw h0)
     obtain ⟨z1, z2, z3⟩ := h.wk.lead w1
     obtain ⟨q1, q2, q3, q4, q5⟩ := h.wk.stands hy0 w1
     rw [kid_dropped h.wk q1 z1 q4 w2, if_pos hh] at hj
     rw [hh, kid_of h.wk.up q1]
     exact (D.mem_del (h.wk.dirs _ q1 q3).1 hj).1
 · rw [c5 j hh] at hj; exact hj)
 refine ⟨c1, c2, m, hm, hm1.trans y3, hm2, ?_, c3, ?_, ?_, hkid⟩
 · rw [hm1, y3]
   have hW := (hold_wlk h.wk y1).2
   unfold ren1
   split
   · exact hW
   · rename_i h0
     obtain ⟨w1, w2⟩ := cw_zero h.wk (hcw h0)
     obtain ⟨z1, z2, z3⟩ := h.wk.lead w1
     obtain ⟨q1, q2, q3, q4, q5⟩ := h.wk.stands hy0 w1
     refine wlk_dropped h.wk q1 z1 q4 w2 hW fun e => ?_
     rw [ups_eq h.wk.up q1 z1 e, w2] at q4
     cases q4
 · unfold renS
   rw [if_neg hst]
   unfold movN ren3
   rw [c3, hq, hm1]
   rfl
 · rw [← hq]; exact hae
theorem rename_ok {s : St} (h : Ok s) {xs ys : List ByteArray} (hl : ys.length ≤ 8) (he : renE s xs ys = 0) : Ok (renS s xs ys) := by
 by_cases hst : stdT s.1 ys = (tgt s xs).1
 · unfold renS; rw [if_pos hst]; exact h
 obtain ⟨c1, c2, q, hq, hq1, hq2, hw, c3, hS, hae, hkid⟩ := ren_move h he hst
 obtain ⟨hx0, hy0, hx, hs, hnb, hrest⟩ := ren_zero he
 obtain ⟨hcw, _, hlong⟩ := hrest hst
 obtain ⟨y1, y2, y3, y4, y5⟩ := std_zero h.wk hs
 obtain ⟨b1, b2, b3, b4, b5⟩ := c1.wk.stands hx0 (by rw [c2])
 have hN := c1.wk.lead (xs := xs) (by rw [c2])
 have hN1 : (tgt (ren1 s ys) xs).1 = (tgt s xs).1 := by rw [← hN.2.1, c2]
 obtain ⟨a1, a2, a3, a4, a5⟩ := aerr_zero hae
 rw [hS, ← hN1]
 have hal := ahd_len hy0
 have hdd : isD (tgt (ren1 s ys) xs) = true → isD (tgt s xs) = true := fun hd => by (
 unfold ren1 at hd hN1 hN c2
 split at hd
 · exact hd
 · rename_i h0
   rw [if_neg h0] at hN1 hN
   obtain ⟨w1, w2⟩ := cw_zero h.wk (hcw h0)
   obtain ⟨z1, z2, z3⟩ := h.wk.lead w1
   obtain ⟨q1, q2, q3, q4, q5⟩ := h.wk.stands hy0 w1
   have hL := h.wk.lead hx
   have hnz : (tgt s xs).1 ≠ (tgt s ys).1 := fun e => hst (by
     rw [y5]
     unfold entC
     rw [if_neg (by rw [y4]; decide), if_neg (by rw [q5]; decide), e]
     exact D.fnd_mem (h.wk.dirs _ q1 q3).1 q4)
   have hmm := mem_dropped h.wk q1 hL.1 hnz (lst ys)
   have := ups_eq (Ok.wk (by have := c1; unfold ren1 at this; rw [if_neg h0] at this; exact this)).up hN.1 hmm (by
     rw [hN1]
     by_cases hc : (tgt s xs).1 = (hold s ys).1
     · rw [if_pos hc]; exact hc
     · rw [if_neg hc])
   rw [this] at hd
   by_cases hc : (tgt s xs).1 = (hold s ys).1
   · rw [ups_eq h.wk.up hL.1 q1 hc]; exact q3
   · rw [if_neg hc] at hd; exact hd)
 refine ok_move c1 b1 hq hq2 hN.1 b4 a2 (by rw [hN1] at *; exact a4) a5 (wlk_way c1.wk.up hw) (by omega) (fun hd j hj => ?_) (fun hd => ?_)
 · rw [hN1, hq1] at hj
   exact not_below h hy0 hx y1 y4 (hnb (hdd hd)) j (way_sub hkid hj)
 · have := dpt_sub hkid 8 (tgt s xs).1
   rw [hN1]; omega
end Go.Proofs.YtopcefhncildnaaGreatDoor
namespace Go.Proofs.YtopcefhncildnaaGreatDoor
open D (En nameOk inoOk Good Chk there fnd ins del aerr)
open F (Fl chk rdE rdO wrE wrF)
open P (serr sval)
theorem ok_new : Ok ([rootN], 2) := by
 have hm : ∀ n ∈ [rootN], n = rootN := fun n hn => List.mem_singleton.1 hn
 refine ⟨⟨by decide, by decide, List.pairwise_singleton _ _, fun n hn => ?_, ⟨rootN, List.mem_singleton.2 rfl, rfl, rfl⟩, fun n hn _ => ?_, fun n hn hd => ?_, fun n hn e he => ?_, fun n hn => ?_, fun n hn _ => ?_, fun n hn h1 => ?_, fun n hn h1 => ?_⟩, fun _ => 0, rfl, fun n hn _ e he => ?_⟩
 · rw [hm n hn]; decide
 · rw [hm n hn]; exact ⟨⟨by decide, D.fine_nil⟩, rfl⟩
 · rw [hm n hn] at hd; cases hd
 · rw [hm n hn] at he; cases he
 · rw [hm n hn]; rfl
 · rw [hm n hn]; rfl
 · rw [hm n hn] at h1; exact absurd rfl h1
 · rw [hm n hn] at h1; exact absurd rfl h1
 · rw [hm n hn] at he; cases he
end Go.Proofs.YtopcefhncildnaaGreatDoor
