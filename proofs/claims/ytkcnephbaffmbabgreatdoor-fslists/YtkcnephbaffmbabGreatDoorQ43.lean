/-
  Plain mathematics: a file's two names are one file: what is written by one is read by the other; it is there until the last one is gone.
  fs.Rename: what it answers.
  What each op tells, in one word for all its answers: its error's number and the state.
  fs.List: what it answers.
  Plain mathematics: the page's example.
-/
import Derived.Test.YtkcnephbaffmbabGreatDoorQ40
import Derived.Test.YtkcnephbaffmbabGreatDoorQ41
import Derived.Test.YtkcnephbaffmbabGreatDoorQ42
namespace Go.Proofs.YtkcnephbaffmbabGreatDoor
open D (En nameOk inoOk Good Chk there fnd ins del aerr)
open F (Fl chk rdE rdO rdL wrE wrF wrT txt mk oc)
open P (serr sval)
theorem wr_rd {f : Fl} (h : chk f = true) {d : List Int} (hd : d.length ≤ 2432) : wrE f 0 d = 0 ∧ rdE (wrF f 0 d) 0 d.length = 0 ∧ rdO (wrF f 0 d) 0 d.length = d := by
  have h1 : wrE f 0 d = 0 := by
    unfold wrE
    rw [if_neg (by rw [h]; decide), if_neg (by omega)]
    split
    · rfl
    · rw [if_neg (by omega)]
  obtain ⟨_, _, _, h4, h5⟩ := wr_zero h1
  have h2 : rdE (wrF f 0 d) 0 d.length = 0 := by
    unfold rdE
    rw [wrF_chk h1, if_neg (by decide), if_neg (by omega)]
  refine ⟨h1, h2, ?_⟩
  unfold rdO
  rw [if_pos h2, h4, F.txt_mk h5]
  unfold rdL
  by_cases hz : d.length = 0
  · rw [hz]; simp; exact List.eq_nil_of_length_eq_zero hz
  · have hlen := F.wrT_length (t := txt f) (p := 0) hz
    refine F.alike (by simp only [List.length_map, List.length_range, Int.toNat_zero]; rw [hlen]; simp; omega) fun i hi => ?_
    simp only [List.length_map, List.length_range] at hi
    rw [F.range_get _ _ _ _ hi]
    have hi' : i < d.length := by simp at hi; omega
    simp only [Int.toNat_zero, Nat.zero_add]
    rw [F.wrT_get hz, if_pos ⟨Nat.zero_le _, by omega⟩]
    rfl
theorem filed {s : St} (h : Ok s) {n : Nd} (hn : n ∈ s.1) (hf : isD n = false) (f : Fl) {xs : List ByteArray} {c : Int} (hw : Wlk s.1 1 xs c) : Wlk (filN s n f).1 1 xs c :=
  wlk_mono (fun m hm hd => ⟨m, (mem_ch' h.wk.up hn).2 (.inl ⟨hm, fun e => by rw [ups_eq h.wk.up hm hn e, hf] at hd; cases hd⟩), rfl, hd, fun _ h => h⟩) hw
theorem fil_of {s : St} (h : Ok s) {n : Nd} (hn : n ∈ s.1) (hf : isD n = false) {xs : List ByteArray} (hw : Wlk s.1 1 xs n.1) : filE s.1 xs = 0 ∧ tgt s xs = n ∧ (wlk s.1 1 xs).2 = 0 := by
  obtain ⟨g1, g2⟩ := wlk_of h.wk hn hw
  refine ⟨?_, g2, by rw [g1]⟩
  unfold filE
  rw [if_pos (by rw [g1])]
  unfold tgt at g2
  rw [g2, hf]; rfl
theorem links_all {s : St} (h : Ok s) {xs ys : List ByteArray} (hl : ys.length ≤ 8) (he : lnE s xs ys = 0) {d : List Int} (hd : d.length ≤ 2432) {s0 s1 s2 : St}
    (hs0 : s0 = lnkN s (hold s ys) (lst ys) (tgt s xs)) (hs1 : s1 = filN s0 (tgt s0 ys) (wrF (fi (tgt s0 ys)) 0 d)) (hs2 : s2 = dropN s1 (hold s1 xs) (lst xs) (tgt s1 xs)) :
    Ok s0 ∧ rwE s0 ys (wrE (fi (tgt s0 ys)) 0 d) = 0 ∧ Ok s1 ∧ frE s1 xs 0 d.length = 0 ∧ frO s1 xs 0 d.length = d ∧ filE s1.1 xs = 0 ∧ Ok s2 ∧ frE s2 ys 0 d.length = 0 ∧ frO s2 ys 0 d.length = d := by
  obtain ⟨h1, h2, h3, h4⟩ := ln_zero h he
  obtain ⟨f1, f2, f3, f4, f5, f6⟩ := fil_ok h h1
  obtain ⟨v1, v2, v3, v4, v5, v6⟩ := vac_zero h.wk h2
  obtain ⟨x1, x2, x3⟩ := h.wk.lead f2
  have hlk := ok_lks h f1 f2
  have O0 : Ok s0 := by rw [hs0]; exact link_ok h hl he
  have hnp : (tgt s xs).1 ≠ (hold s ys).1 := fun e => by rw [ups_eq h.wk.up f6 v3 e, v5] at f4; cases f4
  have hn1 : tgt s xs ∈ ch s.1 (hold s ys).1 (wE (ins (en (hold s ys)) (lst ys, (tgt s xs).1))) := (mem_ch' h.wk.up v3).2 (.inl ⟨f6, hnp⟩)
  have hU1 : Ups (ch s.1 (hold s ys).1 (wE (ins (en (hold s ys)) (lst ys, (tgt s xs).1)))) := ups_ch (fun _ => rfl) h.wk.up
  have m0 : wL (lk (tgt s xs) + 1) (tgt s xs) ∈ s0.1 := by rw [hs0]; exact (mem_ch' hU1 hn1).2 (.inr rfl)
  have q0 : wE (ins (en (hold s ys)) (lst ys, (tgt s xs).1)) (hold s ys) ∈ s0.1 := by
    rw [hs0]; exact (mem_ch' hU1 hn1).2 (.inl ⟨(mem_ch' h.wk.up v3).2 (.inr rfl), fun e => hnp e.symm⟩)
  have mono0 : ∀ {zs : List ByteArray} {c : Int}, Wlk s.1 1 zs c → Wlk s0.1 1 zs c := fun hw => wlk_mono (fun m hm hdm => by
    by_cases hc : m.1 = (hold s ys).1
    · obtain rfl := ups_eq h.wk.up hm v3 hc
      exact ⟨_, q0, rfl, hdm, fun e he => D.mem_ins.2 (.inr he)⟩
    · refine ⟨m, ?_, rfl, hdm, fun _ h => h⟩
      rw [hs0]
      exact (mem_ch' hU1 hn1).2 (.inl ⟨(mem_ch' h.wk.up v3).2 (.inl ⟨hm, hc⟩), fun e => by rw [ups_eq h.wk.up hm f6 e, f4] at hdm; cases hdm⟩)) hw
  have wx0 : Wlk s0.1 1 xs (wL (lk (tgt s xs) + 1) (tgt s xs)).1 := mono0 x3
  have wa0 : Wlk s0.1 1 (ahd ys) (hold s ys).1 := mono0 (hold_wlk h.wk v2).2
  have wy0 : Wlk s0.1 1 ys (wL (lk (tgt s xs) + 1) (tgt s xs)).1 := by
    have := (wlk_snoc (l := s0.1) (xs := ahd ys) (x := lst ys) (i := 1) (c := (tgt s xs).1)).2 ⟨_, q0, wa0, v5, D.mem_ins.2 (.inl rfl)⟩
    rwa [← ahd_lst v1] at this
  obtain ⟨fy0, ty0, -⟩ := fil_of O0 m0 f4 wy0
  obtain ⟨r1, r2, r3⟩ := wr_rd f5 hd
  have hrw : rwE s0 ys (wrE (fi (tgt s0 ys)) 0 d) = 0 := by
    unfold rwE
    rw [if_neg (by rw [fy0]; exact fun c => c rfl), ty0]
    exact r1
  have O1 : Ok s1 := by rw [hs1]; exact write_ok O0 hrw
  obtain ⟨n0, hn0⟩ : ∃ n0, n0 = wL (lk (tgt s xs) + 1) (tgt s xs) := ⟨_, rfl⟩
  have en0 : en n0 = [] := by rw [hn0]; exact f3
  have fn0 : isD n0 = false := by rw [hn0]; exact f4
  have fi0 : fi n0 = fi (tgt s xs) := by rw [hn0]; rfl
  have lk0 : lk n0 = lk (tgt s xs) + 1 := by rw [hn0]; rfl
  have id0 : n0.1 = (tgt s xs).1 := by rw [hn0]; rfl
  rw [← hn0] at m0 wx0 wy0 ty0
  rw [ty0, fi0] at hs1
  have m1 : wF (wrF (fi (tgt s xs)) 0 d) n0 ∈ s1.1 := by rw [hs1]; exact (mem_ch' O0.wk.up m0).2 (.inr rfl)
  have wx1 : Wlk s1.1 1 xs (wF (wrF (fi (tgt s xs)) 0 d) n0).1 := by rw [hs1]; exact filed O0 m0 fn0 _ wx0
  have wy1 : Wlk s1.1 1 ys (wF (wrF (fi (tgt s xs)) 0 d) n0).1 := by rw [hs1]; exact filed O0 m0 fn0 _ wy0
  have wa1 : Wlk s1.1 1 (ahd ys) (hold s ys).1 := by rw [hs1]; exact filed O0 m0 fn0 _ wa0
  obtain ⟨n1, hn1'⟩ : ∃ n1, n1 = wF (wrF (fi (tgt s xs)) 0 d) n0 := ⟨_, rfl⟩
  have en1 : en n1 = [] := by rw [hn1']; exact en0
  have fn1 : isD n1 = false := by rw [hn1']; exact fn0
  have fi1 : fi n1 = wrF (fi (tgt s xs)) 0 d := by rw [hn1']; rfl
  have lk1 : lk n1 = lk (tgt s xs) + 1 := by rw [hn1', ← lk0]; rfl
  have id1 : n1.1 = (tgt s xs).1 := by rw [hn1', ← id0]; rfl
  rw [← hn1'] at m1 wx1 wy1
  obtain ⟨fx1, tx1, zx1⟩ := fil_of O1 m1 fn1 wx1
  have hfr : ∀ {S : St} {zs : List ByteArray}, filE S.1 zs = 0 → fi (tgt S zs) = wrF (fi (tgt s xs)) 0 d → frE S zs 0 d.length = 0 ∧ frO S zs 0 d.length = d := fun hf ht => by
    unfold frE frO
    rw [if_neg (by rw [hf]; exact fun c => c rfl), if_neg (by rw [hf]; exact fun c => c rfl), ht]
    exact ⟨r2, r3⟩
  obtain ⟨g1, g2⟩ := hfr fx1 (by rw [tx1]; exact fi1)
  have O2 : Ok s2 := by rw [hs2]; exact unlink_ok O1 fx1
  refine ⟨O0, hrw, O1, g1, g2, fx1, O2, ?_⟩
  obtain ⟨p1, p2, p3, p4, p5⟩ := O1.wk.stands f1 zx1
  rw [tx1] at p4 hs2
  have hne2 : lk n1 ≠ 1 := by omega
  have q1 : wE (ins (en (hold s ys)) (lst ys, (tgt s xs).1)) (hold s ys) ∈ s1.1 := by
    rw [hs1]
    exact (mem_ch' O0.wk.up m0).2 (.inl ⟨q0, fun e => hnp (by rw [← id0, ← e]; rfl)⟩)
  have hqz : (wE (ins (en (hold s ys)) (lst ys, (tgt s xs).1)) (hold s ys)).1 ≠ n1.1 := fun e => hnp (by rw [← id1, ← e]; rfl)
  have wa2 : Wlk s2.1 1 (ahd ys) (wE (ins (en (hold s ys)) (lst ys, (tgt s xs).1)) (hold s ys)).1 := by
    rw [hs2]; exact wlk_dropped O1.wk p1 m1 p4 en1 wa1 hqz
  have hq2 := mem_dropped O1.wk p1 q1 hqz (lst xs)
  rw [← hs2] at hq2
  have m2 : wL (lk n1 - 1) n1 ∈ s2.1 := by
    rw [hs2]
    unfold dropN
    rw [if_neg hne2]
    have hnh : n1.1 ≠ (hold s1 xs).1 := fun e => by rw [ups_eq O1.wk.up m1 p1 e, p3] at fn1; cases fn1
    exact (mem_ch' (l := ch s1.1 (hold s1 xs).1 (wE (del (en (hold s1 xs)) (lst xs)))) (p := n1) (f := wL (lk n1 - 1)) (ups_ch (fun _ => rfl) O1.wk.up) ((mem_ch' O1.wk.up p1).2 (.inl ⟨m1, hnh⟩))).2 (.inr rfl)
  have wy2 : Wlk s2.1 1 ys (wL (lk n1 - 1) n1).1 := by
    have hX : Wlk s2.1 1 (ahd ys ++ [lst ys]) (wL (lk n1 - 1) n1).1 := ?_
    · rwa [← ahd_lst v1] at hX
    refine wlk_snoc.2 ⟨_, hq2, ?_, ?_, ?_⟩
    · split
      · rename_i e; show Wlk _ _ _ (hold s1 xs).1; rw [← e]; exact wa2
      · exact wa2
    · split
      · exact p3
      · exact v5
    · show (lst ys, n1.1) ∈ _
      rw [id1]
      split
      · rename_i e
        have heq := ups_eq O1.wk.up q1 p1 e
        have hck := (O1.wk.dirs _ p1 p3).1
        show (lst ys, (tgt s xs).1) ∈ del (en (hold s1 xs)) (lst xs)
        have hin : (lst ys, (tgt s xs).1) ∈ en (hold s1 xs) := by rw [← heq]; exact D.mem_ins.2 (.inl rfl)
        rcases List.mem_cons.1 (((D.del_perm hck p4).mem_iff).1 hin) with k | k
        · exfalso
          have hxy : lst ys = lst xs := (Prod.ext_iff.1 k).1
          obtain ⟨w1, w2, w3, w4, w5⟩ := h.wk.stands f1 f2
          have hsame : (hold s xs).1 = (hold s ys).1 := by
            have a1 : Wlk s1.1 1 (ahd xs) (hold s xs).1 := by rw [hs1]; exact filed O0 m0 fn0 _ (mono0 (hold_wlk h.wk (by rw [w2])).2)
            have a2 : Wlk s1.1 1 (ahd xs) (hold s1 xs).1 := (hold_wlk O1.wk (by rw [p2])).2
            have := wlk_det O1.wk.up (fun n hn hd => (O1.wk.dirs n hn hd).1) a1 a2
            rw [this, ← heq]; rfl
          have := ups_eq h.wk.up w1 v3 hsame
          rw [this, ← hxy, v6] at w5
          cases w5
        · exact k
      · exact D.mem_ins.2 (.inl rfl)
  obtain ⟨fy2, ty2, -⟩ := fil_of O2 m2 fn1 wy2
  exact hfr fy2 (by rw [ty2]; exact fi1)
end Go.Proofs.YtkcnephbaffmbabGreatDoor

namespace Go.Proofs.YtkcnephbaffmbabGreatDoor
open Go.RowKit
open P (ArgT serr sval)
theorem sval_len {p : ByteArray} (h : serr p = 0) : (sval p).length ≤ 8 := by
  rw [P.sval_zero h]
  exact (P.serr_zero.1 h).2.2.2
end Go.Proofs.YtkcnephbaffmbabGreatDoor

namespace Go.Proofs.YtkcnephbaffmbabGreatDoor
open Go.RowKit
open P (serr sval)
def Told (s : St) (ps : List ByteArray) (K : Int) (s' : St) (k : Int) (S : St) : Prop :=
  (¬ Ok s ∧ k = 9 ∧ S = ([], 0)) ∨ (Ok s ∧ psE ps ≠ 0 ∧ k = psE ps ∧ S = ([], 0)) ∨ (Ok s ∧ psE ps = 0 ∧ K ≠ 0 ∧ k = K ∧ S = ([], 0)) ∨ (Ok s ∧ psE ps = 0 ∧ K = 0 ∧ k = 0 ∧ S = s')
theorem Told.one {s : St} {ps : List ByteArray} {K : Int} {s' : St} {k k2 : Int} {S S2 : St} (h : Told s ps K s' k S) (h2 : Told s ps K s' k2 S2) : k = k2 ∧ S = S2 := by
  rcases h with ⟨a, b, c⟩ | ⟨a, b, c, d⟩ | ⟨a, b, c, d, e⟩ | ⟨a, b, c, d, e⟩ <;> rcases h2 with ⟨a2, b2, c2⟩ | ⟨a2, b2, c2, d2⟩ | ⟨a2, b2, c2, d2, e2⟩ | ⟨a2, b2, c2, d2, e2⟩ <;>
    first
      | (exfalso; contradiction)
      | (subst_vars; exact ⟨rfl, rfl⟩)
      | (exfalso; omega)
theorem Told.ok {s : St} {ps : List ByteArray} {K : Int} {s' : St} {S : St} (h : Told s ps K s' 0 S) : Ok s ∧ psE ps = 0 ∧ K = 0 ∧ S = s' := by
  rcases h with ⟨_, b, _⟩ | ⟨_, b, c, _⟩ | ⟨_, _, c, d, _⟩ | ⟨a, b, c, _, e⟩
  · omega
  · omega
  · omega
  · exact ⟨a, b, c, e⟩
theorem Told.bad {s : St} {ps : List ByteArray} {K : Int} {s' : St} {k : Int} {S : St} (h : Told s ps K s' k S) (hk : k ≠ 0) : S = ([], 0) := by
  rcases h with ⟨_, _, c⟩ | ⟨_, _, _, d⟩ | ⟨_, _, _, _, e⟩ | ⟨_, _, _, d, _⟩
  · exact c
  · exact d
  · exact e
  · exact absurd d hk
theorem Told.yes {s : St} {ps : List ByteArray} {K : Int} {s' : St} {k : Int} {S : St} (h : Told s ps K s' k S) (h1 : Ok s) (h2 : psE ps = 0) (h3 : K = 0) : k = 0 ∧ S = s' := h.one (.inr (.inr (.inr ⟨h1, h2, h3, rfl, rfl⟩)))
theorem Told.no {s : St} {ps : List ByteArray} {K : Int} {s' : St} {k : Int} {S : St} (h : Told s ps K s' k S) (h1 : Ok s) (h2 : psE ps = 0) (h3 : K ≠ 0) : k = K ∧ S = ([], 0) := h.one (.inr (.inr (.inl ⟨h1, h2, h3, rfl, rfl⟩)))
theorem psE_one {p : ByteArray} : psE [p] = serr p := by
  by_cases h : serr p = 0
  · rw [h]; exact psE_all fun q hq => by rw [List.mem_singleton.1 hq]; exact h
  · exact psE_bad (k := 0) (fun q hq => by simp at hq) rfl h
theorem psE_two {p q : ByteArray} : psE [p, q] = 0 ↔ serr p = 0 ∧ serr q = 0 := by
  constructor
  · intro h
    have := psE_zero h
    exact ⟨this p (by simp), this q (by simp)⟩
  · rintro ⟨h1, h2⟩
    exact psE_all fun x hx => by
      rcases List.mem_cons.1 hx with rfl | hx
      · exact h1
      · rw [List.mem_singleton.1 hx]; exact h2
theorem nds_nil (n : Nat) (w : World) : ndsN.lies n w [.slice none 0 0] [] := ndsN.olies (Shape.list_nil ndN 27 Tryz.underlying27 cells27 n w)
theorem nds_shape {n : Nat} {w : World} {v : Value} {l : List Nd} (h : ndsN.lies n w [v] l) : ∃ a c, v = .slice a l.length c := by
  obtain ⟨a, cap, he, _⟩ := Shape.list_len (S := ndN) (ht := Tryz.underlying27) (hc := cells27) h
  exact ⟨a, cap, by simpa using he⟩
def Tells (s : St) (ps : List ByteArray) (K : Int) (s' : St) (w : World) (e : Ending) (w' : World) : Prop :=
  (∃ k S a c, e = .returned (.tuple #[.agg #[.slice a S.1.length c, .int .i64 S.2], .int .i64 k]) ∧ ndsN.lies w.heap.size w' [.slice a S.1.length c] S.1 ∧ Told s ps K s' k S) ∧ Below w.heap.size w w'
theorem Changed.tells {s : St} {ps : List ByteArray} {K : Int} {s' : St} {w : World} {e : Ending} {w' : World} (h : Changed s ps K s' w e w') : Tells s ps K s' w e w' := by
  refine ⟨?_, h.2⟩
  rcases h.1 with ⟨k, he, hk⟩ | ⟨v, he, h1, h2, h3, hl⟩
  · refine ⟨k, ([], 0), none, 0, he, nds_nil _ _, ?_⟩
    rcases hk with ⟨a, b⟩ | ⟨a, b, c⟩ | ⟨a, b, c, d⟩
    · exact .inl ⟨a, b, rfl⟩
    · exact .inr (.inl ⟨a, b, c, rfl⟩)
    · exact .inr (.inr (.inl ⟨a, b, c, d, rfl⟩))
  · obtain ⟨a, c, rfl⟩ := nds_shape hl
    exact ⟨0, s', a, c, he, hl, .inr (.inr (.inr ⟨h1, h2, h3, rfl, rfl⟩))⟩
end Go.Proofs.YtkcnephbaffmbabGreatDoor

namespace Go.Proofs.YtkcnephbaffmbabGreatDoor
open Go.RowKit
open P (ArgT OwnT tv TOk serr sval)
set_option maxRecDepth 100000 in
set_option maxHeartbeats 4000000 in
theorem List_any (n0 : Nat) (a : Option Addr) (c : Nat) (s : St) (p : ByteArray) (hp : p.size ≤ maxLen) (w : World) (hA : ndsN.lies n0 w [.slice a s.1.length c] s.1) (hg : Glob w) :
    Calls Tryz.prog 20 #[.agg #[.slice a s.1.length c, .int .i64 s.2], .string p] w fun e w' => (∃ v O k, e = .returned (.tuple #[v, .int .i64 k]) ∧ OwnT w.heap.size w' v O ∧ ((¬ Ok s ∧ O = [] ∧ k = 9) ∨ (Ok s ∧ serr p ≠ 0 ∧ O = [] ∧ k = serr p) ∨ (Ok s ∧ serr p = 0 ∧ O = lsO s (sval p) ∧ k = dirE s.1 (sval p)))) ∧ Below w.heap.size w w' := by
  obtain ⟨l, nx⟩ := s
  simp only at hA ⊢
  obtain ⟨W1, hW1⟩ : ∃ W, W = w.alloc (.cells #[.slice a l.length c, .int .i64 nx] 29) := ⟨_, rfl⟩
  obtain ⟨W2, hW2⟩ : ∃ W, W = W1.alloc (.cells #[.slice none 0 0] 60) := ⟨_, rfl⟩
  obtain ⟨W3, hW3⟩ : ∃ W, W = W2.alloc (.cells #[.string p] 9) := ⟨_, rfl⟩
  have hb1 : Below w.heap.size w W1 := by rw [hW1]; exact (Below.refl _ w).alloc (Nat.le_refl _) _
  have hb2 : Below w.heap.size w W2 := by rw [hW2]; exact hb1.alloc hb1.size _
  have hb3 : Below w.heap.size w W3 := by rw [hW3]; exact hb2.alloc hb2.size _
  obtain ⟨Q, hQ⟩ : ∃ Q, Q = W1.heap.size := ⟨_, rfl⟩
  have hBQ : Box W3 Q 60 #[.slice none 0 0] := by rw [hW3, hW2, hQ]; exact (Box.new _ _ _).alloc _
  have hBS : Box W1 w.heap.size 29 #[.slice a l.length c, .int .i64 nx] := by rw [hW1]; exact Box.new _ _ _
  have hBT : Box W3 W2.heap.size 9 #[.string p] := by rw [hW3]; exact Box.new _ _ _
  have hX : ArgT w.heap.size W3 (.slice (some ⟨W2.heap.size, 0, none⟩) 1 1) [p] := argT_box (ps := [p]) hBT hb2.size (by simp [maxLen]) fun q hq => by rw [List.mem_singleton.1 hq]; exact hp
  have HC := look1_any 50 Tryz.call50 (.pointer (some ⟨Q, 0, none⟩)) n0 w.heap.size a c (l, nx) (some ⟨W2.heap.size, 0, none⟩) 1 [p] (by simp) W3 (ndsN.below hA hb3) hX (hg.below hb3 hg.lt) (some Q) (dirE l (sval p)) (HoldsT W3.heap.size (lsO (l, nx) (sval p)) Q) (fun V V' h hb => h.below hb)
    (fun r hr => by cases hr; have := hg.lt; have := hb1.size; omega)
    (fun hok _ V v2 B hbV hB hBl hL => listDo_any n0 a c (l, nx) hok.wk p B Q v2 w W3 V hA (below_any hb3 hbV) (by rw [hQ]; exact hb1.size) hbV hB hL (hBQ.below hbV hBQ.lt))
  simp only at HC
  obtain ⟨post, hpost⟩ : ∃ post : Ending → World → Prop, post = fun e w' => (∃ v O k, e = .returned (.tuple #[v, .int .i64 k]) ∧ OwnT w.heap.size w' v O ∧ ((¬ Ok (l, nx) ∧ O = [] ∧ k = 9) ∨ (Ok (l, nx) ∧ serr p ≠ 0 ∧ O = [] ∧ k = serr p) ∨ (Ok (l, nx) ∧ serr p = 0 ∧ O = lsO (l, nx) (sval p) ∧ k = dirE l (sval p)))) ∧ Below w.heap.size w w' := ⟨_, rfl⟩
  have HPo : Hid (∀ v O k w', OwnT w.heap.size w' v O → ((¬ Ok (l, nx) ∧ O = [] ∧ k = 9) ∨ (Ok (l, nx) ∧ serr p ≠ 0 ∧ O = [] ∧ k = serr p) ∨ (Ok (l, nx) ∧ serr p = 0 ∧ O = lsO (l, nx) (sval p) ∧ k = dirE l (sval p))) → Below w.heap.size w w' → post (.returned (.tuple #[v, .int .i64 k])) w') := fun v O k w' h0 h1 h2 => by rw [hpost]; exact ⟨⟨v, O, k, rfl, h0, h1⟩, h2⟩
  rw [← hpost]
  have hps : psE [p] = serr p := by rw [psE]; split <;> simp_all [psE]
  rw [hps] at HC
  have HB : Hid (Below w.heap.size w W3 ∧ Box W3 Q 60 #[.slice none 0 0] ∧ w.heap.size ≤ Q) := ⟨hb3, hBQ, by rw [hQ]; exact hb1.size⟩
  obtain ⟨n, hn⟩ : ∃ n, n = l.length := ⟨_, rfl⟩
  rw [← hn] at HC hW1 hBS ⊢
  obtain ⟨g0, g1, -, -⟩ := hBS.two
  have g0' : W2.cell? ⟨w.heap.size, 0, none⟩ = some (.slice a n c) := by
    have : Box W2 w.heap.size 29 #[.slice a n c, .int .i64 nx] := by rw [hW2]; exact hBS.alloc _
    exact this.two.1
  have g1' : W2.cell? ⟨w.heap.size, 1, none⟩ = some (.int .i64 nx) := by
    have : Box W2 w.heap.size 29 #[.slice a n c, .int .i64 nx] := by rw [hW2]; exact hBS.alloc _
    exact this.two.2.1
  have hs1 : W1.heap.size = w.heap.size + 1 := by rw [hW1]; exact Array.size_push _
  have hs2 : W2.heap.size = w.heap.size + 1 + 1 := by rw [hW2, ← hs1]; exact Array.size_push _
  rw [hs1] at hQ
  rw [hs2] at HC
  subst hQ
  rw [hW2, hW1] at g0' g1'
  clear hA hg hp hb1 hb2 hb3 hBQ hBS hBT hX hps hn hpost g0 g1 hs1 hs2
  go_enter Tryz.func20, Tryz.ntmps20
  go_wp2_with fail
  rw [← hW1, ← hW2, ← hW3]
  clear hW1 hW2 hW3 g0' g1'
  generalize lsO (l, nx) (sval p) = SN at HC HPo
  generalize dirE l (sval p) = wk at HC HPo
  generalize serr p = pe at HC HPo
  refine HC.mono ?_
  rintro e w4 ⟨r, rfl, hr⟩
  have hq : ∃ O, HoldsT w.heap.size O (w.heap.size + 1) w4 ∧ Below w.heap.size w w4 ∧ ((¬ Ok (l, nx) ∧ O = [] ∧ r = 9) ∨ (Ok (l, nx) ∧ pe ≠ 0 ∧ O = [] ∧ r = pe) ∨ (Ok (l, nx) ∧ pe = 0 ∧ O = SN ∧ r = wk)) := by
    rcases hr with ⟨h1, h2, h3⟩ | ⟨h1, h2, h3, h4⟩ | ⟨h1, h2, h3, h4, h5⟩
    · exact ⟨[], HoldsT.nil (HB.out.2.1.below h3 HB.out.2.1.lt), below_any HB.out.1 h3, .inl ⟨h1, rfl, h2⟩⟩
    · exact ⟨[], HoldsT.nil (HB.out.2.1.below h4 HB.out.2.1.lt), below_any HB.out.1 h4, .inr (.inl ⟨h1, h2, rfl, h3⟩)⟩
    · obtain ⟨v, o1, o2⟩ := h5
      exact ⟨_, ⟨v, o1, ⟨own_weaken o2.1 HB.out.1.size, o2.2⟩⟩, HB.out.1.grown h4 HB.out.1.size (fun k hk => by cases hk; omega), .inr (.inr ⟨h1, h2, rfl, h3⟩)⟩
  obtain ⟨O, ⟨v, hz, hAo⟩, hbz, hrz⟩ := hq
  have q0 := hz.cell 0 rfl
  have HF : Hid (post (.returned (.tuple #[v, .int .i64 r])) w4) := HPo.out _ _ _ _ hAo hrz hbz
  obtain ⟨va, vc, rfl⟩ := own_shape hAo.1
  generalize O.length = ol at q0 HF
  clear hz hbz hrz hr HC hAo
  go_wp2
  exact HF.out
end Go.Proofs.YtkcnephbaffmbabGreatDoor

namespace Go.Proofs.YtkcnephbaffmbabGreatDoor
open D (En nameOk inoOk Good Chk there fnd ins del aerr)
open F (Fl chk rdE rdO wrE wrF)
open P (serr sval)
theorem ok_new : Ok ([rootN], 2) := by
  have hm : ∀ n ∈ [rootN], n = rootN := fun n hn => List.mem_singleton.1 hn
  refine ⟨⟨by decide, by decide, List.pairwise_singleton _ _, fun n hn => ?_, ⟨rootN, List.mem_singleton.2 rfl, rfl, rfl⟩, fun n hn _ => ?_, fun n hn hd => ?_, fun n hn e he => ?_, fun n hn => ?_, fun n hn _ => ?_, fun n hn h1 => ?_, fun n hn h1 => ?_⟩, fun _ => 0, rfl, fun n hn _ e he => ?_⟩
  · rw [hm n hn]; decide
  · rw [hm n hn]; exact ⟨⟨by decide, D.fine_nil⟩, rfl⟩
  · rw [hm n hn] at hd; cases hd
  · rw [hm n hn] at he; cases he
  · rw [hm n hn]; rfl
  · rw [hm n hn]; rfl
  · rw [hm n hn] at h1; exact absurd rfl h1
  · rw [hm n hn] at h1; exact absurd rfl h1
  · rw [hm n hn] at he; cases he
def exA : ByteArray := ⟨#[97]⟩
def exF : ByteArray := ⟨#[102]⟩
def exB : List Int := [104, 105, 0, 0, 0, 0, 0, 0, 0, 0, 0, 0, 0, 0, 0, 0, 0, 0, 0, 0, 0, 0, 0, 0, 0, 0, 0, 0, 0, 0, 0, 0]
def ex1 : St := ([(1, true, 0, [(exA, 2)], (0, [])), (2, true, 1, [], (0, []))], 3)
def ex2 : St := ([(1, true, 0, [(exA, 2)], (0, [])), (2, true, 1, [(exF, 3)], (0, [])), (3, false, 1, [], (0, []))], 4)
def ex3 : St := ([(1, true, 0, [(exA, 2)], (0, [])), (2, true, 1, [(exF, 3)], (0, [])), (3, false, 1, [], (2, [(0, exB)]))], 4)
theorem ex_p : serr ⟨#[47, 97]⟩ = 0 ∧ sval ⟨#[47, 97]⟩ = [exA] := by decide +kernel
theorem ex_q : serr ⟨#[47, 97, 47, 102]⟩ = 0 ∧ sval ⟨#[47, 97, 47, 102]⟩ = [exA, exF] := by decide +kernel
theorem ex_1 : mkE ([rootN], 2) [exA] = 0 ∧ mkN ([rootN], 2) (hold ([rootN], 2) [exA]) (lst [exA]) true = ex1 := ⟨by decide +kernel, by kernel_rfl⟩
theorem ex_2 : mkE ex1 [exA, exF] = 0 ∧ mkN ex1 (hold ex1 [exA, exF]) (lst [exA, exF]) false = ex2 := ⟨by decide +kernel, by kernel_rfl⟩
theorem ex_3 : rwE ex2 [exA, exF] (wrE (fi (tgt ex2 [exA, exF])) 0 [104, 105]) = 0 ∧ filN ex2 (tgt ex2 [exA, exF]) (wrF (fi (tgt ex2 [exA, exF])) 0 [104, 105]) = ex3 := ⟨by decide +kernel, by kernel_rfl⟩
theorem ex_4 : frE ex3 [exA, exF] 0 9 = 0 ∧ frO ex3 [exA, exF] 0 9 = [104, 105] := by decide +kernel
theorem ex_5 : filE ex3.1 [exA] = 104 ∧ rmE ex3 [exA] = 105 := by decide +kernel
theorem ex_ok1 : Ok ex1 := by rw [← ex_1.2]; exact mk_ok ok_new (by decide) ex_1.1 true
theorem ex_ok2 : Ok ex2 := by rw [← ex_2.2]; exact mk_ok ex_ok1 (by decide) ex_2.1 false
theorem ex_ok3 : Ok ex3 := by rw [← ex_3.2]; exact write_ok ex_ok2 ex_3.1
end Go.Proofs.YtkcnephbaffmbabGreatDoor
