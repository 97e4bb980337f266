/-
  What the program's Check answers, for every store (the loop, and Check itself).
-/
import Derived.Test.YtkpckadicjdieabLCheck
namespace Go.Proofs.Ytkpckadicjdieab
open Go.RowKit

theorem below_grow {w0 w w' : World} {b : Nat} (h : Below w0.heap.size w0 w) (hg : w.grownBy w' (some b)) (hb : w0.heap.size ≤ b) : Below w0.heap.size w0 w' := h.grown hg h.size (fun j hj => by cases hj; exact hb)

set_option maxRecDepth 100000 in
set_option maxHeartbeats 2000000 in
theorem index_segs (n0 : Nat) (v : Value) (l : List Sg) (nx : Int) (v1 v2 v3 : Value) (b Bm Bs : Nat) (w0 w : World) (hS : sgsN.lies n0 w0 [v] l) (hb : Below w0.heap.size w0 w) (hb0 : w0.heap.size ≤ b) (hK : KS w b Bm Bs #[v1, v2, v3, .int .i64 nx] []) (hl : l.length ≤ 64) :
    Calls Try.prog 74 #[v, .func (.func 40) #[] #[.pointer (some ⟨Bm, 0, none⟩), .pointer (some ⟨Bs, 0, none⟩)]] w fun e w' => (∃ r : Int, e = .returned (.int .i64 r) ∧ ((r = -1 ∧ AG nx l) ∨ (0 ≤ r ∧ ¬ AG nx l))) ∧ Below w0.heap.size w0 w' := by
  obtain ⟨a, c, e0, _, hm, _⟩ := Shape.list_len (S := sgN) (ht := Try.underlying28) (hc := cells28) hS
  obtain rfl : v = _ := by simpa using e0
  obtain ⟨n, hn⟩ : ∃ n, n = l.length := ⟨_, rfl⟩
  rw [← hn] at hl hS ⊢
  have hl1 := run_len Try.underlying28 a n c
  have HH : Hid (sgsN.lies n0 w0 [.slice a n c] l ∧ n = l.length ∧ n ≤ 64 ∧ Below w0.heap.size w0 w ∧ w0.heap.size ≤ b) := ⟨hS, hn, hl, hb, hb0⟩
  have HK0 : Hid (KS w b Bm Bs #[v1, v2, v3, .int .i64 nx] []) := hK
  clear hS hn hK e0 hm hb hb0
  obtain ⟨post, hpost⟩ : ∃ post : Ending → World → Prop, post = fun e w' => (∃ r : Int, e = .returned (.int .i64 r) ∧ ((r = -1 ∧ AG nx l) ∨ (0 ≤ r ∧ ¬ AG nx l))) ∧ Below w0.heap.size w0 w' := ⟨_, rfl⟩
  have HPo : Hid (∀ r w', ((r = -1 ∧ AG nx l) ∨ (0 ≤ r ∧ ¬ AG nx l)) → w.grownBy w' (some b) → post (.returned (.int .i64 r)) w') := fun r w' h1 h2 => by rw [hpost]; exact ⟨⟨r, rfl, h1⟩, below_grow HH.out.2.2.2.1 h2 HH.out.2.2.2.2⟩
  rw [← hpost]
  clear hpost
  go_enter Try.func74, Try.ntmps74
  go_wp2
  go_loopw [8] (fun i wr => ∃ k : Nat, k ≤ n ∧ i = .int .i64 k ∧ Hid (AG nx (l.take k) ∧ w.grownBy wr (some b) ∧ KS wr b Bm Bs #[v1, v2, v3, .int .i64 nx] (seqs (l.take k)))) (fun i _ => n - (intOf i).toNat)
  case atStart => exact ⟨0, Nat.zero_le _, rfl, by simpa using AG.nil nx, grown_below (Below.refl _ _) _, by simpa [seqs] using HK0.out⟩
  case round =>
    obtain ⟨k, hk, rfl, HJ⟩ := hrel
    by_cases hlt : k < n
    · obtain ⟨p, hp⟩ := get_lt (l := l) (k := k) (by rw [← HH.out.2.1]; exact hlt)
      obtain ⟨pb, po, x, cap, hix, c0, c1, hL, _⟩ := sgs_atN HH.out.1 k p hp
      have hki : (k : Int) < (n : Int) := by omega
      have hbr := below_grow HH.out.2.2.2.1 HJ.out.2.1 HH.out.2.2.2.2
      have g0 : wr.cell? ⟨pb, po, none⟩ = some (.int .i64 p.1) := by rw [hbr.cell (cell_lt c0)]; exact c0
      have g1 : wr.cell? ⟨pb, po + 1, none⟩ = some (.slice x p.2.length cap) := by rw [hbr.cell (cell_lt c1)]; exact c1
      have HC := wrong_any n0 [.int .i64 p.1, .slice x p.2.length cap] p nx v1 v2 v3 b Bm Bs (seqs (l.take k)) wr (sgN.below hL hbr) HJ.out.2.2 (by
        unfold seqs
        rw [List.length_map]
        exact Nat.le_trans (List.length_filter_le _ _) (by rw [List.length_take]; have := HH.out.2; omega)) (fun w' hg => sgN.below hL (below_grow hbr hg HH.out.2.2.2.2))
      have HST : Hid (AG nx (l.take (k + 1)) ↔ wrongB nx (seqs (l.take k)) p = false) := by
        show _ ↔ _
        rw [AG.step hp]
        unfold wrongB
        have hA := HJ.out.1
        have hck : chkB p = true ↔ Chk p := by simp only [chkB, decide_eq_true_eq]; exact Iff.rfl
        cases hf : freeB p
        · simp only [Bool.not_false, Bool.true_and, Bool.or_eq_false_iff, decide_eq_false_iff_not, Bool.not_eq_false', hck]
          constructor
          · rintro ⟨_, h⟩
            obtain ⟨h1, h2, h3⟩ := h (by trivial)
            exact ⟨⟨h1, by omega⟩, h2⟩
          · rintro ⟨⟨h1, h2⟩, h3⟩
            exact ⟨hA, fun _ => ⟨h1, h3, by omega⟩⟩
        · simp [hA]
      have HSQ : Hid (seqs (l.take (k + 1)) = if freeB p = true then seqs (l.take k) else seqs (l.take k) ++ [p.1]) := seqs_take hp
      obtain ⟨wb, hwb⟩ : ∃ wb, wb = wrongB nx (seqs (l.take k)) p := ⟨_, rfl⟩
      rw [← hwb] at HC HST
      obtain ⟨m, hm⟩ : ∃ m, m = p.2.length := ⟨_, rfl⟩
      rw [← hm] at g1 HC
      clear hp hL c0 c1 hbr hwb hm
      cases wb with
      | true =>
        go_wp2_with fail
        refine HC.mono ?_
        rintro e w2 ⟨rfl, hg2, -⟩
        have HE : Hid (post (.returned (.int .i64 k)) w2) := HPo.out _ _ (.inr ⟨by omega, fun h => by have := HST.out.1 (h.take _); cases this⟩) (grown_trans HJ.out.2.1 hg2)
        clear hg2
        go_wp2
        exact HE.out
      | false =>
        go_wp2_with fail
        refine HC.mono ?_
        rintro e w2 ⟨rfl, hg2, hk2⟩
        have HJ2 : Hid (AG nx (l.take (k + 1)) ∧ w.grownBy w2 (some b) ∧ KS w2 b Bm Bs #[v1, v2, v3, .int .i64 nx] (seqs (l.take (k + 1)))) := ⟨HST.out.2 (by trivial), grown_trans HJ.out.2.1 hg2, by rw [HSQ.out]; exact hk2 (by trivial)⟩
        clear hg2 hk2
        go_wp2
        go_roundw
        case rel => exact ⟨k + 1, by omega, by go_num, HJ2.out⟩
        case measure => simp [intOf]; omega
    · obtain rfl : k = n := by omega
      have HE : Hid (post (.returned (.int .i64 (-1))) wr) := HPo.out _ _ (.inl ⟨rfl, by have := HJ.out.1; rwa [HH.out.2.1, List.take_length] at this⟩) HJ.out.2.1
      go_wp2
      exact HE.out

set_option maxRecDepth 100000 in
set_option maxHeartbeats 1000000 in
theorem contains_segs (n0 : Nat) (v : Value) (l : List Sg) (nx : Int) (v1 v2 v3 : Value) (b Bm Bs : Nat) (w0 w : World) (hS : sgsN.lies n0 w0 [v] l) (hb : Below w0.heap.size w0 w) (hb0 : w0.heap.size ≤ b) (hK : KS w b Bm Bs #[v1, v2, v3, .int .i64 nx] []) (hl : l.length ≤ 64) :
    Calls Try.prog 43 #[v, .func (.func 40) #[] #[.pointer (some ⟨Bm, 0, none⟩), .pointer (some ⟨Bs, 0, none⟩)]] w fun e w' => (∃ r : Bool, e = .returned (.bool r) ∧ (r = false ↔ AG nx l)) ∧ Below w0.heap.size w0 w' := by
  have HC := index_segs n0 v l nx v1 v2 v3 b Bm Bs w0 w hS hb hb0 hK hl
  clear hS hb hb0 hK
  go_enter Try.func43, Try.ntmps43
  go_wp2_with fail
  refine HC.mono ?_
  rintro e w2 ⟨⟨r, rfl, hr⟩, hb2⟩
  rcases hr with ⟨rfl, hA⟩ | ⟨h0, hA⟩
  · have HA : Hid (AG nx l ∧ Below w0.heap.size w0 w2) := ⟨hA, hb2⟩
    clear hA hb2
    go_wp2
    go_ret
    exact ⟨⟨_, rfl, by simp [HA.out.1]⟩, HA.out.2⟩
  · have HA : Hid (¬ AG nx l ∧ Below w0.heap.size w0 w2) := ⟨hA, hb2⟩
    clear hA hb2
    go_wp2
    go_ret
    exact ⟨⟨_, rfl, by simp [HA.out.1]⟩, HA.out.2⟩

/-- May a store be, as a test. -/
def agB (nx : Int) (l : List Sg) : Bool := l.all (fun p => freeB p || (chkB p && decide (p.1 < nx))) && decide (seqs l).Nodup
theorem ag_iff {nx : Int} {l : List Sg} : agB nx l = true ↔ AG nx l := by
  unfold agB AG
  have hck : ∀ p : Sg, chkB p = true ↔ Chk p := fun p => by simp only [chkB, decide_eq_true_eq]; exact Iff.rfl
  rw [Bool.and_eq_true, List.all_eq_true, decide_eq_true_eq]
  refine and_congr (forall₂_congr fun p _ => ?_) Iff.rfl
  have h1 := hck p
  cases freeB p <;> simp only [Bool.false_or, Bool.true_or, Bool.and_eq_true, h1, decide_eq_true_eq] <;> simp
def okB (s : St) : Bool := decide ((1 ≤ s.1.length ∧ s.1.length ≤ 64) ∧ s.2.1.length = s.1.length ∧ (1 ≤ s.2.2.2 ∧ s.2.2.2 ≤ 1099511627776) ∧ s.2.2.1.length ≤ 8) && s.2.2.1.all mayB && agB s.2.2.2 s.1
theorem ok_iff {s : St} : okB s = true ↔ Ok s := by
  unfold okB
  rw [Bool.and_eq_true, Bool.and_eq_true, decide_eq_true_eq, ag_iff]
  constructor
  · rintro ⟨⟨⟨h1, h2, h3, h4⟩, h5⟩, h6, h7⟩
    exact ⟨h1, h2, h3, h4, h5, h6, h7⟩
  · rintro ⟨h1, h2, h3, h4, h5, h6, h7⟩
    exact ⟨⟨⟨h1, h2, h3, h4⟩, h5⟩, h6, h7⟩
def okE (s : St) : Int := if okB s = true then 0 else 9
theorem okE_ok {s : St} (h : Ok s) : okE s = 0 := if_pos (ok_iff.2 h)
theorem okE_bad {s : St} (h : ¬ Ok s) : okE s = 9 := if_neg (fun c => h (ok_iff.1 c))
theorem okE_cases (s : St) : (okE s = 0 ∧ Ok s) ∨ (okE s = 9 ∧ ¬ Ok s) := by
  by_cases h : Ok s
  · exact .inl ⟨okE_ok h, h⟩
  · exact .inr ⟨okE_bad h, h⟩

set_option maxRecDepth 100000 in
set_option maxHeartbeats 4000000 in
theorem checkL_any (n0 : Nat) (us : List Value) (s : St) (w : World) (h : stN.lies n0 w us s) :
    Calls Try.prog 13 #[.agg us.toArray] w fun e w' => e = .returned (.int .i64 (okE s)) ∧ Below w.heap.size w w' := by
  obtain ⟨a, c, b, d, e, f, rfl, hS, hH, hO, hN, m1, m2, m3⟩ := st_viewN h
  obtain ⟨l, hd, op, nx⟩ := s
  simp only at hS hH hO hN m1 m2 m3 ⊢
  unfold maxLen at m1 m2 m3
  obtain ⟨post, hpost⟩ : ∃ post : Ending → World → Prop, post = fun e w' => e = .returned (.int .i64 (okE (l, hd, op, nx))) ∧ Below w.heap.size w w' := ⟨_, rfl⟩
  have HP9 : Hid (∀ w', ¬ Ok (l, hd, op, nx) → Below w.heap.size w w' → post (.returned (.int .i64 9)) w') := fun w' h1 h2 => by rw [hpost]; exact ⟨by rw [okE_bad h1], h2⟩
  have HP0 : Hid (∀ w', Ok (l, hd, op, nx) → Below w.heap.size w w' → post (.returned (.int .i64 0)) w') := fun w' h1 h2 => by rw [hpost]; exact ⟨by rw [okE_ok h1], h2⟩
  rw [← hpost]
  clear hpost
  obtain ⟨n, hn⟩ : ∃ n, n = l.length := ⟨_, rfl⟩
  obtain ⟨nh, hnh⟩ : ∃ n, n = hd.length := ⟨_, rfl⟩
  obtain ⟨no, hno⟩ : ∃ n, n = op.length := ⟨_, rfl⟩
  have HN : Hid (n = l.length ∧ nh = hd.length ∧ no = op.length) := ⟨hn, hnh, hno⟩
  have hl1 := run_len Try.underlying28 a n c
  have hl2 := run_len Try.underlying23 b nh d
  have hl3 := run_len Try.underlying29 e no f
  obtain ⟨W, hW⟩ : ∃ W, W = w.alloc (.cells #[.slice a n c, .slice b nh d, .slice e no f, .int .i64 nx] 31) := ⟨_, rfl⟩
  have hbW : Below w.heap.size w W := by rw [hW]; exact (Below.refl _ w).alloc (Nat.le_refl _) _
  have hB1 : Box W w.heap.size 31 #[.slice a n c, .slice b nh d, .slice e no f, .int .i64 nx] := by rw [hW]; exact Box.new _ _ _
  have HM := mayStand_any n0 (.slice e op.length f) op W (bksN.below hO hbW)
  have HA : Hid (sgsN.lies n0 w [.slice a n c] l) := by show sgsN.lies _ _ _ _; rw [hn]; exact hS
  rw [← hn] at m1 ⊢
  rw [← hnh] at m2 ⊢
  rw [← hno] at m3 HM ⊢
  have HB : Hid (Below w.heap.size w W ∧ Box W w.heap.size 31 #[.slice a n c, .slice b nh d, .slice e no f, .int .i64 nx]) := ⟨hbW, hB1⟩
  obtain ⟨g0, g1, g2, g3, -⟩ := hB1.four
  clear h hS hH hO hN hbW hB1 hn hnh hno
  by_cases h1 : n < 1
  · have h1i : (n : Int) < 1 := by omega
    have HE := HP9.out W (fun h => by have h9 := h.slots.1; have := HN.out.1; simp only at h9; omega) HB.out.1
    rw [hW] at HE
    have HE : Hid _ := HE
    clear HM g0 g1 g2 g3 hW
    go_enter Try.func13, Try.ntmps13
    go_wp2
    exact HE.out
  have h1i : ¬ (n : Int) < 1 := by omega
  by_cases h2 : 64 < n
  · have h2i : (64 : Int) < (n : Int) := by omega
    have HE := HP9.out W (fun h => by have h9 := h.slots.2; have := HN.out.1; simp only at h9; omega) HB.out.1
    rw [hW] at HE
    have HE : Hid _ := HE
    clear HM g0 g1 g2 g3 hW
    go_enter Try.func13, Try.ntmps13
    go_wp2
    exact HE.out
  have h2i : ¬ (64 : Int) < (n : Int) := by omega
  by_cases h3 : nh ≠ n
  · have h3i : ((nh : Int) == (n : Int)) = false := by simp; omega
    have h3j : ¬ (nh : Int) = (n : Int) := by omega
    have HE := HP9.out W (fun h => by have h9 := h.held; have := HN.out; simp only at h9; omega) HB.out.1
    rw [hW] at HE
    have HE : Hid _ := HE
    clear HM g0 g1 g2 g3 hW
    go_enter Try.func13, Try.ntmps13
    go_wp2
    exact HE.out
  obtain rfl : nh = n := by omega
  clear h3
  by_cases h4 : nx < 1
  · have HE := HP9.out W (fun h => by have h9 := h.next.1; simp only at h9; omega) HB.out.1
    rw [hW] at HE
    have HE : Hid _ := HE
    clear HM g0 g1 g2 g3 hW
    go_enter Try.func13, Try.ntmps13
    go_wp2
    exact HE.out
  by_cases h5 : 1099511627776 < nx
  · have HE := HP9.out W (fun h => by have h9 := h.next.2; simp only at h9; omega) HB.out.1
    rw [hW] at HE
    have HE : Hid _ := HE
    clear HM g0 g1 g2 g3 hW
    go_enter Try.func13, Try.ntmps13
    go_wp2
    exact HE.out
  have HSEQ : Hid (∀ w2, Below W.heap.size W w2 → (no ≤ 8 ∧ op.all mayB = true) → ∀ X, X = (w2.alloc (.map #[] 0)).alloc (.cells #[.map (some w2.heap.size)] 90) → Calls Try.prog 43 #[.slice a nh c, .func (.func 40) #[] #[.pointer (some ⟨w2.heap.size + 1, 0, none⟩), .pointer (some ⟨w.heap.size, 0, none⟩)]] X fun e w' => (∃ r : Bool, e = .returned (.bool r) ∧ (r = false ↔ Ok (l, hd, op, nx))) ∧ Below w.heap.size w w') := fun w2 hb2 hop X hX => by
    have hb0 := below_any HB.out.1 hb2
    have hbX : Below w2.heap.size w2 X := by rw [hX]; exact ((Below.refl _ _).alloc (Nat.le_refl _) _).alloc (by simp) _
    refine (contains_segs n0 (.slice a nh c) l nx (.slice a nh c) (.slice b nh d) (.slice e no f) w2.heap.size (w2.heap.size + 1) w.heap.size w X HA.out (below_any hb0 hbX) hb0.size ⟨?_, ?_, ?_, by omega, by have := HB.out.2.lt; have := hb2.size; omega⟩ (by have := HN.out.1; omega)).mono ?_
    · have h0 : IM (w2.alloc (.map #[] 0)) w2.heap.size [] (fun _ => 0) := IM.made w2
      have h1 : ind [] = fun _ => 0 := by funext x; simp [ind]
      rw [h1, hX]
      exact h0.below ((Below.refl _ _).alloc (Nat.le_refl _) _)
    · rw [hX]
      have := Box.new (w2.alloc (.map #[] 0)) 90 #[.map (some w2.heap.size)]
      rwa [World.size_alloc] at this
    · exact (HB.out.2.below hb2 HB.out.2.lt).below hbX (by have := HB.out.2.lt; have := hb2.size; omega)
    · rintro e' w' ⟨⟨r, rfl, hr⟩, hb'⟩
      refine ⟨⟨r, rfl, ?_⟩, hb'⟩
      rw [hr]
      constructor
      · intro hA
        exact ⟨⟨by have := HN.out.1; simp only; omega, by have := HN.out.1; simp only; omega⟩, by have := HN.out; simp only; omega, ⟨by simp only; omega, by simp only; omega⟩, by have := HN.out.2.2; simp only; omega, hop.2, hA.1, hA.2⟩
      · intro hA
        exact ⟨hA.each, hA.apart⟩
  by_cases h6 : no = 0
  · subst h6
    have hop : (0 : Nat) ≤ 8 ∧ op.all mayB = true := ⟨by omega, by rw [List.eq_nil_of_length_eq_zero HN.out.2.2.symm]; rfl⟩
    obtain ⟨X, hX⟩ : ∃ X, X = (W.alloc (.map #[] 0)).alloc (.cells #[.map (some W.heap.size)] 90) := ⟨_, rfl⟩
    have HC := HSEQ.out W (Below.refl _ _) hop X hX
    have hxX : Box X w.heap.size 31 #[.slice a nh c, .slice b nh d, .slice e 0 f, .int .i64 nx] := by rw [hX]; exact (HB.out.2.alloc _).alloc _
    obtain ⟨z0, z1, z2, z3, -⟩ := hxX.four
    have hmX : X.cell? ⟨W.heap.size + 1, 0, none⟩ = some (.map (some W.heap.size)) := by
      rw [hX]
      have := Box.new (W.alloc (.map #[] 0)) 90 #[.map (some W.heap.size)]
      rw [World.size_alloc] at this
      exact this.cell 0 rfl
    clear hxX HM hop
    have hmm := @run_makeMap Try.prog
    go_enter Try.func13, Try.ntmps13
    go_upto_region 8 with fail
    rw [← hW]
    clear hW
    go_upto_region 9 with fail
    rw [← hX]
    clear hX g0 g1 g2 g3
    go_wp2_with fail
    refine HC.mono ?_
    rintro e' w' ⟨⟨r, rfl, hr⟩, hb'⟩
    cases r with
    | true =>
      have HE : Hid (post (.returned (.int .i64 9)) w') := HP9.out w' (fun h => by have := hr.2 h; cases this) hb'
      clear hr hb'
      go_wp2
      exact HE.out
    | false =>
      have HE : Hid (post (.returned (.int .i64 0)) w') := HP0.out w' (hr.1 rfl) hb'
      clear hr hb'
      go_wp2
      exact HE.out
  have h6i : (0 : Int) < (no : Int) := by omega
  cases hms : chkB (1, op)
  · rw [hms] at HM
    have HBAD : Hid (¬ Ok (l, hd, op, nx)) := fun h => by
      have : chkB (1, op) = true := by
        simp only [chkB, decide_eq_true_eq]
        exact ⟨⟨by decide, by decide⟩, ⟨by have := HN.out.2.2; omega, h.few⟩, h.may⟩
      rw [hms] at this
      cases this
    clear hms
    rw [hW] at g0 g1 g2 g3
    go_enter Try.func13, Try.ntmps13
    go_wp2_with fail
    rw [← hW]
    clear hW
    refine HM.mono ?_
    rintro e' w' ⟨rfl, hb'⟩
    have HE : Hid (post (.returned (.int .i64 9)) w') := HP9.out w' HBAD.out (below_any HB.out.1 hb')
    clear hb'
    go_wp2
    exact HE.out
  · rw [hms] at HM
    have HOP : Hid (no ≤ 8 ∧ op.all mayB = true) := by
      show _ ∧ _
      simp only [chkB, decide_eq_true_eq] at hms
      exact ⟨by have := HN.out.2.2; omega, hms.2.2⟩
    clear hms
    rw [hW] at g0 g1 g2 g3
    go_enter Try.func13, Try.ntmps13
    go_wp2_with fail
    rw [← hW]
    clear hW g0 g1 g2 g3
    refine HM.mono ?_
    rintro e' w2 ⟨rfl, hb2⟩
    obtain ⟨X, hX⟩ : ∃ X, X = (w2.alloc (.map #[] 0)).alloc (.cells #[.map (some w2.heap.size)] 90) := ⟨_, rfl⟩
    have HC := HSEQ.out w2 hb2 HOP.out X hX
    have hxX : Box X w.heap.size 31 #[.slice a nh c, .slice b nh d, .slice e no f, .int .i64 nx] := by rw [hX]; exact ((HB.out.2.below hb2 HB.out.2.lt).alloc _).alloc _
    obtain ⟨z0, z1, z2, z3, -⟩ := hxX.four
    clear hxX hb2
    have hmm := @run_makeMap Try.prog
    go_upto_region 9 with fail
    rw [← hX]
    clear hX
    go_wp2_with fail
    refine HC.mono ?_
    rintro e' w' ⟨⟨r, rfl, hr⟩, hb'⟩
    cases r with
    | true =>
      have HE : Hid (post (.returned (.int .i64 9)) w') := HP9.out w' (fun h => by have := hr.2 h; cases this) hb'
      clear hr hb'
      go_wp2
      exact HE.out
    | false =>
      have HE : Hid (post (.returned (.int .i64 0)) w') := HP0.out w' (hr.1 rfl) hb'
      clear hr hb'
      go_wp2
      exact HE.out

end Go.Proofs.Ytkpckadicjdieab
