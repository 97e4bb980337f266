/-
  Which blocks of a slot are live, as the program tells them.
-/
import Derived.Test.YtkpckadicjdieabLSeal
namespace Go.Proofs.Ytkpckadicjdieab
open Go.RowKit

/-! A row of blocks of its own whose data lie elsewhere. -/
def BX (w0 w : World) (base : Nat) (v : Value) (L : List Bk) : Prop := ∃ vss : List (List Value), w.ownsRow base 48 3 v L.length vss.flatten ∧ Each (bkN.lies 0 w0) vss L
theorem BX.nil (w0 w : World) (base : Nat) : BX w0 w base (.slice none 0 0) [] := ⟨[], World.ownsRow_nil _ _ _ _, trivial⟩
theorem BX.below {w0 w w' : World} {base : Nat} {v : Value} {L : List Bk} (h : BX w0 w base v L) (hb : Below w.heap.size w w') : BX w0 w' base v L := by
  obtain ⟨vss, h1, h2⟩ := h
  exact ⟨vss, own_below h1 hb, h2⟩
theorem BX.weaken {w0 w : World} {base b2 : Nat} {v : Value} {L : List Bk} (h : BX w0 w base v L) (hb : b2 ≤ base) : BX w0 w b2 v L := by
  obtain ⟨vss, h1, h2⟩ := h
  exact ⟨vss, own_weaken h1 hb, h2⟩
theorem BX.row {w0 w : World} {base : Nat} {v : Value} {L : List Bk} (h : BX w0 w base v L) : ∃ xs, w.ownsRow base 48 3 v L.length xs := let ⟨_, h1, _⟩ := h; ⟨_, h1⟩
theorem BX.shape {w0 w : World} {base : Nat} {v : Value} {L : List Bk} (h : BX w0 w base v L) : ∃ a c, v = .slice a L.length c := let ⟨_, h1⟩ := h.row; own_shape h1
theorem BX.lies {w0 w : World} {base : Nat} {v : Value} {L : List Bk} (h : BX w0 w base v L) (hb : Below w0.heap.size w0 w) : bksN.lies 0 w [v] L := by
  obtain ⟨vss, h1, h2⟩ := h
  exact ⟨v, vss, rfl, (Cells.own h1).weaken (Nat.zero_le _), h2.mono fun _ _ h => bkN.below h hb⟩
theorem BX.push {w0 wr : World} {base : Nat} {v : Value} {L : List Bk} {us : List Value} {b : Bk} (h : BX w0 wr base v L) (hu : bkN.lies 0 w0 us b) (hb : base ≤ wr.heap.size) (hl : L.length ≤ 10000) :
    ∃ g cap w3, (Builtin.append_ #[29, 29] 29 #[v, .slice (some ⟨wr.heap.size, 0, none⟩) 1 1]).run Try.prog (wr.alloc (.cells us.toArray 48)) = .ok (.slice (some ⟨g, 0, none⟩) (L.length + 1) cap) w3 ∧ BX w0 w3 base (.slice (some ⟨g, 0, none⟩) (L.length + 1) cap) (L ++ [b]) ∧ wr.grownBy w3 v.ownBlock := by
  obtain ⟨vss, hown, hE⟩ := h
  obtain ⟨i, hi, hz, hsz, hby⟩ := info_parts Try.info48
  have hul : us.length = 3 := bkN.length hu
  obtain ⟨g, cap, w3, h1, h2, h3, _, _⟩ := run_append_lies (P := Try.prog) (wr.alloc (.cells us.toArray 48)) 29 29 base 48 i _ 3 40 Try.underlying29 hi hz hsz hby rfl (by decide) v L.length vss.flatten (hown.alloc _) ⟨wr.heap.size, 0, none⟩ 1 1 us (by omega)
    (fun j u hj => World.news_of_block (cs := us.toArray) (t := 48) (fr := (0, 0)) (heap_alloc_new wr _) j u (by simpa using hj)) (bkN.ones hu) (by omega) (by unfold maxLen; omega) (by omega) (by simp; omega) (wr.heap.size + 1) (by simp)
  refine ⟨g, cap, w3, h1, ⟨vss ++ [us], by rw [List.length_append, flat_snoc]; exact h2, hE.snoc hu⟩, ?_⟩
  refine ⟨h3.os, h3.tape, h3.output, ?_, fun k hk hne => ?_⟩
  · have := h3.size
    simp at this
    omega
  · rw [h3.block k (by simp; omega) hne, Below.heap_alloc wr _ k hk]
theorem BX.grow {w0 w wr w3 : World} {base : Nat} {v : Value} {L : List Bk} (h : BX w0 wr base v L) (hg : wr.grownBy w3 v.ownBlock) (hb : Below base w wr) (hs : base ≤ wr.heap.size) : Below base w w3 := let ⟨_, h1⟩ := h.row; below_row hb h1 hg hs

/-! Slots in use. -/
def usedB (s : St) (k : Int) : Bool := decide (0 ≤ k) && ((s.1[k.toNat]?).map fun p => !freeB p).getD false
def uE (s : St) (k : Int) : Int := if okB s = false then 9 else if usedB s k = false then 71 else 0
theorem used_at {s : St} {k : Int} (h : usedB s k = true) : ∃ (i : Nat) (p : Sg), k = i ∧ i < s.1.length ∧ s.1[i]? = some p ∧ freeB p = false := by
  unfold usedB at h
  rw [Bool.and_eq_true, decide_eq_true_eq] at h
  obtain ⟨h0, h1⟩ := h
  cases hp : s.1[k.toNat]? with
  | none => rw [hp] at h1; cases h1
  | some p => exact ⟨k.toNat, p, by omega, (List.getElem?_eq_some_iff.1 hp).1, hp, by rw [hp] at h1; simpa using h1⟩

set_option maxRecDepth 100000 in
set_option maxHeartbeats 4000000 in
theorem inUse_any (n0 : Nat) (us : List Value) (s : St) (k : Int) (w : World) (h : stN.lies n0 w us s) :
    Calls Try.prog 63 #[.agg us.toArray, .int .i64 k] w fun e w' => e = .returned (.int .i64 (uE s k)) ∧ Below w.heap.size w w' := by
  obtain ⟨a, c, b, d, e, f, rfl, hS, hH, hO, hN, m1, m2, m3⟩ := st_viewN h
  obtain ⟨post, hpost⟩ : ∃ post : Ending → World → Prop, post = fun e w' => e = .returned (.int .i64 (uE s k)) ∧ Below w.heap.size w w' := ⟨_, rfl⟩
  have HP : Hid (∀ r w', uE s k = r → Below w.heap.size w w' → post (.returned (.int .i64 r)) w') := fun r w' h1 h2 => by rw [hpost]; exact ⟨by rw [h1], h2⟩
  rw [← hpost]
  clear hpost
  unfold maxLen at m1
  obtain ⟨n, hn⟩ : ∃ n, n = s.1.length := ⟨_, rfl⟩
  obtain ⟨nh, hnh⟩ : ∃ n, n = s.2.1.length := ⟨_, rfl⟩
  obtain ⟨no, hno⟩ : ∃ n, n = s.2.2.1.length := ⟨_, rfl⟩
  obtain ⟨nx, hnx⟩ : ∃ n, n = s.2.2.2 := ⟨_, rfl⟩
  rw [← hn, ← hnh, ← hno, ← hnx] at h ⊢
  rw [← hn] at hS m1
  obtain ⟨W, hW⟩ : ∃ W, W = w.alloc (.cells #[.slice a n c, .slice b nh d, .slice e no f, .int .i64 nx] 31) := ⟨_, rfl⟩
  have hbW : Below w.heap.size w W := by rw [hW]; exact (Below.refl _ w).alloc (Nat.le_refl _) _
  have hB1 : Box W w.heap.size 31 #[.slice a n c, .slice b nh d, .slice e no f, .int .i64 nx] := by rw [hW]; exact Box.new _ _ _
  have HC := checkL_any n0 [.slice a n c, .slice b nh d, .slice e no f, .int .i64 nx] s W (stN.below h hbW)
  have HW : Hid (Below w.heap.size w W ∧ Box W w.heap.size 31 #[.slice a n c, .slice b nh d, .slice e no f, .int .i64 nx] ∧ sgsN.lies n0 w [.slice a n c] s.1 ∧ n = s.1.length) := ⟨hbW, hB1, hS, hn⟩
  have hl1 := run_len Try.underlying28 a n c
  obtain ⟨g0, g1, g2, g3, -⟩ := hB1.four
  rw [hW] at g0 g1 g2 g3
  clear h hS hH hO hN m2 m3 hbW hB1 hn hnh hno hnx
  go_enter Try.func63, Try.ntmps63
  go_wp2_with fail
  rw [← hW]
  clear hW g0 g1 g2 g3
  refine HC.mono ?_
  rintro e1 w1 ⟨rfl, hb1⟩
  have hx1 := HW.out.2.1.below hb1 HW.out.2.1.lt
  have HB1 : Hid (Below w.heap.size w w1) := below_any HW.out.1 hb1
  obtain ⟨q0, q1, q2, q3, -⟩ := hx1.four
  clear hx1 hb1 HC
  rcases okE_cases s with ⟨hk, hok⟩ | ⟨hk, hok⟩
  case inr =>
    rw [hk]
    have HE : Hid (post (.returned (.int .i64 9)) w1) := HP.out 9 w1 (by
      have : okB s = false := by cases hb : okB s with | false => rfl | true => exact absurd (ok_iff.1 hb) hok
      unfold uE; rw [if_pos this]) HB1.out
    clear hk hok
    go_wp2
    exact HE.out
  case inl =>
    rw [hk]
    have HOK : Hid (Ok s ∧ okB s = true) := ⟨hok, ok_iff.2 hok⟩
    have HBAD : Hid (usedB s k = false → post (.returned (.int .i64 71)) w1) := fun h => HP.out 71 w1 (by unfold uE; rw [if_neg (by rw [HOK.out.2]; simp), if_pos h]) HB1.out
    clear hk hok
    by_cases h0 : k < 0
    · have HE : Hid (post (.returned (.int .i64 71)) w1) := HBAD.out (by unfold usedB; rw [decide_eq_false (by omega)]; rfl)
      go_wp2
      exact HE.out
    · obtain ⟨i, rfl⟩ : ∃ i : Nat, k = i := ⟨k.toNat, by omega⟩
      by_cases h1 : n ≤ i
      · have h1i : (n : Int) ≤ (i : Int) := by omega
        have HE : Hid (post (.returned (.int .i64 71)) w1) := HBAD.out (by unfold usedB; rw [Int.toNat_natCast, List.getElem?_eq_none (by rw [← HW.out.2.2.2]; exact h1)]; simp)
        go_wp2
        exact HE.out
      · have h1i : ¬ (n : Int) ≤ (i : Int) := by omega
        obtain ⟨p, hp⟩ := get_lt (l := s.1) (k := i) (by rw [← HW.out.2.2.2]; omega)
        obtain ⟨pb, po, x, cap, hix, c0, c1, hL, _⟩ := sgs_atN (sgsN.below HW.out.2.2.1 HB1.out) i p hp
        have HU : Hid (usedB s (i : Int) = !freeB p) := by
          show usedB s (i : Int) = _
          unfold usedB
          rw [Int.toNat_natCast, hp, decide_eq_true (by omega)]
          rfl
        obtain ⟨q, pl⟩ := p
        simp only at c0 c1
        obtain ⟨m, hm⟩ : ∃ m, m = pl.length := ⟨_, rfl⟩
        rw [← hm] at c1
        have HFR : Hid (freeB (q, pl) = (decide (q = 0) && decide (m = 0))) := by show freeB _ = _; rw [hm]; rfl
        have HC := isFree_any q x m cap w1
        rw [← HFR.out] at HC
        cases hfr : freeB (q, pl)
        · rw [hfr] at HC HU
          clear hp hL hm hfr
          go_wp2_with fail
          refine HC.mono ?_
          rintro e2 w2 ⟨rfl, hb2⟩
          have HE : Hid (post (.returned (.int .i64 0)) w2) := HP.out 0 w2 (by unfold uE; rw [if_neg (by rw [HOK.out.2]; simp), if_neg (by rw [HU.out]; simp)]) (below_any HB1.out hb2)
          clear hb2
          go_wp2
          exact HE.out
        · rw [hfr] at HC HU
          clear hp hL hm hfr
          go_wp2_with fail
          refine HC.mono ?_
          rintro e2 w2 ⟨rfl, hb2⟩
          have HE : Hid (post (.returned (.int .i64 71)) w2) := HP.out 71 w2 (by unfold uE; rw [if_neg (by rw [HOK.out.2]; simp), if_pos (by rw [HU.out]; rfl)]) (below_any HB1.out hb2)
          clear hb2
          go_wp2
          exact HE.out

/-! Live blocks. -/
def isLive (s : St) (x : Ver) : Bool := decide ((last s x.2.2.1 x.2.2.2.1).2.1 = x.1) && decide ((last s x.2.2.1 x.2.2.2.1).2.2.1 = x.2.1) && (!decide (x.2.2.2.2.length = 0) || decide (1 < (last s x.2.2.1 x.2.2.2.1).2.2.2))
def lvs (s : St) (q : Int) (l : List Bk) : List Bk := ((plc q l).filter (isLive s)).map (·.2.2)
theorem lvs_take {s : St} {q : Int} {l : List Bk} {k : Nat} {b : Bk} (h : l[k]? = some b) : lvs s q (l.take (k + 1)) = if isLive s (q, k, b) = true then lvs s q (l.take k) ++ [b] else lvs s q (l.take k) := by
  unfold lvs
  rw [plc_take h, List.filter_append]
  cases hb : isLive s (q, k, b) <;> simp [hb]
theorem lvs_le (s : St) (q : Int) (l : List Bk) : (lvs s q l).length ≤ l.length := by
  unfold lvs
  rw [List.length_map]
  exact Nat.le_trans (List.length_filter_le _ _) (by rw [plc_length]; exact Nat.le_refl _)

end Go.Proofs.Ytkpckadicjdieab
