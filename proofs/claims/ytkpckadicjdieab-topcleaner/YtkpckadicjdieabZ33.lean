import Derived.Test.YtkpckadicjdieabIRange
import Derived.Test.YtkpckadicjdieabZ27
import Derived.Test.YtkpckadicjdieabZ26
/-
  What clean.candidates hands out: each slot that may be cleaned, the lowest first; for whatever loop body that leaves what it reads as it was.
-/
namespace Go.Proofs.Ytkpckadicjdieab
open Go.RowKit Go.Shelf
attribute [local go_sem] Oper.semAt_some

abbrev Cd (s : St) := { j : Nat // j < s.1.length ∧ cnd s j = true }
def cdV (s : St) (j : Nat) : Array Value := #[.agg #[.int .i64 (j : Int), .int .i64 (slotOf s (j : Int)).1], .int .i64 (((lL s (j : Int)).length : Nat) : Int)]
def cds (s : St) (j : Nat) : List Nat := (List.range j).filter (cnd s)
theorem cds_yes {s : St} {j : Nat} (h : cnd s j = true) : cds s (j + 1) = cds s j ++ [j] := by
  unfold cds
  rw [List.range_succ, List.filter_append]
  simp [h]
theorem cds_no {s : St} {j : Nat} (h : cnd s j = false) : cds s (j + 1) = cds s j := by
  unfold cds
  rw [List.range_succ, List.filter_append]
  simp [h]
theorem cds_le (s : St) (j : Nat) : (cds s j).length ≤ j := by
  unfold cds
  exact Nat.le_trans (List.length_filter_le _ _) (by rw [List.length_range]; exact Nat.le_refl _)

set_option maxHeartbeats 1000000 in
theorem candidates_any (a b e : Option Addr) (n1 c m d k f : Nat) (q : Int) (w : World) : Calls Try.prog 57 #[.agg #[.slice a n1 c, .slice b m d, .slice e k f, .int .i64 q]] w fun e' w' =>
    e' = .returned (.func (.func 81) #[] #[.pointer (some ⟨w.heap.size, 0, none⟩)]) ∧ w' = w.alloc (.cells #[.slice a n1 c, .slice b m d, .slice e k f, .int .i64 q] 31) := by
  go_enter Try.func57, Try.ntmps57
  go_wp2
  go_ret
  exact ⟨rfl, rfl⟩

set_option maxRecDepth 100000 in
set_option maxHeartbeats 4000000 in
theorem cand_stops (N : Nat) (hn : 4 ≤ N) (nb : Nat) (G : List Nat) (Bs : Nat) (a b e : Option Addr) (n c nh d no f : Nat) (nx : Int) (s : St) (w0 : World) (hok : Ok s) (hnb : nb ≤ w0.heap.size) (hA : ∀ W', Below nb w0 W' → stN.lies 0 W' [.slice a n c, .slice b nh d, .slice e no f, .int .i64 nx] s) (hBs : Box w0 Bs 31 #[.slice a n c, .slice b nh d, .slice e no f, .int .i64 nx]) (hG : Bs ∉ G) :
    StopsO Fence.wide N Try.prog 81 #[.pointer (some ⟨Bs, 0, none⟩)] (fun x : Cd s => cdV s x.1) (KpG nb G) (fun xs => xs.map (·.1) = cds s s.1.length) (fun _ => True) 64 w0 := by
  intro lo J Jx W hbW hJ hJx hY h0
  have HY : Hid (∀ pre x W1, J pre W1 → pre.length < 64 → YieldAt Fence.wide (N - 1) Try.prog lo (cdV s (x : Cd s).1) W1 fun e W' =>
      (e = .returned (.bool true) ∧ J (pre ++ [x]) W' ∧ KpG nb G W1 W') ∨ (e = .returned (.bool false) ∧ Jx (pre ++ [x]) W' ∧ KpG nb G W1 W')) := hY
  have HJ : Hid (OwnFrom W.heap.size J) := hJ
  have HA : Hid (∀ W', Below nb W W' → stN.lies 0 W' [.slice a n c, .slice b nh d, .slice e no f, .int .i64 nx] s) := fun W' h => hA W' ((hbW.mono hnb).trans h)
  have HG : Hid (Bs ∉ G ∧ nb ≤ W.heap.size ∧ Ok s) := ⟨hG, by have := hbW.size; omega, hok⟩
  have hxb : Box W Bs 31 #[.slice a n c, .slice b nh d, .slice e no f, .int .i64 nx] := hBs.below hbW hBs.lt
  have HN : Hid (n = s.1.length) := (st_len (HA.out W (Below.refl _ _))).1
  have hn64 : n ≤ 64 := by rw [HN.out]; exact hok.slots.2
  have H0 : Hid (J [] W ∧ Box W Bs 31 #[.slice a n c, .slice b nh d, .slice e no f, .int .i64 nx]) := ⟨h0, hxb⟩
  have hl1 := run_len Try.underlying28 a n c
  obtain ⟨q0, q1, q2, q3, -⟩ := hxb.four
  clear hY hJ hJx h0 hbW hA hBs hG hxb hnb hok
  have hn1' : 1 ≤ N := by omega
  change CallsIn Fence.wide N Try.prog 81 #[.func (.yield lo) #[] #[], .pointer (some ⟨Bs, 0, none⟩)] W _
  refine callsIn_of_wp Try.func81 rfl trivial ?_ rfl
  simp only [Try.ntmps81, List.size_toArray, List.length_cons, List.length_nil, Nat.reduceAdd, Nat.reduceSub, Array.replicate_succ, Array.replicate_zero, List.push_toArray, List.append_toArray, List.nil_append, List.cons_append]
  gi_wp2
  clear q0 q1 q2 q3
  gi_loopw [10] (fun v wr => ∃ (j : Nat) (pre : List (Cd s)), j ≤ n ∧ v = .int .i64 (j : Int) ∧ Hid (pre.map (·.1) = cds s j ∧ J pre wr ∧ Box wr Bs 31 #[.slice a n c, .slice b nh d, .slice e no f, .int .i64 nx] ∧ Below nb W wr)) (fun v _ => n - (intOf v).toNat)
  case atStart => exact ⟨0, [], Nat.zero_le _, rfl, rfl, H0.out.1, H0.out.2, Below.refl _ _⟩
  case round =>
    obtain ⟨j, pre, hj, rfl, HP⟩ := hrel
    by_cases hlt : j < n
    · have hji : (j : Int) < (n : Int) := by omega
      obtain ⟨p, hp⟩ := get_lt (l := s.1) (k := j) (by rw [← HN.out]; exact hlt)
      obtain ⟨pb, po, pa, pc, hix, c0, c1, -, -⟩ := sgs_atN (st_seg (HA.out wr HP.out.2.2.2)).1 j p hp
      obtain ⟨pq, hpq⟩ : ∃ q, q = p.1 := ⟨_, rfl⟩
      obtain ⟨pm, hpm⟩ : ∃ q, q = p.2.length := ⟨_, rfl⟩
      rw [← hpq] at c0
      rw [← hpm] at c1
      have HPQ : Hid ((slotOf s (j : Int)).1 = pq) := by show _ = _; rw [slot_at hp, hpq]
      obtain ⟨V, hV⟩ : ∃ V, V = wr.alloc (.cells #[.int .i64 pq, .slice pa pm pc] 45) := ⟨_, rfl⟩
      have hbV : Below wr.heap.size wr V := by rw [hV]; exact (Below.refl _ _).alloc (Nat.le_refl _) _
      have hxV : Box V wr.heap.size 45 #[.int .i64 pq, .slice pa pm pc] := by rw [hV]; exact Box.new _ _ _
      have hnw : nb ≤ wr.heap.size := by have := HP.out.2.2.2.size; have := HG.out.2.1; omega
      have hBV := HP.out.2.2.1.below hbV HP.out.2.2.1.lt
      obtain ⟨q0, q1, q2, q3, -⟩ := hBV.four
      rw [hV] at q0 q1 q2 q3
      obtain ⟨ue, hue⟩ : ∃ z, z = uE s (j : Int) := ⟨_, rfl⟩
      have HC := liveL_any 0 [.slice a n c, .slice b nh d, .slice e no f, .int .i64 nx] s (j : Int) V (HA.out V (HP.out.2.2.2.trans (hbV.mono hnw)))
      rw [← hue] at HC
      have HUE : Hid (ue = uE s (j : Int)) := hue
      have HV : Hid (Below wr.heap.size wr V ∧ Box V wr.heap.size 45 #[.int .i64 pq, .slice pa pm pc] ∧ nb ≤ wr.heap.size) := ⟨hbV, hxV, hnw⟩
      clear hp hpq hpm hbV hxV hnw hBV hue
      gi_wp2_with fail
      rw [← hV]
      clear hV q0 q1 q2 q3 hix c0 c1
      refine ⟨trivial, (callsIn_wide.2 HC).mono ?_⟩
      rintro e2 w2 ⟨⟨v2, rfl, ho2⟩, hb2⟩
      obtain ⟨va, vc, _, hv2, -⟩ := Shape.list_own (S := bkN) (ht := Try.underlying29) (hc := cells29) ho2
      obtain rfl : v2 = _ := (List.cons.inj hv2).1
      obtain ⟨nl, hnl⟩ : ∃ z, z = (lL s (j : Int)).length := ⟨_, rfl⟩
      have hnl8 : nl ≤ 8 := by rw [hnl]; exact live_small HG.out.2.2 _
      rw [← hnl]
      have HNL : Hid (nl = (lL s (j : Int)).length) := hnl
      have hl2 := run_len Try.underlying29 va nl vc
      have hbr2 : Below wr.heap.size wr w2 := below_any HV.out.1 hb2
      have HB2 : Hid (Below wr.heap.size wr w2 ∧ J pre w2 ∧ Box w2 Bs 31 #[.slice a n c, .slice b nh d, .slice e no f, .int .i64 nx] ∧ Below nb W w2 ∧ Box w2 wr.heap.size 45 #[.int .i64 pq, .slice pa pm pc]) := ⟨hbr2, HJ.out pre wr w2 none HP.out.2.1 (grown_none hbr2) (fun r e => by cases e), HP.out.2.2.1.below hbr2 HP.out.2.2.1.lt, HP.out.2.2.2.trans (hbr2.mono HV.out.2.2), HV.out.2.1.below hb2 HV.out.2.1.lt⟩
      clear HC ho2 hv2 hnl hb2 hbr2
      by_cases hu : ue = 0
      case neg =>
        have hub : (ue == 0) = false := by simpa using hu
        have HP2 : Hid (pre.map (·.1) = cds s (j + 1) ∧ J pre w2 ∧ Box w2 Bs 31 #[.slice a n c, .slice b nh d, .slice e no f, .int .i64 nx] ∧ Below nb W w2) := ⟨by rw [cds_no (by unfold cnd; rw [← HUE.out, decide_eq_false hu]; rfl)]; exact HP.out.1, HB2.out.2.1, HB2.out.2.2.1, HB2.out.2.2.2.1⟩
        gi_wp2
        go_roundw
        case rel => exact ⟨j + 1, pre, by omega, by go_num, HP2⟩
        case measure => simp [intOf]; omega
      subst hu
      by_cases h8 : nl < 8
      case neg =>
        obtain rfl : nl = 8 := by omega
        have HP2 : Hid (pre.map (·.1) = cds s (j + 1) ∧ J pre w2 ∧ Box w2 Bs 31 #[.slice a n c, .slice b nh d, .slice e no f, .int .i64 nx] ∧ Below nb W w2) := ⟨by rw [cds_no (by unfold cnd; rw [← HNL.out]; simp)]; exact HP.out.1, HB2.out.2.1, HB2.out.2.2.1, HB2.out.2.2.2.1⟩
        gi_wp2
        go_roundw
        case rel => exact ⟨j + 1, pre, by omega, by go_num, HP2⟩
        case measure => simp [intOf]; omega
      have h8b : ((nl : Int) == 8) = false := by simp; omega
      have hc : cnd s j = true := by
        unfold cnd
        rw [← HUE.out, ← HNL.out, decide_eq_true rfl, decide_eq_true h8]
        rfl
      have hjs : j < s.1.length := by rw [← HN.out]; exact hlt
      obtain ⟨fn, tmps, assign, body, hy, hR⟩ := HY.out pre ⟨j, hjs, hc⟩ w2 HB2.out.2.1 (by
        have h1 := congrArg List.length HP.out.1
        have h2 := cds_le s j
        rw [List.length_map] at h1
        omega)
      simp only [cdV] at hy
      rw [HPQ.out, ← HNL.out] at hy
      have HX : Hid (∀ W3, J (pre ++ [⟨j, hjs, hc⟩]) W3 → KpG nb G w2 W3 → (pre ++ [(⟨j, hjs, hc⟩ : Cd s)]).map (·.1) = cds s (j + 1) ∧ J (pre ++ [⟨j, hjs, hc⟩]) W3 ∧ Box W3 Bs 31 #[.slice a n c, .slice b nh d, .slice e no f, .int .i64 nx] ∧ Below nb W W3) := fun W3 h1 h2 => ⟨by rw [List.map_append, HP.out.1, cds_yes hc]; rfl, h1, h2.box HB2.out.2.2.1 HG.out.1, HB2.out.2.2.2.1.trans h2.1⟩
      obtain ⟨x0, x1, -⟩ := HB2.out.2.2.2.2.two
      gi_wp2
      refine hR.mono ?_
      rintro e W3 (⟨rfl, hJ3, hk3⟩ | ⟨rfl, hJx3, hk3⟩)
      · have HP3 : Hid _ := HX.out W3 hJ3 hk3
        clear hy hR hJ3 hk3 x0 x1
        gi_wp2
        go_roundw
        case rel => exact ⟨j + 1, _, by omega, by go_num, HP3⟩
        case measure => simp [intOf]; omega
      · have HP3 : Hid (Jx (pre ++ [⟨j, hjs, hc⟩]) W3) := hJx3
        clear hy hR hJx3 hk3 x0 x1
        gi_wp2
        refine bodyPost_ret (results_none rfl _ _ _) rfl ?_
        exact ⟨⟨_, rfl⟩, .inr ⟨_, trivial, HP3.out⟩⟩
    · obtain rfl : j = n := by omega
      have HE : Hid (pre.map (·.1) = cds s s.1.length) := HP.out.1.trans (congrArg (cds s) HN.out)
      gi_wp2
      go_end0
      exact ⟨⟨_, rfl⟩, .inl ⟨pre, HE.out, HP.out.2.1⟩⟩

end Go.Proofs.Ytkpckadicjdieab

/-
  Victim, the program's: for every store.
-/
namespace Go.Proofs.Ytkpckadicjdieab
open Go.RowKit Go.Shelf
attribute [local go_sem] Oper.semAt_some

/-- The best of these slots. -/
def vSt (s : St) (v : Bool × Nat × Int) (j : Nat) : Bool × Nat × Int := if v.1 = false ∨ v.2.2 < vSc s j then (true, j, vSc s j) else v
def vfo (s : St) (l : List Nat) : Bool × Nat × Int := l.foldl (vSt s) (false, 0, 0)
theorem vfo_snoc (s : St) (l : List Nat) (j : Nat) : vfo s (l ++ [j]) = vSt s (vfo s l) j := by simp [vfo]
theorem vic_vfo (s : St) : ∀ j, vic s j = vfo s (cds s j)
  | 0 => rfl
  | j + 1 => by
    cases h : cnd s j with
    | false => rw [vic_skip h, cds_no h, vic_vfo s j]
    | true =>
      rw [cds_yes h, vfo_snoc, ← vic_vfo s j, vic, if_pos h]
      rfl
def vq (s : St) (v : Bool × Nat × Int) : Int := if v.1 = true then (slotOf s (v.2.1 : Int)).1 else 0

theorem box_kept {A B : World} {row : Option Nat} {b : Nat} {t : TypeId} {cs : Array Value} (h : Box A b t cs) (hg : A.grownBy B row) (hr : ∀ r, row = some r → ∃ o : Obj, A.heap[r]? = some o ∧ o.isCells = false) : Box B b t cs := h.grown hg (fun e => by
  obtain ⟨o, ho, hc⟩ := hr b e.symm
  rw [show A.heap[b]? = _ from h] at ho; cases ho; cases hc)

/-- What Victim holds while it ranges. -/
def VI (w : World) (B : Nat) (us : Array Value) (s : St) (v : Bool × Nat × Int) (W : World) : Prop :=
  Box W B 34 #[.int .i64 (v.2.1 : Nat), .int .i64 (vq s v)] ∧ Box W (B + 1) 4 #[.bool v.1] ∧ Box W (B + 2) 3 #[.int .i64 v.2.2] ∧ Box W w.heap.size 31 us ∧ Box W (w.heap.size + 1) 34 #[.int .i64 0, .int .i64 0] ∧ Below w.heap.size w W
theorem VI.below {w : World} {B : Nat} {us : Array Value} {s : St} {v : Bool × Nat × Int} {W W' : World} (h : VI w B us s v W) (hb : Below W.heap.size W W') : VI w B us s v W' :=
  ⟨h.1.below hb h.1.lt, h.2.1.below hb h.2.1.lt, h.2.2.1.below hb h.2.2.1.lt, h.2.2.2.1.below hb h.2.2.2.1.lt, h.2.2.2.2.1.below hb h.2.2.2.2.1.lt, below_any h.2.2.2.2.2 hb⟩
theorem VI.kept {w : World} {B : Nat} {us : Array Value} {s : St} {v : Bool × Nat × Int} {W W' : World} {row : Option Nat} {D : Nat} (h : VI w B us s v W) (hD : w.heap.size ≤ D) (hg : W.grownBy W' row) (hr : ∀ r, row = some r → D ≤ r ∧ ∃ o : Obj, W.heap[r]? = some o ∧ o.isCells = false) : VI w B us s v W' := by
  have hk : ∀ r, row = some r → ∃ o : Obj, W.heap[r]? = some o ∧ o.isCells = false := fun r e => (hr r e).2
  exact ⟨box_kept h.1 hg hk, box_kept h.2.1 hg hk, box_kept h.2.2.1 hg hk, box_kept h.2.2.2.1 hg hk, box_kept h.2.2.2.2.1 hg hk, h.2.2.2.2.2.grown hg h.2.2.2.2.2.size (fun k e => by have := (hr k e).1; omega)⟩

def V4 (W : World) (B : Nat) (j q sc : Int) : World := (((W.setCell ⟨B, 0, none⟩ (.int .i64 j)).setCell ⟨B, 1, none⟩ (.int .i64 q)).setCell ⟨B + 2, 0, none⟩ (.int .i64 sc)).setCell ⟨B + 1, 0, none⟩ (.bool true)
theorem VI.set {w : World} {B : Nat} {us : Array Value} {s : St} {v : Bool × Nat × Int} {W : World} {D : Nat} (h : VI w B us s v W) (hB : w.heap.size + 2 ≤ B) {j : Nat} {q : Int} (hq : (slotOf s (j : Int)).1 = q) (sc : Int) :
    KeepsFrom D W (V4 W B (j : Int) q sc) ∧ KpG w.heap.size [B, B + 1, B + 2] W (V4 W B (j : Int) q sc) ∧ VI w B us s (true, j, sc) (V4 W B (j : Int) q sc) := by
  obtain ⟨h1, h2, h3, h4, h5, h6⟩ := h
  unfold V4
  refine ⟨((((KeepsOthers.setCell W ⟨B, 0, none⟩ _).trans (KeepsOthers.setCell _ ⟨B, 1, none⟩ _)).trans (KeepsOthers.setCell _ ⟨B + 2, 0, none⟩ _)).trans (KeepsOthers.setCell _ ⟨B + 1, 0, none⟩ _)).from _, (((KpG.setG _ (by simp) (by omega)).trans (KpG.setG _ (by simp) (by omega))).trans (KpG.setG _ (by simp) (by omega))).trans (KpG.setG _ (by simp) (by omega)), ?_, ?_, ?_, ?_, ?_, ?_⟩
  · have e : vq s (true, j, sc) = q := by unfold vq; rw [if_pos rfl]; exact hq
    rw [e]
    exact (((h1.set 0 _).set 1 _).other (by omega)).other (by omega)
  · exact (((h2.other (by omega)).other (by omega)).other (by omega)).set 0 _
  · exact (((h3.other (by omega)).other (by omega)).set 0 _).other (by omega)
  · exact (((h4.other (by omega)).other (by omega)).other (by omega)).other (by omega)
  · exact (((h5.other (by omega)).other (by omega)).other (by omega)).other (by omega)
  · exact (((h6.setCell (p := ⟨B, 0, none⟩) (by simp only; omega) _).setCell (p := ⟨B, 1, none⟩) (by simp only; omega) _).setCell (p := ⟨B + 2, 0, none⟩) (by simp only; omega) _).setCell (p := ⟨B + 1, 0, none⟩) (by simp only; omega) _
theorem fin_rec {w W : World} {R D : Nat} {t : TypeId} {u v : Value} (h : Box W R t #[u, v]) (hb : Below w.heap.size w W) (hR : w.heap.size ≤ R) (hD : w.heap.size ≤ D) (hK : W.heap[D]? = some (.deferred (some []))) (x y : Value) :
    ((W.setCell ⟨R, 0, none⟩ x).setCell ⟨R, 1, none⟩ y).heap[D]? = some (.deferred (some [])) ∧ (((W.setCell ⟨R, 0, none⟩ x).setCell ⟨R, 1, none⟩ y).putObj D (.deferred none)).cell? ⟨R, 0, none⟩ = some x ∧ (((W.setCell ⟨R, 0, none⟩ x).setCell ⟨R, 1, none⟩ y).putObj D (.deferred none)).cell? ⟨R, 1, none⟩ = some y ∧ Below w.heap.size w (((W.setCell ⟨R, 0, none⟩ x).setCell ⟨R, 1, none⟩ y).putObj D (.deferred none)) := by
  have hK' := ((KeepsOthers.setCell W ⟨R, 0, none⟩ x).trans (KeepsOthers.setCell _ ⟨R, 1, none⟩ y)).same D _ hK rfl
  have hB := box_kept ((h.set 0 x).set 1 y) (grownBy_putObj' _ D (.deferred none)) (fun r e => by cases e; exact ⟨_, hK', rfl⟩)
  have h2 := below_set2 hb hR x y
  exact ⟨hK', hB.cell 0 rfl, hB.cell 1 rfl, h2.grown (grownBy_putObj' _ D (.deferred none)) h2.size (fun k e => by cases e; exact hD)⟩

set_option maxRecDepth 100000 in
set_option maxHeartbeats 4000000 in
theorem victim_bad (us : List Value) (s : St) (w : World) (h : stN.lies 0 w us s) (hok : ¬ Ok s) :
    Calls Try.prog 24 #[.agg us.toArray] w fun e w' => e = .returned (.tuple #[.agg #[.int .i64 0, .int .i64 0], .int .i64 9]) ∧ Below w.heap.size w w' := by
  obtain ⟨post, hpost⟩ : ∃ post : Ending → World → Prop, post = fun e w' => e = .returned (.tuple #[.agg #[.int .i64 0, .int .i64 0], .int .i64 9]) ∧ Below w.heap.size w w' := ⟨_, rfl⟩
  have HPo : Hid (∀ w', Below w.heap.size w w' → post (.returned (.tuple #[.agg #[.int .i64 0, .int .i64 0], .int .i64 9])) w') := fun w' h4 => by rw [hpost]; exact ⟨rfl, h4⟩
  rw [← hpost]
  clear hpost
  obtain ⟨a, n, c, b, nh, d, e, no, f, nx, rfl, -⟩ := st_flatNl h
  obtain ⟨W, hW⟩ : ∃ W, W = (w.alloc (.cells #[.slice a n c, .slice b nh d, .slice e no f, .int .i64 nx] 31)).alloc (.cells #[.int .i64 0, .int .i64 0] 34) := ⟨_, rfl⟩
  have hbW : Below w.heap.size w W := by rw [hW]; exact ((Below.refl _ w).alloc (Nat.le_refl _) _).alloc (by simp) _
  have hB1 : Box W w.heap.size 31 #[.slice a n c, .slice b nh d, .slice e no f, .int .i64 nx] := by rw [hW]; exact (Box.new _ _ _).alloc _
  have hB2 : Box W (w.heap.size + 1) 34 #[.int .i64 0, .int .i64 0] := by
    rw [hW]
    have := Box.new (w.alloc (.cells #[.slice a n c, .slice b nh d, .slice e no f, .int .i64 nx] 31)) 34 #[.int .i64 0, .int .i64 0]
    rwa [World.size_alloc] at this
  have HC := checkL_any 0 [.slice a n c, .slice b nh d, .slice e no f, .int .i64 nx] s W (stN.below h hbW)
  rw [okE_bad hok] at HC
  have HW : Hid (Below w.heap.size w W ∧ Box W (w.heap.size + 1) 34 #[.int .i64 0, .int .i64 0]) := ⟨hbW, hB2⟩
  go_enter Try.func24, Try.ntmps24
  go_upto_region 1 with fail
  rw [← hW]
  clear hW h hok
  obtain ⟨g0, g1, g2, g3, -⟩ := hB1.four
  clear hbW hB1 hB2
  go_wp2_with fail
  clear g0 g1 g2 g3
  refine HC.mono ?_
  rintro e1 w1 ⟨rfl, hb1⟩
  obtain ⟨y0, y1, f0, f1⟩ := (HW.out.2.below hb1 HW.out.2.lt).two
  have HE : Hid (post (.returned (.tuple #[.agg #[.int .i64 0, .int .i64 0], .int .i64 9])) ((w1.setCell ⟨w.heap.size + 1, 0, none⟩ (.int .i64 0)).setCell ⟨w.heap.size + 1, 1, none⟩ (.int .i64 0))) := HPo.out _ (below_set2 (below_any HW.out.1 hb1) (by omega) _ _)
  clear hb1 HC
  go_wp2
  refine bodyPost_ret (v := .tuple #[.agg #[.int .i64 0, .int .i64 0], .int .i64 9]) (by simp [results, Try.results24, go_sem, *]) rfl HE.out

set_option maxRecDepth 100000 in
set_option maxHeartbeats 8000000 in
theorem victim_good (us : List Value) (s : St) (w : World) (h : stN.lies 0 w us s) (hok : Ok s) :
    Calls Try.prog 24 #[.agg us.toArray] w fun e w' => e = .returned (.tuple #[.agg #[.int .i64 (vA s : Nat), .int .i64 (vQ s)], .int .i64 (vE s)]) ∧ Below w.heap.size w w' := by
  refine (callsIn_wide (n := 8)).1 ?_
  obtain ⟨post, hpost⟩ : ∃ post : Ending → World → Prop, post = fun e w' => e = .returned (.tuple #[.agg #[.int .i64 (vA s : Nat), .int .i64 (vQ s)], .int .i64 (vE s)]) ∧ Below w.heap.size w w' := ⟨_, rfl⟩
  have HPo : Hid (∀ (A Q E : Int) w', (vA s : Int) = A → vQ s = Q → vE s = E → Below w.heap.size w w' → post (.returned (.tuple #[.agg #[.int .i64 A, .int .i64 Q], .int .i64 E])) w') := fun A Q E w' h1 h2 h3 h4 => by
    rw [hpost, ← h1, ← h2, ← h3]
    exact ⟨rfl, h4⟩
  rw [← hpost]
  clear hpost
  obtain ⟨a, n, c, b, nh, d, e, no, f, nx, rfl, -⟩ := st_flatNl h
  obtain ⟨W, hW⟩ : ∃ W, W = (w.alloc (.cells #[.slice a n c, .slice b nh d, .slice e no f, .int .i64 nx] 31)).alloc (.cells #[.int .i64 0, .int .i64 0] 34) := ⟨_, rfl⟩
  have hbW : Below w.heap.size w W := by rw [hW]; exact ((Below.refl _ w).alloc (Nat.le_refl _) _).alloc (by simp) _
  have hB1 : Box W w.heap.size 31 #[.slice a n c, .slice b nh d, .slice e no f, .int .i64 nx] := by rw [hW]; exact (Box.new _ _ _).alloc _
  have hB2 : Box W (w.heap.size + 1) 34 #[.int .i64 0, .int .i64 0] := by
    rw [hW]
    have := Box.new (w.alloc (.cells #[.slice a n c, .slice b nh d, .slice e no f, .int .i64 nx] 31)) 34 #[.int .i64 0, .int .i64 0]
    rwa [World.size_alloc] at this
  have HC := checkL_any 0 [.slice a n c, .slice b nh d, .slice e no f, .int .i64 nx] s W (stN.below h hbW)
  rw [okE_ok hok] at HC
  have HW : Hid (Below w.heap.size w W ∧ Box W w.heap.size 31 #[.slice a n c, .slice b nh d, .slice e no f, .int .i64 nx] ∧ Box W (w.heap.size + 1) 34 #[.int .i64 0, .int .i64 0] ∧ stN.lies 0 w [.slice a n c, .slice b nh d, .slice e no f, .int .i64 nx] s ∧ Ok s) := ⟨hbW, hB1, hB2, h, hok⟩
  have HNX : Hid (nx = s.2.2.2 ∧ I64 nx) := (st_seg h).2.2.2
  obtain ⟨g0, g1, g2, g3, -⟩ := hB1.four
  rw [hW] at g0 g1 g2 g3
  clear h hok hbW hB1 hB2
  refine callsIn_of_wp_marks Try.func24 rfl trivial ?_ rfl
  simp only [Try.ntmps24, List.size_toArray, List.length_cons, List.length_nil, Nat.reduceAdd, Nat.reduceSub, Array.replicate_succ, Array.replicate_zero, List.push_toArray, List.append_toArray, List.nil_append, List.cons_append]
  gi_wp2_with fail
  rw [← hW]
  clear hW g0 g1 g2 g3
  refine ⟨trivial, (callsIn_wide.2 HC).mono ?_⟩
  rintro e1 w1 ⟨rfl, hb1⟩
  have HB1 : Hid (Below w.heap.size w w1 ∧ Box w1 w.heap.size 31 #[.slice a n c, .slice b nh d, .slice e no f, .int .i64 nx] ∧ Box w1 (w.heap.size + 1) 34 #[.int .i64 0, .int .i64 0]) := ⟨below_any HW.out.1 hb1, HW.out.2.1.below hb1 HW.out.2.1.lt, HW.out.2.2.1.below hb1 HW.out.2.2.1.lt⟩
  clear hb1 HC
  obtain ⟨B, hB⟩ : ∃ B, B = w1.heap.size := ⟨_, rfl⟩
  obtain ⟨V, hV⟩ : ∃ V, V = ((w1.alloc (.cells #[.int .i64 0, .int .i64 0] 34)).alloc (.cells #[.bool false] 4)).alloc (.cells #[.int .i64 0] 3) := ⟨_, rfl⟩
  have hbV : Below w1.heap.size w1 V := by rw [hV]; exact (((Below.refl _ w1).alloc (Nat.le_refl _) _).alloc (by simp) _).alloc (by simp; omega) _
  have HV : Hid (VI w B #[.slice a n c, .slice b nh d, .slice e no f, .int .i64 nx] s (false, 0, 0) V ∧ V.heap.size = B + 3 ∧ w.heap.size + 2 ≤ B) := by
    refine ⟨⟨?_, ?_, ?_, HB1.out.2.1.below hbV HB1.out.2.1.lt, HB1.out.2.2.below hbV HB1.out.2.2.lt, below_any HB1.out.1 hbV⟩, by rw [hV, hB]; simp, by have := HB1.out.2.2.lt; omega⟩
    · rw [hV, hB]; exact ((Box.new _ _ _).alloc _).alloc _
    · rw [hV, hB]
      have := Box.new (w1.alloc (.cells #[.int .i64 0, .int .i64 0] 34)) 4 #[.bool false]
      rw [World.size_alloc] at this
      exact this.alloc _
    · rw [hV, hB]
      have := Box.new ((w1.alloc (.cells #[.int .i64 0, .int .i64 0] 34)).alloc (.cells #[.bool false] 4)) 3 #[.int .i64 0]
      rwa [World.size_alloc, World.size_alloc] at this
  obtain ⟨g0, g1, g2, g3, -⟩ := HV.out.1.2.2.2.1.four
  rw [hV] at g0 g1 g2 g3
  clear hbV
  gi_wp2_with fail
  rw [← hV, ← hB]
  clear hV hB g0 g1 g2 g3
  refine ⟨trivial, (callsIn_wide.2 (candidates_any a b e n c nh d no f nx V)).mono ?_⟩
  rintro e2 wL ⟨rfl, hwL⟩
  have hbL : Below V.heap.size V wL := by rw [hwL]; exact (Below.refl _ _).alloc (Nat.le_refl _) _
  have hxL : Box wL V.heap.size 31 #[.slice a n c, .slice b nh d, .slice e no f, .int .i64 nx] := by rw [hwL]; exact Box.new _ _ _
  have HL : Hid (VI w B #[.slice a n c, .slice b nh d, .slice e no f, .int .i64 nx] s (false, 0, 0) wL ∧ wL.heap.size = B + 4) := ⟨HV.out.1.below hbL, by have := HV.out.2.1; rw [hwL]; simp; omega⟩
  have hit := cand_stops 7 (by omega) w.heap.size [B, B + 1, B + 2] V.heap.size a b e n c nh d no f nx s wL HW.out.2.2.2.2 HL.out.1.2.2.2.2.2.size (fun W' hW' => stN.below HW.out.2.2.2.1 (HL.out.1.2.2.2.2.2.trans hW')) hxL (fun hg => by
    have := HV.out.2.1
    simp only [List.mem_cons, List.not_mem_nil, or_false] at hg
    omega)
  have HSZ : Hid (V.heap.size = B + 3 ∧ wL.heap.size = B + 4 ∧ w.heap.size + 2 ≤ B) := ⟨HV.out.2.1, HL.out.2, HV.out.2.2⟩
  clear hwL hbL hxL
  gi_wp2_with fail
  refine range_own (α := Cd s) (by omega) (gf := 81) (lb := #[.pointer (some ⟨V.heap.size, 0, none⟩)]) rfl (enters_of Try.func81 (by kernel_rfl) rfl) hit (fun h k => h.trans k)
    (fun X lx o o' h1 h2 hX ho => KpG.put o' hX ho (by have := HSZ.out; omega)) (fun _ => rfl)
    (fun (pre : List (Cd s)) (W' : World) => VI w B #[.slice a n c, .slice b nh d, .slice e no f, .int .i64 nx] s (vfo s (pre.map (fun x : Cd s => x.1))) W') (fun _ _ => False)
    (fun (pre : List (Cd s)) W1 W2 row hs hg hr => VI.kept hs (by have := HSZ.out; omega) hg hr) (fun _ _ _ _ hs _ _ => hs) HL.out.1
    (fun (pre : List (Cd s)) (x : Cd s) a' W' => ∃ Bx, B + 3 ≤ Bx ∧ a' = { tmps := #[.agg #[.slice a n c, .slice b nh d, .slice e no f, .int .i64 nx], .pointer (some ⟨w.heap.size, 0, none⟩), .pointer (some ⟨w.heap.size + 1, 0, none⟩), .int .i64 0, .int .i64 0, .pointer (some ⟨B, 0, none⟩), .pointer (some ⟨B + 1, 0, none⟩), .pointer (some ⟨B + 2, 0, none⟩), .pointer (some ⟨Bx, 0, none⟩), .int .i64 (((lL s (x.1 : Int)).length : Nat) : Int), undef, undef, .agg #[.slice a n c, .slice b nh d, .slice e no f, .int .i64 nx], .int .i64 0, .int .i64 0, .bool false, undef, undef, .agg #[.int .i64 0, .int .i64 0], .agg #[.slice a n c, .slice b nh d, .slice e no f, .int .i64 nx], .func (.func 81) #[] #[.pointer (some ⟨V.heap.size, 0, none⟩)], .agg #[.int .i64 (x.1 : Int), .int .i64 (slotOf s (x.1 : Int)).1], .int .i64 (((lL s (x.1 : Int)).length : Nat) : Int), undef, undef, undef, undef, undef, undef, undef, undef, undef, undef, undef, undef, undef, undef, undef, undef, undef, undef, undef, undef, undef, undef], defers := [] } ∧ VI w B #[.slice a n c, .slice b nh d, .slice e no f, .int .i64 nx] s (vfo s (pre.map (fun x : Cd s => x.1))) W' ∧ Box W' Bx 34 #[.int .i64 (x.1 : Int), .int .i64 (slotOf s (x.1 : Int)).1])
    (fun pre x a' _ A B' row hs hg hr => by
      obtain ⟨Bx, h1, h2, h3, h4⟩ := hs
      exact ⟨Bx, h1, h2, h3.kept (by have := HSZ.out; omega) hg hr, box_kept h4 hg (fun r e => (hr r e).2)⟩) ?assign ?body ?done ?stop
  case assign =>
    rintro l' pre x W' K hi hK
    clear hit
    simp only [cdV]
    gi_wp2
    have hb1 : Below W'.heap.size W' (W'.alloc (.cells #[.int .i64 (x.1 : Int), .int .i64 (slotOf s (x.1 : Int)).1] 34)) := (Below.refl _ _).alloc (Nat.le_refl _) _
    have hw := hi.2.2.2.2.2.size
    have h3 := hi.2.2.1.lt
    exact hK _ _ ((keeps_below hb1).from _) (KpG.of_below hb1 hw) (hi.below hb1) ⟨W'.heap.size, h3, rfl, hi.below hb1, Box.new _ _ _⟩
  case body =>
    rintro l' pre x a' W' hi ⟨Bx, hBx, rfl, hv, hbx⟩ hlt
    clear hit hi hlt
    obtain ⟨j, hj, hc⟩ := x
    simp only at hbx ⊢
    obtain ⟨p, hp⟩ := get_lt hj
    obtain ⟨_, _, _, _, _, _, _, hpL, -⟩ := sgs_atN (st_seg HW.out.2.2.2.1).1 j p hp
    obtain ⟨_, _, _, _, hpI, _⟩ := sg_viewN hpL
    rw [← slot_at hp] at hpI
    obtain ⟨pq, hpq⟩ : ∃ q, q = (slotOf s (j : Int)).1 := ⟨_, rfl⟩
    obtain ⟨nl, hnl⟩ : ∃ q, q = (lL s (j : Int)).length := ⟨_, rfl⟩
    have hnl8 : nl ≤ 8 := by rw [hnl]; exact live_small HW.out.2.2.2.2 _
    obtain ⟨sc, hsc⟩ : ∃ z, z = scV pq (nl : Int) nx := ⟨_, rfl⟩
    obtain ⟨se, hse⟩ : ∃ z, z = scE pq (nl : Int) nx := ⟨_, rfl⟩
    have HSC : Hid (sc = vSc s j) := by
      show _ = _
      unfold vSc
      rw [← hpq, ← hnl, ← HNX.out.1]
      exact hsc
    rw [← hpq] at hpI hbx ⊢
    rw [← hnl]
    have HCS : Hid (∀ X, Calls Try.prog 16 #[.int .i64 pq, .int .i64 (nl : Int), .int .i64 nx] X fun e w' => e = .returned (.tuple #[.int .i64 sc, .int .i64 se]) ∧ X = w') := fun X => by
      rw [hsc, hse]
      exact score_any pq (nl : Int) nx X hpI ⟨by omega, by omega⟩ HNX.out.2
    obtain ⟨⟨fd, at', bs⟩, hvf⟩ : ∃ v, v = vfo s (pre.map (fun x : Cd s => x.1)) := ⟨_, rfl⟩
    have HSN : Hid (vfo s ((pre ++ [(⟨j, hj, hc⟩ : Cd s)]).map (fun x : Cd s => x.1)) = vSt s (fd, at', bs) j) := by
      show _ = _
      rw [List.map_append, List.map_cons, List.map_nil, vfo_snoc, ← hvf]
    rw [← hvf] at hv
    have HV2 : Hid (VI w B #[.slice a n c, .slice b nh d, .slice e no f, .int .i64 nx] s (fd, at', bs) W' ∧ w.heap.size + 2 ≤ B) := ⟨hv, HSZ.out.2.2⟩
    have HST : Hid (KeepsFrom wL.heap.size W' W' ∧ KpG w.heap.size [B, B + 1, B + 2] W' W' ∧ VI w B #[.slice a n c, .slice b nh d, .slice e no f, .int .i64 nx] s (fd, at', bs) W') := ⟨KeepsFrom.refl _ _, KpG.of_below (Below.refl _ _) hv.2.2.2.2.2.size, hv⟩
    have HTK : Hid (KeepsFrom wL.heap.size W' (V4 W' B (j : Int) pq sc) ∧ KpG w.heap.size [B, B + 1, B + 2] W' (V4 W' B (j : Int) pq sc) ∧ VI w B #[.slice a n c, .slice b nh d, .slice e no f, .int .i64 nx] s (true, j, vSc s j) (V4 W' B (j : Int) pq sc)) := by
      have := hv.set (D := wL.heap.size) HSZ.out.2.2 (j := j) (q := pq) hpq.symm sc
      rw [HSC.out] at this ⊢
      exact this
    obtain ⟨x0, x1, -⟩ := hbx.two
    obtain ⟨g0, g1, g2, g3, -⟩ := hv.2.2.2.1.four
    have cf := hv.2.1.cell 0 rfl
    have ff := hv.2.1.frozen 0
    have cm := hv.2.2.1.cell 0 rfl
    have fm := hv.2.2.1.frozen 0
    obtain ⟨b0, b1, fb0, fb1⟩ := hv.1.two
    simp only at cf cm
    clear hv hbx hp hpL hpI hpq hnl hsc hse hvf
    gi_wp2_with fail
    refine ⟨trivial, (CallsIn.inRound l' (callsIn_wide.2 (HCS.out W'))).mono ?_⟩
    rintro e9 w9 ⟨rfl, rfl⟩
    clear HCS
    cases fd with
    | false =>
      have HE : Hid (KeepsFrom wL.heap.size W' (V4 W' B (j : Int) pq sc) ∧ KpG w.heap.size [B, B + 1, B + 2] W' (V4 W' B (j : Int) pq sc) ∧ VI w B #[.slice a n c, .slice b nh d, .slice e no f, .int .i64 nx] s (vfo s ((pre ++ [(⟨j, hj, hc⟩ : Cd s)]).map (fun x : Cd s => x.1))) (V4 W' B (j : Int) pq sc)) := by
        rw [HSN.out, vSt, if_pos (.inl rfl)]
        exact HTK.out
      unfold V4 at HE
      clear HTK HST
      gi_wp2
      exact HE.out
    | true =>
      by_cases hgt : bs < sc
      · have HE : Hid (KeepsFrom wL.heap.size W' (V4 W' B (j : Int) pq sc) ∧ KpG w.heap.size [B, B + 1, B + 2] W' (V4 W' B (j : Int) pq sc) ∧ VI w B #[.slice a n c, .slice b nh d, .slice e no f, .int .i64 nx] s (vfo s ((pre ++ [(⟨j, hj, hc⟩ : Cd s)]).map (fun x : Cd s => x.1))) (V4 W' B (j : Int) pq sc)) := by
          rw [HSN.out, vSt, if_pos (.inr (by rw [← HSC.out]; exact hgt))]
          exact HTK.out
        unfold V4 at HE
        clear HTK HST
        gi_wp2
        exact HE.out
      · have HE : Hid (KeepsFrom wL.heap.size W' W' ∧ KpG w.heap.size [B, B + 1, B + 2] W' W' ∧ VI w B #[.slice a n c, .slice b nh d, .slice e no f, .int .i64 nx] s (vfo s ((pre ++ [(⟨j, hj, hc⟩ : Cd s)]).map (fun x : Cd s => x.1))) W') := by
          rw [HSN.out, vSt, if_neg (fun c => by
            rcases c with c | c
            · cases c
            · rw [← HSC.out] at c; exact hgt c)]
          exact HST.out
        clear HTK HST
        gi_wp2
        exact HE.out
  case done =>
    rintro D xs W' hD hxs hi hK
    rw [hxs, ← vic_vfo] at hi
    obtain ⟨v, hv⟩ : ∃ v, v = vic s s.1.length := ⟨_, rfl⟩
    rw [← hv] at hi
    have HVC : Hid (v = vic s s.1.length) := hv
    have cf := hi.2.1.cell 0 rfl
    obtain ⟨b0, b1, fb0, fb1⟩ := hi.1.two
    obtain ⟨r0, r1, fr0, fr1⟩ := hi.2.2.2.2.1.two
    have HFN : Hid (∀ x y, ((W'.setCell ⟨w.heap.size + 1, 0, none⟩ x).setCell ⟨w.heap.size + 1, 1, none⟩ y).heap[D]? = some (.deferred (some [])) ∧ (((W'.setCell ⟨w.heap.size + 1, 0, none⟩ x).setCell ⟨w.heap.size + 1, 1, none⟩ y).putObj D (.deferred none)).cell? ⟨w.heap.size + 1, 0, none⟩ = some x ∧ (((W'.setCell ⟨w.heap.size + 1, 0, none⟩ x).setCell ⟨w.heap.size + 1, 1, none⟩ y).putObj D (.deferred none)).cell? ⟨w.heap.size + 1, 1, none⟩ = some y ∧ Below w.heap.size w (((W'.setCell ⟨w.heap.size + 1, 0, none⟩ x).setCell ⟨w.heap.size + 1, 1, none⟩ y).putObj D (.deferred none))) := fun x y => fin_rec (w := w) hi.2.2.2.2.1 hi.2.2.2.2.2 (by omega) (by have := HSZ.out; omega) hK x y
    obtain ⟨⟨fd, at', bs⟩, rfl⟩ : ∃ y, v = y := ⟨_, rfl⟩
    simp only at cf b0 b1
    cases fd with
    | false =>
      obtain ⟨e1, e2, e3⟩ := vic_no HW.out.2.2.2.2 (by rw [← HVC.out])
      obtain ⟨hK', p0, p1, hbF⟩ := HFN.out (.int .i64 0) (.int .i64 0)
      have HE : Hid (post (.returned (.tuple #[.agg #[.int .i64 0, .int .i64 0], .int .i64 71])) (((W'.setCell ⟨w.heap.size + 1, 0, none⟩ (.int .i64 0)).setCell ⟨w.heap.size + 1, 1, none⟩ (.int .i64 0)).putObj D (.deferred none))) := HPo.out 0 0 71 _ (by rw [e2]; rfl) e3 e1 hbF
      clear hit hD hxs hi hK hv e1 e2 e3 hbF
      gi_wp2
      refine ⟨by simp, .inl ⟨_, _, rfl, run_takeDeferred hK', ?_⟩⟩
      exact ⟨.tuple #[.agg #[.int .i64 0, .int .i64 0], .int .i64 71], by simp [results, Try.results24, go_sem, p0, p1], HE.out⟩
    | true =>
      obtain ⟨e1, e2, e3⟩ := vic_yes HW.out.2.2.2.2 (by rw [← HVC.out])
      rw [← HVC.out] at e2 e3
      simp only at e2 e3
      obtain ⟨vqq, hvq⟩ : ∃ y, y = vq s (true, at', bs) := ⟨_, rfl⟩
      rw [← hvq] at b1
      have e4 : vqq = (slotOf s (at' : Int)).1 := by rw [hvq]; rfl
      obtain ⟨hK', p0, p1, hbF⟩ := HFN.out (.int .i64 (at' : Int)) (.int .i64 vqq)
      have HE : Hid (post (.returned (.tuple #[.agg #[.int .i64 (at' : Int), .int .i64 vqq], .int .i64 0])) (((W'.setCell ⟨w.heap.size + 1, 0, none⟩ (.int .i64 (at' : Int))).setCell ⟨w.heap.size + 1, 1, none⟩ (.int .i64 vqq)).putObj D (.deferred none))) := HPo.out at' vqq 0 _ (by rw [e2]) (by rw [e3, e4]) e1 hbF
      clear hit hD hxs hi hK hv e1 e2 e3 e4 hvq hbF
      gi_wp2
      refine ⟨by simp, .inl ⟨_, _, rfl, run_takeDeferred hK', ?_⟩⟩
      exact ⟨.tuple #[.agg #[.int .i64 (at' : Int), .int .i64 vqq], .int .i64 0], by simp [results, Try.results24, go_sem, p0, p1], HE.out⟩
  case stop =>
    rintro D pre W' _ _ h _
    exact h.elim

theorem victim_any (n0 : Nat) (us : List Value) (s : St) (w : World) (h : stN.lies n0 w us s) :
    Calls Try.prog 24 #[.agg us.toArray] w fun e w' => e = .returned (.tuple #[.agg #[.int .i64 (vA s : Nat), .int .i64 (vQ s)], .int .i64 (vE s)]) ∧ Below w.heap.size w w' := by
  by_cases hok : Ok s
  · exact victim_good us s w (stN.weaken h (Nat.zero_le _)) hok
  · obtain ⟨e1, e2, e3⟩ := vic_bad hok
    rw [e1, e2, e3]
    exact victim_bad us s w (stN.weaken h (Nat.zero_le _)) hok

end Go.Proofs.Ytkpckadicjdieab
