import Derived.Test.YtkpckadicjdieabZ11
import Derived.Test.YtkpckadicjdieabZ16
import Derived.Deep.DeepCutAuto
/-
  What the program's Check answers, for every store.
-/
namespace Go.Proofs.Ytkpckadicjdieab
open Go.RowKit

set_option maxHeartbeats 400000 in
theorem isFree_any (q : Int) (a : Option Addr) (n c : Nat) (w : World) : Calls Try.prog 41 #[.agg #[.int .i64 q, .slice a n c]] w fun e w' => e = .returned (.bool (decide (q = 0) && decide (n = 0))) ∧ Below w.heap.size w w' := by
  have hl1 := run_len Try.underlying29 a n c
  have HB : Hid (Below w.heap.size w (w.alloc (.cells #[.int .i64 q, .slice a n c] 45))) := (Below.refl _ w).alloc (Nat.le_refl _) _
  by_cases h1 : q = 0
  · subst h1
    by_cases h2 : n = 0
    · subst h2
      go_enter Try.func41, Try.ntmps41
      go_wp2
      go_ret
      exact ⟨rfl, HB.out⟩
    · have h2i : ((n : Int) == 0) = false := by simp; omega
      have e2 : decide (n = 0) = false := decide_eq_false h2
      rw [e2]
      clear h2 e2
      go_enter Try.func41, Try.ntmps41
      go_wp2
      go_ret
      exact ⟨by simp, HB.out⟩
  · have h1i : (q == 0) = false := by simp [h1]
    have e1 : decide (q = 0) = false := decide_eq_false h1
    rw [e1]
    clear h1 e1
    go_enter Try.func41, Try.ntmps41
    go_wp2
    go_ret
    exact ⟨by simp, HB.out⟩

set_option maxRecDepth 100000 in
set_option maxHeartbeats 400000 in
theorem mayStand_any (n0 : Nat) (v : Value) (l : List Bk) (w : World) (h : bksN.lies n0 w [v] l) : Calls Try.prog 39 #[v] w fun e w' => e = .returned (.bool (chkB (1, l))) ∧ Below w.heap.size w w' := by
  have HC := check_any n0 [.int .i64 1, v] (1, l) w (sg_mkN (s := (1, l)) h ⟨by show _ ≤ (1 : Int); omega, by show (1 : Int) ≤ _; omega⟩)
  obtain ⟨a, c, e0, _⟩ := Shape.list_len (S := bkN) (ht := Try.underlying29) (hc := cells29) h
  obtain rfl : v = _ := by simpa using e0
  unfold cerr at HC
  clear h e0
  generalize l.length = n at HC ⊢
  cases hb : chkB (1, l)
  · rw [hb] at HC
    clear hb
    go_enter Try.func39, Try.ntmps39
    go_wp2_with fail
    refine HC.mono ?_
    rintro e w2 ⟨rfl, hb2⟩
    go_wp2
    go_ret
    exact ⟨rfl, hb2⟩
  · rw [hb] at HC
    clear hb
    go_enter Try.func39, Try.ntmps39
    go_wp2_with fail
    refine HC.mono ?_
    rintro e w2 ⟨rfl, hb2⟩
    go_wp2
    go_ret
    exact ⟨rfl, hb2⟩

/-- Which segments may stand together. -/
def AG (nx : Int) (l : List Sg) : Prop := (∀ p ∈ l, freeB p = false → Chk p ∧ p.1 < nx) ∧ (seqs l).Nodup
theorem AG.nil (nx : Int) : AG nx [] := ⟨(fun _ h => by cases h), List.nodup_nil⟩
theorem AG.take {nx : Int} {l : List Sg} (h : AG nx l) (k : Nat) : AG nx (l.take k) := ⟨fun p hp => h.1 p (List.mem_of_mem_take hp), nodup_of_take h.2⟩
theorem AG.step {nx : Int} {l : List Sg} {k : Nat} {p : Sg} (hp : l[k]? = some p) : AG nx (l.take (k + 1)) ↔ AG nx (l.take k) ∧ (freeB p = false → p.1 ∉ seqs (l.take k) ∧ Chk p ∧ p.1 < nx) := by
  unfold AG
  rw [seqs_take hp, take_snoc hp]
  constructor
  · rintro ⟨h1, h2⟩
    refine ⟨⟨fun x hx => h1 x (List.mem_append_left _ hx), ?_⟩, fun hf => ?_⟩
    · by_cases c : freeB p = true
      · rwa [if_pos c] at h2
      · rw [if_neg c] at h2
        exact (List.nodup_append.1 h2).1
    · have := h1 p (by simp) hf
      rw [if_neg (by rw [hf]; simp)] at h2
      refine ⟨fun hm => ?_, this⟩
      exact (List.nodup_append.1 h2).2.2 _ hm p.1 (by simp) rfl
  · rintro ⟨⟨h1, h2⟩, h3⟩
    refine ⟨fun x hx hf => ?_, ?_⟩
    · rcases List.mem_append.1 hx with hx | hx
      · exact h1 x hx hf
      · obtain rfl := List.mem_singleton.1 hx
        exact (h3 hf).2
    · by_cases c : freeB p = true
      · rwa [if_pos c]
      · rw [if_neg c]
        refine List.nodup_append.2 ⟨h2, by simp, fun a ha b hb e => ?_⟩
        obtain rfl := List.mem_singleton.1 hb
        subst e
        exact (h3 (by simpa using c)).1 ha
/-- Counts of a list in which none is twice. -/
def ind (ks : List Int) (x : Int) : Int := if x ∈ ks then 1 else 0

/-- What the closure of Check goes on: the map, and the store's own variable. -/
structure KS (w : World) (b Bm Bs : Nat) (cs : Array Value) (ks : List Int) : Prop where
  im : IM w b ks (ind ks)
  bm : Box w Bm 90 #[.map (some b)]
  bs : Box w Bs 31 cs
  nm : Bm ≠ b
  ns : Bs ≠ b
theorem KS.below {w w' : World} {b Bm Bs : Nat} {cs : Array Value} {ks : List Int} (h : KS w b Bm Bs cs ks) (hb : Below w.heap.size w w') : KS w' b Bm Bs cs ks := ⟨h.im.below hb, h.bm.below hb h.bm.lt, h.bs.below hb h.bs.lt, h.nm, h.ns⟩
theorem grown_below {w w' : World} (h : Below w.heap.size w w') (r : Option Nat) : w.grownBy w' r := ⟨h.os, h.tape, h.output, h.size, fun j hj _ => h.block j hj⟩
theorem grown_trans {a b c : World} {r : Option Nat} (h : a.grownBy b r) (k : b.grownBy c r) : a.grownBy c r := ⟨k.os.trans h.os, k.tape.trans h.tape, k.output.trans h.output, Nat.le_trans h.size k.size, fun j hj hn => (k.block j (Nat.lt_of_lt_of_le hj h.size) hn).trans (h.block j hj hn)⟩

def wrongB (nx : Int) (ks : List Int) (p : Sg) : Bool := !freeB p && (decide (p.1 ∈ ks) || decide (nx ≤ p.1) || !chkB p)

set_option maxRecDepth 100000 in
set_option maxHeartbeats 4000000 in
theorem wrong_any (n0 : Nat) (us : List Value) (p : Sg) (nx : Int) (v1 v2 v3 : Value) (b Bm Bs : Nat) (ks : List Int) (w : World) (h : sgN.lies n0 w us p) (hK : KS w b Bm Bs #[v1, v2, v3, .int .i64 nx] ks) (hl : ks.length ≤ 64) (hnb : ∀ w', w.grownBy w' (some b) → sgN.lies n0 w' us p) :
    Calls Try.prog 40 #[.agg us.toArray, .pointer (some ⟨Bm, 0, none⟩), .pointer (some ⟨Bs, 0, none⟩)] w fun e w' => e = .returned (.bool (wrongB nx ks p)) ∧ w.grownBy w' (some b) ∧ (wrongB nx ks p = false → KS w' b Bm Bs #[v1, v2, v3, .int .i64 nx] (if freeB p = true then ks else ks ++ [p.1])) := by
  obtain ⟨a, c, rfl, hL, hi, hm⟩ := sg_viewN h
  obtain ⟨q, l⟩ := p
  simp only at hL hi hm hnb ⊢
  obtain ⟨n, hn'⟩ : ∃ n, n = l.length := ⟨_, rfl⟩
  have HF0 : Hid (freeB (q, l) = (decide (q = 0) && decide (n = 0))) := by show freeB (q, l) = _; rw [hn']; rfl
  rw [← hn'] at hnb ⊢
  obtain ⟨V, hV⟩ : ∃ V, V = w.alloc (.cells #[.int .i64 q, .slice a n c] 45) := ⟨_, rfl⟩
  have hbV : Below w.heap.size w V := by rw [hV]; exact (Below.refl _ _).alloc (Nat.le_refl _) _
  have hxV : Box V w.heap.size 45 #[.int .i64 q, .slice a n c] := by rw [hV]; exact Box.new _ _ _
  have HC := isFree_any q a n c V
  have HV : Hid (Below w.heap.size w V ∧ Box V w.heap.size 45 #[.int .i64 q, .slice a n c]) := ⟨hbV, hxV⟩
  have HK : Hid (KS w b Bm Bs #[v1, v2, v3, .int .i64 nx] ks) := hK
  have HNB : Hid (∀ w', w.grownBy w' (some b) → sgN.lies n0 w' [.int .i64 q, .slice a n c] (q, l)) := hnb
  obtain ⟨fr, hfr⟩ : ∃ fr, fr = freeB (q, l) := ⟨_, rfl⟩
  have HFR : Hid (fr = freeB (q, l)) := hfr
  rw [← HF0.out, ← hfr] at HC
  obtain ⟨x0, x1, -⟩ := hxV.two
  rw [hV] at x0 x1
  clear h hL hm hbV hxV hK hnb hn' hfr
  obtain ⟨post, hpost⟩ : ∃ post : Ending → World → Prop, post = fun e w' => e = .returned (.bool (wrongB nx ks (q, l))) ∧ w.grownBy w' (some b) ∧ (wrongB nx ks (q, l) = false → KS w' b Bm Bs #[v1, v2, v3, .int .i64 nx] (if freeB (q, l) = true then ks else ks ++ [q])) := ⟨_, rfl⟩
  have HPo : Hid (∀ r w', wrongB nx ks (q, l) = r → w.grownBy w' (some b) → (r = false → KS w' b Bm Bs #[v1, v2, v3, .int .i64 nx] (if freeB (q, l) = true then ks else ks ++ [q])) → post (.returned (.bool r)) w') := fun r w' h1 h2 h3 => by rw [hpost]; exact ⟨by rw [h1], h2, fun h => h3 (by rw [← h1]; exact h)⟩
  rw [← hpost]
  clear hpost
  cases fr with
  | true =>
    go_enter Try.func40, Try.ntmps40
    go_wp2_with fail
    rw [← hV]
    clear hV x0 x1
    refine HC.mono ?_
    rintro e w2 ⟨rfl, hb2⟩
    have hbw := below_any HV.out.1 hb2
    have HE : Hid (post (.returned (.bool false)) w2) := HPo.out _ _ (by unfold wrongB; rw [← HFR.out]; rfl) (grown_below hbw _) (fun _ => by rw [← HFR.out, if_pos rfl]; exact HK.out.below hbw)
    clear hb2 hbw
    go_wp2
    exact HE.out
  | false =>
    go_enter Try.func40, Try.ntmps40
    go_wp2_with fail
    rw [← hV]
    clear hV x0 x1
    refine HC.mono ?_
    rintro e w2 ⟨rfl, hb2⟩
    have hbw := below_any HV.out.1 hb2
    have hK2 := HK.out.below hbw
    have hx2 := HV.out.2.below hb2 HV.out.2.lt
    obtain ⟨hlk, hM⟩ := hK2.im.look hi
    have hwr : IntKind.i64.wrap (ind ks q + 1) = ind ks q + 1 := by unfold ind; split <;> rfl
    obtain ⟨w3, hup, hI3, hg3⟩ := hK2.im.put (x := ind ks q + 1) hi (by unfold ind; split <;> exact ⟨by decide, by decide⟩) (by omega)
    have hx3 : Box w3 w.heap.size 45 #[.int .i64 q, .slice a n c] := hx2.grown hg3 (by have := HK.out.im.lt; simp; omega)
    have hm3 := hK2.bm.grown hg3 (by simpa using hK2.nm)
    have hs3 := hK2.bs.grown hg3 (by simpa using hK2.ns)
    obtain ⟨hlk3, _⟩ := hI3.look hi
    have hgw : w.grownBy w3 (some b) := grown_trans (grown_below hbw _) hg3
    have HC3 := check_any n0 [.int .i64 q, .slice a n c] (q, l) w3 (HNB.out w3 hgw)
    have hm2 := hK2.bm.cell 0 rfl
    obtain ⟨y0, y1, -⟩ := hx2.two
    obtain ⟨z0, z1, -⟩ := hx3.two
    have hmm3 := hm3.cell 0 rfl
    obtain ⟨-, -, -, hs4, -⟩ := hs3.four
    have huq : updI (ind ks) q (ind ks q + 1) q = ind ks q + 1 := by unfold updI; rw [if_pos rfl]
    rw [huq] at hlk3
    have H3 : Hid (w.grownBy w3 (some b) ∧ IM w3 b (if q ∈ ks then ks else ks ++ [q]) (updI (ind ks) q (ind ks q + 1)) ∧ Box w3 Bm 90 #[.map (some b)] ∧ Box w3 Bs 31 #[v1, v2, v3, .int .i64 nx]) := ⟨hgw, hI3, hm3, hs3⟩
    clear hb2 hbw hK2 hx2 hM hI3 hg3 hx3 hm3 hs3 hgw huq hi HC
    by_cases hin : q ∈ ks
    · have e1 : ind ks q = 1 := if_pos hin
      rw [e1] at hlk hup hlk3
      simp only [Int.reduceAdd] at hup hlk3
      clear hwr
      have HE : Hid (post (.returned (.bool true)) w3) := HPo.out _ _ (by unfold wrongB; rw [← HFR.out]; simp [hin]) H3.out.1 (fun h => by cases h)
      clear e1 HC3
      go_wp2
      exact HE.out
    · have e1 : ind ks q = 0 := if_neg hin
      rw [e1] at hlk hup hlk3
      simp only [Int.zero_add] at hup hlk3
      clear hwr
      by_cases hge : nx ≤ q
      · have HE : Hid (post (.returned (.bool true)) w3) := HPo.out _ _ (by unfold wrongB; rw [← HFR.out]; simp [hge]) H3.out.1 (fun h => by cases h)
        clear e1 HC3 hin
        go_wp2
        exact HE.out
      · have HCK : Hid (wrongB nx ks (q, l) = !chkB (q, l)) := by
          show wrongB nx ks (q, l) = _
          unfold wrongB
          rw [← HFR.out]
          simp [hin, hge]
        unfold cerr at HC3
        obtain ⟨ck, hck⟩ : ∃ ck, ck = chkB (q, l) := ⟨_, rfl⟩
        have HCK : Hid (wrongB nx ks (q, l) = !ck) := by show wrongB nx ks (q, l) = _; rw [hck]; exact HCK.out
        rw [← hck] at HC3
        have hIK : ∀ w4, Below w3.heap.size w3 w4 → KS w4 b Bm Bs #[v1, v2, v3, .int .i64 nx] (ks ++ [q]) := fun w4 hb => by
          refine KS.below ⟨?_, H3.out.2.2.1, H3.out.2.2.2, HK.out.nm, HK.out.ns⟩ hb
          have h1 := H3.out.2.1
          rw [if_neg hin] at h1
          have : updI (ind ks) q (ind ks q + 1) = ind (ks ++ [q]) := by
            funext x
            unfold updI
            rw [e1]
            unfold ind
            by_cases hx : x = q
            · simp [hx]
            · simp [hx]
          rwa [this] at h1
        have HIK : Hid (∀ w4, Below w3.heap.size w3 w4 → KS w4 b Bm Bs #[v1, v2, v3, .int .i64 nx] (ks ++ [q])) := hIK
        have hlt : ¬ nx ≤ q := hge
        have hltd : decide (nx ≤ q) = false := decide_eq_false hge
        clear e1 hin hIK hck hge
        cases ck with
        | true =>
          go_wp2_with fail
          refine HC3.mono ?_
          rintro e w4 ⟨rfl, hb4⟩
          have HE : Hid (post (.returned (.bool false)) w4) := HPo.out _ _ HCK.out (grown_trans H3.out.1 (grown_below hb4 _)) (fun _ => by rw [← HFR.out, if_neg (by simp)]; exact HIK.out w4 hb4)
          clear hb4
          go_wp2
          exact HE.out
        | false =>
          go_wp2_with fail
          refine HC3.mono ?_
          rintro e w4 ⟨rfl, hb4⟩
          have HE : Hid (post (.returned (.bool true)) w4) := HPo.out _ _ HCK.out (grown_trans H3.out.1 (grown_below hb4 _)) (fun h => by cases h)
          clear hb4
          go_wp2
          exact HE.out

end Go.Proofs.Ytkpckadicjdieab

/-
  What the program's Check answers, for every store (the loop, and Check itself).
-/
namespace Go.Proofs.Ytkpckadicjdieab
open Go.RowKit

theorem below_grow {w0 w w' : World} {b : Nat} (h : Below w0.heap.size w0 w) (hg : w.grownBy w' (some b)) (hb : w0.heap.size ≤ b) : Below w0.heap.size w0 w' := h.grown hg h.size (fun j hj => by cases hj; exact hb)

set_option maxRecDepth 100000 in
set_option maxHeartbeats 2000000 in
theorem index_segs (n0 : Nat) (v : Value) (l : List Sg) (nx : Int) (v1 v2 v3 : Value) (b Bm Bs : Nat) (w0 w : World) (hS : sgsN.lies n0 w0 [v] l) (hb : Below w0.heap.size w0 w) (hb0 : w0.heap.size ≤ b) (hK : KS w b Bm Bs #[v1, v2, v3, .int .i64 nx] []) (hl : l.length ≤ 64) :
    Calls Try.prog 74 #[v, .func (.func 40) #[] #[.pointer (some ⟨Bm, 0, none⟩), .pointer (some ⟨Bs, 0, none⟩)]] w fun e w' => (∃ r : Int, e = .returned (.int .i64 r) ∧ ((r = -1 ∧ AG nx l) ∨ (0 ≤ r ∧ ¬ AG nx l))) ∧ Below w0.heap.size w0 w' := by
  obtain ⟨a, c, e0, _, hm, _⟩ := Shape.list_len (S := sgN) (ht := Try.underlying28) (hc := cells28) hS
  obtain rfl : v = _ := by simpa using e0
  obtain ⟨n, hn⟩ : ∃ n, n = l.length := ⟨_, rfl⟩
  rw [← hn] at hl hS ⊢
  have hl1 := run_len Try.underlying28 a n c
  have HH : Hid (sgsN.lies n0 w0 [.slice a n c] l ∧ n = l.length ∧ n ≤ 64 ∧ Below w0.heap.size w0 w ∧ w0.heap.size ≤ b) := ⟨hS, hn, hl, hb, hb0⟩
  have HK0 : Hid (KS w b Bm Bs #[v1, v2, v3, .int .i64 nx] []) := hK
  clear hS hn hK e0 hm hb hb0
  obtain ⟨post, hpost⟩ : ∃ post : Ending → World → Prop, post = fun e w' => (∃ r : Int, e = .returned (.int .i64 r) ∧ ((r = -1 ∧ AG nx l) ∨ (0 ≤ r ∧ ¬ AG nx l))) ∧ Below w0.heap.size w0 w' := ⟨_, rfl⟩
  have HPo : Hid (∀ r w', ((r = -1 ∧ AG nx l) ∨ (0 ≤ r ∧ ¬ AG nx l)) → w.grownBy w' (some b) → post (.returned (.int .i64 r)) w') := fun r w' h1 h2 => by rw [hpost]; exact ⟨⟨r, rfl, h1⟩, below_grow HH.out.2.2.2.1 h2 HH.out.2.2.2.2⟩
  rw [← hpost]
  clear hpost
  go_enter Try.func74, Try.ntmps74
  go_wp2
  go_loopw [8] (fun i wr => ∃ k : Nat, k ≤ n ∧ i = .int .i64 k ∧ Hid (AG nx (l.take k) ∧ w.grownBy wr (some b) ∧ KS wr b Bm Bs #[v1, v2, v3, .int .i64 nx] (seqs (l.take k)))) (fun i _ => n - (intOf i).toNat)
  case atStart => exact ⟨0, Nat.zero_le _, rfl, by simpa using AG.nil nx, grown_below (Below.refl _ _) _, by simpa [seqs] using HK0.out⟩
  case round =>
    obtain ⟨k, hk, rfl, HJ⟩ := hrel
    by_cases hlt : k < n
    · obtain ⟨p, hp⟩ := get_lt (l := l) (k := k) (by rw [← HH.out.2.1]; exact hlt)
      obtain ⟨pb, po, x, cap, hix, c0, c1, hL, _⟩ := sgs_atN HH.out.1 k p hp
      have hki : (k : Int) < (n : Int) := by omega
      have hbr := below_grow HH.out.2.2.2.1 HJ.out.2.1 HH.out.2.2.2.2
      have g0 : wr.cell? ⟨pb, po, none⟩ = some (.int .i64 p.1) := by rw [hbr.cell (cell_lt c0)]; exact c0
      have g1 : wr.cell? ⟨pb, po + 1, none⟩ = some (.slice x p.2.length cap) := by rw [hbr.cell (cell_lt c1)]; exact c1
      have HC := wrong_any n0 [.int .i64 p.1, .slice x p.2.length cap] p nx v1 v2 v3 b Bm Bs (seqs (l.take k)) wr (sgN.below hL hbr) HJ.out.2.2 (by
        unfold seqs
        rw [List.length_map]
        exact Nat.le_trans (List.length_filter_le _ _) (by rw [List.length_take]; have := HH.out.2; omega)) (fun w' hg => sgN.below hL (below_grow hbr hg HH.out.2.2.2.2))
      have HST : Hid (AG nx (l.take (k + 1)) ↔ wrongB nx (seqs (l.take k)) p = false) := by
        show _ ↔ _
        rw [AG.step hp]
        unfold wrongB
        have hA := HJ.out.1
        have hck : chkB p = true ↔ Chk p := by simp only [chkB, decide_eq_true_eq]; exact Iff.rfl
        cases hf : freeB p
        · simp only [Bool.not_false, Bool.true_and, Bool.or_eq_false_iff, decide_eq_false_iff_not, Bool.not_eq_false', hck]
          constructor
          · rintro ⟨_, h⟩
            obtain ⟨h1, h2, h3⟩ := h (by trivial)
            exact ⟨⟨h1, by omega⟩, h2⟩
          · rintro ⟨⟨h1, h2⟩, h3⟩
            exact ⟨hA, fun _ => ⟨h1, h3, by omega⟩⟩
        · simp [hA]
      have HSQ : Hid (seqs (l.take (k + 1)) = if freeB p = true then seqs (l.take k) else seqs (l.take k) ++ [p.1]) := seqs_take hp
      obtain ⟨wb, hwb⟩ : ∃ wb, wb = wrongB nx (seqs (l.take k)) p := ⟨_, rfl⟩
      rw [← hwb] at HC HST
      obtain ⟨m, hm⟩ : ∃ m, m = p.2.length := ⟨_, rfl⟩
      rw [← hm] at g1 HC
      clear hp hL c0 c1 hbr hwb hm
      cases wb with
      | true =>
        go_wp2_with fail
        refine HC.mono ?_
        rintro e w2 ⟨rfl, hg2, -⟩
        have HE : Hid (post (.returned (.int .i64 k)) w2) := HPo.out _ _ (.inr ⟨by omega, fun h => by have := HST.out.1 (h.take _); cases this⟩) (grown_trans HJ.out.2.1 hg2)
        clear hg2
        go_wp2
        exact HE.out
      | false =>
        go_wp2_with fail
        refine HC.mono ?_
        rintro e w2 ⟨rfl, hg2, hk2⟩
        have HJ2 : Hid (AG nx (l.take (k + 1)) ∧ w.grownBy w2 (some b) ∧ KS w2 b Bm Bs #[v1, v2, v3, .int .i64 nx] (seqs (l.take (k + 1)))) := ⟨HST.out.2 (by trivial), grown_trans HJ.out.2.1 hg2, by rw [HSQ.out]; exact hk2 (by trivial)⟩
        clear hg2 hk2
        go_wp2
        go_roundw
        case rel => exact ⟨k + 1, by omega, by go_num, HJ2.out⟩
        case measure => simp [intOf]; omega
    · obtain rfl : k = n := by omega
      have HE : Hid (post (.returned (.int .i64 (-1))) wr) := HPo.out _ _ (.inl ⟨rfl, by have := HJ.out.1; rwa [HH.out.2.1, List.take_length] at this⟩) HJ.out.2.1
      go_wp2
      exact HE.out

set_option maxRecDepth 100000 in
set_option maxHeartbeats 1000000 in
theorem contains_segs (n0 : Nat) (v : Value) (l : List Sg) (nx : Int) (v1 v2 v3 : Value) (b Bm Bs : Nat) (w0 w : World) (hS : sgsN.lies n0 w0 [v] l) (hb : Below w0.heap.size w0 w) (hb0 : w0.heap.size ≤ b) (hK : KS w b Bm Bs #[v1, v2, v3, .int .i64 nx] []) (hl : l.length ≤ 64) :
    Calls Try.prog 43 #[v, .func (.func 40) #[] #[.pointer (some ⟨Bm, 0, none⟩), .pointer (some ⟨Bs, 0, none⟩)]] w fun e w' => (∃ r : Bool, e = .returned (.bool r) ∧ (r = false ↔ AG nx l)) ∧ Below w0.heap.size w0 w' := by
  have HC := index_segs n0 v l nx v1 v2 v3 b Bm Bs w0 w hS hb hb0 hK hl
  clear hS hb hb0 hK
  go_enter Try.func43, Try.ntmps43
  go_wp2_with fail
  refine HC.mono ?_
  rintro e w2 ⟨⟨r, rfl, hr⟩, hb2⟩
  rcases hr with ⟨rfl, hA⟩ | ⟨h0, hA⟩
  · have HA : Hid (AG nx l ∧ Below w0.heap.size w0 w2) := ⟨hA, hb2⟩
    clear hA hb2
    go_wp2
    go_ret
    exact ⟨⟨_, rfl, by simp [HA.out.1]⟩, HA.out.2⟩
  · have HA : Hid (¬ AG nx l ∧ Below w0.heap.size w0 w2) := ⟨hA, hb2⟩
    clear hA hb2
    go_wp2
    go_ret
    exact ⟨⟨_, rfl, by simp [HA.out.1]⟩, HA.out.2⟩

/-- May a store be, as a test. -/
def agB (nx : Int) (l : List Sg) : Bool := l.all (fun p => freeB p || (chkB p && decide (p.1 < nx))) && decide (seqs l).Nodup
theorem ag_iff {nx : Int} {l : List Sg} : agB nx l = true ↔ AG nx l := by
  unfold agB AG
  have hck : ∀ p : Sg, chkB p = true ↔ Chk p := fun p => by simp only [chkB, decide_eq_true_eq]; exact Iff.rfl
  rw [Bool.and_eq_true, List.all_eq_true, decide_eq_true_eq]
  refine and_congr (forall₂_congr fun p _ => ?_) Iff.rfl
  have h1 := hck p
  cases freeB p <;> simp only [Bool.false_or, Bool.true_or, Bool.and_eq_true, h1, decide_eq_true_eq] <;> simp
def okB (s : St) : Bool := decide ((1 ≤ s.1.length ∧ s.1.length ≤ 64) ∧ s.2.1.length = s.1.length ∧ (1 ≤ s.2.2.2 ∧ s.2.2.2 ≤ 1099511627776) ∧ s.2.2.1.length ≤ 8) && s.2.2.1.all mayB && agB s.2.2.2 s.1
theorem ok_iff {s : St} : okB s = true ↔ Ok s := by
  unfold okB
  rw [Bool.and_eq_true, Bool.and_eq_true, decide_eq_true_eq, ag_iff]
  constructor
  · rintro ⟨⟨⟨h1, h2, h3, h4⟩, h5⟩, h6, h7⟩
    exact ⟨h1, h2, h3, h4, h5, h6, h7⟩
  · rintro ⟨h1, h2, h3, h4, h5, h6, h7⟩
    exact ⟨⟨⟨h1, h2, h3, h4⟩, h5⟩, h6, h7⟩
def okE (s : St) : Int := if okB s = true then 0 else 9
theorem okE_ok {s : St} (h : Ok s) : okE s = 0 := if_pos (ok_iff.2 h)
theorem okE_bad {s : St} (h : ¬ Ok s) : okE s = 9 := if_neg (fun c => h (ok_iff.1 c))
theorem okE_cases (s : St) : (okE s = 0 ∧ Ok s) ∨ (okE s = 9 ∧ ¬ Ok s) := by
  by_cases h : Ok s
  · exact .inl ⟨okE_ok h, h⟩
  · exact .inr ⟨okE_bad h, h⟩

set_option maxRecDepth 100000 in
set_option maxHeartbeats 4000000 in
theorem checkL_any (n0 : Nat) (us : List Value) (s : St) (w : World) (h : stN.lies n0 w us s) :
    Calls Try.prog 13 #[.agg us.toArray] w fun e w' => e = .returned (.int .i64 (okE s)) ∧ Below w.heap.size w w' := by
  obtain ⟨a, c, b, d, e, f, rfl, hS, hH, hO, hN, m1, m2, m3⟩ := st_viewN h
  obtain ⟨l, hd, op, nx⟩ := s
  simp only at hS hH hO hN m1 m2 m3 ⊢
  unfold maxLen at m1 m2 m3
  obtain ⟨post, hpost⟩ : ∃ post : Ending → World → Prop, post = fun e w' => e = .returned (.int .i64 (okE (l, hd, op, nx))) ∧ Below w.heap.size w w' := ⟨_, rfl⟩
  have HP9 : Hid (∀ w', ¬ Ok (l, hd, op, nx) → Below w.heap.size w w' → post (.returned (.int .i64 9)) w') := fun w' h1 h2 => by rw [hpost]; exact ⟨by rw [okE_bad h1], h2⟩
  have HP0 : Hid (∀ w', Ok (l, hd, op, nx) → Below w.heap.size w w' → post (.returned (.int .i64 0)) w') := fun w' h1 h2 => by rw [hpost]; exact ⟨by rw [okE_ok h1], h2⟩
  rw [← hpost]
  clear hpost
  obtain ⟨n, hn⟩ : ∃ n, n = l.length := ⟨_, rfl⟩
  obtain ⟨nh, hnh⟩ : ∃ n, n = hd.length := ⟨_, rfl⟩
  obtain ⟨no, hno⟩ : ∃ n, n = op.length := ⟨_, rfl⟩
  have HN : Hid (n = l.length ∧ nh = hd.length ∧ no = op.length) := ⟨hn, hnh, hno⟩
  have hl1 := run_len Try.underlying28 a n c
  have hl2 := run_len Try.underlying23 b nh d
  have hl3 := run_len Try.underlying29 e no f
  obtain ⟨W, hW⟩ : ∃ W, W = w.alloc (.cells #[.slice a n c, .slice b nh d, .slice e no f, .int .i64 nx] 31) := ⟨_, rfl⟩
  have hbW : Below w.heap.size w W := by rw [hW]; exact (Below.refl _ w).alloc (Nat.le_refl _) _
  have hB1 : Box W w.heap.size 31 #[.slice a n c, .slice b nh d, .slice e no f, .int .i64 nx] := by rw [hW]; exact Box.new _ _ _
  have HM := mayStand_any n0 (.slice e op.length f) op W (bksN.below hO hbW)
  have HA : Hid (sgsN.lies n0 w [.slice a n c] l) := by show sgsN.lies _ _ _ _; rw [hn]; exact hS
  rw [← hn] at m1 ⊢
  rw [← hnh] at m2 ⊢
  rw [← hno] at m3 HM ⊢
  have HB : Hid (Below w.heap.size w W ∧ Box W w.heap.size 31 #[.slice a n c, .slice b nh d, .slice e no f, .int .i64 nx]) := ⟨hbW, hB1⟩
  obtain ⟨g0, g1, g2, g3, -⟩ := hB1.four
  clear h hS hH hO hN hbW hB1 hn hnh hno
  by_cases h1 : n < 1
  · have h1i : (n : Int) < 1 := by omega
    have HE := HP9.out W (fun h => by have h9 := h.slots.1; have := HN.out.1; simp only at h9; omega) HB.out.1
    rw [hW] at HE
    have HE : Hid _ := HE
    clear HM g0 g1 g2 g3 hW
    go_enter Try.func13, Try.ntmps13
    go_wp2
    exact HE.out
  have h1i : ¬ (n : Int) < 1 := by omega
  by_cases h2 : 64 < n
  · have h2i : (64 : Int) < (n : Int) := by omega
    have HE := HP9.out W (fun h => by have h9 := h.slots.2; have := HN.out.1; simp only at h9; omega) HB.out.1
    rw [hW] at HE
    have HE : Hid _ := HE
    clear HM g0 g1 g2 g3 hW
    go_enter Try.func13, Try.ntmps13
    go_wp2
    exact HE.out
  have h2i : ¬ (64 : Int) < (n : Int) := by omega
  by_cases h3 : nh ≠ n
  · have h3i : ((nh : Int) == (n : Int)) = false := by simp; omega
    have h3j : ¬ (nh : Int) = (n : Int) := by omega
    have HE := HP9.out W (fun h => by have h9 := h.held; have := HN.out; simp only at h9; omega) HB.out.1
    rw [hW] at HE
    have HE : Hid _ := HE
    clear HM g0 g1 g2 g3 hW
    go_enter Try.func13, Try.ntmps13
    go_wp2
    exact HE.out
  obtain rfl : nh = n := by omega
  clear h3
  by_cases h4 : nx < 1
  · have HE := HP9.out W (fun h => by have h9 := h.next.1; simp only at h9; omega) HB.out.1
    rw [hW] at HE
    have HE : Hid _ := HE
    clear HM g0 g1 g2 g3 hW
    go_enter Try.func13, Try.ntmps13
    go_wp2
    exact HE.out
  by_cases h5 : 1099511627776 < nx
  · have HE := HP9.out W (fun h => by have h9 := h.next.2; simp only at h9; omega) HB.out.1
    rw [hW] at HE
    have HE : Hid _ := HE
    clear HM g0 g1 g2 g3 hW
    go_enter Try.func13, Try.ntmps13
    go_wp2
    exact HE.out
  have HSEQ : Hid (∀ w2, Below W.heap.size W w2 → (no ≤ 8 ∧ op.all mayB = true) → ∀ X, X = (w2.alloc (.map #[] 0)).alloc (.cells #[.map (some w2.heap.size)] 90) → Calls Try.prog 43 #[.slice a nh c, .func (.func 40) #[] #[.pointer (some ⟨w2.heap.size + 1, 0, none⟩), .pointer (some ⟨w.heap.size, 0, none⟩)]] X fun e w' => (∃ r : Bool, e = .returned (.bool r) ∧ (r = false ↔ Ok (l, hd, op, nx))) ∧ Below w.heap.size w w') := fun w2 hb2 hop X hX => by
    have hb0 := below_any HB.out.1 hb2
    have hbX : Below w2.heap.size w2 X := by rw [hX]; exact ((Below.refl _ _).alloc (Nat.le_refl _) _).alloc (by simp) _
    refine (contains_segs n0 (.slice a nh c) l nx (.slice a nh c) (.slice b nh d) (.slice e no f) w2.heap.size (w2.heap.size + 1) w.heap.size w X HA.out (below_any hb0 hbX) hb0.size ⟨?_, ?_, ?_, by omega, by have := HB.out.2.lt; have := hb2.size; omega⟩ (by have := HN.out.1; omega)).mono ?_
    · have h0 : IM (w2.alloc (.map #[] 0)) w2.heap.size [] (fun _ => 0) := IM.made w2
      have h1 : ind [] = fun _ => 0 := by funext x; simp [ind]
      rw [h1, hX]
      exact h0.below ((Below.refl _ _).alloc (Nat.le_refl _) _)
    · rw [hX]
      have := Box.new (w2.alloc (.map #[] 0)) 90 #[.map (some w2.heap.size)]
      rwa [World.size_alloc] at this
    · exact (HB.out.2.below hb2 HB.out.2.lt).below hbX (by have := HB.out.2.lt; have := hb2.size; omega)
    · rintro e' w' ⟨⟨r, rfl, hr⟩, hb'⟩
      refine ⟨⟨r, rfl, ?_⟩, hb'⟩
      rw [hr]
      constructor
      · intro hA
        exact ⟨⟨by have := HN.out.1; simp only; omega, by have := HN.out.1; simp only; omega⟩, by have := HN.out; simp only; omega, ⟨by simp only; omega, by simp only; omega⟩, by have := HN.out.2.2; simp only; omega, hop.2, hA.1, hA.2⟩
      · intro hA
        exact ⟨hA.each, hA.apart⟩
  by_cases h6 : no = 0
  · subst h6
    have hop : (0 : Nat) ≤ 8 ∧ op.all mayB = true := ⟨by omega, by rw [List.eq_nil_of_length_eq_zero HN.out.2.2.symm]; rfl⟩
    obtain ⟨X, hX⟩ : ∃ X, X = (W.alloc (.map #[] 0)).alloc (.cells #[.map (some W.heap.size)] 90) := ⟨_, rfl⟩
    have HC := HSEQ.out W (Below.refl _ _) hop X hX
    have hxX : Box X w.heap.size 31 #[.slice a nh c, .slice b nh d, .slice e 0 f, .int .i64 nx] := by rw [hX]; exact (HB.out.2.alloc _).alloc _
    obtain ⟨z0, z1, z2, z3, -⟩ := hxX.four
    have hmX : X.cell? ⟨W.heap.size + 1, 0, none⟩ = some (.map (some W.heap.size)) := by
      rw [hX]
      have := Box.new (W.alloc (.map #[] 0)) 90 #[.map (some W.heap.size)]
      rw [World.size_alloc] at this
      exact this.cell 0 rfl
    clear hxX HM hop
    have hmm := @run_makeMap Try.prog
    go_enter Try.func13, Try.ntmps13
    go_upto_region 8 with fail
    rw [← hW]
    clear hW
    go_upto_region 9 with fail
    rw [← hX]
    clear hX g0 g1 g2 g3
    go_wp2_with fail
    refine HC.mono ?_
    rintro e' w' ⟨⟨r, rfl, hr⟩, hb'⟩
    cases r with
    | true =>
      have HE : Hid (post (.returned (.int .i64 9)) w') := HP9.out w' (fun h => by have := hr.2 h; cases this) hb'
      clear hr hb'
      go_wp2
      exact HE.out
    | false =>
      have HE : Hid (post (.returned (.int .i64 0)) w') := HP0.out w' (hr.1 rfl) hb'
      clear hr hb'
      go_wp2
      exact HE.out
  have h6i : (0 : Int) < (no : Int) := by omega
  cases hms : chkB (1, op)
  · rw [hms] at HM
    have HBAD : Hid (¬ Ok (l, hd, op, nx)) := fun h => by
      have : chkB (1, op) = true := by
        simp only [chkB, decide_eq_true_eq]
        exact ⟨⟨by decide, by decide⟩, ⟨by have := HN.out.2.2; omega, h.few⟩, h.may⟩
      rw [hms] at this
      cases this
    clear hms
    rw [hW] at g0 g1 g2 g3
    go_enter Try.func13, Try.ntmps13
    go_wp2_with fail
    rw [← hW]
    clear hW
    refine HM.mono ?_
    rintro e' w' ⟨rfl, hb'⟩
    have HE : Hid (post (.returned (.int .i64 9)) w') := HP9.out w' HBAD.out (below_any HB.out.1 hb')
    clear hb'
    go_wp2
    exact HE.out
  · rw [hms] at HM
    have HOP : Hid (no ≤ 8 ∧ op.all mayB = true) := by
      show _ ∧ _
      simp only [chkB, decide_eq_true_eq] at hms
      exact ⟨by have := HN.out.2.2; omega, hms.2.2⟩
    clear hms
    rw [hW] at g0 g1 g2 g3
    go_enter Try.func13, Try.ntmps13
    go_wp2_with fail
    rw [← hW]
    clear hW g0 g1 g2 g3
    refine HM.mono ?_
    rintro e' w2 ⟨rfl, hb2⟩
    obtain ⟨X, hX⟩ : ∃ X, X = (w2.alloc (.map #[] 0)).alloc (.cells #[.map (some w2.heap.size)] 90) := ⟨_, rfl⟩
    have HC := HSEQ.out w2 hb2 HOP.out X hX
    have hxX : Box X w.heap.size 31 #[.slice a nh c, .slice b nh d, .slice e no f, .int .i64 nx] := by rw [hX]; exact ((HB.out.2.below hb2 HB.out.2.lt).alloc _).alloc _
    obtain ⟨z0, z1, z2, z3, -⟩ := hxX.four
    clear hxX hb2
    have hmm := @run_makeMap Try.prog
    go_upto_region 9 with fail
    rw [← hX]
    clear hX
    go_wp2_with fail
    refine HC.mono ?_
    rintro e' w' ⟨⟨r, rfl, hr⟩, hb'⟩
    cases r with
    | true =>
      have HE : Hid (post (.returned (.int .i64 9)) w') := HP9.out w' (fun h => by have := hr.2 h; cases this) hb'
      clear hr hb'
      go_wp2
      exact HE.out
    | false =>
      have HE : Hid (post (.returned (.int .i64 0)) w') := HP0.out w' (hr.1 rfl) hb'
      clear hr hb'
      go_wp2
      exact HE.out

end Go.Proofs.Ytkpckadicjdieab

/-
  What the document's Check answers, for every store.
-/
namespace Go.Proofs.Ytkpckadicjdieab
open Go.RowKit

set_option maxHeartbeats 400000 in
theorem rfree_any (q : Int) (a : Option Addr) (n c : Nat) (w : World) : Calls Try.prog 44 #[.agg #[.int .i64 q, .slice a n c]] w fun e w' => e = .returned (.bool (decide (q = 0) && decide (n = 0))) ∧ Below w.heap.size w w' := by
  have hl1 := run_len Try.underlying24 a n c
  have HB : Hid (Below w.heap.size w (w.alloc (.cells #[.int .i64 q, .slice a n c] 36))) := (Below.refl _ w).alloc (Nat.le_refl _) _
  by_cases h1 : q = 0
  · subst h1
    by_cases h2 : n = 0
    · subst h2
      go_enter Try.func44, Try.ntmps44
      go_wp2
      go_ret
      exact ⟨rfl, HB.out⟩
    · have h2i : ((n : Int) == 0) = false := by simp; omega
      have e2 : decide (n = 0) = false := decide_eq_false h2
      rw [e2]
      clear h2 e2
      go_enter Try.func44, Try.ntmps44
      go_wp2
      go_ret
      exact ⟨by simp, HB.out⟩
  · have h1i : (q == 0) = false := by simp [h1]
    have e1 : decide (q = 0) = false := decide_eq_false h1
    rw [e1]
    clear h1 e1
    go_enter Try.func44, Try.ntmps44
    go_wp2
    go_ret
    exact ⟨by simp, HB.out⟩


theorem seqs_mem {l : List Sg} {q : Int} (h : q ∈ seqs l) : ∃ (i : Nat) (p : Sg), l[i]? = some p ∧ p.1 = q := by
  unfold seqs at h
  obtain ⟨p, hp, rfl⟩ := List.mem_map.1 h
  obtain ⟨i, hi⟩ := List.mem_iff_getElem?.1 (List.mem_filter.1 hp).1
  exact ⟨i, p, hi, rfl⟩
theorem mem_seqs {l : List Sg} {p : Sg} (h : p ∈ l) (h0 : 1 ≤ p.1) : p.1 ∈ seqs l := by
  unfold seqs
  refine List.mem_map.2 ⟨p, List.mem_filter.2 ⟨h, ?_⟩, rfl⟩
  cases hf : freeB p
  · rfl
  · have := (free_iff.1 hf).1
    omega

set_option maxRecDepth 100000 in
set_option maxHeartbeats 8000000 in
theorem rcheckL_any (n0 : Nat) (us : List Value) (s : St) (w : World) (h : stR.lies n0 w us s) :
    Calls Try.prog 15 #[.agg us.toArray] w fun e w' => e = .returned (.int .i64 (okE s)) ∧ Below w.heap.size w w' := by
  obtain ⟨a, c, b, d, e, f, rfl, hS, hH, hO, hN, m1, m2, m3⟩ := st_viewR h
  obtain ⟨l, hd, op, nx⟩ := s
  simp only at hS hH hO hN m1 m2 m3 ⊢
  unfold maxLen at m1 m2 m3
  obtain ⟨post, hpost⟩ : ∃ post : Ending → World → Prop, post = fun e w' => e = .returned (.int .i64 (okE (l, hd, op, nx))) ∧ Below w.heap.size w w' := ⟨_, rfl⟩
  have HP9 : Hid (∀ w', ¬ Ok (l, hd, op, nx) → Below w.heap.size w w' → post (.returned (.int .i64 9)) w') := fun w' h1 h2 => by rw [hpost]; exact ⟨by rw [okE_bad h1], h2⟩
  have HP0 : Hid (∀ w', Ok (l, hd, op, nx) → Below w.heap.size w w' → post (.returned (.int .i64 0)) w') := fun w' h1 h2 => by rw [hpost]; exact ⟨by rw [okE_ok h1], h2⟩
  rw [← hpost]
  clear hpost
  obtain ⟨n, hn⟩ : ∃ n, n = l.length := ⟨_, rfl⟩
  obtain ⟨nh, hnh⟩ : ∃ n, n = hd.length := ⟨_, rfl⟩
  obtain ⟨no, hno⟩ : ∃ n, n = op.length := ⟨_, rfl⟩
  have HN : Hid (n = l.length ∧ nh = hd.length ∧ no = op.length) := ⟨hn, hnh, hno⟩
  have hl1 := run_len Try.underlying22 a n c
  have hl2 := run_len Try.underlying23 b nh d
  have hl3 := run_len Try.underlying24 e no f
  obtain ⟨W, hW⟩ : ∃ W, W = w.alloc (.cells #[.slice a n c, .slice b nh d, .slice e no f, .int .i64 nx] 26) := ⟨_, rfl⟩
  have hbW : Below w.heap.size w W := by rw [hW]; exact (Below.refl _ w).alloc (Nat.le_refl _) _
  have hB1 : Box W w.heap.size 26 #[.slice a n c, .slice b nh d, .slice e no f, .int .i64 nx] := by rw [hW]; exact Box.new _ _ _
  have HA : Hid (sgsR.lies n0 w [.slice a n c] l ∧ bksR.lies n0 w [.slice e no f] op) := ⟨by rw [hn]; exact hS, by rw [hno]; exact hO⟩
  rw [← hn] at m1 ⊢
  rw [← hnh] at m2 ⊢
  rw [← hno] at m3 ⊢
  have HB : Hid (Below w.heap.size w W ∧ Box W w.heap.size 26 #[.slice a n c, .slice b nh d, .slice e no f, .int .i64 nx]) := ⟨hbW, hB1⟩
  obtain ⟨g0, g1, g2, g3, -⟩ := hB1.four
  clear h hS hH hO hN hbW hB1 hn hnh hno
  by_cases h1 : n < 1
  · have h1i : (n : Int) < 1 := by omega
    have HE := HP9.out W (fun h => by have h9 := h.slots.1; have := HN.out.1; simp only at h9; omega) HB.out.1
    rw [hW] at HE
    have HE : Hid _ := HE
    clear g0 g1 g2 g3 hW
    go_enter Try.func15, Try.ntmps15
    go_wp2
    exact HE.out
  have h1i : ¬ (n : Int) < 1 := by omega
  by_cases h2 : 64 < n
  · have h2i : (64 : Int) < (n : Int) := by omega
    have HE := HP9.out W (fun h => by have h9 := h.slots.2; have := HN.out.1; simp only at h9; omega) HB.out.1
    rw [hW] at HE
    have HE : Hid _ := HE
    clear g0 g1 g2 g3 hW
    go_enter Try.func15, Try.ntmps15
    go_wp2
    exact HE.out
  have h2i : ¬ (64 : Int) < (n : Int) := by omega
  by_cases h3 : nh ≠ n
  · have h3i : ((nh : Int) == (n : Int)) = false := by simp; omega
    have h3j : ¬ (nh : Int) = (n : Int) := by omega
    have HE := HP9.out W (fun h => by have h9 := h.held; have := HN.out; simp only at h9; omega) HB.out.1
    rw [hW] at HE
    have HE : Hid _ := HE
    clear g0 g1 g2 g3 hW
    go_enter Try.func15, Try.ntmps15
    go_wp2
    exact HE.out
  obtain rfl : nh = n := by omega
  clear h3
  by_cases h4 : nx < 1
  · have h4' := h4
    have HE := HP9.out W (fun h => by have h9 := h.next.1; simp only at h9; omega) HB.out.1
    rw [hW] at HE
    have HE : Hid _ := HE
    clear g0 g1 g2 g3 hW
    go_enter Try.func15, Try.ntmps15
    go_wp2
    exact HE.out
  by_cases h5 : 1099511627776 < nx
  · have h5' := h5
    have HE := HP9.out W (fun h => by have h9 := h.next.2; simp only at h9; omega) HB.out.1
    rw [hW] at HE
    have HE : Hid _ := HE
    clear g0 g1 g2 g3 hW
    go_enter Try.func15, Try.ntmps15
    go_wp2
    exact HE.out
  by_cases h6 : 8 < no
  · have h6i : (8 : Int) < (no : Int) := by omega
    have HE := HP9.out W (fun h => by have h9 := h.few; have := HN.out; simp only at h9; omega) HB.out.1
    rw [hW] at HE
    have HE : Hid _ := HE
    clear g0 g1 g2 g3 hW
    go_enter Try.func15, Try.ntmps15
    go_wp2
    exact HE.out
  have h6i : ¬ (8 : Int) < (no : Int) := by omega
  rw [hW] at g0 g1 g2 g3
  go_enter Try.func15, Try.ntmps15
  go_wp2
  rw [← hW]
  clear hW g0 g1 g2 g3
  go_loopw [4] (fun i wr => ∃ k : Nat, k ≤ nh ∧ i = .int .i64 k ∧ Hid (AG nx (l.take k) ∧ Below W.heap.size W wr)) (fun i _ => nh - (intOf i).toNat)
  case atStart => exact ⟨0, Nat.zero_le _, rfl, by simpa using AG.nil nx, Below.refl _ _⟩
  case round =>
    obtain ⟨k, hk, rfl, HJ⟩ := hrel
    have hxr := HB.out.2.below HJ.out.2 HB.out.2.lt
    by_cases hlt : k < nh
    · obtain ⟨p, hp⟩ := get_lt (l := l) (k := k) (by rw [← HN.out.1]; exact hlt)
      have hbr := below_any HB.out.1 HJ.out.2
      obtain ⟨pb, po, x, cap, hix, c0, c1, hL, _⟩ := sgs_atR (sgsR.below HA.out.1 hbr) k p hp
      have hki : (k : Int) < (nh : Int) := by omega
      have HST : Hid (AG nx (l.take (k + 1)) ↔ (freeB p = false → p.1 ∉ seqs (l.take k) ∧ Chk p ∧ p.1 < nx)) := by
        show _ ↔ _
        rw [AG.step hp]
        exact ⟨fun h => h.2, fun h => ⟨HJ.out.1, h⟩⟩
      have HBAD : Hid (∀ w', ¬ (freeB p = false → p.1 ∉ seqs (l.take k) ∧ Chk p ∧ p.1 < nx) → Below W.heap.size W w' → post (.returned (.int .i64 9)) w') := fun w' h1 h2 => HP9.out w' (fun hok => h1 (HST.out.1 (AG.take ⟨hok.each, hok.apart⟩ _))) (below_any HB.out.1 h2)
      obtain ⟨V, hV⟩ : ∃ V, V = wr.alloc (.cells #[.int .i64 p.1, .slice x p.2.length cap] 36) := ⟨_, rfl⟩
      have hbV : Below wr.heap.size wr V := by rw [hV]; exact (Below.refl _ _).alloc (Nat.le_refl _) _
      have hxV : Box V wr.heap.size 36 #[.int .i64 p.1, .slice x p.2.length cap] := by rw [hV]; exact Box.new _ _ _
      have HC := rfree_any p.1 x p.2.length cap V
      have HCK : Hid (∀ U, Below V.heap.size V U → Calls Try.prog 45 #[.agg #[.int .i64 p.1, .slice x p.2.length cap]] U fun e w' => e = .returned (.int .i64 (cerr p)) ∧ Below U.heap.size U w') := fun U hU => rcheck_any n0 [.int .i64 p.1, .slice x p.2.length cap] p U (sgR.below hL (hbV.trans (hU.mono hbV.size)))
      have HV : Hid (Below W.heap.size W V ∧ ∀ U, Below V.heap.size V U → (U.cell? ⟨wr.heap.size, 0, none⟩ = some (.int .i64 p.1) ∧ U.cell? ⟨wr.heap.size, 1, none⟩ = some (.slice x p.2.length cap)) ∧ Box U w.heap.size 26 #[.slice a nh c, .slice b nh d, .slice e no f, .int .i64 nx]) := ⟨HJ.out.2.trans (hbV.mono HJ.out.2.size), fun U hU => by
        have h1 := (hxV.below hU hxV.lt).two
        exact ⟨⟨h1.1, h1.2.1⟩, hxr.below (hbV.trans (hU.mono hbV.size)) hxr.lt⟩⟩
      obtain ⟨x0, x1, x2, x3, -⟩ := hxr.four
      obtain ⟨fr, hfr⟩ : ∃ fr, fr = freeB p := ⟨_, rfl⟩
      have HFR : Hid (fr = freeB p) := hfr
      have hfe : (decide (p.1 = 0) && decide (p.2.length = 0)) = fr := hfr.symm
      rw [hfe] at HC
      have HPK : Hid (l[k]? = some p) := hp
      obtain ⟨v0, v1, -⟩ := hxV.two
      obtain ⟨q, pl⟩ := p
      simp only at v0 v1 HC HCK HV hV c0 c1
      obtain ⟨m, hm⟩ : ∃ m, m = pl.length := ⟨_, rfl⟩
      rw [← hm] at v1 HC HCK HV hV c1
      clear hp hbr hL hbV hxV hxr hfr hfe hm
      go_upto_region 8 with fail
      rw [← hV]
      clear hV hix c0 c1 x0 x1 x2 x3
      cases fr with
      | true =>
        go_wp2_with fail
        refine HC.mono ?_
        rintro e2 w2 ⟨rfl, hb2⟩
        have HJ2 : Hid (AG nx (l.take (k + 1)) ∧ Below W.heap.size W w2) := ⟨HST.out.2 (fun h => by rw [← HFR.out] at h; cases h), HV.out.1.trans (hb2.mono HV.out.1.size)⟩
        clear hb2 v0 v1 HC
        go_wp2
        go_roundw
        case rel => exact ⟨k + 1, by omega, by go_num, HJ2.out⟩
        case measure => simp [intOf]; omega
      | false =>
        go_wp2_with fail
        refine HC.mono ?_
        rintro e2 w2 ⟨rfl, hb2⟩
        have HB2 : Hid (Below V.heap.size V w2) := hb2
        have HC3 := HCK.out w2 hb2
        obtain ⟨⟨y0, y1⟩, -⟩ := HV.out.2 w2 hb2
        obtain ⟨ck, hck⟩ : ∃ ck, ck = cerr (q, pl) := ⟨_, rfl⟩
        rw [← hck] at HC3
        have HCE : Hid (ck = cerr (q, pl)) := hck
        clear hb2 v0 v1 HC hck
        by_cases hc0 : ck = 0
        · subst hc0
          have HCHK : Hid (Chk (q, pl)) := cerr_zero.1 HCE.out.symm
          go_wp2_with fail
          refine HC3.mono ?_
          rintro e3 w3 ⟨rfl, hb3⟩
          have HB3 : Hid (Below V.heap.size V w3) := HB2.out.trans (hb3.mono HB2.out.size)
          clear hb3 HC3 y0 y1
          obtain ⟨⟨y0, y1⟩, hx3⟩ := HV.out.2 w3 HB3.out
          obtain ⟨z0, z1, z2, z3, -⟩ := hx3.four
          by_cases hge : nx ≤ q
          · have HE : Hid (post (.returned (.int .i64 9)) w3) := HBAD.out w3 (fun h => by have h9 : q < nx := (h HFR.out.symm).2.2; omega) (HV.out.1.trans (HB3.out.mono HV.out.1.size))
            clear hx3
            go_wp2
            exact HE.out
          · have hged : decide (nx ≤ q) = false := decide_eq_false hge
            clear hx3
            go_wp2
            clear z0 z1 z2 z3
            go_loopw [6] (fun i wi => ∃ j : Nat, j ≤ k ∧ i = .int .i64 j ∧ Hid (∀ i p', i < j → l[i]? = some p' → p'.1 ≠ q) ∧ ∃ r, wi = w3.drewN r) (fun i _ => k - (intOf i).toNat)
            case atStart => exact ⟨0, Nat.zero_le _, rfl, fun i p' h => by omega, 0, rfl⟩
            case round =>
              obtain ⟨j, hj, rfl, HD, r, rfl⟩ := hrel
              by_cases hjk : j < k
              · obtain ⟨p2, hp2⟩ := get_lt (l := l) (k := j) (by rw [← HN.out.1]; omega)
                have hbw3 : Below w.heap.size w w3 := below_any HB.out.1 (HV.out.1.trans (HB3.out.mono HV.out.1.size))
                obtain ⟨qb, qo, x', cap', hix2, d0, d1, _, _⟩ := sgs_atR (sgsR.below HA.out.1 hbw3) j p2 hp2
                obtain ⟨⟨y0, y1⟩, hx3⟩ := HV.out.2 w3 HB3.out
                obtain ⟨z0, -⟩ := hx3.four
                have hjki : (j : Int) < (k : Int) := by omega
                have HP2 : Hid (l[j]? = some p2) := hp2
                obtain ⟨q2, pl2⟩ := p2
                simp only at d0
                clear hx3 hbw3 hp2 d1
                by_cases heq : q2 = q
                · subst heq
                  have HE : Hid (∀ r, post (.returned (.int .i64 9)) (w3.drewN r)) := fun r => HBAD.out _ (fun h => (h HFR.out.symm).1 (by
                    have hm : (q2, pl2) ∈ l.take k := List.mem_of_getElem? (i := j) (by rw [List.getElem?_take, if_pos hjk]; exact HP2.out)
                    exact mem_seqs (p := (q2, pl2)) hm HCHK.out.1.1)) (below_drewN (HV.out.1.trans (HB3.out.mono HV.out.1.size)) r)
                  go_wp2
                  go_quiet (fail)
                  go_wp2
                  rw [World.drewN_drewN]
                  exact HE.out _
                · have hne : (q2 == q) = false := by simp [heq]
                  have HD2 : Hid (∀ i p', i < j + 1 → l[i]? = some p' → p'.1 ≠ q) := fun i p' h h' => by
                    by_cases e' : i = j
                    · subst e'
                      rw [HP2.out] at h'
                      rw [← Option.some.inj h']
                      exact heq
                    · exact HD.out i p' (by omega) h'
                  clear heq
                  go_wp2
                  go_quiet (fail)
                  go_wp2
                  go_roundw
                  case rel => exact ⟨j + 1, by omega, by go_num, HD2, _, rfl⟩
                  case measure => simp [intOf]; omega
              · obtain rfl : j = k := by omega
                have HJ2 : Hid (AG nx (l.take (j + 1)) ∧ Below W.heap.size W (w3.drewN r)) := ⟨HST.out.2 (fun _ => ⟨(fun hm => by
                  obtain ⟨i, p', hi, e'⟩ := seqs_mem hm
                  rw [List.getElem?_take] at hi
                  by_cases hij : i < j
                  · rw [if_pos hij] at hi
                    exact HD.out i p' hij hi e'
                  · rw [if_neg hij] at hi; cases hi), HCHK.out, by show q < nx; omega⟩), below_drewN (HV.out.1.trans (HB3.out.mono HV.out.1.size)) r⟩
                go_wp2
                go_roundw
                case rel => exact ⟨j + 1, by omega, by go_num, HJ2.out⟩
                case measure => simp [intOf]; omega
        · have hc0i : (ck == 0) = false := by simp [hc0]
          have HE0 : Hid (∀ w3, Below V.heap.size V w3 → post (.returned (.int .i64 9)) w3) := fun w3 h3 => HBAD.out w3 (fun h => hc0 (by rw [HCE.out]; exact cerr_ok (h HFR.out.symm).2.1)) (HV.out.1.trans (h3.mono HV.out.1.size))
          go_wp2_with fail
          refine HC3.mono ?_
          rintro e3 w3 ⟨rfl, hb3⟩
          have HE : Hid (post (.returned (.int .i64 9)) w3) := HE0.out w3 (HB2.out.trans (hb3.mono HB2.out.size))
          clear hb3 HC3 y0 y1
          go_wp2
          exact HE.out
    · obtain rfl : k = nh := by omega
      have HAG : Hid (AG nx l ∧ Below W.heap.size W wr) := by
        show _ ∧ _
        have := HJ.out
        rwa [HN.out.1, List.take_length] at this
      clear HJ hxr
      go_wp2
      go_loopw [7] (fun i wi => ∃ j : Nat, j ≤ no ∧ i = .int .i64 j ∧ Hid ((op.take j).all mayB = true ∧ Below W.heap.size W wi)) (fun i _ => no - (intOf i).toNat)
      case atStart => exact ⟨0, Nat.zero_le _, rfl, by simp, HAG.out.2⟩
      case round =>
        obtain ⟨j, hj, rfl, HJ⟩ := hrel
        obtain ⟨z0, z1, z2, z3, -⟩ := (HB.out.2.below HJ.out.2 HB.out.2.lt).four
        by_cases hjo : j < no
        · obtain ⟨t, ht⟩ := get_lt (l := op) (k := j) (by rw [← HN.out.2.2]; exact hjo)
          obtain ⟨tb, tof, tx', tcap, hix, k0, k1, k2, hA, hto, hti, _⟩ := bks_atR (bksR.below HA.out.2 (below_any HB.out.1 HJ.out.2)) j t ht
          have HC := rmay_any tx' tcap t (by obtain ⟨_, _, _, _, h1, _⟩ := hA.shape; exact h1) wr
          have hji : (j : Int) < (no : Int) := by omega
          have HT : Hid (op[j]? = some t) := ht
          obtain ⟨mb, hmb⟩ : ∃ mb, mb = mayB t := ⟨_, rfl⟩
          rw [← hmb] at HC
          have HMB : Hid (mb = mayB t) := hmb
          clear ht hA hto hti hmb
          cases mb with
          | true =>
            go_wp2_with fail
            refine HC.mono ?_
            rintro e2 w2 ⟨rfl, hb2⟩
            have HJ2 : Hid ((op.take (j + 1)).all mayB = true ∧ Below W.heap.size W w2) := ⟨take_step HJ.out.1 HT.out HMB.out.symm, HJ.out.2.trans (hb2.mono HJ.out.2.size)⟩
            clear hb2 z0 z1 z2 z3 k0 k1 k2 hix HC
            go_wp2
            go_roundw
            case rel => exact ⟨j + 1, by omega, by go_num, HJ2.out⟩
            case measure => simp [intOf]; omega
          | false =>
            go_wp2_with fail
            refine HC.mono ?_
            rintro e2 w2 ⟨rfl, hb2⟩
            have HE : Hid (post (.returned (.int .i64 9)) w2) := HP9.out w2 (fun hok => by
              have h1 := hok.may
              rw [all_not HT.out HMB.out.symm] at h1
              cases h1) (below_any HB.out.1 (HJ.out.2.trans (hb2.mono HJ.out.2.size)))
            clear hb2 z0 z1 z2 z3 k0 k1 k2 hix HC
            go_wp2
            exact HE.out
        · obtain rfl : j = no := by omega
          have HE : Hid (post (.returned (.int .i64 0)) wr) := HP0.out wr ⟨⟨by have := HN.out.1; simp only; omega, by have := HN.out.1; simp only; omega⟩, by have := HN.out; simp only; omega, ⟨by simp only; omega, by simp only; omega⟩, by have := HN.out.2.2; simp only; omega, by have h1 := HJ.out.1; rwa [HN.out.2.2, List.take_length] at h1, HAG.out.1.1, HAG.out.1.2⟩ (below_any HB.out.1 HJ.out.2)
          go_wp2
          exact HE.out

end Go.Proofs.Ytkpckadicjdieab
