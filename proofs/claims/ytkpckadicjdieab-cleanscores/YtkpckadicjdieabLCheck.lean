/-
  What the program's Check answers, for every store.
-/
import Derived.Test.YtkpckadicjdieabLMath
import Derived.Test.YtkpckadicjdieabSMap
import Derived.Deep.DeepCutAuto
namespace Go.Proofs.Ytkpckadicjdieab
open Go.RowKit

set_option maxHeartbeats 400000 in
theorem isFree_any (q : Int) (a : Option Addr) (n c : Nat) (w : World) : Calls Try.prog 41 #[.agg #[.int .i64 q, .slice a n c]] w fun e w' => e = .returned (.bool (decide (q = 0) && decide (n = 0))) ∧ Below w.heap.size w w' := by
  have hl1 := run_len Try.underlying29 a n c
  have HB : Hid (Below w.heap.size w (w.alloc (.cells #[.int .i64 q, .slice a n c] 45))) := (Below.refl _ w).alloc (Nat.le_refl _) _
  by_cases h1 : q = 0
  · subst h1
    by_cases h2 : n = 0
    · subst h2
      go_enter Try.func41, Try.ntmps41
      go_wp2
      go_ret
      exact ⟨rfl, HB.out⟩
    · have h2i : ((n : Int) == 0) = false := by simp; omega
      have e2 : decide (n = 0) = false := decide_eq_false h2
      rw [e2]
      clear h2 e2
      go_enter Try.func41, Try.ntmps41
      go_wp2
      go_ret
      exact ⟨by simp, HB.out⟩
  · have h1i : (q == 0) = false := by simp [h1]
    have e1 : decide (q = 0) = false := decide_eq_false h1
    rw [e1]
    clear h1 e1
    go_enter Try.func41, Try.ntmps41
    go_wp2
    go_ret
    exact ⟨by simp, HB.out⟩

set_option maxRecDepth 100000 in
set_option maxHeartbeats 400000 in
theorem mayStand_any (n0 : Nat) (v : Value) (l : List Bk) (w : World) (h : bksN.lies n0 w [v] l) : Calls Try.prog 39 #[v] w fun e w' => e = .returned (.bool (chkB (1, l))) ∧ Below w.heap.size w w' := by
  have HC := check_any n0 [.int .i64 1, v] (1, l) w (sg_mkN (s := (1, l)) h ⟨by show _ ≤ (1 : Int); omega, by show (1 : Int) ≤ _; omega⟩)
  obtain ⟨a, c, e0, _⟩ := Shape.list_len (S := bkN) (ht := Try.underlying29) (hc := cells29) h
  obtain rfl : v = _ := by simpa using e0
  unfold cerr at HC
  clear h e0
  generalize l.length = n at HC ⊢
  cases hb : chkB (1, l)
  · rw [hb] at HC
    clear hb
    go_enter Try.func39, Try.ntmps39
    go_wp2_with fail
    refine HC.mono ?_
    rintro e w2 ⟨rfl, hb2⟩
    go_wp2
    go_ret
    exact ⟨rfl, hb2⟩
  · rw [hb] at HC
    clear hb
    go_enter Try.func39, Try.ntmps39
    go_wp2_with fail
    refine HC.mono ?_
    rintro e w2 ⟨rfl, hb2⟩
    go_wp2
    go_ret
    exact ⟨rfl, hb2⟩

/-- Which segments may stand together. -/
def AG (nx : Int) (l : List Sg) : Prop := (∀ p ∈ l, freeB p = false → Chk p ∧ p.1 < nx) ∧ (seqs l).Nodup
theorem AG.nil (nx : Int) : AG nx [] := ⟨(fun _ h => by cases h), List.nodup_nil⟩
theorem AG.take {nx : Int} {l : List Sg} (h : AG nx l) (k : Nat) : AG nx (l.take k) := ⟨fun p hp => h.1 p (List.mem_of_mem_take hp), nodup_of_take h.2⟩
theorem AG.step {nx : Int} {l : List Sg} {k : Nat} {p : Sg} (hp : l[k]? = some p) : AG nx (l.take (k + 1)) ↔ AG nx (l.take k) ∧ (freeB p = false → p.1 ∉ seqs (l.take k) ∧ Chk p ∧ p.1 < nx) := by
  unfold AG
  rw [seqs_take hp, take_snoc hp]
  constructor
  · rintro ⟨h1, h2⟩
    refine ⟨⟨fun x hx => h1 x (List.mem_append_left _ hx), ?_⟩, fun hf => ?_⟩
    · by_cases c : freeB p = true
      · rwa [if_pos c] at h2
      · rw [if_neg c] at h2
        exact (List.nodup_append.1 h2).1
    · have := h1 p (by simp) hf
      rw [if_neg (by rw [hf]; simp)] at h2
      refine ⟨fun hm => ?_, this⟩
      exact (List.nodup_append.1 h2).2.2 _ hm p.1 (by simp) rfl
  · rintro ⟨⟨h1, h2⟩, h3⟩
    refine ⟨fun x hx hf => ?_, ?_⟩
    · rcases List.mem_append.1 hx with hx | hx
      · exact h1 x hx hf
      · obtain rfl := List.mem_singleton.1 hx
        exact (h3 hf).2
    · by_cases c : freeB p = true
      · rwa [if_pos c]
      · rw [if_neg c]
        refine List.nodup_append.2 ⟨h2, by simp, fun a ha b hb e => ?_⟩
        obtain rfl := List.mem_singleton.1 hb
        subst e
        exact (h3 (by simpa using c)).1 ha
/-- Counts of a list in which none is twice. -/
def ind (ks : List Int) (x : Int) : Int := if x ∈ ks then 1 else 0

/-- What the closure of Check goes on: the map, and the store's own variable. -/
structure KS (w : World) (b Bm Bs : Nat) (cs : Array Value) (ks : List Int) : Prop where
  im : IM w b ks (ind ks)
  bm : Box w Bm 90 #[.map (some b)]
  bs : Box w Bs 31 cs
  nm : Bm ≠ b
  ns : Bs ≠ b
theorem KS.below {w w' : World} {b Bm Bs : Nat} {cs : Array Value} {ks : List Int} (h : KS w b Bm Bs cs ks) (hb : Below w.heap.size w w') : KS w' b Bm Bs cs ks := ⟨h.im.below hb, h.bm.below hb h.bm.lt, h.bs.below hb h.bs.lt, h.nm, h.ns⟩
theorem grown_below {w w' : World} (h : Below w.heap.size w w') (r : Option Nat) : w.grownBy w' r := ⟨h.os, h.tape, h.output, h.size, fun j hj _ => h.block j hj⟩
theorem grown_trans {a b c : World} {r : Option Nat} (h : a.grownBy b r) (k : b.grownBy c r) : a.grownBy c r := ⟨k.os.trans h.os, k.tape.trans h.tape, k.output.trans h.output, Nat.le_trans h.size k.size, fun j hj hn => (k.block j (Nat.lt_of_lt_of_le hj h.size) hn).trans (h.block j hj hn)⟩

def wrongB (nx : Int) (ks : List Int) (p : Sg) : Bool := !freeB p && (decide (p.1 ∈ ks) || decide (nx ≤ p.1) || !chkB p)

set_option maxRecDepth 100000 in
set_option maxHeartbeats 4000000 in
theorem wrong_any (n0 : Nat) (us : List Value) (p : Sg) (nx : Int) (v1 v2 v3 : Value) (b Bm Bs : Nat) (ks : List Int) (w : World) (h : sgN.lies n0 w us p) (hK : KS w b Bm Bs #[v1, v2, v3, .int .i64 nx] ks) (hl : ks.length ≤ 64) (hnb : ∀ w', w.grownBy w' (some b) → sgN.lies n0 w' us p) :
    Calls Try.prog 40 #[.agg us.toArray, .pointer (some ⟨Bm, 0, none⟩), .pointer (some ⟨Bs, 0, none⟩)] w fun e w' => e = .returned (.bool (wrongB nx ks p)) ∧ w.grownBy w' (some b) ∧ (wrongB nx ks p = false → KS w' b Bm Bs #[v1, v2, v3, .int .i64 nx] (if freeB p = true then ks else ks ++ [p.1])) := by
  obtain ⟨a, c, rfl, hL, hi, hm⟩ := sg_viewN h
  obtain ⟨q, l⟩ := p
  simp only at hL hi hm hnb ⊢
  obtain ⟨n, hn'⟩ : ∃ n, n = l.length := ⟨_, rfl⟩
  have HF0 : Hid (freeB (q, l) = (decide (q = 0) && decide (n = 0))) := by show freeB (q, l) = _; rw [hn']; rfl
  rw [← hn'] at hnb ⊢
  obtain ⟨V, hV⟩ : ∃ V, V = w.alloc (.cells #[.int .i64 q, .slice a n c] 45) := ⟨_, rfl⟩
  have hbV : Below w.heap.size w V := by rw [hV]; exact (Below.refl _ _).alloc (Nat.le_refl _) _
  have hxV : Box V w.heap.size 45 #[.int .i64 q, .slice a n c] := by rw [hV]; exact Box.new _ _ _
  have HC := isFree_any q a n c V
  have HV : Hid (Below w.heap.size w V ∧ Box V w.heap.size 45 #[.int .i64 q, .slice a n c]) := ⟨hbV, hxV⟩
  have HK : Hid (KS w b Bm Bs #[v1, v2, v3, .int .i64 nx] ks) := hK
  have HNB : Hid (∀ w', w.grownBy w' (some b) → sgN.lies n0 w' [.int .i64 q, .slice a n c] (q, l)) := hnb
  obtain ⟨fr, hfr⟩ : ∃ fr, fr = freeB (q, l) := ⟨_, rfl⟩
  have HFR : Hid (fr = freeB (q, l)) := hfr
  rw [← HF0.out, ← hfr] at HC
  obtain ⟨x0, x1, -⟩ := hxV.two
  rw [hV] at x0 x1
  clear h hL hm hbV hxV hK hnb hn' hfr
  obtain ⟨post, hpost⟩ : ∃ post : Ending → World → Prop, post = fun e w' => e = .returned (.bool (wrongB nx ks (q, l))) ∧ w.grownBy w' (some b) ∧ (wrongB nx ks (q, l) = false → KS w' b Bm Bs #[v1, v2, v3, .int .i64 nx] (if freeB (q, l) = true then ks else ks ++ [q])) := ⟨_, rfl⟩
  have HPo : Hid (∀ r w', wrongB nx ks (q, l) = r → w.grownBy w' (some b) → (r = false → KS w' b Bm Bs #[v1, v2, v3, .int .i64 nx] (if freeB (q, l) = true then ks else ks ++ [q])) → post (.returned (.bool r)) w') := fun r w' h1 h2 h3 => by rw [hpost]; exact ⟨by rw [h1], h2, fun h => h3 (by rw [← h1]; exact h)⟩
  rw [← hpost]
  clear hpost
  cases fr with
  | true =>
    go_enter Try.func40, Try.ntmps40
    go_wp2_with fail
    rw [← hV]
    clear hV x0 x1
    refine HC.mono ?_
    rintro e w2 ⟨rfl, hb2⟩
    have hbw := below_any HV.out.1 hb2
    have HE : Hid (post (.returned (.bool false)) w2) := HPo.out _ _ (by unfold wrongB; rw [← HFR.out]; rfl) (grown_below hbw _) (fun _ => by rw [← HFR.out, if_pos rfl]; exact HK.out.below hbw)
    clear hb2 hbw
    go_wp2
    exact HE.out
  | false =>
    go_enter Try.func40, Try.ntmps40
    go_wp2_with fail
    rw [← hV]
    clear hV x0 x1
    refine HC.mono ?_
    rintro e w2 ⟨rfl, hb2⟩
    have hbw := below_any HV.out.1 hb2
    have hK2 := HK.out.below hbw
    have hx2 := HV.out.2.below hb2 HV.out.2.lt
    obtain ⟨hlk, hM⟩ := hK2.im.look hi
    have hwr : IntKind.i64.wrap (ind ks q + 1) = ind ks q + 1 := by unfold ind; split <;> rfl
    obtain ⟨w3, hup, hI3, hg3⟩ := hK2.im.put (x := ind ks q + 1) hi (by unfold ind; split <;> exact ⟨by decide, by decide⟩) (by omega)
    have hx3 : Box w3 w.heap.size 45 #[.int .i64 q, .slice a n c] := hx2.grown hg3 (by have := HK.out.im.lt; simp; omega)
    have hm3 := hK2.bm.grown hg3 (by simpa using hK2.nm)
    have hs3 := hK2.bs.grown hg3 (by simpa using hK2.ns)
    obtain ⟨hlk3, _⟩ := hI3.look hi
    have hgw : w.grownBy w3 (some b) := grown_trans (grown_below hbw _) hg3
    have HC3 := check_any n0 [.int .i64 q, .slice a n c] (q, l) w3 (HNB.out w3 hgw)
    have hm2 := hK2.bm.cell 0 rfl
    obtain ⟨y0, y1, -⟩ := hx2.two
    obtain ⟨z0, z1, -⟩ := hx3.two
    have hmm3 := hm3.cell 0 rfl
    obtain ⟨-, -, -, hs4, -⟩ := hs3.four
    have huq : updI (ind ks) q (ind ks q + 1) q = ind ks q + 1 := by unfold updI; rw [if_pos rfl]
    rw [huq] at hlk3
    have H3 : Hid (w.grownBy w3 (some b) ∧ IM w3 b (if q ∈ ks then ks else ks ++ [q]) (updI (ind ks) q (ind ks q + 1)) ∧ Box w3 Bm 90 #[.map (some b)] ∧ Box w3 Bs 31 #[v1, v2, v3, .int .i64 nx]) := ⟨hgw, hI3, hm3, hs3⟩
    clear hb2 hbw hK2 hx2 hM hI3 hg3 hx3 hm3 hs3 hgw huq hi HC
    by_cases hin : q ∈ ks
    · have e1 : ind ks q = 1 := if_pos hin
      rw [e1] at hlk hup hlk3
      simp only [Int.reduceAdd] at hup hlk3
      clear hwr
      have HE : Hid (post (.returned (.bool true)) w3) := HPo.out _ _ (by unfold wrongB; rw [← HFR.out]; simp [hin]) H3.out.1 (fun h => by cases h)
      clear e1 HC3
      go_wp2
      exact HE.out
    · have e1 : ind ks q = 0 := if_neg hin
      rw [e1] at hlk hup hlk3
      simp only [Int.zero_add] at hup hlk3
      clear hwr
      by_cases hge : nx ≤ q
      · have HE : Hid (post (.returned (.bool true)) w3) := HPo.out _ _ (by unfold wrongB; rw [← HFR.out]; simp [hge]) H3.out.1 (fun h => by cases h)
        clear e1 HC3 hin
        go_wp2
        exact HE.out
      · have HCK : Hid (wrongB nx ks (q, l) = !chkB (q, l)) := by
          show wrongB nx ks (q, l) = _
          unfold wrongB
          rw [← HFR.out]
          simp [hin, hge]
        unfold cerr at HC3
        obtain ⟨ck, hck⟩ : ∃ ck, ck = chkB (q, l) := ⟨_, rfl⟩
        have HCK : Hid (wrongB nx ks (q, l) = !ck) := by show wrongB nx ks (q, l) = _; rw [hck]; exact HCK.out
        rw [← hck] at HC3
        have hIK : ∀ w4, Below w3.heap.size w3 w4 → KS w4 b Bm Bs #[v1, v2, v3, .int .i64 nx] (ks ++ [q]) := fun w4 hb => by
          refine KS.below ⟨?_, H3.out.2.2.1, H3.out.2.2.2, HK.out.nm, HK.out.ns⟩ hb
          have h1 := H3.out.2.1
          rw [if_neg hin] at h1
          have : updI (ind ks) q (ind ks q + 1) = ind (ks ++ [q]) := by
            funext x
            unfold updI
            rw [e1]
            unfold ind
            by_cases hx : x = q
            · simp [hx]
            · simp [hx]
          rwa [this] at h1
        have HIK : Hid (∀ w4, Below w3.heap.size w3 w4 → KS w4 b Bm Bs #[v1, v2, v3, .int .i64 nx] (ks ++ [q])) := hIK
        have hlt : ¬ nx ≤ q := hge
        have hltd : decide (nx ≤ q) = false := decide_eq_false hge
        clear e1 hin hIK hck hge
        cases ck with
        | true =>
          go_wp2_with fail
          refine HC3.mono ?_
          rintro e w4 ⟨rfl, hb4⟩
          have HE : Hid (post (.returned (.bool false)) w4) := HPo.out _ _ HCK.out (grown_trans H3.out.1 (grown_below hb4 _)) (fun _ => by rw [← HFR.out, if_neg (by simp)]; exact HIK.out w4 hb4)
          clear hb4
          go_wp2
          exact HE.out
        | false =>
          go_wp2_with fail
          refine HC3.mono ?_
          rintro e w4 ⟨rfl, hb4⟩
          have HE : Hid (post (.returned (.bool true)) w4) := HPo.out _ _ HCK.out (grown_trans H3.out.1 (grown_below hb4 _)) (fun h => by cases h)
          clear hb4
          go_wp2
          exact HE.out

end Go.Proofs.Ytkpckadicjdieab
