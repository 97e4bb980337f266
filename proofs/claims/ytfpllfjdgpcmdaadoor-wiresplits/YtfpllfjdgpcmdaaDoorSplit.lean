/-
  What readJoined and Split make of octets.
-/
import Derived.Test.YtfpllfjdgpcmdaaDoorJoined
namespace Go.Proofs.YtfpllfjdgpcmdaaDoor
open Go.RowKit

theorem joinR_len {q t r : List Int} (h : joinR q = .ok (t, r)) : r.length + t.length + 2 = q.length := by
  match q, h with
  | [], h => cases h
  | [_], h => cases h
  | a :: b :: s, h =>
    have h' : takeR (a * 256 + b).toNat s = .ok (t, r) := h
    unfold takeR at h'
    split at h'
    · cases h'
    obtain ⟨h1, h2⟩ := Prod.mk.inj (Except.ok.inj h')
    subst h1; subst h2
    simp only [List.length_take, List.length_drop, List.length_cons]
    omega

theorem spl_bad {f : Nat} {q : List Int} (ts : List (List Int)) {k : Int} (hq : q ≠ []) (hf : q.length ≤ f) (h : joinR q = .error k) : (splF f q).map (ts ++ ·) = .error k := by
  match q, f, hq, hf, h with
  | c :: q, f + 1, _, _, h => rw [splF_cons, h]; rfl
theorem spl_got {f : Nat} {q : List Int} (ts : List (List Int)) {t r : List Int} (hq : q ≠ []) (hf : q.length ≤ f) (h : joinR q = .ok (t, r)) : ∃ g, (splF f q).map (ts ++ ·) = (splF g r).map ((ts ++ [t]) ++ ·) ∧ r.length ≤ g := by
  have hl := joinR_len h
  match q, f, hq, hf, h with
  | c :: q, f + 1, _, hf, h =>
    refine ⟨f, ?_, by simp only [List.length_cons] at hl hf; omega⟩
    rw [splF_cons, h]
    simp only [Rd.then, Rd.map]
    cases splF f r with
    | error e => rfl
    | ok pp => obtain ⟨b, s⟩ := pp; simp

theorem take_more {α : Type} (ts : List α) (t : α) (n : Nat) (h : ts.length < n) : (ts ++ [t]).take n = ts.take n ++ [t] := by
  rw [List.take_of_length_le (by simp; omega), List.take_of_length_le (by omega)]
theorem take_same {α : Type} (ts : List α) (t : α) (n : Nat) (h : n ≤ ts.length) : (ts ++ [t]).take n = ts.take n := by
  rw [List.take_append_of_le_length h]

set_option maxRecDepth 100000 in
set_option maxHeartbeats 4000000 in
theorem readJoined_any (w0 : World) (R : Nat) (l : List Int) (w : World) (h : Rdr w0 R l w) (hlm : l.length ≤ 140737488355328) :
    Calls Tryd.prog 46 #[.pointer (some ⟨R, 0, none⟩)] w fun e w' => Told w0 R w (.slice none 0 0) (fun w' v a => textsS.owns w.heap.size w' [v] a) (splitR l) e w' := by
  obtain ⟨i0, hi, hz0, hz1, hz2⟩ := info_parts info26
  have HRW : Hid (R < w.heap.size) := h.lt
  have HRD : Hid (Rdr w0 R l w) := h
  obtain ⟨X, hX⟩ : ∃ X, X = splitR l := ⟨_, rfl⟩
  rw [← hX]
  have HX0 : Hid (X = (splR l).then fun ts _ => if 4096 < ts.length then .error 3 else .ok (ts, [])) := hX
  obtain ⟨N, hN⟩ : ∃ N, N = l.length := ⟨_, rfl⟩
  have HN : Hid (N = l.length) := hN
  rw [← hN] at hlm
  clear h hX hN
  go_enter Tryd.func46, Tryd.ntmps46
  go_wp2
  go_loopw [4, 5] (fun o i wr => ∃ (j m : Nat) (ts : List (List Int)) (q : List Int) (f : Nat) (a : Option Addr) (cc : Nat), i = .int .i64 j ∧ o = .slice a m cc ∧ 2 * j ≤ N ∧ m ≤ 4096 ∧ Hid (ts.length = j ∧ m = (ts.take 4096).length ∧ splR l = (splF f q).map (ts ++ ·) ∧ q.length ≤ f ∧ 2 * j + q.length ≤ N ∧ textsS.owns w.heap.size wr [.slice a m cc] (ts.take 4096) ∧ Rdr w0 R q wr ∧ w.grownBy wr (some R))) (fun _ i _ => N - (intOf i).toNat)
  case atStart =>
    refine ⟨0, 0, [], l, l.length, none, 0, rfl, rfl, by omega, by omega, rfl, rfl, ?_, Nat.le_refl _, by have := HN.out; omega, Shape.list_nil bytesS 23 Tryd.underlying23 cells23 _ _, HRD.out, grown_refl _ _⟩
    show splF l.length l = _
    cases splF l.length l <;> rfl
  case round =>
    obtain ⟨j, m, ts, q, f, a, cc, rfl, rfl, hj, hm4, HK⟩ := hrel
    obtain ⟨aq, cq, hBq, _⟩ := HK.out.2.2.2.2.2.2.1.ex
    have gq := hBq.cell 0 (u := .slice aq q.length cq) rfl
    have hlq := run_len Tryd.underlying26 aq q.length cq
    clear hBq
    by_cases hq : q = []
    · subst hq
      simp only [List.length_nil] at gq hlq
      have HS : Hid (X = if 4096 < j then .error 3 else .ok (ts, [])) := by
        show _ = _
        rw [HX0.out, HK.out.2.2.1, splF_nil]
        simp only [Rd.map, Rd.then, List.append_nil, HK.out.1]
      by_cases h4 : 4096 < j
      · have h4i : (4096 : Int) < (j : Int) := by omega
        have HX : Hid (X = .error 3) := by show _ = _; rw [HS.out, if_pos h4]
        clear HS HX0
        go_wp2
        go_ret2
        rw [HX.out]
        exact ⟨HK.out.2.2.2.2.2.2.2, rfl⟩
      · have h4i : ¬ (4096 : Int) < (j : Int) := by omega
        have HX : Hid (X = .ok (ts, [])) := by show _ = _; rw [HS.out, if_neg h4]
        have ht : ts.take 4096 = ts := List.take_of_length_le (by rw [HK.out.1]; omega)
        rw [ht] at HK
        clear HS HX0 ht
        go_wp2
        go_ret2
        rw [HX.out]
        exact ⟨HK.out.2.2.2.2.2.2.2, _, rfl, HK.out.2.2.2.2.2.1, HK.out.2.2.2.2.2.2.1⟩
    · have hq0 : (0 : Int) < (q.length : Int) := by
        have := List.length_pos_iff.2 hq
        omega
      have HJ := joined_any w0 R q wr HK.out.2.2.2.2.2.2.1
      obtain ⟨ql, hql⟩ : ∃ y, y = q.length := ⟨_, rfl⟩
      rw [← hql] at gq hlq hq0
      cases hx : joinR q with
      | error k =>
        rw [hx] at HJ
        have HX : Hid (X = .error k) := by
          show _ = _
          rw [HX0.out, HK.out.2.2.1, spl_bad ts hq HK.out.2.2.2.1 hx]
          rfl
        clear hx HX0 hql hq
        go_wp2_with fail
        refine HJ.mono ?_
        rintro e w2 ⟨hg, rfl⟩
        have HG : Hid (w.grownBy w2 (some R)) := grown_trans HK.out.2.2.2.2.2.2.2 hg
        clear hg HJ gq
        go_wp2
        go_ret2
        rw [HX.out]
        exact ⟨HG.out, rfl⟩
      | ok pp =>
        obtain ⟨t, r⟩ := pp
        rw [hx] at HJ
        obtain ⟨g, hS1, hS2⟩ := spl_got ts hq HK.out.2.2.2.1 hx
        have hl := joinR_len hx
        have HS : Hid (splR l = (splF g r).map ((ts ++ [t]) ++ ·) ∧ r.length ≤ g ∧ (ts ++ [t]).length = j + 1 ∧ 2 * (j + 1) + r.length ≤ N) := by
          refine ⟨?_, hS2, by rw [List.length_append, HK.out.1]; rfl, ?_⟩
          · rw [HK.out.2.2.1, hS1]
          · have := HK.out.2.2.2.2.1
            omega
        have hjN : 2 * (j + 1) ≤ N := by have := HS.out.2.2.2; omega
        have htl : t.length ≤ N := by
          have := HK.out.2.2.2.2.1
          omega
        clear hx hql hq hS1 hS2 hl
        go_wp2_with fail
        refine HJ.mono ?_
        rintro e w2 ⟨hg, v, rfl, hA, hR⟩
        have hs2 : Same w.heap.size wr w2 := fun k hk hk2 => hg.block k hk2 (fun e => by have := HRW.out; have := Option.some.inj e; omega)
        have HO2 : Hid (textsS.owns w.heap.size w2 [.slice a m cc] (ts.take 4096) ∧ Rdr w0 R r w2 ∧ w.grownBy w2 (some R)) := ⟨textsS.osame HK.out.2.2.2.2.2.1 hs2, hR, grown_trans HK.out.2.2.2.2.2.2.2 hg⟩
        obtain ⟨a2, c2, rfl, _⟩ := hA.shape
        by_cases h4 : j < 4096
        · have h4i : (j : Int) < 4096 := by omega
          have HC := clone_any 0 (.slice a2 t.length c2) t w2 hA (by omega)
          have hmj : m = j := by rw [HK.out.2.1, List.length_take, HK.out.1]; omega
          subst hmj
          obtain ⟨tl, htl2⟩ : ∃ y, y = t.length := ⟨_, rfl⟩
          rw [← htl2] at HC ⊢
          clear hg HJ hA hR hs2 gq htl2
          go_wp2_with fail
          refine HC.mono ?_
          rintro e w3 ⟨⟨v3, rfl, ho3⟩, hb3⟩
          obtain ⟨ux, uc, rfl⟩ := ho3.shape
          obtain ⟨ln, hln⟩ : ∃ y, y = t.length := ⟨_, rfl⟩
          rw [← hln] at ho3 ⊢
          obtain ⟨v', vss, hv, hown0, hE0⟩ := textsS.obelow HO2.out.1 hb3
          have hvv : Value.slice a m cc = v' := by simpa using hv
          subst hvv
          have HE0 : Hid (Each (bytesS.owns w.heap.size w3) vss (ts.take 4096)) := hE0
          have hlt4 : (ts.take 4096).length = m := HK.out.2.1.symm
          have HOW : Hid (w3.ownsRow w.heap.size 26 1 (.slice a m cc) m vss.flatten) := by
            have h1 : w3.ownsRow w.heap.size 26 1 (.slice a m cc) (ts.take 4096).length vss.flatten := hown0
            rwa [hlt4] at h1
          have HO3 : Hid (Rdr w0 R r w3 ∧ w.grownBy w3 (some R) ∧ Own1 w2.heap.size w3 (.slice ux ln uc) t) := ⟨HO2.out.2.1.below hb3 HO2.out.2.1.lt, grown_trans HO2.out.2.2 (grown_below hb3), ho3⟩
          have hws := HO3.out.2.1.size
          have hw2 := HO2.out.2.2.size
          clear hv hown0 hE0 hb3 ho3 hln HC hlt4
          go_wp2_with (at_builtin; refine wpList_append_lies _ (by rfl) _ _ 23 (by rfl) w.heap.size 26 i0 _ 1 24 Tryd.underlying23 hi hz0 hz1 hz2 rfl (by omega) _ m _ (by rfl) (HOW.out.alloc _) ⟨w3.heap.size, 0, none⟩ 1 1 [.slice ux ln uc] (by rfl) (by rfl) (World.news_of_block (cs := #[.slice ux ln uc]) (t := 26) (fr := (0, 0)) (heap_alloc_new w3 _)) (by simp [Value.oneCell']) (by omega) (by unfold maxLen; omega) (by omega) (by simp; omega) (w3.heap.size + 1) (by simp) ?_; intro gg cap3 w4 hown4 hgrow4 hat hltg)
          have hb4 : Below w.heap.size w3 w4 := ((Below.refl _ w3).alloc hws _).grown hgrow4 (by simp; omega) (fun i hi => (HOW.out.lt i hi).1)
          have HE : Hid ((ts ++ [t]).length = m + 1 ∧ m + 1 = ((ts ++ [t]).take 4096).length ∧ splR l = (splF g r).map ((ts ++ [t]) ++ ·) ∧ r.length ≤ g ∧ 2 * (m + 1) + r.length ≤ N ∧ textsS.owns w.heap.size w4 [.slice (some ⟨gg, 0, none⟩) (m + 1) cap3] ((ts ++ [t]).take 4096) ∧ Rdr w0 R r w4 ∧ w.grownBy w4 (some R)) := by
            have e := take_more ts t 4096 (by rw [HK.out.1]; omega)
            rw [e]
            refine ⟨HS.out.2.2.1, by rw [List.length_append, ← HK.out.2.1]; rfl, HS.out.1, HS.out.2.1, HS.out.2.2.2, ?_, HO3.out.1.below hb4 HRW.out, grown_append HO3.out.2.1 hb4⟩
            refine Shape.list_push (S := bytesS) (ht := Tryd.underlying23) (hc := cells23) (by decide) (HE0.out.mono fun _ _ h => bytesS.osame h (.alloc _ _ _)) (by rw [← HK.out.2.1]; exact HOW.out.alloc _) (bytesS.oweaken (bytesS.osame HO3.out.2.2 (.alloc _ _ _)) hw2) hgrow4 ?_
            rw [← HK.out.2.1]
            exact hown4
          clear hown4 hgrow4 hat hltg hb4
          go_wp2
          go_roundw
          case rel => exact ⟨m + 1, m + 1, ts ++ [t], r, g, _, _, by go_num, rfl, hjN, by omega, HE⟩
          case measure => simp [intOf]; omega
        · have h4i : ¬ (j : Int) < 4096 := by omega
          have HE : Hid ((ts ++ [t]).length = j + 1 ∧ m = ((ts ++ [t]).take 4096).length ∧ splR l = (splF g r).map ((ts ++ [t]) ++ ·) ∧ r.length ≤ g ∧ 2 * (j + 1) + r.length ≤ N ∧ textsS.owns w.heap.size w2 [.slice a m cc] ((ts ++ [t]).take 4096) ∧ Rdr w0 R r w2 ∧ w.grownBy w2 (some R)) := by
            have e := take_same ts t 4096 (by rw [HK.out.1]; omega)
            rw [e]
            exact ⟨HS.out.2.2.1, HK.out.2.1, HS.out.1, HS.out.2.1, HS.out.2.2.2, HO2.out⟩
          clear hg HJ hA hR hs2 gq
          go_wp2
          go_roundw
          case rel => exact ⟨j + 1, m, ts ++ [t], r, g, a, cc, by go_num, rfl, hjN, hm4, HE⟩
          case measure => simp [intOf]; omega

/-- Split's error, and its texts. -/
def rsE : Rd (List (List Int)) → Int
  | .error k => k
  | .ok (_, _) => 0
def rsV : Rd (List (List Int)) → List (List Int)
  | .error _ => []
  | .ok (ts, _) => ts
def errS : Rd (List (List Int)) → Value
  | .error k => faultW k
  | .ok (_, _) => .nilIface
theorem numberOf_split (x : Rd (List (List Int))) (w : World) (hg : Glob w) : Calls Tryd.prog 36 #[errS x] w fun e w' => e = .returned (.int .i64 (rsE x)) ∧ Below w.heap.size w w' := by
  cases x with
  | error k => exact numberOf_fault k w hg
  | ok pp => obtain ⟨a, l⟩ := pp; exact numberOf_nil w
theorem readJoined_told (w0 : World) (R : Nat) (l : List Int) (w : World) (h : Rdr w0 R l w) (hlm : l.length ≤ 140737488355328) :
    Calls Tryd.prog 46 #[.pointer (some ⟨R, 0, none⟩)] w fun e w' => w.grownBy w' (some R) ∧ ∃ a c, e = .returned (.tuple #[.slice a (rsV (splitR l)).length c, errS (splitR l)]) ∧ textsS.owns w.heap.size w' [.slice a (rsV (splitR l)).length c] (rsV (splitR l)) := by
  refine (readJoined_any w0 R l w h hlm).mono ?_
  intro e w' ⟨hg, hm⟩
  cases hx : splitR l with
  | error k =>
    rw [hx] at hm
    exact ⟨hg, _, _, hm, Shape.list_nil bytesS 23 Tryd.underlying23 cells23 _ _⟩
  | ok pp =>
    obtain ⟨r, q⟩ := pp
    rw [hx] at hm
    obtain ⟨v, he, ho, _⟩ := hm
    obtain ⟨ax, cx, _, hv, _⟩ := texts_own ho
    obtain rfl : v = _ := by simpa using hv
    exact ⟨hg, ax, cx, he, ho⟩

set_option maxRecDepth 100000 in
set_option maxHeartbeats 1000000 in
theorem split_any (n0 : Nat) (v : Value) (l : List Int) (w : World) (h : Arg n0 w v l) (hs : l.length ≤ 140737488355328) (hg : Glob w) :
    Calls Tryd.prog 24 #[v] w fun e w' => (∃ a c, e = .returned (.tuple #[.slice a (rsV (splitR l)).length c, .int .i64 (rsE (splitR l))]) ∧ textsS.owns w.heap.size w' [.slice a (rsV (splitR l)).length c] (rsV (splitR l))) ∧ Below w.heap.size w w' := by
  obtain ⟨a0, c0, rfl, _⟩ := h.shape
  obtain ⟨V, hV⟩ : ∃ V, V = w.alloc (.cells #[.slice a0 l.length c0] 69) := ⟨_, rfl⟩
  have hbV : Below w.heap.size w V := by rw [hV]; exact (Below.refl _ w).alloc (Nat.le_refl _) _
  have hRd : Rdr w w.heap.size l V := ⟨⟨a0, c0, by rw [hV]; exact Box.new w 69 _, h.weaken (Nat.zero_le _)⟩, hbV, Nat.le_refl _⟩
  have HR := readJoined_told w w.heap.size l V hRd hs
  obtain ⟨X, hX⟩ : ∃ X, X = splitR l := ⟨_, rfl⟩
  rw [← hX] at HR ⊢
  obtain ⟨ln, hln⟩ : ∃ y, y = l.length := ⟨_, rfl⟩
  rw [← hln] at hV ⊢
  have HW : Hid (Below w.heap.size w V ∧ Glob w ∧ w.heap.size < V.heap.size) := ⟨hbV, hg, hRd.lt⟩
  clear h hs hg hbV hRd hX hln
  go_enter Tryd.func24, Tryd.ntmps24
  go_wp2_with fail
  rw [← hV]
  clear hV
  refine HR.mono ?_
  rintro e w2 ⟨hgr, a, c, rfl, ho2⟩
  have hb2 : Below w.heap.size w w2 := HW.out.1.grown hgr HW.out.1.size (fun j hj => by have := Option.some.inj hj; omega)
  have HN := numberOf_split X w2 (HW.out.2.1.below hb2 HW.out.2.1.lt)
  have HE : Hid (Below w.heap.size w w2 ∧ textsS.owns V.heap.size w2 [.slice a (rsV X).length c] (rsV X)) := ⟨hb2, ho2⟩
  obtain ⟨k, hk⟩ : ∃ y, y = (rsV X).length := ⟨_, rfl⟩
  have HK : Hid (k = (rsV X).length) := hk
  rw [← hk] at HE ⊢
  obtain ⟨ev, hev⟩ : ∃ ev, ev = errS X := ⟨_, rfl⟩
  rw [← hev] at HN ⊢
  obtain ⟨ne, hne⟩ : ∃ ne, ne = rsE X := ⟨_, rfl⟩
  have HNE : Hid (ne = rsE X) := hne
  rw [← hne] at HN
  clear hgr ho2 hb2 HR hev hk hne
  go_wp2_with fail
  refine HN.mono ?_
  rintro e w3 ⟨rfl, hb3⟩
  have HE3 : Hid (Below w.heap.size w w3 ∧ textsS.owns w.heap.size w3 [.slice a k c] (rsV X)) := ⟨below_any HE.out.1 hb3, textsS.oweaken (textsS.obelow HE.out.2 hb3) (by have := HW.out.2.2; omega)⟩
  clear hb3 HN
  go_wp2
  go_ret2
  rw [← HK.out, ← HNE.out]
  exact ⟨⟨a, c, rfl, HE3.out.2⟩, HE3.out.1⟩

end Go.Proofs.YtfpllfjdgpcmdaaDoor
