/-
  What text and readSome make of a reader.
-/
import Derived.Test.YthlfgpnabcplnaaDoorTf23
import Derived.Test.YthlfgpnabcplnaaDoorTf24
namespace Go.Proofs.YthlfgpnabcplnaaDoor.W
open Go.RowKit

set_option maxHeartbeats 400000 in
theorem clone_none (w : World) : Calls Tryd.prog 57 #[.slice none 0 0] w fun e w' => e = .returned (.slice none 0 0) ∧ w = w' := by
  have hq := fun w => C.eql_nil w none 0 0
  go_enter Tryd.func57, Tryd.ntmps57
  go_wp2
  go_ret
  exact ⟨rfl, rfl⟩

set_option maxRecDepth 100000 in
set_option maxHeartbeats 1000000 in
theorem text_any (w0 : World) (R : Nat) (l : List Int) (w : World) (h : Rdr w0 R l w) :
    Calls Tryd.prog 67 #[.pointer (some ⟨R, 0, none⟩)] w fun e w' => Told w0 R w (.slice none 0 0) (fun w' v a => Own1 w.heap.size w' v a) (textR l) e w' := by
  have HT := groups_any w0 R l w h
  obtain ⟨X, hX⟩ : ∃ X, X = textR l := ⟨_, rfl⟩
  rw [← hX]
  have hN : X = (grpR 0 0 l).then fun n r => if 4096 < n then .error 5 else takeR n r := hX
  clear h hX
  cases hg : grpR 0 0 l with
  | error k =>
    rw [hg] at HT hN
    have HX : Hid (X = .error k) := hN
    clear hg hN
    go_enter Tryd.func67, Tryd.ntmps67
    go_wp2_with fail
    refine HT.mono ?_
    rintro e w1 ⟨hgr, rfl⟩
    have HG : Hid (w.grownBy w1 (some R)) := hgr
    clear hgr HT
    go_wp2
    go_ret2
    rw [HX.out]
    exact ⟨HG.out, rfl⟩
  | ok pp =>
    obtain ⟨m, r⟩ := pp
    rw [hg] at HT hN
    have HX0 : Hid (X = if 4096 < m then .error 5 else takeR m r) := hN
    clear hg hN
    go_enter Tryd.func67, Tryd.ntmps67
    go_wp2_with fail
    refine HT.mono ?_
    rintro e w1 ⟨hgr, v, rfl, ⟨rfl, hm⟩, hR⟩
    have HG : Hid (w.grownBy w1 (some R) ∧ Rdr w0 R r w1) := ⟨hgr, hR⟩
    clear hgr HT hR
    by_cases h4 : 4096 < m
    · have HX : Hid (X = .error 5) := by show _ = _; rw [HX0.out, if_pos h4]
      have h4i : (4096 : Int) < (m : Int) := by omega
      clear HX0
      go_wp2
      go_ret2
      rw [HX.out]
      exact ⟨HG.out.1, rfl⟩
    · have h4i : ¬ (4096 : Int) < (m : Int) := by omega
      have HK := take_any w0 R r m w1 HG.out.2
      by_cases hl : r.length < m
      · have ht : takeR m r = .error 8 := by unfold takeR; rw [if_pos hl]
        rw [ht] at HK
        have HX : Hid (X = .error 8) := by show _ = _; rw [HX0.out, if_neg h4, ht]
        clear ht HX0
        go_wp2_with fail
        refine HK.mono ?_
        rintro e w2 ⟨hgr, rfl⟩
        have HG2 : Hid (w.grownBy w2 (some R)) := grown_trans HG.out.1 hgr
        clear hgr HK
        go_wp2_with fail
        refine (clone_none w2).mono ?_
        rintro e w3 ⟨rfl, rfl⟩
        go_wp2
        go_ret2
        rw [HX.out]
        exact ⟨HG2.out, rfl⟩
      · have ht : takeR m r = .ok ((r.take m), (r.drop m)) := by unfold takeR; rw [if_neg hl]
        rw [ht] at HK
        have HX : Hid (X = .ok ((r.take m), (r.drop m))) := by show _ = _; rw [HX0.out, if_neg h4, ht]
        clear ht HX0
        go_wp2_with fail
        refine HK.mono ?_
        rintro e w2 ⟨hgr, v, rfl, hA, hR⟩
        have HC := clone_any 0 v (r.take m) w2 hA (by rw [List.length_take]; omega)
        obtain ⟨a2, c2, rfl, _⟩ := hA.shape
        obtain ⟨tt, htt⟩ : ∃ y, y = r.take m := ⟨_, rfl⟩
        rw [← htt] at HC HX hA ⊢
        obtain ⟨ln, hln⟩ : ∃ y, y = tt.length := ⟨_, rfl⟩
        rw [← hln] at HC ⊢
        have HG2 : Hid (w.grownBy w2 (some R) ∧ Rdr w0 R (r.drop m) w2) := ⟨grown_trans HG.out.1 hgr, hR⟩
        clear hgr HK hA hR htt hln
        go_wp2_with fail
        refine HC.mono ?_
        rintro e w3 ⟨⟨v3, rfl, ho⟩, hb⟩
        obtain ⟨a3, c3, rfl⟩ := ho.shape
        have HE : Hid (w.grownBy w3 (some R) ∧ Own1 w.heap.size w3 (.slice a3 tt.length c3) tt ∧ Rdr w0 R (r.drop m) w3) :=
          ⟨grown_trans HG2.out.1 (grown_below hb), bytesS.oweaken ho HG2.out.1.size, HG2.out.2.below hb HG2.out.2.lt⟩
        clear ho hb HC
        go_wp2
        go_ret2
        rw [HX.out]
        exact ⟨HE.out.1, _, rfl, HE.out.2⟩

theorem many_zero {α : Type} (f : List Int → Rd α) (xs : List α) (q : List Int) : (manyR f 0 q).map (xs ++ ·) = .ok (xs, q) := by simp [manyR, Rd.map, Rd.then]
theorem many_bad {α : Type} {f : List Int → Rd α} (m : Nat) (xs : List α) (q : List Int) {k : Int} (h : f q = .error k) : (manyR f (m + 1) q).map (xs ++ ·) = .error k := by simp [manyR, Rd.map, Rd.then, h]
theorem many_got {α : Type} {f : List Int → Rd α} (m : Nat) (xs : List α) (q : List Int) {a : α} {r : List Int} (h : f q = .ok (a, r)) : (manyR f (m + 1) q).map (xs ++ ·) = (manyR f m r).map ((xs ++ [a]) ++ ·) := by
  simp only [manyR, Rd.map, Rd.then, h]
  cases manyR f m r with
  | error e => rfl
  | ok pp => obtain ⟨b, s⟩ := pp; simp

set_option maxRecDepth 100000 in
set_option maxHeartbeats 4000000 in
theorem readInts_any (w0 : World) (R : Nat) (l : List Int) (w : World) (h : Rdr w0 R l w) :
    Calls Tryd.prog 64 #[.pointer (some ⟨R, 0, none⟩), .int .i64 64, .func (.func 65) #[.pointer (some ⟨R, 0, none⟩)] #[]] w fun e w' => Told w0 R w (.slice none 0 0) (fun w' v a => intsS.owns w.heap.size w' [v] a) (someR numR l) e w' := by
  have HO := octet_any w0 R l w h
  obtain ⟨i0, hi, hz0, hz1, hz2⟩ := info_parts Tryd.info3
  have HRW : Hid (R < w.heap.size) := h.lt
  clear h
  cases l with
  | nil =>
    rw [show octR [] = .error 8 from rfl] at HO
    rw [show someR numR [] = .error 8 from rfl]
    go_enter Tryd.func64, Tryd.ntmps64
    go_wp2_with fail
    refine HO.mono ?_
    rintro e w1 ⟨hg, rfl⟩
    have HG : Hid (w.grownBy w1 (some R)) := hg
    clear hg HO
    go_wp2
    go_ret2
    exact ⟨HG.out, rfl⟩
  | cons c r =>
    rw [show octR (c :: r) = .ok (c, r) from rfl] at HO
    obtain ⟨X, hX⟩ : ∃ X, X = someR numR (c :: r) := ⟨_, rfl⟩
    rw [← hX]
    have HX0 : Hid (X = if 64 < c then .error 3 else manyR numR c.toNat r) := hX
    clear hX
    go_enter Tryd.func64, Tryd.ntmps64
    go_wp2_with fail
    refine HO.mono ?_
    rintro e w1 ⟨hg, v, rfl, ⟨rfl, hc⟩, hR⟩
    have HG : Hid (w.grownBy w1 (some R) ∧ Rdr w0 R r w1) := ⟨hg, hR⟩
    clear hg HO hR
    by_cases h64 : 64 < c
    · have HX : Hid (X = .error 3) := by show _ = _; rw [HX0.out, if_pos h64]
      clear HX0
      go_wp2
      go_ret2
      rw [HX.out]
      exact ⟨HG.out.1, rfl⟩
    · obtain ⟨n, hn⟩ : ∃ n : Nat, c = (n : Int) := ⟨c.toNat, by omega⟩
      subst hn
      have hn64 : n ≤ 64 := by omega
      have HM : Hid (X = manyR numR n r) := by show _ = _; rw [HX0.out, if_neg h64, Int.toNat_natCast]
      clear hc h64 HX0
      go_wp2
      go_loopw [10, 28] (fun o i wr => ∃ (j : Nat) (xs q : List Int) (a : Option Addr) (cc : Nat), j ≤ n ∧ i = .int .u8 j ∧ o = .slice a j cc ∧ Hid (xs.length = j ∧ X = (manyR numR (n - j) q).map (xs ++ ·) ∧ intsS.owns w.heap.size wr [.slice a j cc] xs ∧ Rdr w0 R q wr ∧ w.grownBy wr (some R))) (fun _ i _ => n - (intOf i).toNat)
      case atStart =>
        refine ⟨0, [], r, none, 0, Nat.zero_le _, rfl, rfl, rfl, ?_, ints_omk (World.ownsRow_nil _ _ _ _) (fun x hx => by cases hx), HG.out.2, HG.out.1⟩
        rw [HM.out, Nat.sub_zero]
        cases manyR numR n r <;> rfl
      case round =>
        obtain ⟨j, xs, q, a, cc, hj, rfl, rfl, HK⟩ := hrel
        by_cases hlt : j < n
        · have hji : (j : Int) < (n : Int) := by omega
          obtain ⟨p, hp⟩ : ∃ p, n - j = p + 1 := ⟨n - j - 1, by omega⟩
          have HN := number_any w0 R q wr HK.out.2.2.2.1
          cases hf : numR q with
          | error k =>
            rw [hf] at HN
            have HMB : Hid (X = .error k) := by
              show _ = _
              rw [HK.out.2.1, hp, many_bad p xs q hf]
            clear hf hp
            go_wp2_with fail
            refine HN.mono ?_
            rintro e w2 ⟨hg, rfl⟩
            have HG2 : Hid (w.grownBy w2 (some R)) := grown_trans HK.out.2.2.2.2 hg
            clear hg HN
            go_wp2
            go_ret2
            rw [HMB.out]
            exact ⟨HG2.out, rfl⟩
          | ok pp =>
            obtain ⟨x, s⟩ := pp
            rw [hf] at HN
            have HMB : Hid (X = (manyR numR (n - (j + 1)) s).map ((xs ++ [x]) ++ ·)) := by
              show _ = _
              rw [HK.out.2.1, hp, many_got p xs q hf, show n - (j + 1) = p by omega]
            clear hf hp
            go_wp2_with fail
            refine HN.mono ?_
            rintro e w2 ⟨hg, v, rfl, ⟨rfl, hx⟩, hR⟩
            have hs2 : Same w.heap.size wr w2 := fun k hk hk2 => hg.block k hk2 (fun e => by have := HRW.out; have := Option.some.inj e; omega)
            have HO2 : Hid (intsS.owns w.heap.size w2 [.slice a j cc] xs ∧ Rdr w0 R s w2 ∧ w.grownBy w2 (some R) ∧ I64 x) := ⟨intsS.osame HK.out.2.2.1 hs2, hR, grown_trans HK.out.2.2.2.2 hg, hx⟩
            have HOW : Hid (w2.ownsRow w.heap.size 3 1 (.slice a j cc) j (xs.map (Value.int .i64))) := by
              have := ints_own HO2.out.1
              rwa [HK.out.1] at this
            have hws := HO2.out.2.2.1.size
            clear hg HN hR hs2 hx
            go_wp2_with (at_builtin; refine wpList_append_lies _ (by rfl) _ _ 51 (by rfl) w.heap.size 3 i0 _ 1 8 Tryd.underlying51 hi hz0 hz1 hz2 rfl (by omega) _ j _ (by rfl) (HOW.out.alloc _) ⟨w2.heap.size, 0, none⟩ 1 1 [.int .i64 x] (by rfl) (by rfl) (World.news_of_block (cs := #[.int .i64 x]) (t := 3) (fr := (0, 0)) (heap_alloc_new w2 _)) (by simp [Value.oneCell']) (by omega) (by unfold maxLen; omega) (by omega) (by simp; omega) (w2.heap.size + 1) (by simp) ?_; intro gg cap3 w3 hown3 hgrow3 hat hltg)
            have hb3 : Below w.heap.size w2 w3 := ((Below.refl _ w2).alloc hws _).grown hgrow3 (by simp; omega) (fun i hi => (HOW.out.lt i hi).1)
            have HE : Hid ((xs ++ [x]).length = j + 1 ∧ X = (manyR numR (n - (j + 1)) s).map ((xs ++ [x]) ++ ·) ∧ intsS.owns w.heap.size w3 [.slice (some ⟨gg, 0, none⟩) (j + 1) cap3] (xs ++ [x]) ∧ Rdr w0 R s w3 ∧ w.grownBy w3 (some R)) := by
              refine ⟨by rw [List.length_append, HK.out.1]; rfl, HMB.out, ints_omk ?_ ?_, HO2.out.2.1.below hb3 HRW.out, grown_append HO2.out.2.2.1 hb3⟩
              · rw [List.length_append, HK.out.1, List.map_append]
                exact hown3
              · intro y hy
                rcases List.mem_append.1 hy with hy | hy
                · exact ints_in (intsS.olies HO2.out.1) y hy
                · rw [List.mem_singleton.1 hy]; exact HO2.out.2.2.2
            clear hown3 hgrow3 hat hltg hb3
            go_wp2
            go_roundw
            case rel => exact ⟨j + 1, xs ++ [x], s, _, _, by omega, by go_num, rfl, HE⟩
            case measure => simp [intOf]; omega
        · obtain rfl : j = n := by omega
          have HMB : Hid (X = .ok (xs, q)) := by
            show _ = _
            rw [HK.out.2.1, Nat.sub_self, many_zero]
          go_wp2
          go_ret2
          rw [HMB.out]
          exact ⟨HK.out.2.2.2.2, _, rfl, HK.out.2.2.1, HK.out.2.2.2.1⟩

set_option maxRecDepth 100000 in
set_option maxHeartbeats 4000000 in
theorem readTexts_any (w0 : World) (R : Nat) (l : List Int) (w : World) (h : Rdr w0 R l w) :
    Calls Tryd.prog 66 #[.pointer (some ⟨R, 0, none⟩), .int .i64 64, .func (.func 67) #[.pointer (some ⟨R, 0, none⟩)] #[]] w fun e w' => Told w0 R w (.slice none 0 0) (fun w' v a => textsS.owns w.heap.size w' [v] a) (someR textR l) e w' := by
  have HO := octet_any w0 R l w h
  obtain ⟨i0, hi, hz0, hz1, hz2⟩ := info_parts info22
  have HRW : Hid (R < w.heap.size) := h.lt
  clear h
  cases l with
  | nil =>
    rw [show octR [] = .error 8 from rfl] at HO
    rw [show someR textR [] = .error 8 from rfl]
    go_enter Tryd.func66, Tryd.ntmps66
    go_wp2_with fail
    refine HO.mono ?_
    rintro e w1 ⟨hg, rfl⟩
    have HG : Hid (w.grownBy w1 (some R)) := hg
    clear hg HO
    go_wp2
    go_ret2
    exact ⟨HG.out, rfl⟩
  | cons c r =>
    rw [show octR (c :: r) = .ok (c, r) from rfl] at HO
    obtain ⟨X, hX⟩ : ∃ X, X = someR textR (c :: r) := ⟨_, rfl⟩
    rw [← hX]
    have HX0 : Hid (X = if 64 < c then .error 3 else manyR textR c.toNat r) := hX
    clear hX
    go_enter Tryd.func66, Tryd.ntmps66
    go_wp2_with fail
    refine HO.mono ?_
    rintro e w1 ⟨hg, v, rfl, ⟨rfl, hc⟩, hR⟩
    have HG : Hid (w.grownBy w1 (some R) ∧ Rdr w0 R r w1) := ⟨hg, hR⟩
    clear hg HO hR
    by_cases h64 : 64 < c
    · have HX : Hid (X = .error 3) := by show _ = _; rw [HX0.out, if_pos h64]
      clear HX0
      go_wp2
      go_ret2
      rw [HX.out]
      exact ⟨HG.out.1, rfl⟩
    · obtain ⟨n, hn⟩ : ∃ n : Nat, c = (n : Int) := ⟨c.toNat, by omega⟩
      subst hn
      have hn64 : n ≤ 64 := by omega
      have HM : Hid (X = manyR textR n r) := by show _ = _; rw [HX0.out, if_neg h64, Int.toNat_natCast]
      clear hc h64 HX0
      go_wp2
      go_loopw [10, 28] (fun o i wr => ∃ (j : Nat) (xs : List (List Int)) (q : List Int) (a : Option Addr) (cc : Nat), j ≤ n ∧ i = .int .u8 j ∧ o = .slice a j cc ∧ Hid (xs.length = j ∧ X = (manyR textR (n - j) q).map (xs ++ ·) ∧ textsS.owns w.heap.size wr [.slice a j cc] xs ∧ Rdr w0 R q wr ∧ w.grownBy wr (some R))) (fun _ i _ => n - (intOf i).toNat)
      case atStart =>
        refine ⟨0, [], r, none, 0, Nat.zero_le _, rfl, rfl, rfl, ?_, Shape.list_nil bytesS 37 Tryd.underlying37 cells37 _ _, HG.out.2, HG.out.1⟩
        rw [HM.out, Nat.sub_zero]
        cases manyR textR n r <;> rfl
      case round =>
        obtain ⟨j, xs, q, a, cc, hj, rfl, rfl, HK⟩ := hrel
        by_cases hlt : j < n
        · have hji : (j : Int) < (n : Int) := by omega
          obtain ⟨p, hp⟩ : ∃ p, n - j = p + 1 := ⟨n - j - 1, by omega⟩
          have HN := text_any w0 R q wr HK.out.2.2.2.1
          cases hf : textR q with
          | error k =>
            rw [hf] at HN
            have HMB : Hid (X = .error k) := by
              show _ = _
              rw [HK.out.2.1, hp, many_bad p xs q hf]
            clear hf hp
            go_wp2_with fail
            refine HN.mono ?_
            rintro e w2 ⟨hg, rfl⟩
            have HG2 : Hid (w.grownBy w2 (some R)) := grown_trans HK.out.2.2.2.2 hg
            clear hg HN
            go_wp2
            go_ret2
            rw [HMB.out]
            exact ⟨HG2.out, rfl⟩
          | ok pp =>
            obtain ⟨x, s⟩ := pp
            rw [hf] at HN
            have HMB : Hid (X = (manyR textR (n - (j + 1)) s).map ((xs ++ [x]) ++ ·)) := by
              show _ = _
              rw [HK.out.2.1, hp, many_got p xs q hf, show n - (j + 1) = p by omega]
            clear hf hp
            go_wp2_with fail
            refine HN.mono ?_
            rintro e w2 ⟨hg, v, rfl, hx, hR⟩
            obtain ⟨ux, uc, rfl⟩ := hx.shape
            obtain ⟨ln, hln⟩ : ∃ y, y = x.length := ⟨_, rfl⟩
            rw [← hln] at hx ⊢
            have hs2 : Same w.heap.size wr w2 := fun k hk hk2 => hg.block k hk2 (fun e => by have := HRW.out; have := Option.some.inj e; omega)
            obtain ⟨v', vss, hv, hown0, hE0⟩ := textsS.osame HK.out.2.2.1 hs2
            have hvv : Value.slice a j cc = v' := by simpa using hv
            subst hvv
            have HE0 : Hid (Each (bytesS.owns w.heap.size w2) vss xs) := hE0
            have HOW : Hid (w2.ownsRow w.heap.size 22 1 (.slice a j cc) j vss.flatten) := by
              have h1 : w2.ownsRow w.heap.size 22 1 (.slice a j cc) xs.length vss.flatten := hown0
              rwa [HK.out.1] at h1
            have HO2 : Hid (Rdr w0 R s w2 ∧ w.grownBy w2 (some R) ∧ Own1 wr.heap.size w2 (.slice ux ln uc) x) := ⟨hR, grown_trans HK.out.2.2.2.2 hg, hx⟩
            have hws := HO2.out.2.1.size
            have hwr := HK.out.2.2.2.2.size
            clear hg HN hR hs2 hx hln hv hown0 hE0
            go_wp2_with (at_builtin; refine wpList_append_lies _ (by rfl) _ _ 37 (by rfl) w.heap.size 22 i0 _ 1 24 Tryd.underlying37 hi hz0 hz1 hz2 rfl (by omega) _ j _ (by rfl) (HOW.out.alloc _) ⟨w2.heap.size, 0, none⟩ 1 1 [.slice ux ln uc] (by rfl) (by rfl) (World.news_of_block (cs := #[.slice ux ln uc]) (t := 22) (fr := (0, 0)) (heap_alloc_new w2 _)) (by simp [Value.oneCell']) (by omega) (by unfold maxLen; omega) (by omega) (by simp; omega) (w2.heap.size + 1) (by simp) ?_; intro gg cap3 w3 hown3 hgrow3 hat hltg)
            have hb3 : Below w.heap.size w2 w3 := ((Below.refl _ w2).alloc hws _).grown hgrow3 (by simp; omega) (fun i hi => (HOW.out.lt i hi).1)
            have HE : Hid ((xs ++ [x]).length = j + 1 ∧ X = (manyR textR (n - (j + 1)) s).map ((xs ++ [x]) ++ ·) ∧ textsS.owns w.heap.size w3 [.slice (some ⟨gg, 0, none⟩) (j + 1) cap3] (xs ++ [x]) ∧ Rdr w0 R s w3 ∧ w.grownBy w3 (some R)) := by
              refine ⟨by rw [List.length_append, HK.out.1]; rfl, HMB.out, ?_, HO2.out.1.below hb3 HRW.out, grown_append HO2.out.2.1 hb3⟩
              refine Shape.list_push (S := bytesS) (ht := Tryd.underlying37) (hc := cells37) (by decide) (HE0.out.mono fun _ _ h => bytesS.osame h (.alloc _ _ _)) (by rw [HK.out.1]; exact HOW.out.alloc _) (bytesS.oweaken (bytesS.osame HO2.out.2.2 (.alloc _ _ _)) hwr) hgrow3 ?_
              rw [HK.out.1]
              exact hown3
            clear hown3 hgrow3 hat hltg hb3
            go_wp2
            go_roundw
            case rel => exact ⟨j + 1, xs ++ [x], s, _, _, by omega, by go_num, rfl, HE⟩
            case measure => simp [intOf]; omega
        · obtain rfl : j = n := by omega
          have HMB : Hid (X = .ok (xs, q)) := by
            show _ = _
            rw [HK.out.2.1, Nat.sub_self, many_zero]
          go_wp2
          go_ret2
          rw [HMB.out]
          exact ⟨HK.out.2.2.2.2, _, rfl, HK.out.2.2.1, HK.out.2.2.2.1⟩

end Go.Proofs.YthlfgpnabcplnaaDoor.W
