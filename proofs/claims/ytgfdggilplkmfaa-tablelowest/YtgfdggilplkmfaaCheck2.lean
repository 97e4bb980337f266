/-
  What the program's Check answers, for every table.
-/
import Derived.Test.YtgfdggilplkmfaaCheck
namespace Go.Proofs.Ytgfdggilplkmfaa
open Go.RowKit

theorem all_not {l : List Sl} {k : Nat} {p : Sl} {f : Sl → Bool} (h : l[k]? = some p) (hp : f p = false) : l.all f = false := by
  rw [List.all_eq_false]
  exact ⟨p, List.mem_of_getElem? h, by simp [hp]⟩
theorem take_step {l : List Sl} {k : Nat} {p : Sl} {f : Sl → Bool} (hk : (l.take k).all f = true) (h : l[k]? = some p) (hp : f p = true) : (l.take (k + 1)).all f = true := by
  rw [take_snoc h, List.all_append, hk]
  simp [hp]

set_option maxRecDepth 100000 in
set_option maxHeartbeats 2000000 in
theorem index_any (n0 B b : Nat) (ks : List Int) (v : Value) (l : List Sl) (w : World) (h : ArgE n0 w v l) (hB : w.cell? ⟨B, 0, none⟩ = some (.map (some b))) (hM : IM w b ks (fun x => (cnt l x : Int))) :
    Calls Try.prog 25 #[v, .func (.func 34) #[] #[.pointer (some ⟨B, 0, none⟩)]] w fun e w' => (∃ r : Int, e = .returned (.int .i64 r) ∧ ((r = -1 ∧ l.all (goodB l) = true) ∨ (0 ≤ r ∧ l.all (goodB l) = false))) ∧ Below w.heap.size w w' := by
  obtain ⟨a, c, rfl, _, hm, _⟩ := h.shape
  unfold maxLen at hm
  obtain ⟨n, hn⟩ : ∃ n, n = l.length := ⟨_, rfl⟩
  rw [← hn] at h hm ⊢
  have hl1 := run_len Try.underlying23 a n c
  have HH : Hid (ArgE n0 w (.slice a n c) l ∧ n = l.length ∧ w.cell? ⟨B, 0, none⟩ = some (.map (some b)) ∧ IM w b ks (fun x => (cnt l x : Int))) := ⟨h, hn, hB, hM⟩
  clear h hn hB hM
  go_enter Try.func25, Try.ntmps25
  go_wp2
  go_loopw [8] (fun i wr => ∃ k : Nat, k ≤ n ∧ i = .int .i64 k ∧ Hid ((l.take k).all (goodB l) = true) ∧ Hid (Below w.heap.size w wr)) (fun i _ => n - (intOf i).toNat)
  case atStart => exact ⟨0, Nat.zero_le _, rfl, by show _ = _; simp, Below.refl _ _⟩
  case round =>
    obtain ⟨k, hk, rfl, HK, HB⟩ := hrel
    by_cases hlt : k < n
    · obtain ⟨p, hp⟩ := get_lt (l := l) (k := k) (by rw [← HH.out.2.1]; exact hlt)
      obtain ⟨pb, po, hix, _, c0, c1⟩ := (HH.out.1.below HB.out).atN k p hp
      have hki : (k : Int) < (n : Int) := by omega
      have HP : Hid (l[k]? = some p) := hp
      have HC := wrong_any l B b ks p.1 p.2 (HH.out.1.2.get hp).1 wr (by rw [HB.out.cell (cell_lt HH.out.2.2.1)]; exact HH.out.2.2.1) (HH.out.2.2.2.below HB.out)
      clear hp
      cases hok : goodB l p
      · rw [hok] at HC
        have HA : Hid (l.all (goodB l) = false) := all_not HP.out hok
        go_wp2_with fail
        refine HC.mono ?_
        rintro e w2 ⟨rfl, hb2⟩
        have HB2 : Hid (Below w.heap.size w w2) := below_any HB.out hb2
        clear hb2
        go_wp2
        go_ret
        exact ⟨⟨k, rfl, .inr ⟨by omega, HA.out⟩⟩, HB2.out⟩
      · rw [hok] at HC
        have HK2 : Hid ((l.take (k + 1)).all (goodB l) = true) := take_step HK.out HP.out hok
        go_wp2_with fail
        refine HC.mono ?_
        rintro e w2 ⟨rfl, hb2⟩
        have HB2 : Hid (Below w.heap.size w w2) := below_any HB.out hb2
        clear hb2
        go_wp2
        go_roundw
        case rel => exact ⟨k + 1, by omega, by go_num, HK2, HB2⟩
        case measure => simp [intOf]; omega
    · obtain rfl : k = n := by omega
      have HA : Hid (l.all (goodB l) = true) := by
        show l.all (goodB l) = true
        have h1 := HK.out
        rwa [HH.out.2.1, List.take_length] at h1
      clear HK
      go_wp2
      go_ret
      exact ⟨⟨-1, rfl, .inl ⟨rfl, HA.out⟩⟩, HB.out⟩

set_option maxRecDepth 100000 in
set_option maxHeartbeats 2000000 in
theorem indexFree_any (n0 : Nat) (v : Value) (l : List Sl) (w : World) (h : ArgE n0 w v l) (h0 : 0 < cnt l 0) :
    Calls Try.prog 25 #[v, .func (.func 26) #[] #[]] w fun e w' => e = .returned (.int .i64 (freeAt l)) ∧ Below w.heap.size w w' := by
  obtain ⟨a, c, rfl, _, hm, _⟩ := h.shape
  unfold maxLen at hm
  obtain ⟨n, hn⟩ : ∃ n, n = l.length := ⟨_, rfl⟩
  rw [← hn] at h hm ⊢
  have hl1 := run_len Try.underlying23 a n c
  have HH : Hid (ArgE n0 w (.slice a n c) l ∧ n = l.length ∧ 0 < cnt l 0) := ⟨h, hn, h0⟩
  obtain ⟨f, hf⟩ : ∃ f, f = freeAt l := ⟨_, rfl⟩
  have HF : Hid (f = freeAt l) := hf
  rw [← hf]
  clear h hn h0 hf
  go_enter Try.func25, Try.ntmps25
  go_wp2
  go_loopw [8] (fun i wr => ∃ k : Nat, k ≤ n ∧ i = .int .i64 k ∧ Hid (∀ j q, j < k → l[j]? = some q → q.1 ≠ 0) ∧ Hid (Below w.heap.size w wr)) (fun i _ => n - (intOf i).toNat)
  case atStart => exact ⟨0, Nat.zero_le _, rfl, fun j q hj => by omega, Below.refl _ _⟩
  case round =>
    obtain ⟨k, hk, rfl, HK, HB⟩ := hrel
    by_cases hlt : k < n
    · obtain ⟨p, hp⟩ := get_lt (l := l) (k := k) (by rw [← HH.out.2.1]; exact hlt)
      obtain ⟨pb, po, hix, _, c0, c1⟩ := (HH.out.1.below HB.out).atN k p hp
      have hki : (k : Int) < (n : Int) := by omega
      have HP : Hid (l[k]? = some p) := hp
      have HC := isFree_any p.1 p.2 wr
      clear hp
      by_cases hok : p.1 = 0
      · obtain rfl : f = k := by rw [HF.out]; exact freeAt_eq HP.out hok HK.out
        rw [decide_eq_true hok] at HC
        clear hok
        go_wp2_with fail
        refine HC.mono ?_
        rintro e w2 ⟨rfl, hb2⟩
        have HB2 : Hid (Below w.heap.size w w2) := below_any HB.out hb2
        clear hb2
        go_wp2
        go_ret
        exact ⟨rfl, HB2.out⟩
      · rw [decide_eq_false hok] at HC
        have HK2 : Hid (∀ j q, j < k + 1 → l[j]? = some q → q.1 ≠ 0) := fun j q hj hq => by
          by_cases e : j < k
          · exact HK.out j q e hq
          · obtain rfl : j = k := by omega
            rw [HP.out] at hq
            rw [← Option.some.inj hq]
            exact hok
        clear hok
        go_wp2_with fail
        refine HC.mono ?_
        rintro e w2 ⟨rfl, hb2⟩
        have HB2 : Hid (Below w.heap.size w w2) := below_any HB.out hb2
        clear hb2
        go_wp2
        go_roundw
        case rel => exact ⟨k + 1, by omega, by go_num, HK2, HB2⟩
        case measure => simp [intOf]; omega
    · exfalso
      obtain ⟨p, hp, e⟩ := freeAt_is HH.out.2.2
      exact HK.out _ p (by have := freeAt_lt HH.out.2.2; have := HH.out.2.1; omega) hp e

set_option maxRecDepth 100000 in
set_option maxHeartbeats 1000000 in
theorem contains_any (n0 B b : Nat) (ks : List Int) (v : Value) (l : List Sl) (w : World) (h : ArgE n0 w v l) (hB : w.cell? ⟨B, 0, none⟩ = some (.map (some b))) (hM : IM w b ks (fun x => (cnt l x : Int))) :
    Calls Try.prog 36 #[v, .func (.func 34) #[] #[.pointer (some ⟨B, 0, none⟩)]] w fun e w' => e = .returned (.bool (!l.all (goodB l))) ∧ Below w.heap.size w w' := by
  have HC := index_any n0 B b ks v l w h hB hM
  clear h hB hM
  obtain ⟨al, hal⟩ : ∃ x, x = l.all (goodB l) := ⟨_, rfl⟩
  rw [← hal] at HC ⊢
  clear hal
  go_enter Try.func36, Try.ntmps36
  go_wp2_with fail
  refine HC.mono ?_
  rintro e w2 ⟨⟨r, rfl, hr⟩, hb2⟩
  rcases hr with ⟨rfl, rfl⟩ | ⟨h0, rfl⟩
  · go_wp2
    go_ret
    exact ⟨rfl, hb2⟩
  · go_wp2
    go_ret
    exact ⟨by simp, hb2⟩

set_option maxRecDepth 100000 in
set_option maxHeartbeats 2000000 in
theorem check_any (n0 : Nat) (v : Value) (l : List Sl) (w : World) (h : ArgE n0 w v l) :
    Calls Try.prog 20 #[v] w fun e w' => e = .returned (.int .i64 (cerr l)) ∧ Below w.heap.size w w' := by
  obtain ⟨a, c, rfl, _, hm, _⟩ := h.shape
  unfold maxLen at hm
  have hl1 := run_len Try.underlying23 a l.length c
  obtain ⟨ce, hce⟩ : ∃ x, x = cerr l := ⟨_, rfl⟩
  have HCB : Hid (¬ Chk l → ce = 9) := fun h => by rw [hce]; exact cerr_bad h
  have HCO : Hid (Chk l → ce = 0) := fun h => by rw [hce]; exact cerr_ok h
  rw [← hce]
  obtain ⟨n, hn⟩ : ∃ n, n = l.length := ⟨_, rfl⟩
  have HN : Hid (n = l.length ∧ ArgE n0 w (.slice a n c) l) := ⟨hn, by rw [hn]; exact h⟩
  have HC : Hid (n ≤ 64 → Calls Try.prog 24 #[.slice a l.length c] w fun e w' => (∃ b ks, e = .returned (.map (some b)) ∧ IM w' b ks (fun x => (cnt l x : Int)) ∧ w.heap.size ≤ b) ∧ Below w.heap.size w w') := fun h64 => numbers_any n0 _ l w h (by omega)
  rw [← hn] at hl1 hm HC ⊢
  clear h hce hn
  by_cases h3 : n < 1
  · obtain rfl : ce = 9 := HCB.out fun h => by have h9 := h.1; have := HN.out.1; omega
    have h3i : (n : Int) < 1 := by omega
    go_enter Try.func20, Try.ntmps20
    go_wp2
    go_ret
    exact ⟨rfl, Below.refl _ _⟩
  have h3i : ¬ (n : Int) < 1 := by omega
  by_cases h4 : 64 < n
  · obtain rfl : ce = 9 := HCB.out fun h => by have h9 := h.2.1; have := HN.out.1; omega
    have h4i : (64 : Int) < (n : Int) := by omega
    go_enter Try.func20, Try.ntmps20
    go_wp2
    go_ret
    exact ⟨rfl, Below.refl _ _⟩
  have h4i : ¬ (64 : Int) < (n : Int) := by omega
  have HCC := HC.out (by omega)
  go_enter Try.func20, Try.ntmps20
  go_wp2_with fail
  refine HCC.mono ?_
  rintro e w2 ⟨⟨b, ks, rfl, hI, -⟩, hb2⟩
  obtain ⟨W, hW⟩ : ∃ W, W = w2.alloc (.cells #[.map (some b)] 59) := ⟨_, rfl⟩
  have hbW : Below w2.heap.size w2 W := by rw [hW]; exact (Below.refl _ w2).alloc (Nat.le_refl _) _
  have hbx : Box W w2.heap.size 59 #[.map (some b)] := by rw [hW]; exact Box.new _ _ _
  have HD := contains_any n0 w2.heap.size b ks (.slice a n c) l W (HN.out.2.below (below_any hb2 hbW)) (hbx.cell 0 rfl) (hI.below hbW)
  have HB2 : Hid (Below w.heap.size w W) := below_any hb2 hbW
  clear hI hb2 hbW hbx
  cases h5 : l.all (goodB l)
  · obtain rfl : ce = 9 := HCB.out fun h => by
      have := List.all_eq_true.2 h.2.2
      rw [h5] at this; cases this
    rw [h5] at HD
    clear h5
    go_wp2_with fail
    rw [← hW]
    clear hW
    refine HD.mono ?_
    rintro e w3 ⟨rfl, hb3⟩
    have HB3 : Hid (Below w.heap.size w w3) := below_any HB2.out hb3
    clear hb3
    go_wp2
    go_ret
    exact ⟨rfl, HB3.out⟩
  · obtain rfl : ce = 0 := HCO.out ⟨by have := HN.out.1; omega, by have := HN.out.1; omega, List.all_eq_true.1 h5⟩
    rw [h5] at HD
    clear h5
    go_wp2_with fail
    rw [← hW]
    clear hW
    refine HD.mono ?_
    rintro e w3 ⟨rfl, hb3⟩
    have HB3 : Hid (Below w.heap.size w w3) := below_any HB2.out hb3
    clear hb3
    go_wp2
    go_ret
    exact ⟨rfl, HB3.out⟩

end Go.Proofs.Ytgfdggilplkmfaa
