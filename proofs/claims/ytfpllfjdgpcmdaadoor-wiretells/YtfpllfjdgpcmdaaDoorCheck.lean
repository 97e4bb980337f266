/-
  What checkLengths and Check answer.
-/
import Derived.Test.YtfpllfjdgpcmdaaDoorWire
namespace Go.Proofs.YtfpllfjdgpcmdaaDoor
open Go.RowKit

theorem take_any_false {α : Type} {p : α → Bool} {l : List α} {k : Nat} {x : α} (h : (l.take k).any p = false) (hx : l[k]? = some x) (hp : p x = false) : (l.take (k + 1)).any p = false := by
  rw [take_snoc hx, List.any_append, h]
  simp [hp]
theorem any_true {α : Type} {p : α → Bool} {l : List α} {k : Nat} {x : α} (hx : l[k]? = some x) (hp : p x = true) : l.any p = true :=
  List.any_eq_true.2 ⟨x, List.mem_of_getElem? hx, hp⟩

set_option maxHeartbeats 400000 in
theorem too_any (most : Nat) (B : Nat) (a : Option Addr) (n cap : Nat) (w : World) (hB : w.cell? ⟨B, 0, none⟩ = some (.int .i64 most)) :
    Calls Tryd.prog 59 #[.slice a n cap, .pointer (some ⟨B, 0, none⟩)] w fun e w' => e = .returned (.bool (decide (most < n))) ∧ w = w' := by
  have hl := run_len Tryd.underlying26 a n cap
  obtain ⟨d, hd⟩ : ∃ d, d = decide (most < n) := ⟨_, rfl⟩
  rw [← hd]
  by_cases h : most < n
  · obtain rfl : d = true := by rw [hd]; simp [h]
    have hi : (most : Int) < (n : Int) := by omega
    clear hd h
    go_enter Tryd.func59, Tryd.ntmps59
    go_wp2
    go_ret
    exact ⟨rfl, rfl⟩
  · obtain rfl : d = false := by rw [hd]; simp [h]
    have hi : ¬ (most : Int) < (n : Int) := by omega
    clear hd h
    go_enter Tryd.func59, Tryd.ntmps59
    go_wp2
    go_ret
    exact ⟨rfl, rfl⟩

/-- Is one of the texts too long? -/
def tooLong (most : Nat) (l : List (List Int)) : Bool := l.any fun t => decide (most < t.length)

set_option maxRecDepth 100000 in
set_option maxHeartbeats 2000000 in
theorem index_any (most B n0 : Nat) (v : Value) (l : List (List Int)) (w : World) (h : textsS.lies n0 w [v] l) (hB : w.cell? ⟨B, 0, none⟩ = some (.int .i64 most)) :
    Calls Tryd.prog 72 #[v, .func (.func 59) #[] #[.pointer (some ⟨B, 0, none⟩)]] w fun e w' => (∃ r : Int, e = .returned (.int .i64 r) ∧ ((r = -1 ∧ tooLong most l = false) ∨ (0 ≤ r ∧ tooLong most l = true))) ∧ w = w' := by
  obtain ⟨a, c, hv, _, hm, _⟩ := texts_len h
  obtain rfl : v = _ := by simpa using hv
  have HL : Hid (textsS.lies n0 w [.slice a l.length c] l) := h
  obtain ⟨n, hn⟩ : ∃ n, n = l.length := ⟨_, rfl⟩
  have HN : Hid (n = l.length) := hn
  rw [← hn] at HL hm ⊢
  unfold maxLen at hm
  have hl1 := run_len Tryd.underlying23 a n c
  clear h hv hn
  go_enter Tryd.func72, Tryd.ntmps72
  go_wp2
  go_loop [8] (fun i => ∃ k : Nat, k ≤ n ∧ i = .int .i64 k ∧ Hid (tooLong most (l.take k) = false)) (fun i => n - (intOf i).toNat)
  case atStart => exact ⟨0, Nat.zero_le _, rfl, by show _ = _; simp [tooLong]⟩
  case round =>
    obtain ⟨k, hk, rfl, HK⟩ := hrel
    by_cases hlt : k < n
    · obtain ⟨t, ht⟩ := get_lt (l := l) (k := k) (by rw [← HN.out]; exact hlt)
      obtain ⟨b, o, u, hix, g0, hA⟩ := texts_at HL.out k t ht
      obtain ⟨x1, y1, rfl, _⟩ := hA.shape
      have HP : Hid (l[k]? = some t) := ht
      have hki : (k : Int) < (n : Int) := by omega
      have HC := too_any most B x1 t.length y1 w hB
      clear hA ht
      cases hok : decide (most < t.length)
      · rw [hok] at HC
        have HK2 : Hid (tooLong most (l.take (k + 1)) = false) := take_any_false HK.out HP.out hok
        clear hok
        go_wp2_with fail
        refine HC.mono ?_
        rintro e w2 ⟨rfl, rfl⟩
        go_wp2
        go_round
        case rel => exact ⟨k + 1, by omega, by go_num, HK2⟩
        case measure => simp [intOf]; omega
      · rw [hok] at HC
        have HA : Hid (tooLong most l = true) := any_true HP.out hok
        clear hok
        go_wp2_with fail
        refine HC.mono ?_
        rintro e w2 ⟨rfl, rfl⟩
        go_wp2
        go_ret
        exact ⟨⟨k, rfl, .inr ⟨by omega, HA.out⟩⟩, rfl⟩
    · obtain rfl : k = n := by omega
      have HA : Hid (tooLong most l = false) := by
        show _ = _
        have := HK.out
        rwa [HN.out, List.take_length] at this
      clear HK
      go_wp2
      go_ret
      exact ⟨⟨-1, rfl, .inl ⟨rfl, HA.out⟩⟩, rfl⟩

set_option maxHeartbeats 1000000 in
theorem contains_any (most B n0 : Nat) (v : Value) (l : List (List Int)) (w : World) (h : textsS.lies n0 w [v] l) (hB : w.cell? ⟨B, 0, none⟩ = some (.int .i64 most)) :
    Calls Tryd.prog 60 #[v, .func (.func 59) #[] #[.pointer (some ⟨B, 0, none⟩)]] w fun e w' => e = .returned (.bool (tooLong most l)) ∧ w = w' := by
  have HC := index_any most B n0 v l w h hB
  clear h
  obtain ⟨al, hal⟩ : ∃ x, x = tooLong most l := ⟨_, rfl⟩
  rw [← hal] at HC ⊢
  clear hal
  go_enter Tryd.func60, Tryd.ntmps60
  go_wp2_with fail
  refine HC.mono ?_
  rintro e w2 ⟨⟨r, rfl, hr⟩, rfl⟩
  rcases hr with ⟨rfl, rfl⟩ | ⟨h0, rfl⟩
  · go_wp2
    go_ret
    exact ⟨rfl, rfl⟩
  · go_wp2
    go_ret
    exact ⟨by simp, rfl⟩

set_option maxHeartbeats 1000000 in
theorem lengths_any (most n0 : Nat) (v : Value) (l : List (List Int)) (w : World) (h : textsS.lies n0 w [v] l) :
    Calls Tryd.prog 44 #[v, .int .i64 most] w fun e w' => e = .returned (.int .i64 (if tooLong most l then 5 else 0)) ∧ Below w.heap.size w w' := by
  obtain ⟨W, hW⟩ : ∃ W, W = w.alloc (.cells #[.int .i64 most] 3) := ⟨_, rfl⟩
  have hb : Below w.heap.size w W := by rw [hW]; exact (Below.refl _ w).alloc (Nat.le_refl _) _
  have hB : Box W w.heap.size 3 #[.int .i64 most] := by rw [hW]; exact Box.new w 3 _
  have HC := contains_any most w.heap.size n0 v l W (textsS.below h hb) (hB.cell 0 rfl)
  have HB : Hid (Below w.heap.size w W) := hb
  obtain ⟨al, hal⟩ : ∃ x, x = tooLong most l := ⟨_, rfl⟩
  rw [← hal] at HC ⊢
  clear hal h hb hB
  cases al
  · go_enter Tryd.func44, Tryd.ntmps44
    go_wp2_with fail
    rw [← hW]
    clear hW
    refine HC.mono ?_
    rintro e w2 ⟨rfl, rfl⟩
    go_wp2
    go_ret
    exact ⟨rfl, HB.out⟩
  · go_enter Tryd.func44, Tryd.ntmps44
    go_wp2_with fail
    rw [← hW]
    clear hW
    refine HC.mono ?_
    rintro e w2 ⟨rfl, rfl⟩
    go_wp2
    go_ret
    exact ⟨rfl, HB.out⟩

theorem chkR_eq (r : Rc) : chkR r = if r.1 < 0 ∨ 255 < r.1 then 22 else if 64 < r.2.1.length ∨ 64 < r.2.2.length then 3 else if tooLong 4096 r.2.2 then 5 else 0 := rfl

set_option maxRecDepth 100000 in
set_option maxHeartbeats 2000000 in
theorem check_any (n0 : Nat) (us : List Value) (r : Rc) (w : World) (h : recF.lies n0 w us r) :
    Calls Tryd.prog 18 #[.agg us.toArray] w fun e w' => e = .returned (.int .i64 (chkR r)) ∧ Below w.heap.size w w' := by
  obtain ⟨a, c, b, d, rfl, hI, hT, hk, _⟩ := rec_view h
  obtain ⟨k, ns, ts⟩ := r
  simp only at hI hT hk
  obtain ⟨W, hW⟩ : ∃ W, W = w.alloc (.cells #[.int .i64 k, .slice a ns.length c, .slice b ts.length d] 27) := ⟨_, rfl⟩
  have hb : Below w.heap.size w W := by rw [hW]; exact (Below.refl _ w).alloc (Nat.le_refl _) _
  have hP : Box W w.heap.size 27 #[.int .i64 k, .slice a ns.length c, .slice b ts.length d] := by rw [hW]; exact Box.new w 27 _
  have HC := lengths_any 4096 n0 (.slice b ts.length d) ts W (textsS.below hT hb)
  have HW : Hid (Below w.heap.size w W) := hb
  obtain ⟨ce, hce⟩ : ∃ x, x = chkR (k, ns, ts) := ⟨_, rfl⟩
  have HCE : Hid (ce = if k < 0 ∨ 255 < k then 22 else if 64 < ns.length ∨ 64 < ts.length then 3 else if tooLong 4096 ts then 5 else 0) := hce
  rw [← hce]
  obtain ⟨n, hn⟩ : ∃ n, n = ns.length := ⟨_, rfl⟩
  obtain ⟨m, hm⟩ : ∃ n, n = ts.length := ⟨_, rfl⟩
  rw [← hn] at HCE hW hP
  rw [← hm] at HCE HC hW hP
  simp only
  rw [← hn, ← hm]
  have hl1 := run_len Tryd.underlying22 a n c
  have hl2 := run_len Tryd.underlying23 b m d
  obtain ⟨g0, g1, g2, _⟩ := hP.three
  rw [hW] at g0 g1 g2
  clear h hI hT hb hce hP hn hm hk
  by_cases h1 : k < 0
  · obtain rfl : ce = 22 := by rw [HCE.out, if_pos (.inl h1)]
    rw [hW] at HW
    clear HC hW
    go_enter Tryd.func18, Tryd.ntmps18
    go_wp2
    go_ret
    exact ⟨rfl, HW.out⟩
  by_cases h2 : 255 < k
  · obtain rfl : ce = 22 := by rw [HCE.out, if_pos (.inr h2)]
    rw [hW] at HW
    clear HC hW
    go_enter Tryd.func18, Tryd.ntmps18
    go_wp2
    go_ret
    exact ⟨rfl, HW.out⟩
  by_cases h3 : (64 : Int) < (n : Int)
  · obtain rfl : ce = 3 := by rw [HCE.out, if_neg (by omega), if_pos (.inl (by omega))]
    rw [hW] at HW
    clear HC hW
    go_enter Tryd.func18, Tryd.ntmps18
    go_wp2
    go_ret
    exact ⟨rfl, HW.out⟩
  by_cases h4 : (64 : Int) < (m : Int)
  · obtain rfl : ce = 3 := by rw [HCE.out, if_neg (by omega), if_pos (.inr (by omega))]
    rw [hW] at HW
    clear HC hW
    go_enter Tryd.func18, Tryd.ntmps18
    go_wp2
    go_ret
    exact ⟨rfl, HW.out⟩
  have HCE2 : Hid (ce = if tooLong 4096 ts then 5 else 0) := by
    show _ = _
    rw [HCE.out, if_neg (by omega), if_neg (by omega)]
  rw [← HCE2.out] at HC
  clear HCE HCE2
  go_enter Tryd.func18, Tryd.ntmps18
  go_wp2_with fail
  rw [← hW]
  clear hW
  refine HC.mono ?_
  rintro e w2 ⟨rfl, hb2⟩
  go_wp2
  go_ret
  exact ⟨rfl, below_any HW.out hb2⟩

end Go.Proofs.YtfpllfjdgpcmdaaDoor
