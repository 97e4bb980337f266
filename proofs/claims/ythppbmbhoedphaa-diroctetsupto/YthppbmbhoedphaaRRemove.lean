/-
  What the document's Remove answers, for every entries and every name.
-/
import Derived.Test.YthppbmbhoedphaaRAdd
namespace Go.Proofs.Ythppbmbhoedphaa
open Go.RowKit

def others (l : List En) (x : ByteArray) : List En := l.filter fun p => decide (p.1 ≠ x)
theorem others_all {l : List En} {x : ByteArray} (h : ∀ p ∈ l, p.1 ≠ x) : others l x = l := by
  unfold others
  rw [List.filter_eq_self]
  intro p hp
  simpa using h p hp
theorem others_del {l : List En} (hU : Up l) {x : ByteArray} (h : there l x = true) : others l x = del l x := by
  obtain ⟨i, p, hp, he⟩ := (there_iff l x).1 h
  obtain rfl := there_pos hU hp he
  have hlt := (List.getElem?_eq_some_iff.1 hp).1
  have hs : l = l.take (pos l x) ++ p :: l.drop (pos l x + 1) := by
    have h1 := List.take_append_drop (pos l x) l
    rw [List.drop_eq_getElem_cons hlt, (List.getElem?_eq_some_iff.1 hp).2] at h1
    exact h1.symm
  have h1 : others (l.take (pos l x)) x = l.take (pos l x) := others_all fun q hq hx => by
    obtain ⟨j, hj⟩ := List.getElem?_of_mem hq
    rw [List.getElem?_take] at hj
    split at hj
    · have := there_pos hU hj hx; omega
    · cases hj
  have h2 : others (l.drop (pos l x + 1)) x = l.drop (pos l x + 1) := others_all fun q hq hx => by
    obtain ⟨j, hj⟩ := List.getElem?_of_mem hq
    rw [List.getElem?_drop] at hj
    have := there_pos hU hj hx
    omega
  have h3 : others l x = others (l.take (pos l x)) x ++ others (p :: l.drop (pos l x + 1)) x := by
    unfold others
    rw [← List.filter_append, ← hs]
  have h4 : others (p :: l.drop (pos l x + 1)) x = others (l.drop (pos l x + 1)) x := by
    unfold others
    rw [List.filter_cons_of_neg (by simpa using he)]
  rw [h3, h4, h1, h2]
  rfl

set_option maxRecDepth 100000 in
set_option maxHeartbeats 4000000 in
theorem rremove_any (n0 : Nat) (v : Value) (l : List En) (s : ByteArray) (w : World) (h : ArgE n0 w v l) :
    Calls Try.prog 15 #[v, .string s] w fun r w' => (∃ v', r = .returned (.tuple #[v', .int .i64 (rerr l s)]) ∧ OwnE 24 w.heap.size w' v' (rval l s)) ∧ Below w.heap.size w w' := by
  have HC := rfind_any n0 v l s w h
  have HA : Hid (ArgE n0 w v l) := h
  have hln := h.lenR
  obtain ⟨E, hE⟩ : ∃ E, E = rerr l s := ⟨_, rfl⟩
  obtain ⟨R, hR⟩ : ∃ R, R = rval l s := ⟨_, rfl⟩
  rw [← hE, ← hR]
  have HE : Hid (E = rerr l s ∧ R = rval l s) := ⟨hE, hR⟩
  have HZ : Hid (E ≠ 0 → R = []) := fun h0 => by rw [hR]; unfold rval; rw [if_neg (by rw [← hE]; exact h0)]
  obtain ⟨yz, hyz⟩ : ∃ t, t = fno l s := ⟨_, rfl⟩
  rw [← hyz] at HC
  clear h hE hR hyz
  by_cases hck : Chk l
  case neg =>
    obtain rfl : E = 9 := by rw [HE.out.1]; exact if_neg hck
    obtain rfl := HZ.out (by omega)
    rw [cerr_bad hck, show fis l s = false from if_neg hck] at HC
    clear hck
    go_enter Try.func15, Try.ntmps15
    go_wp2_with fail
    refine HC.mono ?_
    rintro r w1 ⟨rfl, q1, rfl⟩
    go_wp2
    go_ret2
    exact ⟨⟨_, rfl, OwnE.nil _ _ _⟩, below_drewN (Below.refl _ _) _⟩
  rw [cerr_ok hck, show fis l s = there l s from if_pos hck] at HC
  have HE2 : Hid (E = if there l s = true then 0 else 101) := by
    show _ = _
    rw [HE.out.1]; unfold rerr; rw [if_pos hck]
  cases ht : there l s
  case false =>
    obtain rfl : E = 101 := by rw [HE2.out, if_neg (by rw [ht]; decide)]
    obtain rfl := HZ.out (by omega)
    rw [ht] at HC
    clear ht hck
    go_enter Try.func15, Try.ntmps15
    go_wp2_with fail
    refine HC.mono ?_
    rintro r w1 ⟨rfl, q1, rfl⟩
    go_wp2
    go_ret2
    exact ⟨⟨_, rfl, OwnE.nil _ _ _⟩, below_drewN (Below.refl _ _) _⟩
  have hE0 : E = 0 := by rw [HE2.out, if_pos ht]
  have HR : Hid (R = others l s) := by
    show _ = _
    rw [others_del hck.2.2 ht, HE.out.2]; unfold rval
    rw [if_pos (by rw [← HE.out.1]; exact hE0)]
  rw [ht] at HC
  subst hE0
  obtain ⟨n, hn⟩ : ∃ n, n = l.length := ⟨_, rfl⟩
  have HN : Hid (n = l.length) := hn
  have h63 : n ≤ 63 := by rw [hn]; exact hck.1
  rw [← hn] at hln
  clear ht hck hn
  go_enter Try.func15, Try.ntmps15
  go_wp2_with fail
  refine HC.mono ?_
  rintro r w1 ⟨rfl, q1, hq1⟩
  have HB1 : Hid (Below w.heap.size w w1) := by rw [hq1]; exact below_drewN (Below.refl _ _) _
  clear hq1 HC
  go_wp2
  go_loopw [9, 10] (fun o i wr => ∃ k : Nat, k ≤ n ∧ i = .int .i64 k ∧ OwnE 24 w.heap.size wr o (others (l.take k) s) ∧ Below w.heap.size w wr) (fun _ i _ => n - (intOf i).toNat)
  case atStart => exact ⟨0, Nat.zero_le _, rfl, OwnE.nil _ _ _, HB1.out⟩
  case round =>
    obtain ⟨k, hk, rfl, hO, hbel⟩ := hrel
    by_cases hlt : k < n
    · obtain ⟨p, hp⟩ := get_lt (l := l) (k := k) (by rw [← HN.out]; exact hlt)
      obtain ⟨b, o, hix, _, hc0, hc1⟩ := (HA.out.below hbel).atR k p hp
      have hki : (k : Int) < (n : Int) := by omega
      have HP : Hid (others (l.take (k + 1)) s = others (l.take k) s ++ others [p] s ∧ EOk p ∧ (others (l.take k) s).length ≤ 63) := ⟨by rw [take_snoc hp]; unfold others; rw [List.filter_append], HA.out.2.get hp, by have := List.length_filter_le (fun p : En => decide (p.1 ≠ s)) (l.take k); rw [List.length_take] at this; unfold others; omega⟩
      obtain ⟨t, y⟩ := p
      simp only at hc0 hc1
      have heq := ba_eq t s
      have HO : Hid (OwnE 24 w.heap.size wr u9 (others (l.take k) s) ∧ Below w.heap.size w wr) := ⟨hO, hbel⟩
      obtain ⟨a', c', rfl⟩ := hO.shape
      obtain ⟨m, hm⟩ : ∃ m, m = (others (l.take k) s).length := ⟨_, rfl⟩
      have HM : Hid ((others (l.take k) s).length = m) := hm.symm
      rw [← hm] at HO ⊢
      have hmle : m ≤ 63 := by rw [hm]; exact HP.out.2.2
      clear hp hO hbel hm
      by_cases hts : t = s
      · rw [decide_eq_true hts] at heq
        have HQ : Hid (others (l.take (k + 1)) s = others (l.take k) s) := by
          show _ = _
          rw [HP.out.1]; simp [others, hts]
        clear hts
        go_wp2
        go_roundw
        case rel => exact ⟨k + 1, by omega, by go_num, by rw [HQ.out]; exact HO.out.1, HO.out.2⟩
        case measure => simp [intOf]; omega
      · rw [decide_eq_false hts] at heq
        have HQ : Hid (others (l.take (k + 1)) s = others (l.take k) s ++ [(t, y)]) := by
          show _ = _
          rw [HP.out.1]; simp [others, hts]
        clear hts
        go_wp2_with (at_builtin; refine push_entry (by rfl) _ _ 22 24 (by rfl) Try.underlying22 Try.info24 w.heap.size _ (others (l.take k) s) m HM.out (t, y) wr (by rfl) HO.out.1 (by rfl) HP.out.2.1 (by omega) HO.out.2.size ?_; intro g cap w3 hO3 hg3 hl3)
        have HW : Hid (OwnE 24 w.heap.size w3 (.slice (some ⟨g, 0, none⟩) (m + 1) cap) (others (l.take (k + 1)) s) ∧ Below w.heap.size w w3) := ⟨by rw [HQ.out]; exact hO3, below_push HO.out.2 HO.out.1 hg3 (Nat.le_refl _) HO.out.2.size⟩
        clear hO3 hg3 hl3 hc0 hc1
        go_wp2
        go_roundw
        case rel => exact ⟨k + 1, by omega, by go_num, HW.out.1, HW.out.2⟩
        case measure => simp [intOf]; omega
    · obtain rfl : k = n := by omega
      rw [show l.take k = l by rw [HN.out]; simp, ← HR.out] at hO
      go_wp2
      go_ret2
      exact ⟨⟨_, rfl, hO⟩, hbel⟩

end Go.Proofs.Ythppbmbhoedphaa
