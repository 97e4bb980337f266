/-
  Numbers of errors; the document's slots as the program's, in memory of their own; whether two tables are alike.
-/
import Derived.Test.YtgfdggilplkmfaaTMath
import Derived.Deep.AppendLies
import Derived.Laws.StructEq
namespace Go.Proofs.Ytgfdggilplkmfaa
open Go.RowKit

set_option maxHeartbeats 400000 in
theorem num_any (x : Int) (w : World) : Calls Try.prog 19 #[.int .i64 x] w fun e w' => e = .returned (.int .i64 x) ∧ w = w' := by
  go_enter Try.func19, Try.ntmps19
  go_wp2
  go_ret
  exact ⟨rfl, rfl⟩

/-- append(out, s): the slot lies in a block that was just made. -/
theorem push_entry {ops : Array Oper} {rest : List Oper} {o : Oper} {a : Act} {Q : Exit → Act → World → Prop} (hgd : o.guard = none) (s x : Operand) (T E : TypeId) (ho : o.op = .call { callee := .builtin .append, args := #[s, x], argTypes := #[T, T] })
    (ht : Try.prog.underlying T = some (.slice E)) (hI : (Try.prog.info? E).map (fun i => (i.zero, i.size, i.bytes)) = some (some (.agg #[.int .i64 0, .int .i64 0]), 2, 16))
    (base : Nat) (v : Value) (l : List Sl) (n : Nat) (hn : l.length = n) (p : Sl) (wr : World) (hs : a.eval s = v) (hO : OwnE E base wr v l) (hx : a.eval x = .slice (some ⟨wr.heap.size, 0, none⟩) 1 1) (hp : EOk p) (hlen : (n + 1) * 16 ≤ 140737488355328) (hb : base ≤ wr.heap.size)
    (h : ∀ g cap w', OwnE E base w' (.slice (some ⟨g, 0, none⟩) (n + 1) cap) (l ++ [p]) → (wr.alloc (.cells #[.int .i64 p.1, .int .i64 p.2] E)).grownBy w' v.ownBlock → g < w'.heap.size → wpList Try.prog ops Q rest (a.put o.dst (.slice (some ⟨g, 0, none⟩) (n + 1) cap)) w') :
    wpList Try.prog ops Q (o :: rest) a (wr.alloc (.cells #[.int .i64 p.1, .int .i64 p.2] E)) := by
  obtain ⟨i3, hi3, hz0, hz1, hz2⟩ := info_parts hI
  subst hn
  refine wpList_append_lies _ hgd s x T ho base E i3 _ 2 16 ht hi3 hz0 hz1 hz2 rfl (by omega) v l.length (evs l) hs (hO.1.alloc _) ⟨wr.heap.size, 0, none⟩ 1 1 (ev p) hx (by rfl) (World.news_of_block (cs := #[.int .i64 p.1, .int .i64 p.2]) (t := E) (fr := (0, 0)) (heap_alloc_new wr _)) (by simp [ev, Value.oneCell']) (by omega) (by unfold maxLen; omega) (by omega) (by simp; omega) (wr.heap.size + 1) (by simp) ?_
  intro g cap w' h1 h2 h3 h4
  refine h g cap w' ⟨?_, hO.2.snoc hp⟩ h2 h4
  rw [List.length_append, evs_append]
  simpa [evs] using h1

theorem below_push {n : Nat} {w wr w' : World} {o : Obj} {E : TypeId} {base : Nat} {v : Value} {l : List Sl} (hb : Below n w wr) (hO : OwnE E base wr v l) (hg : (wr.alloc o).grownBy w' v.ownBlock) (hn : n ≤ base) (hs : n ≤ wr.heap.size) : Below n w w' :=
  (hb.alloc hs o).grown hg (by simp; omega) (fun j hj => by have := (hO.1.lt j hj).1; omega)

set_option maxRecDepth 100000 in
set_option maxHeartbeats 2000000 in
theorem of_any (n0 : Nat) (v : Value) (l : List Sl) (w : World) (h : ArgE n0 w v l) (hf : l.length * 16 ≤ 140737488351232) :
    Calls Try.prog 7 #[v] w fun e w' => (∃ v', e = .returned v' ∧ OwnE 57 w.heap.size w' v' l) ∧ Below w.heap.size w w' := by
  obtain ⟨a, c, rfl, _, hm, _⟩ := h.shape
  unfold maxLen at hm
  obtain ⟨n, hn⟩ : ∃ n, n = l.length := ⟨_, rfl⟩
  rw [← hn] at h hm hf ⊢
  have hl1 := run_len Try.underlying22 a n c
  have HH : Hid (ArgE n0 w (.slice a n c) l ∧ n = l.length) := ⟨h, hn⟩
  clear h hn
  go_enter Try.func7, Try.ntmps7
  go_wp2
  go_loopw [3, 4] (fun v i wr => ∃ k : Nat, k ≤ n ∧ i = .int .i64 k ∧ OwnE 57 w.heap.size wr v (l.take k) ∧ Below w.heap.size w wr) (fun _ i _ => n - (intOf i).toNat)
  case atStart => exact ⟨0, Nat.zero_le _, rfl, OwnE.nil _ _ _, Below.refl _ _⟩
  case round =>
    obtain ⟨k, hk, rfl, hO, hbel⟩ := hrel
    by_cases hlt : k < n
    · obtain ⟨p, hp⟩ := get_lt (l := l) (k := k) (by rw [← HH.out.2]; exact hlt)
      obtain ⟨b, o, hix, _, hc0, hc1⟩ := (HH.out.1.below hbel).atR k p hp
      have hki : (k : Int) < (n : Int) := by omega
      have HP : Hid (l.take (k + 1) = l.take k ++ [p] ∧ (l.take k).length = k ∧ EOk p) := ⟨take_snoc hp, by have := HH.out.2; rw [List.length_take]; omega, HH.out.1.2.get hp⟩
      obtain ⟨s, y⟩ := p
      simp only at hc0 hc1
      have HO : Hid (OwnE 57 w.heap.size wr u3 (l.take k) ∧ Below w.heap.size w wr) := ⟨hO, hbel⟩
      obtain ⟨a', c', rfl⟩ := hO.shape
      clear hp hO hbel
      go_wp2_with (at_builtin; refine push_entry (by rfl) _ _ 23 57 (by rfl) Try.underlying23 Try.info57 w.heap.size _ (l.take k) k HP.out.2.1 (s, y) wr (by rfl) HO.out.1 (by rfl) HP.out.2.2 (by omega) HO.out.2.size ?_; intro g cap w3 hO3 hg3 hlt3)
      have HW : Hid (OwnE 57 w.heap.size w3 (.slice (some ⟨g, 0, none⟩) (k + 1) cap) (l.take (k + 1)) ∧ Below w.heap.size w w3) := ⟨by rw [HP.out.1]; exact hO3, below_push HO.out.2 HO.out.1 hg3 (Nat.le_refl _) HO.out.2.size⟩
      clear hO3 hg3 hlt3 hc0 hc1
      go_wp2
      go_roundw
      case rel => exact ⟨k + 1, by omega, by go_num, HW.out.1, HW.out.2⟩
      case measure => simp [intOf]; omega
    · obtain rfl : k = n := by omega
      have hT : l.take k = l := by rw [HH.out.2]; simp
      rw [hT] at hO
      have HO : Hid (OwnE 57 w.heap.size wr u3 l ∧ Below w.heap.size w wr) := ⟨hO, hbel⟩
      clear hO hbel hT
      go_wp2
      go_ret
      exact ⟨⟨_, rfl, HO.out.1⟩, HO.out.2⟩

theorem alike {a b : List Sl} (hl : a.length = b.length) (h : ∀ i : Nat, i < a.length → a[i]? = b[i]?) : a = b := by
  refine List.ext_getElem? fun i => ?_
  by_cases hi : i < a.length
  · exact h i hi
  · rw [List.getElem?_eq_none (by omega), List.getElem?_eq_none (by omega)]

set_option maxRecDepth 100000 in
set_option maxHeartbeats 4000000 in
theorem same_any (n1 n2 : Nat) (v1 v2 : Value) (l1 l2 : List Sl) (w : World) (h1 : ArgE n1 w v1 l1) (h2 : ArgE n2 w v2 l2) :
    Calls Try.prog 18 #[v1, v2] w fun e w' => e = .returned (.bool (decide (l1 = l2))) ∧ Below w.heap.size w w' := by
  obtain ⟨a1, c1, rfl, _, hm1, _⟩ := h1.shape
  obtain ⟨a2, c2, rfl, _, hm2, _⟩ := h2.shape
  unfold maxLen at hm1 hm2
  have hr1 := run_len Try.underlying23 a1 l1.length c1
  have hr2 := run_len Try.underlying22 a2 l2.length c2
  obtain ⟨d, hd⟩ : ∃ d, d = decide (l1 = l2) := ⟨_, rfl⟩
  rw [← hd]
  have HD : Hid (d = decide (l1 = l2)) := hd
  clear hd
  by_cases hlen : l1.length = l2.length
  case neg =>
    obtain rfl : d = false := by
      rw [HD.out, decide_eq_false_iff_not]
      intro h; exact hlen (by rw [h])
    have hne : ¬ (l1.length : Int) = (l2.length : Int) := by omega
    clear h1 h2
    go_enter Try.func18, Try.ntmps18
    go_wp2
    go_ret
    exact ⟨rfl, Below.refl _ _⟩
  have HA : Hid (ArgE n1 w (.slice a1 l1.length c1) l1 ∧ ArgE n2 w (.slice a2 l1.length c2) l2) := ⟨h1, by rw [hlen]; exact h2⟩
  obtain ⟨n, hn⟩ : ∃ n, n = l1.length := ⟨_, rfl⟩
  rw [← hlen] at hr2 ⊢
  rw [← hn] at hr1 hr2 hm1 HA ⊢
  have HN : Hid (n = l1.length ∧ l1.length = l2.length) := ⟨hn, hlen⟩
  clear h1 h2 hn hlen hm2
  go_enter Try.func18, Try.ntmps18
  go_wp2
  go_loopw [5] (fun i wr => ∃ k : Nat, k ≤ n ∧ i = .int .i64 k ∧ Hid (∀ i : Nat, i < k → l1[i]? = l2[i]?) ∧ Below w.heap.size w wr) (fun i _ => n - (intOf i).toNat)
  case atStart => exact ⟨0, Nat.zero_le _, rfl, fun i hi => by omega, Below.refl _ _⟩
  case round =>
    obtain ⟨k, hk, rfl, HK, hbel⟩ := hrel
    by_cases hlt : k < n
    · obtain ⟨p, hp⟩ := get_lt (l := l1) (k := k) (by rw [← HN.out.1]; exact hlt)
      obtain ⟨q, hq⟩ := get_lt (l := l2) (k := k) (by rw [← HN.out.2, ← HN.out.1]; exact hlt)
      obtain ⟨b1, o1, hix1, _, c0, c1'⟩ := (HA.out.1.below hbel).atN k p hp
      obtain ⟨b2, o2, hix2, _, d0, d1⟩ := (HA.out.2.below hbel).atR k q hq
      have HPQ : Hid (l1[k]? = some p ∧ l2[k]? = some q ∧ Below w.heap.size w wr) := ⟨hp, hq, hbel⟩
      have hkn : (k : Int) < (n : Int) := by omega
      obtain ⟨p1, p2⟩ := p
      obtain ⟨q1, q2⟩ := q
      simp only at c0 c1' d0 d1
      clear hp hq hbel
      by_cases e : p1 = q1 ∧ p2 = q2
      · obtain ⟨rfl, rfl⟩ := e
        go_wp2
        go_quiet (fail)
        go_wp2
        go_roundw
        case rel =>
          refine ⟨k + 1, by omega, by go_num, fun i hi => ?_, below_drewN HPQ.out.2.2 _⟩
          by_cases e : i < k
          · exact HK.out i e
          · obtain rfl : i = k := by omega
            rw [HPQ.out.1, HPQ.out.2.1]
        case measure => simp [intOf]; omega
      · obtain rfl : d = false := by
          rw [HD.out, decide_eq_false_iff_not]
          intro h
          have h1 := HPQ.out.1
          rw [h, HPQ.out.2.1] at h1
          have := Option.some.inj h1
          injection this with e1 e2
          exact e ⟨e1.symm, e2.symm⟩
        by_cases e1 : p1 = q1
        · subst e1
          have e2 : (p2 == q2) = false := by simpa using fun h => e ⟨rfl, h⟩
          clear e
          go_wp2
          go_quiet (fail)
          go_wp2
          go_ret
          exact ⟨rfl, below_drewN HPQ.out.2.2 _⟩
        · have e2 : (p1 == q1) = false := by simpa using e1
          clear e e1
          go_wp2
          go_quiet (fail)
          go_wp2
          go_ret
          exact ⟨rfl, below_drewN HPQ.out.2.2 _⟩
    · obtain rfl : k = n := by omega
      obtain rfl : d = true := by
        rw [HD.out, decide_eq_true_eq]
        exact alike HN.out.2 (fun i hi => HK.out i (by rw [HN.out.1]; exact hi))
      clear HK
      go_wp2
      go_ret
      exact ⟨rfl, hbel⟩

end Go.Proofs.Ytgfdggilplkmfaa
