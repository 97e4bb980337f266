/-
  One entry more behind others; what Of makes of the document's entries: the program's, in memory of their own; what Alike answers.
  What Alike answers: whether the program's entries and the document's are one; what the document's and the program's octets are held against each other by, and copied.
-/
import Derived.Test.YtopcefhncildnaaGreatDoorU21
import Derived.Deep.AppendLies
set_option maxRecDepth 100000
set_option maxHeartbeats 2000000
namespace Go.Proofs.YtopcefhncildnaaGreatDoor.D
open Go.RowKit
theorem push_entry {ops : Array Oper} {rest : List Oper} {o : Oper} {a : Act} {Q : Exit → Act → World → Prop} (hgd : o.guard = none) (s x : Operand) (T E : TypeId) (ho : o.op = .call { callee := .builtin .append, args := #[s, x], argTypes := #[T, T] })
   (ht : Tryz.prog.underlying T = some (.slice E)) (hI : (Tryz.prog.info? E).map (fun i => (i.zero, i.size, i.bytes)) = some (some (.agg #[.string ⟨#[]⟩, .int .i64 0]), 2, 24))
   (base : Nat) (v : Value) (l : List En) (n : Nat) (hn : l.length = n) (p : En) (wr : World) (hs : a.eval s = v) (hO : OwnE E base wr v l) (hx : a.eval x = .slice (some ⟨wr.heap.size, 0, none⟩) 1 1) (hp : EOk p) (hlen : (n + 1) * 24 ≤ 140737488355328) (hb : base ≤ wr.heap.size)
   (h : ∀ g cap w', OwnE E base w' (.slice (some ⟨g, 0, none⟩) (n + 1) cap) (l ++ [p]) → (wr.alloc (.cells #[.string p.1, .int .i64 p.2] E)).grownBy w' v.ownBlock → g < w'.heap.size → wpList Tryz.prog ops Q rest (a.put o.dst (.slice (some ⟨g, 0, none⟩) (n + 1) cap)) w') :
   wpList Tryz.prog ops Q (o :: rest) a (wr.alloc (.cells #[.string p.1, .int .i64 p.2] E)) := by
 obtain ⟨i3, hi3, hz0, hz1, hz2⟩ := info_parts hI
 subst hn
 refine wpList_append_lies _ hgd s x T ho base E i3 _ 2 24 ht hi3 hz0 hz1 hz2 rfl (by omega) v l.length (evs l) hs (hO.1.alloc _) ⟨wr.heap.size, 0, none⟩ 1 1 (ev p) hx (by rfl) (World.news_of_block (cs := #[.string p.1, .int .i64 p.2]) (t := E) (fr := (0, 0)) (heap_alloc_new wr _)) (by simp [ev, Value.oneCell']) (by omega) (by unfold maxLen; omega) (by omega) (by simp; omega) (wr.heap.size + 1) (by simp) ?_
 intro g cap w' h1 h2 h3 h4
 refine h g cap w' ⟨?_, hO.2.snoc hp⟩ h2 h4
 rw [List.length_append, evs_append]
 simpa [evs] using h1
theorem below_push {n : Nat} {w wr w' : World} {o : Obj} {E : TypeId} {base : Nat} {v : Value} {l : List En} (hb : Below n w wr) (hO : OwnE E base wr v l) (hg : (wr.alloc o).grownBy w' v.ownBlock) (hn : n ≤ base) (hs : n ≤ wr.heap.size) : Below n w w' :=
 (hb.alloc hs o).grown hg (by simp; omega) (fun j hj => by have := (hO.1.lt j hj).1; omega)
theorem of_any (n0 : Nat) (v : Value) (l : List En) (w : World) (h : ArgE n0 w v l) (hf : l.length * 24 ≤ 140737488351232) :
   Calls Tryz.prog 46 #[v] w fun e w' => (∃ v', e = .returned v' ∧ OwnE 49 w.heap.size w' v' l) ∧ Below w.heap.size w w' := by
 obtain ⟨a, c, rfl, _, hm, _⟩ := h.shape
 unfold maxLen at hm
 obtain ⟨n, hn⟩ := exa (l.length)
 rw [← hn] at h hm hf ⊢
 have hl1 := run_len Tryz.underlying96 a n c
 have HH : Hid (ArgE n0 w (.slice a n c) l ∧ n = l.length) := ⟨h, hn⟩
 clear h hn
 go_enter Tryz.func46, Tryz.ntmps46
 go_wp2
 go_loopw [3, 4] (fun v i wr => ∃ k : Nat, k ≤ n ∧ i = .int .i64 k ∧ OwnE 49 w.heap.size wr v (l.take k) ∧ Below w.heap.size w wr) (fun _ i _ => n - (intOf i).toNat)
 case atStart => exact ⟨0, Nat.zero_le _, rfl, OwnE.nil _ _ _, Below.refl _ _⟩
 case round => (
 obtain ⟨k, hk, rfl, hO, hbel⟩ := hrel
 by_cases hlt : k < n
 · obtain ⟨p, hp⟩ := get_lt (l := l) (k := k) (by rw [← HH.out.2]; exact hlt)
   obtain ⟨b, o, hix, _, hc0, hc1⟩ := (HH.out.1.below hbel).atR k p hp
   have hki : (k : Int) < (n : Int) := by omega
   have HP : Hid (l.take (k + 1) = l.take k ++ [p] ∧ (l.take k).length = k ∧ EOk p) := ⟨take_snoc hp, by have := HH.out.2; rw [List.length_take]; omega, HH.out.1.2.get hp⟩
   obtain ⟨s, y⟩ := p
   simp only at hc0 hc1
   have HO : Hid (OwnE 49 w.heap.size wr u3 (l.take k) ∧ Below w.heap.size w wr) := ⟨hO, hbel⟩
   obtain ⟨a', c', rfl⟩ := hO.shape
   clear hp hO hbel
   go_wp2_with (at_builtin; refine push_entry (by rfl) _ _ 42 49 (by rfl) Tryz.underlying42 Tryz.info49 w.heap.size _ (l.take k) k HP.out.2.1 (s, y) wr (by rfl) HO.out.1 (by rfl) HP.out.2.2 (by omega) HO.out.2.size ?_; intro g cap w3 hO3 hg3 hlt3)
   have HW : Hid (OwnE 49 w.heap.size w3 (.slice (some ⟨g, 0, none⟩) (k + 1) cap) (l.take (k + 1)) ∧ Below w.heap.size w w3) := ⟨by rw [HP.out.1]; exact hO3, below_push HO.out.2 HO.out.1 hg3 (Nat.le_refl _) HO.out.2.size⟩
   clear hO3 hg3 hlt3 hc0 hc1
   go_wp2
   go_roundw
   case rel => exact ⟨k + 1, by omega, by go_num, HW.out.1, HW.out.2⟩
   case measure => simp [intOf]; omega
 · obtain rfl : k = n := by omega
   rw [show l.take k = l by rw [HH.out.2]; simp] at hO
   go_wp2
   go_ret
   exact ⟨⟨_, rfl, hO⟩, hbel⟩)
end Go.Proofs.YtopcefhncildnaaGreatDoor.D
namespace Go.Proofs.YtopcefhncildnaaGreatDoor.D
open Go.RowKit
theorem alike_en {a b : List En} (hl : a.length = b.length) (h : ∀ (i : Nat), i < a.length → a[i]? = b[i]?) : a = b := by
 apply List.ext_getElem? 
 intro i
 by_cases hi : i < a.length
 · exact h i hi
 · rw [List.getElem?_eq_none (by omega), List.getElem?_eq_none (by omega)]
theorem alike_any (n1 n2 : Nat) (v1 v2 : Value) (l1 l2 : List En) (w : World) (h1 : ArgE n1 w v1 l1) (h2 : ArgE n2 w v2 l2) :
   Calls Tryz.prog 59 #[v1, v2] w fun e w' => e = .returned (.int .i64 (if l1 = l2 then 0 else 1)) ∧ ∃ q, w' = w.drewN q := by
 obtain ⟨a1, c1, rfl, _, hm1, _⟩ := h1.shape
 obtain ⟨a2, c2, rfl, _, hm2, _⟩ := h2.shape
 unfold maxLen at hm1 hm2
 have hr1 := run_len Tryz.underlying42 a1 l1.length c1
 have hr2 := run_len Tryz.underlying96 a2 l2.length c2
 by_cases hlen : l1.length = l2.length
 case neg => (
 rw [if_neg (fun e => hlen (by rw [e]))]
 have hne : ¬ (l1.length : Int) = (l2.length : Int) := by omega
 clear h1 h2
 go_enter Tryz.func59, Tryz.ntmps59
 go_wp2
 go_ret
 exact ⟨rfl, 0, rfl⟩)
 obtain ⟨n, hn⟩ := exa (l1.length)
 have HN : Hid (n = l1.length ∧ n = l2.length) := ⟨hn, by omega⟩
 rw [← hlen] at h2 hr2 ⊢
 rw [← hn] at h1 h2 hr1 hr2 hm1 ⊢
 have HA : Hid (ArgE n1 w (.slice a1 n c1) l1 ∧ ArgE n2 w (.slice a2 n c2) l2) := ⟨h1, h2⟩
 obtain ⟨d, hd⟩ : ∃ d : Int, d = if l1 = l2 then 0 else 1 := ⟨_, rfl⟩
 rw [← hd]
 have HD : Hid (d = if l1 = l2 then 0 else 1) := hd
 clear h1 h2 hn hlen hd
 go_enter Tryz.func59, Tryz.ntmps59
 go_wp2
 go_loopw [5] (fun i wr => ∃ k : Nat, k ≤ n ∧ i = .int .i64 k ∧ Hid (∀ (i : Nat), i < k → l1[i]? = l2[i]?) ∧ ∃ q, wr = w.drewN q) (fun i _ => n - (intOf i).toNat)
 case atStart => exact ⟨0, Nat.zero_le _, rfl, fun i hi => by omega, 0, rfl⟩
 case round => (
 obtain ⟨k, hk, rfl, HK, q, hq⟩ := hrel
 have HQ : Hid (∀ r, ∃ q', wr.drewN r = w.drewN q') := fun r => ⟨_, by rw [hq]; exact World.drewN_drewN _ _ _⟩
 have HQ0 : Hid (∃ q', wr = w.drewN q') := ⟨q, hq⟩
 have hb0 : Below w.heap.size w wr := by rw [hq]; exact below_drewN (Below.refl _ _) q
 clear hq
 by_cases hlt : k < n
 · obtain ⟨x, hx⟩ := get_lt (l := l1) (k := k) (by rw [← HN.out.1]; exact hlt)
   obtain ⟨y, hy⟩ := get_lt (l := l2) (k := k) (by rw [← HN.out.2]; exact hlt)
   obtain ⟨b1, o1, hix1, _, g1, e1⟩ := (HA.out.1.below hb0).atN k x hx
   obtain ⟨b2, o2, hix2, _, g2, e2⟩ := (HA.out.2.below hb0).atR k y hy
   have hkn : (k : Int) < (n : Int) := by omega
   have HXY : Hid (l1[k]? = some x ∧ l2[k]? = some y) := ⟨hx, hy⟩
   obtain ⟨xs, xi⟩ := x
   obtain ⟨ys, yi⟩ := y
   simp only at g1 g2 e1 e2
   have hbe := ba_eq xs ys
   clear hx hy hb0
   by_cases hxy : xs = ys ∧ xi = yi
   · obtain ⟨rfl, rfl⟩ := hxy
     clear hbe
     go_wp2
     go_quiet (fail)
     go_wp2
     go_roundw
     case rel => (
 refine ⟨k + 1, by omega, by go_num, fun i hi => ?_, HQ.out _⟩
 by_cases e : i < k
 · exact HK.out i e
 · obtain rfl : i = k := by omega
   rw [HXY.out.1, HXY.out.2])
     case measure => simp [intOf]; omega
   · have hdf : d = 1 := by
       rw [HD.out]
       refine if_neg fun e => hxy ?_
       have h1 := HXY.out.1
       rw [e, HXY.out.2] at h1
       simp at h1
       exact ⟨h1.1.symm, h1.2.symm⟩
     subst hdf
     by_cases hs : xs = ys
     · subst hs
       have hxi : (xi == yi) = false := by (
 rw [Bool.eq_false_iff]
 intro hc
 exact hxy ⟨rfl, by simpa using hc⟩)
       clear hxy hbe
       go_wp2
       go_quiet (fail)
       go_wp2
       go_ret
       exact ⟨rfl, HQ.out _⟩
     · rw [decide_eq_false hs] at hbe
       clear hxy hs
       go_wp2
       go_quiet (fail)
       go_wp2
       go_ret
       exact ⟨rfl, HQ.out _⟩
 · obtain rfl : k = n := by omega
   have hdt : d = 0 := by (
 rw [HD.out]
 exact if_pos (alike_en (by have := HN.out; omega) (fun i hi => HK.out i (by rw [HN.out.1]; exact hi))))
   subst hdt
   clear hb0
   go_wp2
   go_ret
   exact ⟨rfl, HQ0.out⟩)
end Go.Proofs.YtopcefhncildnaaGreatDoor.D
