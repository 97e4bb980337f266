/-
  One entry more behind others; what Of makes of the document's entries: the program's, in memory of their own; what Alike answers.
-/
import Derived.Test.YtkcnephbaffmbaaGreatDoorK14
import Derived.Deep.AppendLies
set_option maxRecDepth 100000
set_option maxHeartbeats 2000000
namespace Go.Proofs.YtkcnephbaffmbaaGreatDoor.D
open Go.RowKit
theorem push_entry {ops : Array Oper} {rest : List Oper} {o : Oper} {a : Act} {Q : Exit → Act → World → Prop} (hgd : o.guard = none) (s x : Operand) (T E : TypeId) (ho : o.op = .call { callee := .builtin .append, args := #[s, x], argTypes := #[T, T] })
   (ht : Tryz.prog.underlying T = some (.slice E)) (hI : (Tryz.prog.info? E).map (fun i => (i.zero, i.size, i.bytes)) = some (some (.agg #[.string ⟨#[]⟩, .int .i64 0]), 2, 24))
   (base : Nat) (v : Value) (l : List En) (n : Nat) (hn : l.length = n) (p : En) (wr : World) (hs : a.eval s = v) (hO : OwnE E base wr v l) (hx : a.eval x = .slice (some ⟨wr.heap.size, 0, none⟩) 1 1) (hp : EOk p) (hlen : (n + 1) * 24 ≤ 140737488355328) (hb : base ≤ wr.heap.size)
   (h : ∀ g cap w', OwnE E base w' (.slice (some ⟨g, 0, none⟩) (n + 1) cap) (l ++ [p]) → (wr.alloc (.cells #[.string p.1, .int .i64 p.2] E)).grownBy w' v.ownBlock → g < w'.heap.size → wpList Tryz.prog ops Q rest (a.put o.dst (.slice (some ⟨g, 0, none⟩) (n + 1) cap)) w') :
   wpList Tryz.prog ops Q (o :: rest) a (wr.alloc (.cells #[.string p.1, .int .i64 p.2] E)) := by
 obtain ⟨i3, hi3, hz0, hz1, hz2⟩ := info_parts hI
 subst hn
 refine wpList_append_lies _ hgd s x T ho base E i3 _ 2 24 ht hi3 hz0 hz1 hz2 rfl (by omega) v l.length (evs l) hs (hO.1.alloc _) ⟨wr.heap.size, 0, none⟩ 1 1 (ev p) hx (by rfl) (World.news_of_block (cs := #[.string p.1, .int .i64 p.2]) (t := E) (fr := (0, 0)) (heap_alloc_new wr _)) (by simp [ev, Value.oneCell']) (by omega) (by unfold maxLen; omega) (by omega) (by simp; omega) (wr.heap.size + 1) (by simp) ?_
 intro g cap w' h1 h2 h3 h4
 refine h g cap w' ⟨?_, hO.2.snoc hp⟩ h2 h4
 rw [List.length_append, evs_append]
 simpa [evs] using h1
theorem below_push {n : Nat} {w wr w' : World} {o : Obj} {E : TypeId} {base : Nat} {v : Value} {l : List En} (hb : Below n w wr) (hO : OwnE E base wr v l) (hg : (wr.alloc o).grownBy w' v.ownBlock) (hn : n ≤ base) (hs : n ≤ wr.heap.size) : Below n w w' :=
 (hb.alloc hs o).grown hg (by simp; omega) (fun j hj => by have := (hO.1.lt j hj).1; omega)
theorem of_any (n0 : Nat) (v : Value) (l : List En) (w : World) (h : ArgE n0 w v l) (hf : l.length * 24 ≤ 140737488351232) :
   Calls Tryz.prog 43 #[v] w fun e w' => (∃ v', e = .returned v' ∧ OwnE 138 w.heap.size w' v' l) ∧ Below w.heap.size w w' := by
 obtain ⟨a, c, rfl, _, hm, _⟩ := h.shape
 unfold maxLen at hm
 obtain ⟨n, hn⟩ : ∃ n, n = l.length := ⟨_, rfl⟩
 rw [← hn] at h hm hf ⊢
 have hl1 := run_len Tryz.underlying73 a n c
 have HH : Hid (ArgE n0 w (.slice a n c) l ∧ n = l.length) := ⟨h, hn⟩
 clear h hn
 go_enter Tryz.func43, Tryz.ntmps43
 go_wp2
 go_loopw [3, 4] (fun v i wr => ∃ k : Nat, k ≤ n ∧ i = .int .i64 k ∧ OwnE 138 w.heap.size wr v (l.take k) ∧ Below w.heap.size w wr) (fun _ i _ => n - (intOf i).toNat)
 case atStart => exact ⟨0, Nat.zero_le _, rfl, OwnE.nil _ _ _, Below.refl _ _⟩
 case round =>
   obtain ⟨k, hk, rfl, hO, hbel⟩ := hrel
   by_cases hlt : k < n
   · obtain ⟨p, hp⟩ := get_lt (l := l) (k := k) (by rw [← HH.out.2]; exact hlt)
     obtain ⟨b, o, hix, _, hc0, hc1⟩ := (HH.out.1.below hbel).atR k p hp
     have hki : (k : Int) < (n : Int) := by omega
     have HP : Hid (l.take (k + 1) = l.take k ++ [p] ∧ (l.take k).length = k ∧ EOk p) := ⟨take_snoc hp, by have := HH.out.2; rw [List.length_take]; omega, HH.out.1.2.get hp⟩
     obtain ⟨s, y⟩ := p
     simp only at hc0 hc1
     have HO : Hid (OwnE 138 w.heap.size wr u3 (l.take k) ∧ Below w.heap.size w wr) := ⟨hO, hbel⟩
     obtain ⟨a', c', rfl⟩ := hO.shape
     clear hp hO hbel
     go_wp2_with (at_builtin; refine push_entry (by rfl) _ _ 79 138 (by rfl) Tryz.underlying79 Tryz.info138 w.heap.size _ (l.take k) k HP.out.2.1 (s, y) wr (by rfl) HO.out.1 (by rfl) HP.out.2.2 (by omega) HO.out.2.size ?_; intro g cap w3 hO3 hg3 hlt3)
     have HW : Hid (OwnE 138 w.heap.size w3 (.slice (some ⟨g, 0, none⟩) (k + 1) cap) (l.take (k + 1)) ∧ Below w.heap.size w w3) := ⟨by rw [HP.out.1]; exact hO3, below_push HO.out.2 HO.out.1 hg3 (Nat.le_refl _) HO.out.2.size⟩
     clear hO3 hg3 hlt3 hc0 hc1
     go_wp2
     go_roundw
     case rel => exact ⟨k + 1, by omega, by go_num, HW.out.1, HW.out.2⟩
     case measure => simp [intOf]; omega
   · obtain rfl : k = n := by omega
     rw [show l.take k = l by rw [HH.out.2]; simp] at hO
     go_wp2
     go_ret
     exact ⟨⟨_, rfl, hO⟩, hbel⟩
end Go.Proofs.YtkcnephbaffmbaaGreatDoor.D
