/-
  What prepare answers: why an op may not be done at all, and the names of each of its paths.
  What fs.Find answers, for every file system and every path.
  What ops.hasLonger answers of any texts, and ops.Check of any op.
  What ops.checkReply answers of any reply.
  The document's answers: a reply checked.
-/
import Derived.Test.YtopcefhncildnaaGreatDoorZ35
import Derived.Test.YtopcefhncildnaaGreatDoorZ40
set_option maxRecDepth 100000
set_option maxHeartbeats 4000000
namespace Go.Proofs.YtopcefhncildnaaGreatDoor
open Go.RowKit
open P (ArgT OwnT tv serr sval)
theorem push_row {ops : Array Oper} {rest : List Oper} {o : Oper} {a : Act} {Q : Exit → Act → World → Prop} (hgd : o.guard = none) (s x : Operand) (T E : TypeId) (ho : o.op = .call { callee := .builtin .append, args := #[s, x], argTypes := #[T, T] })
   (ht : Tryz.prog.underlying T = some (.slice E)) {z : Value} {size bytes : Nat} (hI : (Tryz.prog.info? E).map (fun i => (i.zero, i.size, i.bytes)) = some (some z, size, bytes)) (hzs : z.cells.size = size) (hsz : 0 < size)
   (base : Nat) (v : Value) (xs : List Value) (n : Nat) (us : List Value) (hus : us.length = size) (h1 : ∀ u ∈ us, u.oneCell' = true) (wr : World) (hs : a.eval s = v) (hO : wr.ownsRow base E size v n xs) (hx : a.eval x = .slice (some ⟨wr.heap.size, 0, none⟩) 1 1) (hlen : (n + 1) * bytes ≤ 140737488355328) (hn : n ≤ 1000000000000000) (hb : base ≤ wr.heap.size)
   (h : ∀ g cap w', w'.ownsRow base E size (.slice (some ⟨g, 0, none⟩) (n + 1) cap) (n + 1) (xs ++ us) → (wr.alloc (.cells us.toArray E)).grownBy w' v.ownBlock → (v.ownBlock = some g ∨ g = wr.heap.size + 1) → g < w'.heap.size → wpList Tryz.prog ops Q rest (a.put o.dst (.slice (some ⟨g, 0, none⟩) (n + 1) cap)) w') :
   wpList Tryz.prog ops Q (o :: rest) a (wr.alloc (.cells us.toArray E)) := by
 obtain ⟨i3, hi3, hz0, hz1, hz2⟩ := info_parts hI
 exact wpList_append_lies _ hgd s x T ho base E i3 z size bytes ht hi3 hz0 hz1 hz2 hzs hsz v n xs hs (hO.alloc _) ⟨wr.heap.size, 0, none⟩ 1 1 us hx (by omega) (fun j u hu => World.news_of_block (cs := us.toArray) (t := E) (fr := (0, 0)) (heap_alloc_new wr _) j u (by simpa using hu)) h1 (by omega) (by unfold maxLen; omega) hlen (by simp; omega) (wr.heap.size + 1) (by simp) h
theorem below_row {n : Nat} {w wr w' : World} {o : Obj} {E : TypeId} {base size k : Nat} {v : Value} {xs : List Value} (hb : Below n w wr) (hO : wr.ownsRow base E size v k xs) (hg : (wr.alloc o).grownBy w' v.ownBlock) (hn : n ≤ base) (hs : n ≤ wr.heap.size) : Below n w w' :=
 (hb.alloc hs o).grown hg (by simp; omega) (fun j hj => by have := (hO.lt j hj).1; omega)
theorem Tryz.info57 : (Tryz.prog.info? 57).map (fun i => (i.zero, i.size, i.bytes)) = some (some (.slice none 0 0), 1, 24) := by kernel_rfl
def psE : List ByteArray → Int
 | [] => 0
 | p :: r => if serr p = 0 then psE r else serr p
theorem psE_take {ps : List ByteArray} : ∀ {k : Nat}, (∀ p ∈ ps.take k, serr p = 0) → psE ps = psE (ps.drop k) := by
 induction ps with
 | nil => intro k _; simp
 | cons p r ih => (
 intro k h
 cases k with
 | zero => rfl
 | succ k => (
 have h1 := h p (by simp)
 rw [psE, if_pos h1, List.drop_succ_cons]
 exact ih fun q hq => h q (by rw [List.take_succ_cons]; exact List.mem_cons_of_mem _ hq)))
theorem psE_bad {ps : List ByteArray} {k : Nat} {p : ByteArray} (h : ∀ p ∈ ps.take k, serr p = 0) (hp : ps[k]? = some p) (hb : serr p ≠ 0) : psE ps = serr p := by
 obtain ⟨h1, h2⟩ := List.getElem?_eq_some_iff.1 hp
 rw [psE_take h, List.drop_eq_getElem_cons h1, h2, psE, if_neg hb]
theorem psE_all {ps : List ByteArray} (h : ∀ p ∈ ps, serr p = 0) : psE ps = 0 := by
 induction ps with
 | nil => rfl
 | cons p r ih => rw [psE, if_pos (h p (List.mem_cons_self ..))]; exact ih fun q hq => h q (List.mem_cons_of_mem _ hq)
theorem psE_zero {ps : List ByteArray} (h : psE ps = 0) : ∀ p ∈ ps, serr p = 0 := by
 induction ps with
 | nil => intro p hp; cases hp
 | cons q r ih => (
 intro p hp
 rw [psE] at h
 by_cases hq : serr q = 0
 · rw [if_pos hq] at h
   rcases List.mem_cons.1 hp with rfl | hp
   · exact hq
   · exact ih h p hp
 · rw [if_neg hq] at h
   exact absurd h hq)
def OwnL (base : Nat) (w : World) (v : Value) (ps : List ByteArray) : Prop := ∃ us, w.ownsRow base 57 1 v ps.length us ∧ Each (fun u p => OwnT base w u (sval p)) us ps
theorem OwnL.nil (base : Nat) (w : World) : OwnL base w (.slice none 0 0) [] := ⟨[], World.ownsRow_nil _ _ _ _, trivial⟩
theorem OwnL.below {base : Nat} {w w' : World} {v : Value} {ps : List ByteArray} (h : OwnL base w v ps) (hb : Below w.heap.size w w') : OwnL base w' v ps := by
 obtain ⟨us, h1, h2⟩ := h
 exact ⟨us, own_below h1 hb, h2.mono fun _ _ h => h.below hb⟩
theorem OwnL.at {base : Nat} {w : World} {v : Value} {ps : List ByteArray} (h : OwnL base w v ps) (i : Nat) (p : ByteArray) (hp : ps[i]? = some p) :
   ∃ b o a c, (∀ W, (Instr.indexAt 106 v (.int .i64 i)).run Tryz.prog W = .ok (.pointer (some ⟨b, o, none⟩)) W) ∧ w.cell? ⟨b, o, none⟩ = some (.slice a (sval p).length c) ∧ ArgT base w (.slice a (sval p).length c) (sval p) := by
 obtain ⟨us, h1, h2⟩ := h
 obtain ⟨u, hu, hT⟩ := h2.get hp
 obtain ⟨a, c, rfl⟩ := hT.shape
 obtain ⟨i0, hi0, _, hz, _⟩ := info_parts Tryz.info57
 have hC : Cells base w 1 v ps.length us := .own h1
 obtain ⟨b, o, hix, _, hc⟩ := hC.index (by omega) Tryz.underlying106 hi0 hz i (List.getElem?_eq_some_iff.1 hp).1
 exact ⟨b, o, a, c, hix, hc 0 _ (by simpa using hu), hT.arg⟩
theorem prepare_any (n0 n1 : Nat) (a : Option Addr) (c : Nat) (s : St) (av : Option Addr) (cv : Nat) (ps : List ByteArray) (hps : ps.length ≤ 2) (w : World) (hA : ndsN.lies n0 w [.slice a s.1.length c] s.1) (hX : ArgT n1 w (.slice av ps.length cv) ps) :
   Calls Tryz.prog 95 #[.agg #[.slice a s.1.length c, .int .i64 s.2], .slice av ps.length cv] w fun e w' => (∃ v E, e = .returned (.tuple #[v, E]) ∧ ((¬ Ok s ∧ EV 9 E) ∨ (Ok s ∧ psE ps ≠ 0 ∧ EV (psE ps) E) ∨ (Ok s ∧ psE ps = 0 ∧ E = .nilIface ∧ OwnL w.heap.size w' v ps))) ∧ Below w.heap.size w w' := by
 obtain ⟨l, nx⟩ := s
 simp only at hA ⊢
 obtain ⟨W, hW⟩ := exa (w.alloc (.cells #[.slice a l.length c, .int .i64 nx] 29))
 have hbW : Below w.heap.size w W := by rw [hW]; exact (Below.refl _ w).alloc (Nat.le_refl _) _
 have HW : Hid (Below w.heap.size w W) := hbW
 have HC := check_any n0 a c (l, nx) W (ndsN.below hA hbW)
 simp only at HC
 have HX : Hid (ArgT n1 w (.slice av ps.length cv) ps) := hX
 obtain ⟨post, hpost⟩ : ∃ post : Ending → World → Prop, post = fun e w' => ∃ v E, e = .returned (.tuple #[v, E]) ∧ ((¬ Ok (l, nx) ∧ EV 9 E) ∨ (Ok (l, nx) ∧ psE ps ≠ 0 ∧ EV (psE ps) E) ∨ (Ok (l, nx) ∧ psE ps = 0 ∧ E = .nilIface ∧ OwnL w.heap.size w' v ps)) := ⟨_, rfl⟩
 have HPo : Hid ((∀ v E w', ¬ Ok (l, nx) → EV 9 E → post (.returned (.tuple #[v, E])) w') ∧ (∀ v E w', Ok (l, nx) → psE ps ≠ 0 → EV (psE ps) E → post (.returned (.tuple #[v, E])) w') ∧ (∀ v w', Ok (l, nx) → psE ps = 0 → OwnL w.heap.size w' v ps → post (.returned (.tuple #[v, .nilIface])) w')) :=
   ⟨fun v E w' h1 h2 => by rw [hpost]; exact ⟨v, E, rfl, .inl ⟨h1, h2⟩⟩, fun v E w' h1 h2 h3 => by rw [hpost]; exact ⟨v, E, rfl, .inr (.inl ⟨h1, h2, h3⟩)⟩, fun v w' h1 h2 h3 => by rw [hpost]; exact ⟨v, _, rfl, .inr (.inr ⟨h1, h2, rfl, h3⟩)⟩⟩
 suffices HH : Calls Tryz.prog 95 #[.agg #[.slice a l.length c, .int .i64 nx], .slice av ps.length cv] w fun e w' => post e w' ∧ Below w.heap.size w w' by
   rw [hpost] at HH; exact HH
 obtain ⟨n, hn⟩ := exa (l.length)
 rw [← hn] at HC hW ⊢
 obtain ⟨m, hm⟩ := exa (ps.length)
 have hl1 := run_len Tryz.underlying57 av ps.length cv
 rw [← hm] at HX hl1 hps ⊢
 have HM : Hid (m = ps.length) := hm
 clear hA hbW hX hn hm hpost
 go_enter Tryz.func95, Tryz.ntmps95
 go_wp2_with fail
 rw [← hW]
 clear hW
 refine HC.mono ?_
 rintro e w1 ⟨⟨r, rfl, hr⟩, hb1⟩
 have HB1 : Hid (Below w.heap.size w w1) := below_any HW.out hb1
 clear hb1 HC
 rcases hr with ⟨hok, rfl⟩ | ⟨hbad, rfl⟩
 case inr => (
 have HO : Hid (¬ Ok (l, nx)) := hbad
 have hr := refuse_bad 9 (by decide) none 0 0 w1
 clear hbad
 go_wp2_with (go_at_call 90; refine hr.mono ?_; rintro e w3 ⟨rfl, rfl⟩)
 go_ret2
 exact ⟨HPo.out.1 _ _ _ HO.out (ev_ref (by decide) _ _ _ _), HB1.out⟩)
 have HO : Hid (Ok (l, nx)) := hok
 clear hok
 go_wp2
 go_loopw [7, 20] (fun v i wr => ∃ (j : Nat), j ≤ m ∧ i = .int .i64 j ∧ Hid ((∀ p ∈ ps.take j, serr p = 0) ∧ OwnL w.heap.size wr v (ps.take j) ∧ Below w.heap.size w wr)) (fun _ i _ => m - (intOf i).toNat)
 case atStart => exact ⟨0, Nat.zero_le _, rfl, fun _ h => (by simp at h), OwnL.nil _ _, HB1.out⟩
 case round => (
 obtain ⟨j, hj, rfl, HJ⟩ := hrel
 by_cases hjt : j < m
 · obtain ⟨p, hp⟩ := get_lt (l := ps) (k := j) (by rw [← HM.out]; exact hjt)
   obtain ⟨bx, ox, hix, -, d0⟩ := (HX.out.below HJ.out.2.2).at j p hp
   have hji : (j : Int) < (m : Int) := by omega
   have HSP := P.split_any p wr
   have HP : Hid (ps[j]? = some p ∧ (ps.take j).length = j) := ⟨hp, by rw [List.length_take, ← HM.out]; omega⟩
   by_cases he : serr p = 0
   · have HE : Hid (serr p = 0) := he
     rw [he] at HSP
     clear hp he
     go_wp2_with fail
     refine HSP.mono ?_
     rintro e w2 ⟨v2, rfl, hO2, hb2⟩
     obtain ⟨a2, c2, rfl⟩ := hO2.shape
     obtain ⟨L2, hL2⟩ := exa ((sval p).length)
     have hJ2 := HJ.out.2.1.below hb2
     obtain ⟨us, hus, hEu⟩ := hJ2
     obtain ⟨av7, cv7, hv7⟩ := own_shape hus
     rw [HP.out.2] at hv7 hus
     subst hv7
     have H2 : Hid (OwnT wr.heap.size w2 (.slice a2 L2 c2) (sval p) ∧ w2.ownsRow w.heap.size 57 1 (.slice av7 j cv7) j us ∧ Each (fun u q => OwnT w.heap.size w2 u (sval q)) us (ps.take j) ∧ Below w.heap.size w w2 ∧ w.heap.size ≤ wr.heap.size) := ⟨by rw [hL2]; exact hO2, hus, hEu, below_any HJ.out.2.2 hb2, HJ.out.2.2.size⟩
     rw [← hL2]
     clear hO2 hb2 hus hEu hL2 HSP
     go_wp2_with (at_builtin; refine push_row (by rfl) _ _ 106 57 (by rfl) Tryz.underlying106 Tryz.info57 rfl (by omega) w.heap.size _ us j [.slice a2 L2 c2] rfl (by simp [Value.oneCell']) w2 (by rfl) H2.out.2.1 (by rfl) (by omega) (by omega) H2.out.2.2.2.1.size ?_; intro g cap w3 hO3 hg3 hgr3 hlt3)
     have HS : Hid ((∀ q ∈ ps.take (j + 1), serr q = 0) ∧ OwnL w.heap.size w3 (.slice (some ⟨g, 0, none⟩) (j + 1) cap) (ps.take (j + 1)) ∧ Below w.heap.size w w3) := by (
 have hcl : Clear w2 (Value.slice av7 j cv7).ownBlock [9] := Clear.own H2.out.2.1 (by decide)
 have hgW : w2.grownBy w3 (Value.slice av7 j cv7).ownBlock := ⟨hg3.os, hg3.tape, hg3.output, Nat.le_trans (by simp) hg3.size, fun k hk hne => (hg3.block k (by simp; omega) hne).trans (Below.heap_alloc w2 _ k hk)⟩
 have keep : ∀ {u : Value} {q : List ByteArray}, OwnT w.heap.size w2 u q → OwnT w.heap.size w3 u q := fun h => ⟨h.1.kept hgW (hcl.apart h.1 (by simp)), h.2⟩
 refine ⟨fun q hq => ?_, ⟨us ++ [.slice a2 L2 c2], ?_, ?_⟩, below_row H2.out.2.2.2.1 H2.out.2.1 hg3 (Nat.le_refl _) H2.out.2.2.2.1.size⟩
 · rw [take_snoc HP.out.1] at hq
   rcases List.mem_append.1 hq with h | h
   · exact HJ.out.1 q h
   · rw [List.mem_singleton.1 h]; exact HE.out
 · rw [take_snoc HP.out.1, List.length_append, HP.out.2]; exact hO3
 · rw [take_snoc HP.out.1]
   exact (H2.out.2.2.1.mono fun _ _ h => keep h).snoc (keep (H2.out.1.weaken H2.out.2.2.2.2)))
     clear hO3 hg3 hgr3 hlt3
     go_wp2
     go_roundw
     case rel => exact ⟨j + 1, by omega, by go_num, HS.out⟩
     case measure => simp [intOf]; omega
   · have HE : Hid (psE ps = serr p) := psE_bad HJ.out.1 hp he
     generalize serr p = k at HSP HE he
     have HB : Hid (Below w.heap.size w wr) := HJ.out.2.2
     clear hp HJ
     go_wp2_with fail
     refine HSP.mono ?_
     rintro e w2 ⟨v2, rfl, -, hb2⟩
     have hr := refuse_bad k he (some ⟨w2.heap.size, 0, none⟩) 1 1 (w2.alloc (.cells #[.string p] 9))
     have HB2 : Hid (Below w.heap.size w (w2.alloc (.cells #[.string p] 9))) := (below_any HB.out hb2).alloc (below_any HB.out hb2).size _
     clear hb2
     go_wp2_with (go_at_call 90; refine hr.mono ?_; rintro e w3 ⟨rfl, rfl⟩)
     go_ret2
     exact ⟨HPo.out.2.1 _ _ _ HO.out (by rw [HE.out]; exact he) (by rw [HE.out]; exact ev_ref he _ _ _ _), HB2.out⟩
 · obtain rfl : j = m := by omega
   have hfull : ps.take j = ps := List.take_of_length_le (by rw [HM.out]; exact Nat.le_refl _)
   have HS : Hid (psE ps = 0 ∧ OwnL w.heap.size wr u7 ps ∧ Below w.heap.size w wr) := by (
 have h1 := HJ.out
 rw [hfull] at h1
 exact ⟨psE_all h1.1, h1.2.1, h1.2.2⟩)
   clear hfull HJ
   go_wp2
   go_ret2
   exact ⟨HPo.out.2.2 _ _ HO.out HS.out.1 HS.out.2.1, HS.out.2.2⟩)
end Go.Proofs.YtopcefhncildnaaGreatDoor
namespace Go.Proofs.YtopcefhncildnaaGreatDoor
open Go.RowKit
open P (ArgT OwnT tv serr sval)
theorem argT_box {n : Nat} {w : World} {B : Nat} {ps : List ByteArray} (h : Box w B 9 (tv ps).toArray) (hn : n ≤ B) (hl : ps.length ≤ maxLen) (hp : P.TOk ps) : ArgT n w (.slice (some ⟨B, 0, none⟩) ps.length ps.length) ps :=
 ⟨⟨by simp [tv], .inr ⟨⟨B, 0, none⟩, ps.length, rfl, Nat.le_refl _, hl, hn, fun i u hu => by rw [add_plain]; simp only [Nat.zero_add]; exact h.cell i (by simpa using hu)⟩⟩, hp⟩
end Go.Proofs.YtopcefhncildnaaGreatDoor
namespace Go.Proofs.YtopcefhncildnaaGreatDoor.K
open Go.RowKit
open P (ArgT OwnT tv)
theorem take_any_false {α : Type} {p : α → Bool} {l : List α} {k : Nat} {x : α} (h : (l.take k).any p = false) (hx : l[k]? = some x) (hp : p x = false) : (l.take (k + 1)).any p = false := by
 rw [take_snoc hx, List.any_append, h]
 simp [hp]
theorem any_true {α : Type} {p : α → Bool} {l : List α} {k : Nat} {x : α} (hx : l[k]? = some x) (hp : p x = true) : l.any p = true :=
 List.any_eq_true.2 ⟨x, List.mem_of_getElem? hx, hp⟩
theorem too_any (most : Nat) (B : Nat) (t : ByteArray) (w : World) (hB : w.cell? ⟨B, 0, none⟩ = some (.int .i64 most)) :
   Calls Tryz.prog 139 #[.string t, .pointer (some ⟨B, 0, none⟩)] w fun e w' => e = .returned (.bool (decide (most < t.size))) ∧ w = w' := by
 obtain ⟨d, hd⟩ := exa (decide (most < t.size))
 rw [← hd]
 by_cases h : most < t.size
 · obtain rfl : d = true := by rw [hd]; simp [h]
   have hi : (most : Int) < (t.size : Int) := by omega
   clear hd h
   go_enter Tryz.func139, Tryz.ntmps139
   go_wp2
   go_ret
   exact ⟨rfl, rfl⟩
 · obtain rfl : d = false := by rw [hd]; simp [h]
   have hi : ¬ (most : Int) < (t.size : Int) := by omega
   clear hd h
   go_enter Tryz.func139, Tryz.ntmps139
   go_wp2
   go_ret
   exact ⟨rfl, rfl⟩
def longer (most : Nat) (l : List ByteArray) : Bool := l.any fun t => decide (most < t.size)
theorem index_any (most B n0 : Nat) (v : Value) (l : List ByteArray) (w : World) (h : ArgT n0 w v l) (hB : w.cell? ⟨B, 0, none⟩ = some (.int .i64 most)) :
   Calls Tryz.prog 201 #[v, .func (.func 139) #[] #[.pointer (some ⟨B, 0, none⟩)]] w fun e w' => (∃ r : Int, e = .returned (.int .i64 r) ∧ ((r = -1 ∧ longer most l = false) ∨ (0 ≤ r ∧ longer most l = true))) ∧ w = w' := by
 obtain ⟨a, c, rfl, _, hm, _⟩ := h.shape
 have HL : Hid (ArgT n0 w (.slice a l.length c) l) := h
 obtain ⟨n, hn⟩ := exa (l.length)
 have HN : Hid (n = l.length) := hn
 rw [← hn] at HL hm ⊢
 unfold maxLen at hm
 have hl1 := run_len Tryz.underlying57 a n c
 clear h hn
 go_enter Tryz.func201, Tryz.ntmps201
 go_wp2
 go_loop [8] (fun i => ∃ k : Nat, k ≤ n ∧ i = .int .i64 k ∧ Hid (longer most (l.take k) = false)) (fun i => n - (intOf i).toNat)
 case atStart => exact ⟨0, Nat.zero_le _, rfl, by show _ = _; simp [longer]⟩
 case round => (
 obtain ⟨k, hk, rfl, HK⟩ := hrel
 by_cases hlt : k < n
 · obtain ⟨t, ht⟩ := get_lt (l := l) (k := k) (by rw [← HN.out]; exact hlt)
   obtain ⟨b, o, hix, g0⟩ := HL.out.at k t ht
   have HP : Hid (l[k]? = some t) := ht
   have hki : (k : Int) < (n : Int) := by omega
   have HC := too_any most B t w hB
   clear ht
   cases hok : decide (most < t.size)
   · rw [hok] at HC
     have HK2 : Hid (longer most (l.take (k + 1)) = false) := take_any_false HK.out HP.out hok
     clear hok
     go_wp2_with fail
     refine HC.mono ?_
     rintro e w2 ⟨rfl, rfl⟩
     go_wp2
     go_round
     case rel => exact ⟨k + 1, by omega, by go_num, HK2⟩
     case measure => simp [intOf]; omega
   · rw [hok] at HC
     have HA : Hid (longer most l = true) := any_true HP.out hok
     clear hok
     go_wp2_with fail
     refine HC.mono ?_
     rintro e w2 ⟨rfl, rfl⟩
     go_wp2
     go_ret
     exact ⟨⟨k, rfl, .inr ⟨by omega, HA.out⟩⟩, rfl⟩
 · obtain rfl : k = n := by omega
   have HA : Hid (longer most l = false) := by (
 show _ = _
 have := HK.out
 rwa [HN.out, List.take_length] at this)
   clear HK
   go_wp2
   go_ret
   exact ⟨⟨-1, rfl, .inl ⟨rfl, HA.out⟩⟩, rfl⟩)
theorem contains_any (most B n0 : Nat) (v : Value) (l : List ByteArray) (w : World) (h : ArgT n0 w v l) (hB : w.cell? ⟨B, 0, none⟩ = some (.int .i64 most)) :
   Calls Tryz.prog 138 #[v, .func (.func 139) #[] #[.pointer (some ⟨B, 0, none⟩)]] w fun e w' => e = .returned (.bool (longer most l)) ∧ w = w' := by
 have HC := index_any most B n0 v l w h hB
 clear h
 obtain ⟨al, hal⟩ := exa (longer most l)
 rw [← hal] at HC ⊢
 clear hal
 go_enter Tryz.func138, Tryz.ntmps138
 go_wp2_with fail
 refine HC.mono ?_
 rintro e w2 ⟨⟨r, rfl, hr⟩, rfl⟩
 rcases hr with ⟨rfl, rfl⟩ | ⟨h0, rfl⟩
 · go_wp2
   go_ret
   exact ⟨rfl, rfl⟩
 · go_wp2
   go_ret
   exact ⟨by simp, rfl⟩
theorem longer_any (most n0 : Nat) (v : Value) (l : List ByteArray) (w : World) (h : ArgT n0 w v l) :
   Calls Tryz.prog 67 #[.int .i64 most, v] w fun e w' => e = .returned (.bool (longer most l)) ∧ Below w.heap.size w w' := by
 obtain ⟨W, hW⟩ := exa (w.alloc (.cells #[.int .i64 most] 3))
 have hb : Below w.heap.size w W := by rw [hW]; exact (Below.refl _ w).alloc (Nat.le_refl _) _
 have hB : Box W w.heap.size 3 #[.int .i64 most] := by rw [hW]; exact Box.new w 3 _
 have HC := contains_any most w.heap.size n0 v l W (h.below hb) (hB.cell 0 rfl)
 have HB : Hid (Below w.heap.size w W) := hb
 obtain ⟨al, hal⟩ := exa (longer most l)
 rw [← hal] at HC ⊢
 clear hal h hb hB
 go_enter Tryz.func67, Tryz.ntmps67
 go_wp2_with fail
 rw [← hW]
 clear hW
 refine HC.mono ?_
 rintro e w2 ⟨rfl, rfl⟩
 go_wp2
 go_ret
 exact ⟨rfl, HB.out⟩
def opE (k : Int) (p t : ByteArray) (dl : Nat) : Int := if k < 1 ∨ 12 < k then 22 else if longer 255 [p, t] = true ∨ 4096 < dl then 5 else 0
theorem check_any (k off m : Int) (p t : ByteArray) (hp : p.size ≤ maxLen) (ht : t.size ≤ maxLen) (d : Option Addr) (dl dc : Nat) (w : World) :
   Calls Tryz.prog 29 #[.agg #[.int .i64 k, .string p, .string t, .int .i64 off, .int .i64 m, .slice d dl dc]] w fun e w' => e = .returned (.int .i64 (opE k p t dl)) ∧ Below w.heap.size w w' := by
 obtain ⟨W1, hW1⟩ := exa (w.alloc (.cells #[.int .i64 k, .string p, .string t, .int .i64 off, .int .i64 m, .slice d dl dc] 56))
 obtain ⟨W2, hW2⟩ := exa (W1.alloc (.cells #[.string p, .string t] 9))
 have hb1 : Below w.heap.size w W1 := by rw [hW1]; exact (Below.refl _ w).alloc (Nat.le_refl _) _
 have hb2 : Below w.heap.size w W2 := by rw [hW2]; exact hb1.alloc hb1.size _
 have hO : Box W1 w.heap.size 56 #[.int .i64 k, .string p, .string t, .int .i64 off, .int .i64 m, .slice d dl dc] := by rw [hW1]; exact Box.new _ _ _
 have hO2 : Box W2 w.heap.size 56 #[.int .i64 k, .string p, .string t, .int .i64 off, .int .i64 m, .slice d dl dc] := by rw [hW2]; exact hO.alloc _
 have hT : Box W2 W1.heap.size 9 #[.string p, .string t] := by rw [hW2]; exact Box.new _ _ _
 have hX : ArgT w.heap.size W2 (.slice (some ⟨W1.heap.size, 0, none⟩) 2 2) [p, t] := argT_box (ps := [p, t]) hT hb1.size (by simp [maxLen]) fun r hr => by (
 rcases List.mem_cons.1 hr with rfl | hr
 · exact hp
 · rw [List.mem_singleton.1 hr]; exact ht)
 have hs1 : W1.heap.size = w.heap.size + 1 := by rw [hW1]; exact Array.size_push _
 have HC : Calls Tryz.prog 67 #[.int .i64 255, .slice (some ⟨w.heap.size + 1, 0, none⟩) 2 2] W2 fun e w' => e = .returned (.bool (longer 255 [p, t])) ∧ Below W2.heap.size W2 w' := by rw [← hs1]; exact longer_any 255 _ _ _ W2 hX
 have HB1 : Hid (Below w.heap.size w W1) := hb1
 have HB2 : Hid (Below w.heap.size w W2 ∧ Box W2 w.heap.size 56 #[.int .i64 k, .string p, .string t, .int .i64 off, .int .i64 m, .slice d dl dc]) := ⟨hb2, hO2⟩
 obtain ⟨ce, hce⟩ := exa (opE k p t dl)
 have HCE : Hid (ce = if k < 1 ∨ 12 < k then 22 else if longer 255 [p, t] = true ∨ 4096 < dl then 5 else 0) := hce
 rw [← hce]
 obtain ⟨lg, hlg⟩ := exa (longer 255 [p, t])
 rw [← hlg] at HC HCE
 have hl := run_len Tryz.underlying25 d dl dc
 have c0 := hO.cell 0 rfl
 have c1 := hO.cell 1 rfl
 have c2 := hO.cell 2 rfl
 clear hb1 hb2 hO hO2 hT hX hce hlg hs1
 by_cases h1 : k < 1
 · obtain rfl : ce = 22 := by rw [HCE.out, if_pos (.inl h1)]
   clear HC HCE hW2
   rw [hW1] at c0 c1 c2 HB1
   go_enter Tryz.func29, Tryz.ntmps29
   go_wp2
   go_ret
   exact ⟨rfl, HB1.out⟩
 by_cases h2 : 12 < k
 · obtain rfl : ce = 22 := by rw [HCE.out, if_pos (.inr h2)]
   clear HC HCE hW2
   rw [hW1] at c0 c1 c2 HB1
   go_enter Tryz.func29, Tryz.ntmps29
   go_wp2
   go_ret
   exact ⟨rfl, HB1.out⟩
 have HE : Hid (ce = if lg = true ∨ 4096 < dl then 5 else 0) := by
   show _ = _
   rw [HCE.out, if_neg (by omega)]
 clear HCE
 rw [hW1] at c0 c1 c2
 go_enter Tryz.func29, Tryz.ntmps29
 go_wp2_with fail
 rw [← hW1, ← hW2]
 clear hW1 hW2 c0 c1 c2
 refine HC.mono ?_
 rintro e w2 ⟨rfl, hb3⟩
 have HB3 : Hid (Below w.heap.size w w2) := below_any HB2.out.1 hb3
 have c5 := (HB2.out.2.below hb3 HB2.out.2.lt).cell 5 rfl
 clear hb3 HC
 cases lg
 · by_cases h4 : 4096 < dl
   · obtain rfl : ce = 5 := by rw [HE.out, if_pos (.inr h4)]
     have h4i : (4096 : Int) < (dl : Int) := by omega
     go_wp2
     go_ret
     exact ⟨rfl, HB3.out⟩
   · obtain rfl : ce = 0 := by rw [HE.out, if_neg (by simpa using h4)]
     have h4i : ¬ (4096 : Int) < (dl : Int) := by omega
     go_wp2
     go_ret
     exact ⟨rfl, HB3.out⟩
 · obtain rfl : ce = 5 := by rw [HE.out, if_pos (.inl rfl)]
   go_wp2
   go_ret
   exact ⟨rfl, HB3.out⟩
end Go.Proofs.YtopcefhncildnaaGreatDoor.K
namespace Go.Proofs.YtopcefhncildnaaGreatDoor.K
open Go.RowKit
open P (ArgT OwnT tv)
def rpE (e n : Int) (dl : Nat) (l : List ByteArray) : Int := if e < 0 ∨ 65536 < e ∨ n < 0 ∨ 2147483647 < n then 4 else if 4096 < dl then 5 else if 64 < l.length then 3 else if longer 255 l = true then 5 else 0
theorem rpcheck_any (e n : Int) (d : Option Addr) (dl dc n0 : Nat) (v : Value) (l : List ByteArray) (w : World) (h : ArgT n0 w v l) :
   Calls Tryz.prog 68 #[.agg #[.int .i64 e, .int .i64 n, .slice d dl dc, v]] w fun x w' => x = .returned (.int .i64 (rpE e n dl l)) ∧ Below w.heap.size w w' := by
 obtain ⟨a, c, rfl, _, hm, _⟩ := h.shape
 obtain ⟨W1, hW1⟩ := exa (w.alloc (.cells #[.int .i64 e, .int .i64 n, .slice d dl dc, .slice a l.length c] 59))
 have hb1 : Below w.heap.size w W1 := by rw [hW1]; exact (Below.refl _ w).alloc (Nat.le_refl _) _
 have hO : Box W1 w.heap.size 59 #[.int .i64 e, .int .i64 n, .slice d dl dc, .slice a l.length c] := by rw [hW1]; exact Box.new _ _ _
 have HC := longer_any 255 n0 _ l W1 (h.below hb1)
 have HB1 : Hid (Below w.heap.size w W1) := hb1
 have HB2 : Hid (Below w.heap.size w W1) := hb1
 obtain ⟨ce, hce⟩ := exa (rpE e n dl l)
 have HCE : Hid (ce = if e < 0 ∨ 65536 < e ∨ n < 0 ∨ 2147483647 < n then 4 else if 4096 < dl then 5 else if 64 < l.length then 3 else if longer 255 l = true then 5 else 0) := hce
 rw [← hce]
 obtain ⟨lg, hlg⟩ := exa (longer 255 l)
 rw [← hlg] at HC HCE
 obtain ⟨nl, hnl⟩ := exa (l.length)
 rw [← hnl] at HC HCE hW1 hO ⊢
 have hl := run_len Tryz.underlying25 d dl dc
 have hl2 := run_len Tryz.underlying57 a nl c
 have c0 := hO.cell 0 rfl
 have c1 := hO.cell 1 rfl
 have c2 := hO.cell 2 rfl
 have c3 := hO.cell 3 rfl
 clear hb1 hO hce hlg hnl h hm
 rw [hW1] at c0 c1 c2 c3 HB1
 by_cases h1 : e < 0
 · obtain rfl : ce = 4 := by rw [HCE.out, if_pos (.inl h1)]
   clear HC HCE hW1 HB2
   go_enter Tryz.func68, Tryz.ntmps68
   go_wp2
   go_ret
   exact ⟨rfl, HB1.out⟩
 by_cases h2 : 65536 < e
 · obtain rfl : ce = 4 := by rw [HCE.out, if_pos (.inr (.inl h2))]
   clear HC HCE hW1 HB2
   go_enter Tryz.func68, Tryz.ntmps68
   go_wp2
   go_ret
   exact ⟨rfl, HB1.out⟩
 by_cases h3 : n < 0
 · obtain rfl : ce = 4 := by rw [HCE.out, if_pos (.inr (.inr (.inl h3)))]
   clear HC HCE hW1 HB2
   go_enter Tryz.func68, Tryz.ntmps68
   go_wp2
   go_ret
   exact ⟨rfl, HB1.out⟩
 by_cases h4 : 2147483647 < n
 · obtain rfl : ce = 4 := by rw [HCE.out, if_pos (.inr (.inr (.inr h4)))]
   clear HC HCE hW1 HB2
   go_enter Tryz.func68, Tryz.ntmps68
   go_wp2
   go_ret
   exact ⟨rfl, HB1.out⟩
 have HE : Hid (ce = if 4096 < dl then 5 else if 64 < nl then 3 else if lg = true then 5 else 0) := by
   show _ = _
   rw [HCE.out, if_neg (by omega)]
 clear HCE
 by_cases h5 : (4096 : Int) < (dl : Int)
 · obtain rfl : ce = 5 := by rw [HE.out, if_pos (by omega)]
   clear HC HE hW1 HB2
   go_enter Tryz.func68, Tryz.ntmps68
   go_wp2
   go_ret
   exact ⟨rfl, HB1.out⟩
 by_cases h6 : (64 : Int) < (nl : Int)
 · obtain rfl : ce = 3 := by rw [HE.out, if_neg (by omega), if_pos (by omega)]
   clear HC HE hW1 HB2
   go_enter Tryz.func68, Tryz.ntmps68
   go_wp2
   go_ret
   exact ⟨rfl, HB1.out⟩
 have HF : Hid (ce = if lg = true then 5 else 0) := by
   show _ = _
   rw [HE.out, if_neg (by omega), if_neg (by omega)]
 clear HE HB1
 go_enter Tryz.func68, Tryz.ntmps68
 go_wp2_with fail
 rw [← hW1]
 clear hW1 c0 c1 c2 c3
 refine HC.mono ?_
 rintro x w2 ⟨rfl, hb3⟩
 have HB3 : Hid (Below w.heap.size w w2) := below_any HB2.out hb3
 clear hb3 HC
 cases lg
 · obtain rfl : ce = 0 := by rw [HF.out, if_neg (by decide)]
   go_wp2
   go_ret
   exact ⟨rfl, HB3.out⟩
 · obtain rfl : ce = 5 := by rw [HF.out, if_pos rfl]
   go_wp2
   go_ret
   exact ⟨rfl, HB3.out⟩
end Go.Proofs.YtopcefhncildnaaGreatDoor.K
namespace Go.Proofs.YtopcefhncildnaaGreatDoor.K
open Go.RowKit
open P (ArgT OwnT tv)
theorem rreply_any (e n : Int) (d : Option Addr) (dl dc n0 : Nat) (v : Value) (l : List ByteArray) (w : World) (h : ArgT n0 w v l) :
   Calls Tryz.prog 69 #[.agg #[.int .i64 e, .int .i64 n, .slice d dl dc, v]] w fun x w' => x = .returned (.int .i64 (rpE e n dl l)) ∧ Below w.heap.size w w' := by
 obtain ⟨a, c, rfl, _, hm, _⟩ := h.shape
 obtain ⟨W1, hW1⟩ := exa (w.alloc (.cells #[.int .i64 e, .int .i64 n, .slice d dl dc, .slice a l.length c] 59))
 have hb1 : Below w.heap.size w W1 := by rw [hW1]; exact (Below.refl _ w).alloc (Nat.le_refl _) _
 have hO : Box W1 w.heap.size 59 #[.int .i64 e, .int .i64 n, .slice d dl dc, .slice a l.length c] := by rw [hW1]; exact Box.new _ _ _
 have HB1 : Hid (Below w.heap.size w W1) := hb1
 have HB2 : Hid (Below w.heap.size w W1) := hb1
 obtain ⟨ce, hce⟩ := exa (rpE e n dl l)
 have HCE : Hid (ce = if e < 0 ∨ 65536 < e ∨ n < 0 ∨ 2147483647 < n then 4 else if 4096 < dl then 5 else if 64 < l.length then 3 else if longer 255 l = true then 5 else 0) := hce
 rw [← hce]
 obtain ⟨lg, hlg⟩ := exa (longer 255 l)
 rw [← hlg] at HCE
 obtain ⟨nl, hnl⟩ := exa (l.length)
 rw [← hnl] at HCE hW1 hO ⊢
 have HLL : Hid (ArgT n0 W1 (.slice a nl c) l ∧ nl = l.length ∧ lg = longer 255 l ∧ Box W1 w.heap.size 59 #[.int .i64 e, .int .i64 n, .slice d dl dc, .slice a nl c]) := ⟨by rw [hnl]; exact h.below hb1, hnl, hlg, hO⟩
 have hl := run_len Tryz.underlying25 d dl dc
 have hl2 := run_len Tryz.underlying57 a nl c
 have c0 := hO.cell 0 rfl
 have c1 := hO.cell 1 rfl
 have c2 := hO.cell 2 rfl
 have c3 := hO.cell 3 rfl
 clear hb1 hO hce hlg hnl h hm
 rw [hW1] at c0 c1 c2 c3 HB1
 by_cases h1 : e < 0
 · obtain rfl : ce = 4 := by rw [HCE.out, if_pos (.inl h1)]
   clear HLL HCE hW1 HB2
   go_enter Tryz.func69, Tryz.ntmps69
   go_wp2
   go_ret
   exact ⟨rfl, HB1.out⟩
 by_cases h2 : 65536 < e
 · obtain rfl : ce = 4 := by rw [HCE.out, if_pos (.inr (.inl h2))]
   clear HLL HCE hW1 HB2
   go_enter Tryz.func69, Tryz.ntmps69
   go_wp2
   go_ret
   exact ⟨rfl, HB1.out⟩
 by_cases h3 : n < 0
 · obtain rfl : ce = 4 := by rw [HCE.out, if_pos (.inr (.inr (.inl h3)))]
   clear HLL HCE hW1 HB2
   go_enter Tryz.func69, Tryz.ntmps69
   go_wp2
   go_ret
   exact ⟨rfl, HB1.out⟩
 by_cases h4 : 2147483647 < n
 · obtain rfl : ce = 4 := by rw [HCE.out, if_pos (.inr (.inr (.inr h4)))]
   clear HLL HCE hW1 HB2
   go_enter Tryz.func69, Tryz.ntmps69
   go_wp2
   go_ret
   exact ⟨rfl, HB1.out⟩
 have HE : Hid (ce = if 4096 < dl then 5 else if 64 < nl then 3 else if lg = true then 5 else 0) := by
   show _ = _
   rw [HCE.out, if_neg (by omega)]
 clear HCE
 by_cases h5 : (4096 : Int) < (dl : Int)
 · obtain rfl : ce = 5 := by rw [HE.out, if_pos (by omega)]
   clear HLL HE hW1 HB2
   go_enter Tryz.func69, Tryz.ntmps69
   go_wp2
   go_ret
   exact ⟨rfl, HB1.out⟩
 by_cases h6 : (64 : Int) < (nl : Int)
 · obtain rfl : ce = 3 := by rw [HE.out, if_neg (by omega), if_pos (by omega)]
   clear HLL HE hW1 HB2
   go_enter Tryz.func69, Tryz.ntmps69
   go_wp2
   go_ret
   exact ⟨rfl, HB1.out⟩
 have HF : Hid (ce = if lg = true then 5 else 0) := by
   show _ = _
   rw [HE.out, if_neg (by omega), if_neg (by omega)]
 clear HE HB1
 have HL : Hid (ArgT n0 W1 (.slice a nl c) l ∧ nl = l.length ∧ lg = longer 255 l ∧ Box W1 w.heap.size 59 #[.int .i64 e, .int .i64 n, .slice d dl dc, .slice a nl c]) := HLL
 clear HLL
 go_enter Tryz.func69, Tryz.ntmps69
 go_wp2_with fail
 rw [← hW1]
 clear hW1 c0 c1 c2 c3
 have c3 := HL.out.2.2.2.cell 3 rfl
 go_loop [3] (fun i => ∃ k : Nat, k ≤ nl ∧ i = .int .i64 k ∧ Hid (longer 255 (l.take k) = false)) (fun i => nl - (intOf i).toNat)
 case atStart => exact ⟨0, Nat.zero_le _, rfl, by show _ = _; simp [longer]⟩
 case round => (
 obtain ⟨k, hk, rfl, HK⟩ := hrel
 by_cases hlt : k < nl
 · obtain ⟨t, ht⟩ := get_lt (l := l) (k := k) (by rw [← HL.out.2.1]; exact hlt)
   obtain ⟨b, o, hix, _, g0⟩ := HL.out.1.at k t ht
   have HP : Hid (l[k]? = some t) := ht
   have hki : (k : Int) < (nl : Int) := by omega
   clear ht
   by_cases hok : (255 : Int) < (t.size : Int)
   · obtain rfl : ce = 5 := by rw [HF.out, HL.out.2.2.1, if_pos (show longer 255 l = true from any_true HP.out (by simp; omega))]
     go_wp2
     go_ret
     exact ⟨rfl, HB2.out⟩
   · have HK2 : Hid (longer 255 (l.take (k + 1)) = false) := take_any_false HK.out HP.out (by simp; omega)
     go_wp2
     go_round
     case rel => exact ⟨k + 1, by omega, by go_num, HK2⟩
     case measure => simp [intOf]; omega
 · obtain rfl : k = nl := by omega
   obtain rfl : ce = 0 := by (
 rw [HF.out, HL.out.2.2.1, if_neg]
 have := HK.out
 rw [HL.out.2.1, List.take_length] at this
 rw [this]; decide)
   clear HK
   go_wp2
   go_ret
   exact ⟨rfl, HB2.out⟩)
end Go.Proofs.YtopcefhncildnaaGreatDoor.K
