/-
  What prepare answers: why an op may not be done at all, and the names of each of its paths.
  What fs.Find answers, for every file system and every path.
-/
import Derived.Test.YtkcnephbaffmbaaGreatDoorJ32
import Derived.Test.YtkcnephbaffmbaaGreatDoorJ37
set_option maxRecDepth 100000
set_option maxHeartbeats 4000000
namespace Go.Proofs.YtkcnephbaffmbaaGreatDoor
open Go.RowKit
open P (ArgT OwnT tv serr sval)
theorem push_row {ops : Array Oper} {rest : List Oper} {o : Oper} {a : Act} {Q : Exit → Act → World → Prop} (hgd : o.guard = none) (s x : Operand) (T E : TypeId) (ho : o.op = .call { callee := .builtin .append, args := #[s, x], argTypes := #[T, T] })
   (ht : Tryz.prog.underlying T = some (.slice E)) {z : Value} {size bytes : Nat} (hI : (Tryz.prog.info? E).map (fun i => (i.zero, i.size, i.bytes)) = some (some z, size, bytes)) (hzs : z.cells.size = size) (hsz : 0 < size)
   (base : Nat) (v : Value) (xs : List Value) (n : Nat) (us : List Value) (hus : us.length = size) (h1 : ∀ u ∈ us, u.oneCell' = true) (wr : World) (hs : a.eval s = v) (hO : wr.ownsRow base E size v n xs) (hx : a.eval x = .slice (some ⟨wr.heap.size, 0, none⟩) 1 1) (hlen : (n + 1) * bytes ≤ 140737488355328) (hn : n ≤ 1000000000000000) (hb : base ≤ wr.heap.size)
   (h : ∀ g cap w', w'.ownsRow base E size (.slice (some ⟨g, 0, none⟩) (n + 1) cap) (n + 1) (xs ++ us) → (wr.alloc (.cells us.toArray E)).grownBy w' v.ownBlock → (v.ownBlock = some g ∨ g = wr.heap.size + 1) → g < w'.heap.size → wpList Tryz.prog ops Q rest (a.put o.dst (.slice (some ⟨g, 0, none⟩) (n + 1) cap)) w') :
   wpList Tryz.prog ops Q (o :: rest) a (wr.alloc (.cells us.toArray E)) := by
 obtain ⟨i3, hi3, hz0, hz1, hz2⟩ := info_parts hI
 exact wpList_append_lies _ hgd s x T ho base E i3 z size bytes ht hi3 hz0 hz1 hz2 hzs hsz v n xs hs (hO.alloc _) ⟨wr.heap.size, 0, none⟩ 1 1 us hx (by omega) (fun j u hu => World.news_of_block (cs := us.toArray) (t := E) (fr := (0, 0)) (heap_alloc_new wr _) j u (by simpa using hu)) h1 (by omega) (by unfold maxLen; omega) hlen (by simp; omega) (wr.heap.size + 1) (by simp) h
theorem below_row {n : Nat} {w wr w' : World} {o : Obj} {E : TypeId} {base size k : Nat} {v : Value} {xs : List Value} (hb : Below n w wr) (hO : wr.ownsRow base E size v k xs) (hg : (wr.alloc o).grownBy w' v.ownBlock) (hn : n ≤ base) (hs : n ≤ wr.heap.size) : Below n w w' :=
 (hb.alloc hs o).grown hg (by simp; omega) (fun j hj => by have := (hO.lt j hj).1; omega)
theorem Tryz.info59 : (Tryz.prog.info? 59).map (fun i => (i.zero, i.size, i.bytes)) = some (some (.slice none 0 0), 1, 24) := by kernel_rfl
def psE : List ByteArray → Int
 | [] => 0
 | p :: r => if serr p = 0 then psE r else serr p
theorem psE_take {ps : List ByteArray} : ∀ {k : Nat}, (∀ p ∈ ps.take k, serr p = 0) → psE ps = psE (ps.drop k) := by
 induction ps with
 | nil => intro k _; simp
 | cons p r ih => (
 intro k h
 cases k with
 | zero => rfl
 | succ k => (
 have h1 := h p (by simp)
 rw [psE, if_pos h1, List.drop_succ_cons]
 exact ih fun q hq => h q (by rw [List.take_succ_cons]; exact List.mem_cons_of_mem _ hq)))
theorem psE_bad {ps : List ByteArray} {k : Nat} {p : ByteArray} (h : ∀ p ∈ ps.take k, serr p = 0) (hp : ps[k]? = some p) (hb : serr p ≠ 0) : psE ps = serr p := by
 obtain ⟨h1, h2⟩ := List.getElem?_eq_some_iff.1 hp
 rw [psE_take h, List.drop_eq_getElem_cons h1, h2, psE, if_neg hb]
theorem psE_all {ps : List ByteArray} (h : ∀ p ∈ ps, serr p = 0) : psE ps = 0 := by
 induction ps with
 | nil => rfl
 | cons p r ih => rw [psE, if_pos (h p (List.mem_cons_self ..))]; exact ih fun q hq => h q (List.mem_cons_of_mem _ hq)
def OwnL (base : Nat) (w : World) (v : Value) (ps : List ByteArray) : Prop := ∃ us, w.ownsRow base 59 1 v ps.length us ∧ Each (fun u p => OwnT base w u (sval p)) us ps
theorem OwnL.nil (base : Nat) (w : World) : OwnL base w (.slice none 0 0) [] := ⟨[], World.ownsRow_nil _ _ _ _, trivial⟩
theorem OwnL.below {base : Nat} {w w' : World} {v : Value} {ps : List ByteArray} (h : OwnL base w v ps) (hb : Below w.heap.size w w') : OwnL base w' v ps := by
 obtain ⟨us, h1, h2⟩ := h
 exact ⟨us, own_below h1 hb, h2.mono fun _ _ h => h.below hb⟩
theorem OwnL.at {base : Nat} {w : World} {v : Value} {ps : List ByteArray} (h : OwnL base w v ps) (i : Nat) (p : ByteArray) (hp : ps[i]? = some p) :
   ∃ b o a c, (∀ W, (Instr.indexAt 89 v (.int .i64 i)).run Tryz.prog W = .ok (.pointer (some ⟨b, o, none⟩)) W) ∧ w.cell? ⟨b, o, none⟩ = some (.slice a (sval p).length c) ∧ ArgT base w (.slice a (sval p).length c) (sval p) := by
 obtain ⟨us, h1, h2⟩ := h
 obtain ⟨u, hu, hT⟩ := h2.get hp
 obtain ⟨a, c, rfl⟩ := hT.shape
 obtain ⟨i0, hi0, _, hz, _⟩ := info_parts Tryz.info59
 have hC : Cells base w 1 v ps.length us := .own h1
 obtain ⟨b, o, hix, _, hc⟩ := hC.index (by omega) Tryz.underlying89 hi0 hz i (List.getElem?_eq_some_iff.1 hp).1
 exact ⟨b, o, a, c, hix, hc 0 _ (by simpa using hu), hT.arg⟩
theorem prepare_any (n0 n1 : Nat) (a : Option Addr) (c : Nat) (s : St) (av : Option Addr) (cv : Nat) (ps : List ByteArray) (hps : ps.length ≤ 2) (w : World) (hA : ndsN.lies n0 w [.slice a s.1.length c] s.1) (hX : ArgT n1 w (.slice av ps.length cv) ps) :
   Calls Tryz.prog 103 #[.agg #[.slice a s.1.length c, .int .i64 s.2], .slice av ps.length cv] w fun e w' => (∃ v E, e = .returned (.tuple #[v, E]) ∧ ((¬ Ok s ∧ EV 9 E) ∨ (Ok s ∧ psE ps ≠ 0 ∧ EV (psE ps) E) ∨ (Ok s ∧ psE ps = 0 ∧ E = .nilIface ∧ OwnL w.heap.size w' v ps))) ∧ Below w.heap.size w w' := by
 obtain ⟨l, nx⟩ := s
 simp only at hA ⊢
 obtain ⟨W, hW⟩ := exa (w.alloc (.cells #[.slice a l.length c, .int .i64 nx] 27))
 have hbW : Below w.heap.size w W := by rw [hW]; exact (Below.refl _ w).alloc (Nat.le_refl _) _
 have HW : Hid (Below w.heap.size w W) := hbW
 have HC := check_any n0 a c (l, nx) W (ndsN.below hA hbW)
 simp only at HC
 have HX : Hid (ArgT n1 w (.slice av ps.length cv) ps) := hX
 obtain ⟨post, hpost⟩ : ∃ post : Ending → World → Prop, post = fun e w' => ∃ v E, e = .returned (.tuple #[v, E]) ∧ ((¬ Ok (l, nx) ∧ EV 9 E) ∨ (Ok (l, nx) ∧ psE ps ≠ 0 ∧ EV (psE ps) E) ∨ (Ok (l, nx) ∧ psE ps = 0 ∧ E = .nilIface ∧ OwnL w.heap.size w' v ps)) := ⟨_, rfl⟩
 have HPo : Hid ((∀ v E w', ¬ Ok (l, nx) → EV 9 E → post (.returned (.tuple #[v, E])) w') ∧ (∀ v E w', Ok (l, nx) → psE ps ≠ 0 → EV (psE ps) E → post (.returned (.tuple #[v, E])) w') ∧ (∀ v w', Ok (l, nx) → psE ps = 0 → OwnL w.heap.size w' v ps → post (.returned (.tuple #[v, .nilIface])) w')) :=
   ⟨fun v E w' h1 h2 => by rw [hpost]; exact ⟨v, E, rfl, .inl ⟨h1, h2⟩⟩, fun v E w' h1 h2 h3 => by rw [hpost]; exact ⟨v, E, rfl, .inr (.inl ⟨h1, h2, h3⟩)⟩, fun v w' h1 h2 h3 => by rw [hpost]; exact ⟨v, _, rfl, .inr (.inr ⟨h1, h2, rfl, h3⟩)⟩⟩
 suffices HH : Calls Tryz.prog 103 #[.agg #[.slice a l.length c, .int .i64 nx], .slice av ps.length cv] w fun e w' => post e w' ∧ Below w.heap.size w w' by
   rw [hpost] at HH; exact HH
 obtain ⟨n, hn⟩ := exa (l.length)
 rw [← hn] at HC hW ⊢
 obtain ⟨m, hm⟩ := exa (ps.length)
 have hl1 := run_len Tryz.underlying59 av ps.length cv
 rw [← hm] at HX hl1 hps ⊢
 have HM : Hid (m = ps.length) := hm
 clear hA hbW hX hn hm hpost
 go_enter Tryz.func103, Tryz.ntmps103
 go_wp2_with fail
 rw [← hW]
 clear hW
 refine HC.mono ?_
 rintro e w1 ⟨⟨r, rfl, hr⟩, hb1⟩
 have HB1 : Hid (Below w.heap.size w w1) := below_any HW.out hb1
 clear hb1 HC
 rcases hr with ⟨hok, rfl⟩ | ⟨hbad, rfl⟩
 case inr => (
 have HO : Hid (¬ Ok (l, nx)) := hbad
 have hr := refuse_bad 9 (by decide) none 0 0 w1
 clear hbad
 go_wp2_with (go_at_call 94; refine hr.mono ?_; rintro e w3 ⟨rfl, rfl⟩)
 go_ret2
 exact ⟨HPo.out.1 _ _ _ HO.out (ev_ref (by decide) _ _ _ _), HB1.out⟩)
 have HO : Hid (Ok (l, nx)) := hok
 clear hok
 go_wp2
 go_loopw [7, 20] (fun v i wr => ∃ (j : Nat), j ≤ m ∧ i = .int .i64 j ∧ Hid ((∀ p ∈ ps.take j, serr p = 0) ∧ OwnL w.heap.size wr v (ps.take j) ∧ Below w.heap.size w wr)) (fun _ i _ => m - (intOf i).toNat)
 case atStart => exact ⟨0, Nat.zero_le _, rfl, fun _ h => (by simp at h), OwnL.nil _ _, HB1.out⟩
 case round => (
 obtain ⟨j, hj, rfl, HJ⟩ := hrel
 by_cases hjt : j < m
 · obtain ⟨p, hp⟩ := get_lt (l := ps) (k := j) (by rw [← HM.out]; exact hjt)
   obtain ⟨bx, ox, hix, -, d0⟩ := (HX.out.below HJ.out.2.2).at j p hp
   have hji : (j : Int) < (m : Int) := by omega
   have HSP := P.split_any p wr
   have HP : Hid (ps[j]? = some p ∧ (ps.take j).length = j) := ⟨hp, by rw [List.length_take, ← HM.out]; omega⟩
   by_cases he : serr p = 0
   · have HE : Hid (serr p = 0) := he
     rw [he] at HSP
     clear hp he
     go_wp2_with fail
     refine HSP.mono ?_
     rintro e w2 ⟨v2, rfl, hO2, hb2⟩
     obtain ⟨a2, c2, rfl⟩ := hO2.shape
     obtain ⟨L2, hL2⟩ := exa ((sval p).length)
     have hJ2 := HJ.out.2.1.below hb2
     obtain ⟨us, hus, hEu⟩ := hJ2
     obtain ⟨av7, cv7, hv7⟩ := own_shape hus
     rw [HP.out.2] at hv7 hus
     subst hv7
     have H2 : Hid (OwnT wr.heap.size w2 (.slice a2 L2 c2) (sval p) ∧ w2.ownsRow w.heap.size 59 1 (.slice av7 j cv7) j us ∧ Each (fun u q => OwnT w.heap.size w2 u (sval q)) us (ps.take j) ∧ Below w.heap.size w w2 ∧ w.heap.size ≤ wr.heap.size) := ⟨by rw [hL2]; exact hO2, hus, hEu, below_any HJ.out.2.2 hb2, HJ.out.2.2.size⟩
     rw [← hL2]
     clear hO2 hb2 hus hEu hL2 HSP
     go_wp2_with (at_builtin; refine push_row (by rfl) _ _ 89 59 (by rfl) Tryz.underlying89 Tryz.info59 rfl (by omega) w.heap.size _ us j [.slice a2 L2 c2] rfl (by simp [Value.oneCell']) w2 (by rfl) H2.out.2.1 (by rfl) (by omega) (by omega) H2.out.2.2.2.1.size ?_; intro g cap w3 hO3 hg3 hgr3 hlt3)
     have HS : Hid ((∀ q ∈ ps.take (j + 1), serr q = 0) ∧ OwnL w.heap.size w3 (.slice (some ⟨g, 0, none⟩) (j + 1) cap) (ps.take (j + 1)) ∧ Below w.heap.size w w3) := by (
 have hcl : Clear w2 (Value.slice av7 j cv7).ownBlock [9] := Clear.own H2.out.2.1 (by decide)
 have hgW : w2.grownBy w3 (Value.slice av7 j cv7).ownBlock := ⟨hg3.os, hg3.tape, hg3.output, Nat.le_trans (by simp) hg3.size, fun k hk hne => (hg3.block k (by simp; omega) hne).trans (Below.heap_alloc w2 _ k hk)⟩
 have keep : ∀ {u : Value} {q : List ByteArray}, OwnT w.heap.size w2 u q → OwnT w.heap.size w3 u q := fun h => ⟨h.1.kept hgW (hcl.apart h.1 (by simp)), h.2⟩
 refine ⟨fun q hq => ?_, ⟨us ++ [.slice a2 L2 c2], ?_, ?_⟩, below_row H2.out.2.2.2.1 H2.out.2.1 hg3 (Nat.le_refl _) H2.out.2.2.2.1.size⟩
 · rw [take_snoc HP.out.1] at hq
   rcases List.mem_append.1 hq with h | h
   · exact HJ.out.1 q h
   · rw [List.mem_singleton.1 h]; exact HE.out
 · rw [take_snoc HP.out.1, List.length_append, HP.out.2]; exact hO3
 · rw [take_snoc HP.out.1]
   exact (H2.out.2.2.1.mono fun _ _ h => keep h).snoc (keep (H2.out.1.weaken H2.out.2.2.2.2)))
     clear hO3 hg3 hgr3 hlt3
     go_wp2
     go_roundw
     case rel => exact ⟨j + 1, by omega, by go_num, HS.out⟩
     case measure => simp [intOf]; omega
   · have HE : Hid (psE ps = serr p) := psE_bad HJ.out.1 hp he
     generalize serr p = k at HSP HE he
     have HB : Hid (Below w.heap.size w wr) := HJ.out.2.2
     clear hp HJ
     go_wp2_with fail
     refine HSP.mono ?_
     rintro e w2 ⟨v2, rfl, -, hb2⟩
     have hr := refuse_bad k he (some ⟨w2.heap.size, 0, none⟩) 1 1 (w2.alloc (.cells #[.string p] 9))
     have HB2 : Hid (Below w.heap.size w (w2.alloc (.cells #[.string p] 9))) := (below_any HB.out hb2).alloc (below_any HB.out hb2).size _
     clear hb2
     go_wp2_with (go_at_call 94; refine hr.mono ?_; rintro e w3 ⟨rfl, rfl⟩)
     go_ret2
     exact ⟨HPo.out.2.1 _ _ _ HO.out (by rw [HE.out]; exact he) (by rw [HE.out]; exact ev_ref he _ _ _ _), HB2.out⟩
 · obtain rfl : j = m := by omega
   have hfull : ps.take j = ps := List.take_of_length_le (by rw [HM.out]; exact Nat.le_refl _)
   have HS : Hid (psE ps = 0 ∧ OwnL w.heap.size wr u7 ps ∧ Below w.heap.size w wr) := by (
 have h1 := HJ.out
 rw [hfull] at h1
 exact ⟨psE_all h1.1, h1.2.1, h1.2.2⟩)
   clear hfull HJ
   go_wp2
   go_ret2
   exact ⟨HPo.out.2.2 _ _ HO.out HS.out.1 HS.out.2.1, HS.out.2.2⟩)
end Go.Proofs.YtkcnephbaffmbaaGreatDoor
namespace Go.Proofs.YtkcnephbaffmbaaGreatDoor
open Go.RowKit
open P (ArgT OwnT tv serr sval)
theorem argT_box {n : Nat} {w : World} {B : Nat} {ps : List ByteArray} (h : Box w B 9 (tv ps).toArray) (hn : n ≤ B) (hl : ps.length ≤ maxLen) (hp : P.TOk ps) : ArgT n w (.slice (some ⟨B, 0, none⟩) ps.length ps.length) ps :=
 ⟨⟨by simp [tv], .inr ⟨⟨B, 0, none⟩, ps.length, rfl, Nat.le_refl _, hl, hn, fun i u hu => by rw [add_plain]; simp only [Nat.zero_add]; exact h.cell i (by simpa using hu)⟩⟩, hp⟩
theorem lookFind_any (n0 n1 : Nat) (a : Option Addr) (c : Nat) (s : St) (av : Option Addr) (cv : Nat) (ps : List ByteArray) (hps : ps.length ≤ 2) (Q : Nat) (w : World) (hA : ndsN.lies n0 w [.slice a s.1.length c] s.1) (hX : ArgT n1 w (.slice av ps.length cv) ps) (hg : Glob w) (R : Option Nat) (k : Int) (Post : World → Prop) (hst : ∀ V V', Post V → Below V.heap.size V V' → Post V')
   (hR : ∀ r, R = some r → 0 < r)
   (hdo : Ok s → psE ps = 0 → ∀ V v2 B, Below w.heap.size w V → Box V B 27 #[.slice a s.1.length c, .int .i64 s.2] → w.heap.size ≤ B → OwnL w.heap.size V v2 ps → Calls Tryz.prog 46 #[.pointer (some ⟨B, 0, none⟩), v2, .pointer (some ⟨Q, 0, none⟩)] V fun e w' => (∃ E, e = .returned E ∧ EV k E) ∧ V.grownBy w' R ∧ Post w') :
   Calls Tryz.prog 45 #[.agg #[.slice a s.1.length c, .int .i64 s.2], .func (.func 46) #[] #[.pointer (some ⟨Q, 0, none⟩)], .slice av ps.length cv] w fun e w' => ∃ r, e = .returned (.int .i64 r) ∧ ((¬ Ok s ∧ r = 9 ∧ Below w.heap.size w w') ∨ (Ok s ∧ psE ps ≠ 0 ∧ r = psE ps ∧ Below w.heap.size w w') ∨ (Ok s ∧ psE ps = 0 ∧ r = k ∧ w.grownBy w' R ∧ Post w')) := by
 obtain ⟨l, nx⟩ := s
 simp only at hA hdo ⊢
 obtain ⟨W, hW⟩ := exa (w.alloc (.cells #[.slice a l.length c, .int .i64 nx] 27))
 have hbW : Below w.heap.size w W := by rw [hW]; exact (Below.refl _ w).alloc (Nat.le_refl _) _
 have HW : Hid (Below w.heap.size w W ∧ Box W w.heap.size 27 #[.slice a l.length c, .int .i64 nx]) := ⟨hbW, by rw [hW]; exact Box.new _ _ _⟩
 have HC := prepare_any n0 n1 a c (l, nx) av cv ps hps W (ndsN.below hA hbW) (hX.below hbW)
 simp only at HC
 have HG : Hid (Glob w) := hg
 have HDO : Hid (Ok (l, nx) → psE ps = 0 → ∀ V v2 B, Below w.heap.size w V → Box V B 27 #[.slice a l.length c, .int .i64 nx] → w.heap.size ≤ B → OwnL w.heap.size V v2 ps → Calls Tryz.prog 46 #[.pointer (some ⟨B, 0, none⟩), v2, .pointer (some ⟨Q, 0, none⟩)] V fun e w' => (∃ E, e = .returned E ∧ EV k E) ∧ V.grownBy w' R ∧ Post w') := hdo
 have HST : Hid ((∀ V V', Post V → Below V.heap.size V V' → Post V') ∧ ∀ r, R = some r → 0 < r) := ⟨hst, hR⟩
 obtain ⟨post, hpost⟩ : ∃ post : Ending → World → Prop, post = fun e w' => ∃ r, e = .returned (.int .i64 r) ∧ ((¬ Ok (l, nx) ∧ r = 9 ∧ Below w.heap.size w w') ∨ (Ok (l, nx) ∧ psE ps ≠ 0 ∧ r = psE ps ∧ Below w.heap.size w w') ∨ (Ok (l, nx) ∧ psE ps = 0 ∧ r = k ∧ w.grownBy w' R ∧ Post w')) := ⟨_, rfl⟩
 have HPo : Hid ((∀ w', ¬ Ok (l, nx) → Below w.heap.size w w' → post (.returned (.int .i64 9)) w') ∧ (∀ w', Ok (l, nx) → psE ps ≠ 0 → Below w.heap.size w w' → post (.returned (.int .i64 (psE ps))) w') ∧ (∀ w', Ok (l, nx) → psE ps = 0 → w.grownBy w' R → Post w' → post (.returned (.int .i64 k)) w')) :=
   ⟨fun w' h1 h2 => by rw [hpost]; exact ⟨9, rfl, .inl ⟨h1, rfl, h2⟩⟩, fun w' h1 h2 h3 => by rw [hpost]; exact ⟨_, rfl, .inr (.inl ⟨h1, h2, rfl, h3⟩)⟩, fun w' h1 h2 h3 h4 => by rw [hpost]; exact ⟨_, rfl, .inr (.inr ⟨h1, h2, rfl, h3, h4⟩)⟩⟩
 suffices HH : Calls Tryz.prog 45 #[.agg #[.slice a l.length c, .int .i64 nx], .func (.func 46) #[] #[.pointer (some ⟨Q, 0, none⟩)], .slice av ps.length cv] w fun e w' => post e w' by
   rw [hpost] at HH; exact HH
 obtain ⟨n, hn⟩ := exa (l.length)
 rw [← hn] at HC HW HDO hW ⊢
 obtain ⟨m, hm⟩ := exa (ps.length)
 rw [← hm] at HC ⊢
 obtain ⟨g0, g1, -, -⟩ := HW.out.2.two
 rw [hW] at g0 g1
 clear hA hbW hX hg hst hR hdo hn hm hpost hps
 go_enter Tryz.func45, Tryz.ntmps45
 go_wp2_with fail
 rw [← hW]
 clear hW g0 g1
 refine HC.mono ?_
 rintro e w1 ⟨⟨v, E, rfl, hr⟩, hb1⟩
 have HB1 : Hid (Below w.heap.size w w1 ∧ Box w1 w.heap.size 27 #[.slice a n c, .int .i64 nx]) := ⟨below_any HW.out.1 hb1, HW.out.2.below hb1 HW.out.2.lt⟩
 have HGW : Hid (Glob w1) := HG.out.below HB1.out.1 HG.out.lt
 rcases hr with ⟨ho, hE⟩ | ⟨ho, hp, hE⟩ | ⟨ho, hp, rfl, hL⟩
 · have HO : Hid (¬ Ok (l, nx)) := ho
   rcases hE with ⟨h0, _⟩ | ⟨_, a2, l2, c2, s2, rfl⟩
   · omega
   have hnn := numberOf_ref a2 l2 c2 9 s2 w1 HGW.out
   clear hb1 ho HC
   go_wp2_with fail
   refine hnn.mono ?_
   rintro e w2 ⟨rfl, hb2⟩
   go_wp2
   exact HPo.out.1 _ HO.out (below_any HB1.out.1 hb2)
 · have HO : Hid (Ok (l, nx) ∧ psE ps ≠ 0) := ⟨ho, hp⟩
   generalize psE ps = pe at HPo HO hE HDO
   rcases hE with ⟨h0, _⟩ | ⟨_, a2, l2, c2, s2, rfl⟩
   · exact absurd h0 HO.out.2
   have hnn := numberOf_ref a2 l2 c2 pe s2 w1 HGW.out
   clear hb1 ho hp HC
   go_wp2_with fail
   refine hnn.mono ?_
   rintro e w2 ⟨rfl, hb2⟩
   go_wp2
   exact HPo.out.2.1 _ HO.out.1 HO.out.2 (below_any HB1.out.1 hb2)
 · have HO : Hid (Ok (l, nx) ∧ psE ps = 0) := ⟨ho, hp⟩
   have hL1 : OwnL w.heap.size w1 v ps := by (
 obtain ⟨us, h1, h2⟩ := hL
 exact ⟨us, own_weaken h1 HW.out.1.size, h2.mono fun _ _ h => h.weaken HW.out.1.size⟩)
   have HCD := HDO.out ho hp w1 v w.heap.size HB1.out.1 HB1.out.2 (Nat.le_refl _) hL1
   clear hb1 ho hp hL hL1 HC
   go_wp2_with fail
   refine HCD.mono ?_
   rintro e w2 ⟨⟨E, rfl, hE⟩, hg2, hP2⟩
   have hgg : w.grownBy w2 R := (⟨HB1.out.1.os, HB1.out.1.tape, HB1.out.1.output, HB1.out.1.size, fun j hj _ => HB1.out.1.block j hj⟩ : w.grownBy w1 R).trans hg2
   have H2 : Hid (w.grownBy w2 R ∧ Post w2) := ⟨hgg, hP2⟩
   have HG2 : Hid (Glob w2) := by (
 have h0 := HG.out.lt
 show w2.cell? _ = _
 rw [World.cell?_of_block (a := ⟨0, 0, none⟩) (hgg.block 0 h0 (fun e => by have := HST.out.2 0 e.symm; omega))]
 exact HG.out)
   clear hg2 hP2 hgg HCD
   rcases hE with ⟨rfl, rfl⟩ | ⟨hk, a2, l2, c2, s2, rfl⟩
   · have hnn := numberOf_nil w2
     go_wp2_with fail
     refine hnn.mono ?_
     rintro e w3 ⟨rfl, hb3⟩
     go_wp2
     exact HPo.out.2.2 _ HO.out.1 HO.out.2 (H2.out.1.trans ⟨hb3.os, hb3.tape, hb3.output, hb3.size, fun j hj _ => hb3.block j hj⟩) (HST.out.1 _ _ H2.out.2 hb3)
   · have hnn := numberOf_ref a2 l2 c2 k s2 w2 HG2.out
     clear hk
     go_wp2_with fail
     refine hnn.mono ?_
     rintro e w3 ⟨rfl, hb3⟩
     go_wp2
     exact HPo.out.2.2 _ HO.out.1 HO.out.2 (H2.out.1.trans ⟨hb3.os, hb3.tape, hb3.output, hb3.size, fun j hj _ => hb3.block j hj⟩) (HST.out.1 _ _ H2.out.2 hb3)
theorem findDo_any (n0 : Nat) (a : Option Addr) (c : Nat) (s : St) (hK : Wk s) (p : ByteArray) (B Q : Nat) (v2 : Value) (z : Int) (w0 V : World) (hA : ndsN.lies n0 w0 [.slice a s.1.length c] s.1) (hb : Below w0.heap.size w0 V) (hB : Box V B 27 #[.slice a s.1.length c, .int .i64 s.2]) (hL : OwnL w0.heap.size V v2 [p]) (hQ : Box V Q 3 #[.int .i64 z]) :
   Calls Tryz.prog 46 #[.pointer (some ⟨B, 0, none⟩), v2, .pointer (some ⟨Q, 0, none⟩)] V fun e w' => (∃ E, e = .returned E ∧ EV (wlk s.1 1 (sval p)).2 E) ∧ V.grownBy w' (some Q) ∧ Box w' Q 3 #[.int .i64 (wlk s.1 1 (sval p)).1] := by
 obtain ⟨pb, po, pa, pc, hix, hpc, hT⟩ := hL.at 0 p rfl
 have hix : ∀ W, (Instr.indexAt 89 v2 (.int .i64 0)).run Tryz.prog W = .ok (.pointer (some ⟨pb, po, none⟩)) W := hix
 have HC := walk_any n0 _ a c s hK pa pc (sval p) V.drew (ndsN.below hA (below_any hb (Below.refl _ V).drew)) (hT.below (Below.refl _ V).drew)
 obtain ⟨g0, g1, -, -⟩ := hB.two
 have HQ : Hid (Box V Q 3 #[.int .i64 z]) := hQ
 obtain ⟨ri, hri⟩ := exa ((wlk s.1 1 (sval p)).1)
 obtain ⟨re, hre⟩ := exa ((wlk s.1 1 (sval p)).2)
 rw [← hri, ← hre] at HC ⊢
 obtain ⟨n, hn⟩ := exa (s.1.length)
 obtain ⟨nx, hnx⟩ := exa (s.2)
 obtain ⟨m, hm⟩ := exa ((sval p).length)
 rw [← hn, ← hnx, ← hm] at HC
 rw [← hn] at g0
 rw [← hnx] at g1
 rw [← hm] at hpc
 have HS0 : V.drew.cell? ⟨B, 0, none⟩ = some (.slice a n c) ∧ V.drew.cell? ⟨B, 1, none⟩ = some (.int .i64 nx) ∧ V.drew.cell? ⟨pb, po, none⟩ = some (.slice pa m pc) := ⟨g0, g1, hpc⟩
 obtain ⟨post, hpost⟩ : ∃ post : Ending → World → Prop, post = fun e w' => (∃ E, e = .returned E ∧ EV re E) ∧ V.grownBy w' (some Q) ∧ Box w' Q 3 #[.int .i64 ri] := ⟨_, rfl⟩
 have HPo : Hid (∀ E w', EV re E → V.grownBy w' (some Q) → Box w' Q 3 #[.int .i64 ri] → post (.returned E) w') := fun E w' h1 h2 h3 => by rw [hpost]; exact ⟨⟨_, rfl, h1⟩, h2, h3⟩
 rw [← hpost]
 clear hA hb hB hL hQ hT hri hre hn hnx hm hK hpost
 go_enter Tryz.func46, Tryz.ntmps46
 go_wp2
 go_region_held3 (fun U => U.cell? ⟨B, 0, none⟩ = some (.slice a n c) ∧ U.cell? ⟨B, 1, none⟩ = some (.int .i64 nx) ∧ U.cell? ⟨pb, po, none⟩ = some (.slice pa m pc))
   (first | with_reducible exact HS1 | with_reducible exact HS0)
   ((first | (go_at_call 47; refine HC.mono ?_; rintro e w1 ⟨⟨E, rfl, hE⟩, hb1⟩; have HS1 : w1.cell? ⟨B, 0, none⟩ = some (.slice a n c) ∧ w1.cell? ⟨B, 1, none⟩ = some (.int .i64 nx) ∧ w1.cell? ⟨pb, po, none⟩ = some (.slice pa m pc) := ⟨by rw [hb1.cell (p := ⟨B, 0, none⟩) (cell_lt HS0.1)]; exact HS0.1, by rw [hb1.cell (p := ⟨B, 1, none⟩) (cell_lt HS0.2.1)]; exact HS0.2.1, by rw [hb1.cell (p := ⟨pb, po, none⟩) (cell_lt HS0.2.2)]; exact HS0.2.2⟩)))
 have HBL : Hid (Below V.heap.size V w1) := below_any (Below.refl _ V).drew hb1
 have HEV : Hid (EV re E) := hE
 have HQ1 : Box w1 Q 3 #[.int .i64 z] := HQ.out.below (HBL.out) HQ.out.lt
 have q0 := HQ1.cell 0 rfl
 have q1 := HQ1.frozen 0
 have HQ2 : Hid (Box w1 Q 3 #[.int .i64 z]) := HQ1
 clear hb1 hE HQ1 HS0 HS1 g0 g1 HC hpc
 go_wp2
 refine HPo.out _ _ HEV.out (World.grownBy.trans (⟨HBL.out.os, HBL.out.tape, HBL.out.output, HBL.out.size, fun j hj _ => HBL.out.block j hj⟩ : V.grownBy w1 (some Q)) (grown_set _ _ _ _)) ?_
 exact HQ2.out.set 0 _
theorem find_any (n0 : Nat) (a : Option Addr) (c : Nat) (s : St) (p : ByteArray) (hp : p.size ≤ maxLen) (w : World) (hA : ndsN.lies n0 w [.slice a s.1.length c] s.1) (hg : Glob w) :
   Calls Tryz.prog 10 #[.agg #[.slice a s.1.length c, .int .i64 s.2], .string p] w fun e w' => (∃ i k, e = .returned (.tuple #[.int .i64 i, .int .i64 k]) ∧ ((¬ Ok s ∧ i = 0 ∧ k = 9) ∨ (Ok s ∧ serr p ≠ 0 ∧ i = 0 ∧ k = serr p) ∨ (Ok s ∧ serr p = 0 ∧ i = (wlk s.1 1 (sval p)).1 ∧ k = (wlk s.1 1 (sval p)).2))) ∧ Below w.heap.size w w' := by
 obtain ⟨l, nx⟩ := s
 simp only at hA ⊢
 obtain ⟨W1, hW1⟩ := exa (w.alloc (.cells #[.slice a l.length c, .int .i64 nx] 27))
 obtain ⟨W2, hW2⟩ := exa (W1.alloc (.cells #[.int .i64 0] 3))
 obtain ⟨W3, hW3⟩ := exa (W2.alloc (.cells #[.string p] 9))
 have hb1 : Below w.heap.size w W1 := by rw [hW1]; exact (Below.refl _ w).alloc (Nat.le_refl _) _
 have hb2 : Below w.heap.size w W2 := by rw [hW2]; exact hb1.alloc hb1.size _
 have hb3 : Below w.heap.size w W3 := by rw [hW3]; exact hb2.alloc hb2.size _
 obtain ⟨Q, hQ⟩ := exa (W1.heap.size)
 have hBQ : Box W3 Q 3 #[.int .i64 0] := by rw [hW3, hW2, hQ]; exact (Box.new _ _ _).alloc _
 have hBS : Box W1 w.heap.size 27 #[.slice a l.length c, .int .i64 nx] := by rw [hW1]; exact Box.new _ _ _
 have hBT : Box W3 W2.heap.size 9 #[.string p] := by rw [hW3]; exact Box.new _ _ _
 have hX : ArgT w.heap.size W3 (.slice (some ⟨W2.heap.size, 0, none⟩) 1 1) [p] := argT_box (ps := [p]) hBT hb2.size (by simp [maxLen]) fun q hq => by rw [List.mem_singleton.1 hq]; exact hp
 have HC := lookFind_any n0 w.heap.size a c (l, nx) (some ⟨W2.heap.size, 0, none⟩) 1 [p] (by simp) Q W3 (ndsN.below hA hb3) hX (hg.below hb3 hg.lt) (some Q) (wlk l 1 (sval p)).2 (fun V => Box V Q 3 #[.int .i64 (wlk l 1 (sval p)).1]) (fun V V' h hb => h.below hb h.lt)
   (fun r hr => by cases hr; have := hg.lt; have := hb1.size; omega)
   (fun hok _ V v2 B hbV hB hBl hL => findDo_any n0 a c (l, nx) hok.wk p B Q v2 0 W3 V (ndsN.below hA hb3) hbV hB hL (hBQ.below hbV hBQ.lt))
 simp only at HC
 obtain ⟨post, hpost⟩ : ∃ post : Ending → World → Prop, post = fun e w' => (∃ i k, e = .returned (.tuple #[.int .i64 i, .int .i64 k]) ∧ ((¬ Ok (l, nx) ∧ i = 0 ∧ k = 9) ∨ (Ok (l, nx) ∧ serr p ≠ 0 ∧ i = 0 ∧ k = serr p) ∨ (Ok (l, nx) ∧ serr p = 0 ∧ i = (wlk l 1 (sval p)).1 ∧ k = (wlk l 1 (sval p)).2))) ∧ Below w.heap.size w w' := ⟨_, rfl⟩
 have HPo : Hid (∀ i k w', ((¬ Ok (l, nx) ∧ i = 0 ∧ k = 9) ∨ (Ok (l, nx) ∧ serr p ≠ 0 ∧ i = 0 ∧ k = serr p) ∨ (Ok (l, nx) ∧ serr p = 0 ∧ i = (wlk l 1 (sval p)).1 ∧ k = (wlk l 1 (sval p)).2)) → Below w.heap.size w w' → post (.returned (.tuple #[.int .i64 i, .int .i64 k])) w') := fun i k w' h1 h2 => by rw [hpost]; exact ⟨⟨i, k, rfl, h1⟩, h2⟩
 rw [← hpost]
 have hps : psE [p] = serr p := by rw [psE]; split <;> simp_all [psE]
 rw [hps] at HC
 have HB : Hid (Below w.heap.size w W3 ∧ Box W3 Q 3 #[.int .i64 0] ∧ w.heap.size ≤ Q) := ⟨hb3, hBQ, by rw [hQ]; exact hb1.size⟩
 obtain ⟨n, hn⟩ := exa (l.length)
 rw [← hn] at HC hW1 hBS ⊢
 obtain ⟨g0, g1, -, -⟩ := hBS.two
 have g0' : W2.cell? ⟨w.heap.size, 0, none⟩ = some (.slice a n c) := by
   have : Box W2 w.heap.size 27 #[.slice a n c, .int .i64 nx] := by rw [hW2]; exact hBS.alloc _
   exact this.two.1
 have g1' : W2.cell? ⟨w.heap.size, 1, none⟩ = some (.int .i64 nx) := by
   have : Box W2 w.heap.size 27 #[.slice a n c, .int .i64 nx] := by rw [hW2]; exact hBS.alloc _
   exact this.two.2.1
 have hs1 : W1.heap.size = w.heap.size + 1 := by rw [hW1]; exact Array.size_push _
 have hs2 : W2.heap.size = w.heap.size + 1 + 1 := by rw [hW2, ← hs1]; exact Array.size_push _
 rw [hs1] at hQ
 rw [hs2] at HC
 subst hQ
 rw [hW2, hW1] at g0' g1'
 clear hA hg hp hb1 hb2 hb3 hBQ hBS hBT hX hps hn hpost g0 g1 hs1 hs2
 go_enter Tryz.func10, Tryz.ntmps10
 go_wp2_with fail
 rw [← hW1, ← hW2, ← hW3]
 clear hW1 hW2 hW3 g0' g1'
 generalize wlk l 1 (sval p) = wk at HC HPo
 generalize serr p = pe at HC HPo
 refine HC.mono ?_
 rintro e w4 ⟨r, rfl, hr⟩
 have hq : ∃ z, Box w4 (w.heap.size + 1) 3 #[.int .i64 z] ∧ Below w.heap.size w w4 ∧ ((¬ Ok (l, nx) ∧ z = 0 ∧ r = 9) ∨ (Ok (l, nx) ∧ pe ≠ 0 ∧ z = 0 ∧ r = pe) ∨ (Ok (l, nx) ∧ pe = 0 ∧ z = wk.1 ∧ r = wk.2)) := by (
 rcases hr with ⟨h1, h2, h3⟩ | ⟨h1, h2, h3, h4⟩ | ⟨h1, h2, h3, h4, h5⟩
 · exact ⟨0, HB.out.2.1.below h3 HB.out.2.1.lt, below_any HB.out.1 h3, .inl ⟨h1, rfl, h2⟩⟩
 · exact ⟨0, HB.out.2.1.below h4 HB.out.2.1.lt, below_any HB.out.1 h4, .inr (.inl ⟨h1, h2, rfl, h3⟩)⟩
 · exact ⟨_, h5, HB.out.1.grown h4 HB.out.1.size (fun k hk => by cases hk; omega), .inr (.inr ⟨h1, h2, rfl, h3⟩)⟩)
 obtain ⟨z, hz, hbz, hrz⟩ := hq
 have q0 := hz.cell 0 rfl
 have HF : Hid (Below w.heap.size w w4 ∧ ((¬ Ok (l, nx) ∧ z = 0 ∧ r = 9) ∨ (Ok (l, nx) ∧ pe ≠ 0 ∧ z = 0 ∧ r = pe) ∨ (Ok (l, nx) ∧ pe = 0 ∧ z = wk.1 ∧ r = wk.2))) := ⟨hbz, hrz⟩
 clear hz hbz hrz hr HC
 go_wp2
 exact HPo.out _ _ _ HF.out.2 HF.out.1
end Go.Proofs.YtkcnephbaffmbaaGreatDoor
