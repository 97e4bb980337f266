/-
  What segment.heads hands out: what tells of each block, in order; for whatever loop body that leaves what it reads as it was.
-/
import Derived.Test.YtmjgamokddedkaaChunk
import Derived.Test.YtmjgamokddedkaaRTake
namespace Go.Proofs.Ytmjgamokddedkaa
open Go.RowKit Go.Shelf
open O (nv)
attribute [local go_sem] Oper.semAt_some

/-- The octets that tell of block k; its owner, its index, how long it is. -/
def ck (l : List Int) (k : Nat) : List Int := (l.take (k * 6 + 6)).drop (k * 6)
def ow (l : List Int) (k : Nat) : Int := wrap64 (nv ((ck l k).take 4) : Nat)
def ixn (l : List Int) (k : Nat) : Int := wrap64 (nv (((ck l k).drop 4).take 1) : Nat)
def lnn (l : List Int) (k : Nat) : Int := wrap64 (nv (((ck l k).drop 4).drop 1) : Nat)
def hdV (l : List Int) (k : Nat) : Array Value := #[.agg #[.int .i64 (ow l k), .int .i64 (ixn l k), .slice none 0 0], .int .i64 (lnn l k)]

/-- And all that is no cells, from B on, is as it was. -/
def KpO (nb : Nat) (G : List Nat) (B : Nat) (W W' : World) : Prop := KpA nb G W W' ∧ KeepsFrom B W W'
/-- An iterator's word to a body that may not turn what the iterator lays. -/
def StopsO {α : Type} (F : Fence) (n : Nat) (P : Program) (g : Nat) (lb : Array Value) (encs : α → Array Value) (Kp : Nat → World → World → Prop) (S Sp : List α → Prop) (N : Nat) (w : World) : Prop :=
  ∀ (l : Nat) (J Jx : List α → World → Prop) (W : World), Below w.heap.size w W → OwnFrom W.heap.size J → OwnFrom W.heap.size Jx →
    (∀ pre x W1, J pre W1 → pre.length < N → YieldAt F (n - 1) P l (encs x) W1 fun e W' =>
      (e = .returned (.bool true) ∧ J (pre ++ [x]) W' ∧ Kp W.heap.size W1 W') ∨ (e = .returned (.bool false) ∧ Jx (pre ++ [x]) W' ∧ Kp W.heap.size W1 W')) →
    J [] W →
    CallsIn F n P g (#[.func (.yield l) #[] #[]] ++ lb) W fun e W' => (∃ v, e = .returned v) ∧ ((∃ xs, S xs ∧ J xs W') ∨ (∃ pre, Sp pre ∧ Jx pre W'))

set_option maxHeartbeats 1000000 in
theorem heads_any (a : Option Addr) (ln cap : Nat) (w : World) : Calls Try.prog 51 #[.slice a ln cap] w fun e w' =>
    e = .returned (.func (.func 60) #[] #[.pointer (some ⟨w.heap.size, 0, none⟩)]) ∧ w' = w.alloc (.cells #[.slice a ln cap] 25) := by
  go_enter Try.func51, Try.ntmps51
  go_wp2
  go_ret
  exact ⟨rfl, rfl⟩

theorem ck_length {l : List Int} {m k : Nat} (hl : l.length = 6 * m) (hk : k < m) : (ck l k).length = 6 := by
  unfold ck
  rw [part_length _ _ _ (by omega)]
  omega

theorem RoundIn.wide {n m : Nat} {P : Program} {l : Nat} {f : FuncId} {tmps : Array Value} {assign body : Code} {w : World} {R : Ending → World → Prop} (h : RoundIn Fence.wide n P l f tmps assign body w R) : RoundIn Fence.wide m P l f tmps assign body w R := ⟨h.1, fun c cs _ => h.2 c cs (by simp [Fence.room, Fence.wide])⟩

/-- What goes in no round goes in one, where nothing is deferred. -/
theorem opIn_out {n : Nat} {P : Program} {ops : Array Oper} {Q : Exit → Act → World → Prop} {l i : Nat} {K : Act → World → Prop} {a : Act} {w : World} (hnd : ∀ (j : Nat) o c, ops[j]? = some o → o.op ≠ .defer c) (h : wpOpIn Fence.wide n P ops Q i K a w) : wpOpIn (Fence.wide.inRound l) n P ops Q i K a w := by
  unfold wpOpIn at *
  split
  · simpa [*] using h
  · rename_i o ho
    simp only [ho] at h
    split
    · rename_i hw
      simp only [hw, if_true] at h
      unfold Oper.wpIn at *
      refine ⟨h.1, ?_⟩
      have h2 := h.2
      rw [Oper.semAt_eq _ _ _ (fun c => hnd i o c ho)] at h2 ⊢
      generalize (execOp a.eval o).run P w = r at *
      cases r with
      | ok x w' => cases x <;> exact h2
      | halt x w' => cases x <;> exact h2
    · rename_i hw
      simp only [hw] at h
      exact h
theorem anyIn_out {n : Nat} {P : Program} {md : Region.Mode} {ops : Array Oper} {Q : Exit → Act → World → Prop} {l : Nat} (hnd : ops.all (fun o => match o.op with | .defer _ => false | _ => true) = true) : ∀ (fuel : Nat) (listed : Array Bool) (a : Act) (w : World), wpAnyIn Fence.wide n P md ops Q fuel listed a w → wpAnyIn (Fence.wide.inRound l) n P md ops Q fuel listed a w
  | 0, _, _, _, h => h
  | f + 1, _, _, _, h => ⟨h.1, fun i hi => opIn_out (fun j o c ho e => by
      have := Array.all_eq_true.1 hnd j (Array.getElem?_eq_some_iff.1 ho).1
      rw [(Array.getElem?_eq_some_iff.1 ho).2, e] at this
      cases this) (wpOpIn_mono (fun a w => anyIn_out hnd f _ a w) (h.2 i hi))⟩
/-- What yields in whatever world is taken first. -/
theorem tin {n : Nat} {P : Program} {ops : Array Oper} {Q : Exit → Act → World → Prop} {md : Region.Mode} (i : Nat) (d : Tmp) {v : Value} {oi : Oper} {f : Nat} {listed : Array Bool} {a : Act} {w : World}
    (h : wpAnyIn Fence.wide n P md ops Q f (listed.setIfInBounds i true) (a.put (some d) v) w) (hi : ops[i]? = some oi := by rfl) (hd : oi.dst = some d := by rfl) (hy : ∀ w, (execOp a.eval oi).run P w = .ok (.value v) w := by (intro W; go_simp; try with_reducible rfl)) (hab : ∀ w, oi.about P w a.eval = none := by (intro W; rfl))
    (hc : (Region.noSelect ops && Region.free md ops listed i && (Region.ready md ops listed).contains i) = true := by kernel_rfl) (hQ : ∀ c a w, Q (.panic c) (a.put (some d) v) w → Q (.panic c) a w := by exact fun _ _ _ h => h) (hw : Region.wanted oi (yielded ops a.tmps) = true := by rfl) : wpAnyIn Fence.wide n P md ops Q (f + 1) listed a w := by
  simp only [Bool.and_eq_true] at hc
  subst_vars
  refine wpAnyIn_take rfl hi hc.1.1 hc.1.2 hc.2 (v := v) ?_ ⟨.inl ⟨hw, hy⟩, hab⟩ ?_
  · rw [hd]; exact hQ
  · rw [hd]; exact h

set_option maxRecDepth 100000 in
set_option maxHeartbeats 4000000 in
theorem heads_stops (n : Nat) (hn : 6 ≤ n) (nb : Nat) (G : List Nat) (Bb : Nat) (a : Option Addr) (cap : Nat) (l : List Int) (m : Nat) (w0 : World) (hl : l.length = 6 * m) (hm : m ≤ 8) (hnb : nb ≤ w0.heap.size) (hA : ∀ W', Below nb w0 W' → Arg 0 W' (.slice a l.length cap) l) (hBb : Box w0 Bb 25 #[.slice a l.length cap]) (hG : ∀ g ∈ G, g < w0.heap.size) (hGb : Bb ∉ G) :
    StopsO Fence.wide n Try.prog 60 #[.pointer (some ⟨Bb, 0, none⟩)] (fun x : Ix m => hdV l x.1) (KpO nb G) (fun xs => xs.map (·.1) = List.range m) (fun pre => pre.map (·.1) <+: List.range m) 8 w0 := by
  intro lo J Jx W hbW hJ hJx hY h0
  have HY : Hid (∀ pre x W1, J pre W1 → pre.length < 8 → YieldAt Fence.wide (n - 1) Try.prog lo (hdV l (x : Ix m).1) W1 fun e W' =>
      (e = .returned (.bool true) ∧ J (pre ++ [x]) W' ∧ KpO nb G W.heap.size W1 W') ∨ (e = .returned (.bool false) ∧ Jx (pre ++ [x]) W' ∧ KpO nb G W.heap.size W1 W')) := hY
  have HJ : Hid (OwnFrom W.heap.size J ∧ OwnFrom W.heap.size Jx ∧ J [] W) := ⟨hJ, hJx, h0⟩
  have HA : Hid (∀ W', Below nb W W' → Arg 0 W' (.slice a l.length cap) l) := fun W' h => hA W' ((hbW.mono hnb).trans h)
  have HG : Hid ((∀ g ∈ G, g < W.heap.size) ∧ Bb ∉ G ∧ nb ≤ W.heap.size) := ⟨fun g hg => by have := hG g hg; have := hbW.size; omega, hGb, by have := hbW.size; omega⟩
  have hxb : Box W Bb 25 #[.slice a l.length cap] := hBb.below hbW hBb.lt
  have cb := hxb.cell 0 rfl
  have HB : Hid (Box W Bb 25 #[.slice a l.length cap]) := hxb
  have HL : Hid (l.length = 6 * m ∧ m ≤ 8) := ⟨hl, hm⟩
  obtain ⟨ln, hln⟩ : ∃ ln, ln = l.length := ⟨_, rfl⟩
  have HLN : Hid (ln = l.length) := hln
  rw [← hln] at cb HB HA
  obtain ⟨W1, hW1⟩ : ∃ W1, W1 = W.alloc (.cells #[.func (.yield lo) #[] #[]] 96) := ⟨_, rfl⟩
  have hb1 : Below W.heap.size W W1 := by rw [hW1]; exact (Below.refl _ _).alloc (Nat.le_refl _) _
  have hx1 : Box W1 W.heap.size 96 #[.func (.yield lo) #[] #[]] := by rw [hW1]; exact Box.new _ _ _
  have HW1 : Hid (Below W.heap.size W W1 ∧ Box W1 W.heap.size 96 #[.func (.yield lo) #[] #[]] ∧ W1.heap.size = W.heap.size + 1) := ⟨hb1, hx1, by rw [hW1]; simp⟩
  clear hY hJ hJx h0 hbW hA hBb hG hGb hxb hl hln hnb hb1 hx1
  change CallsIn Fence.wide n Try.prog 60 #[.func (.yield lo) #[] #[], .pointer (some ⟨Bb, 0, none⟩)] W _
  refine callsIn_of_wp_marks Try.func60 rfl trivial ?_ rfl
  simp only [Try.ntmps60, List.size_toArray, List.length_cons, List.length_nil, Nat.reduceAdd, Nat.reduceSub, Array.replicate_succ, Array.replicate_zero, List.push_toArray, List.append_toArray, List.nil_append, List.cons_append]
  have hcb1 : (W.alloc (.cells #[.func (.yield lo) #[] #[]] 96)).cell? ⟨Bb, 0, none⟩ = some (.slice a ln cap) := by rw [← hW1, HW1.out.1.cell (cell_lt cb)]; exact cb
  gi_wp2_with fail
  rw [← hW1]
  clear hW1 hcb1 cb
  refine ⟨trivial, fun _ => by omega, (callsIn_wide.2 (chunk_any a ln cap W1)).mono ?_⟩
  rintro e wL ⟨rfl, hwL⟩
  have hbL : Below W1.heap.size W1 wL := by rw [hwL]; exact ((Below.refl _ _).alloc (Nat.le_refl _) _).alloc (by simp) _
  have hszL : wL.heap.size = W1.heap.size + 2 := by rw [hwL]; simp
  have hxs : Box wL W1.heap.size 25 #[.slice a ln cap] := by rw [hwL]; exact (Box.new _ _ _).alloc _
  have hxn : Box wL (W1.heap.size + 1) 3 #[.int .i64 6] := by
    rw [hwL]
    have := Box.new (W1.alloc (.cells #[.slice a ln cap] 25)) 3 #[.int .i64 6]
    rwa [World.size_alloc] at this
  have hbWL : Below W.heap.size W wL := HW1.out.1.trans (hbL.mono HW1.out.1.size)
  have HSZ : Hid (wL.heap.size = W.heap.size + 3 ∧ W1.heap.size = W.heap.size + 1) := ⟨by have := HW1.out.2.2; omega, HW1.out.2.2⟩
  have hit := chunk_stops (n - 1) (by omega) nb G W1.heap.size (W1.heap.size + 1) a cap l m wL HL.out.1 HL.out.2 (by have := HA.out wL (hbWL.mono HG.out.2.2); rwa [← HLN.out]) (by rw [← HLN.out]; exact hxs) hxn (fun h => by have := HG.out.1 _ h; have := HSZ.out; omega) (fun h => by have := HG.out.1 _ h; have := HSZ.out; omega)
  have HIN : Hid ((J [] wL ∧ Box wL W.heap.size 96 #[.func (.yield lo) #[] #[]]) ∧ Below nb W wL) := by
    refine ⟨⟨HJ.out.1 [] W wL none HJ.out.2.2 ⟨hbWL.os, hbWL.tape, hbWL.output, hbWL.size, fun k hk _ => hbWL.block k hk⟩ (fun r e => by cases e), HW1.out.2.1.below hbL (by have := HSZ.out; omega)⟩, hbWL.mono HG.out.2.2⟩
  clear hwL hszL hxs hxn hbL hbWL
  gi_wp2_with fail
  refine wpIn_rangeFunc_ownG rfl (by omega) (gf := 74) (lb := #[.pointer (some ⟨W1.heap.size, 0, none⟩), .pointer (some ⟨W1.heap.size + 1, 0, none⟩)]) rfl trivial (enters_of Try.func74 (by kernel_rfl) rfl) hit KpA.trans (fun X lx o o' hlx hX ho _ => KpA.put o' hX ho (by have := HG.out.2.2; have := HSZ.out; omega)) (Below.refl _ _) (fun _ => rfl)
    (fun pre W' => (J pre W' ∧ Box W' W.heap.size 96 #[.func (.yield lo) #[] #[]]) ∧ Below nb W W')
    (fun c pre W' => c = .ret ∧ Jx pre W')
    ?hI ?hIx HIN.out
    (fun x => { tmps := #[.func (.yield lo) #[] #[], .pointer (some ⟨Bb, 0, none⟩), .pointer (some ⟨W.heap.size, 0, none⟩), chV a x.1, undef, undef, undef, undef, .slice a ln cap, .func (.func 74) #[] #[.pointer (some ⟨W1.heap.size, 0, none⟩), .pointer (some ⟨W1.heap.size + 1, 0, none⟩)], chV a x.1, undef, undef, undef, undef, undef, undef, undef, undef, undef, undef, undef, undef, undef, undef, undef, undef, undef, undef], defers := [] }) ?assign ?body ?done ?stop
  case hI =>
    refine OwnFrom.and (fun s A B row hs hg hr => ⟨HJ.out.1 s A B row hs.1 hg (fun r e => ⟨by have := (hr r e).1; have := HSZ.out; omega, (hr r e).2⟩), ?_⟩) (ownFrom_below (by have := HG.out.2.2; omega) (by have := HG.out.2.2; have := HSZ.out; omega))
    exact hs.2.grown hg (fun e => by
      obtain ⟨_, o, ho, hc⟩ := hr _ e.symm
      rw [show A.heap[W.heap.size]? = _ from hs.2] at ho
      cases ho
      cases hc)
  case hIx =>
    intro c
    exact fun s A B row hs hg hr => ⟨hs.1, HJ.out.2.1 s A B row hs.2 hg (fun r e => ⟨by have := (hr r e).1; have := HSZ.out; omega, (hr r e).2⟩)⟩
  case assign =>
    intro l' x W' K hK
    clear hit
    gi_wp2
    exact hK
  case body =>
    rintro l' pre x W' ⟨⟨hj, hbx⟩, hbel⟩ hlt
    clear hit HIN
    obtain ⟨k, hk⟩ := x
    simp only
    have hA := HA.out W' hbel
    have hck : Arg 0 W' (chV a k) (ck l k) := by
      obtain ⟨_, _, hv, hcap, _⟩ := hA.shape
      obtain ⟨-, -, rfl⟩ := Value.slice.inj hv
      exact hA.subm (k * 6) (k * 6 + 6) (k * 6 + 6) (by omega) (by have := HL.out.1; omega) (Nat.le_refl _) (by have := HL.out.1; omega)
    have hcl := ck_length HL.out.1 hk
    obtain ⟨vo, hAo, so⟩ := hck.ahead 4 (by omega)
    obtain ⟨vr, hAr, sr⟩ := hck.behind 4 (by omega)
    obtain ⟨vi, hAi, si⟩ := hAr.ahead 1 (by simp; omega)
    obtain ⟨vl, hAl, sl⟩ := hAr.behind 1 (by simp; omega)
    have HN : Hid ((∀ X, Below W'.heap.size W' X → Calls Try.prog 32 #[vo] X fun e w' => e = .returned (.int .i64 (ow l k)) ∧ X = w') ∧ (∀ X, Below W'.heap.size W' X → Calls Try.prog 32 #[vi] X fun e w' => e = .returned (.int .i64 (ixn l k)) ∧ X = w') ∧ (∀ X, Below W'.heap.size W' X → Calls Try.prog 32 #[vl] X fun e w' => e = .returned (.int .i64 (lnn l k)) ∧ X = w')) :=
      ⟨fun X hX => number_any vo _ X (hAo.below hX) (by simp; omega), fun X hX => number_any vi _ X (hAi.below hX) (by simp; omega), fun X hX => number_any vl _ X (hAl.below hX) (by simp; omega)⟩
    have HB : Hid ((J pre W' ∧ Box W' W.heap.size 96 #[.func (.yield lo) #[] #[]]) ∧ Below nb W W') := ⟨⟨hj, hbx⟩, hbel⟩
    have cy := hbx.cell 0 rfl
    replace so : ∀ X, (Instr.slice 25 (chV a k) none (some (.int .i64 4)) none).run Try.prog X = .ok vo X := so
    replace sr : ∀ X, (Instr.slice 25 (chV a k) (some (.int .i64 4)) none none).run Try.prog X = .ok vr X := sr
    replace si : ∀ X, (Instr.slice 25 vr none (some (.int .i64 1)) none).run Try.prog X = .ok vi X := si
    replace sl : ∀ X, (Instr.slice 25 vr (some (.int .i64 1)) none none).run Try.prog X = .ok vl X := sl
    have hmix : Try.prog.follows .mixedOrders = true := by kernel_rfl
    clear hA hck hcl hAo hAr hAi hAl hj hbx hbel
    gi_wp2
    refine wpIn_mono (Q := fun e a2 w2 => e = .normal ∧ a2 = { tmps := #[.func (.yield lo) #[] #[], .pointer (some ⟨Bb, 0, none⟩), .pointer (some ⟨W.heap.size, 0, none⟩), chV a k, vo, vr, undef, undef, .slice a ln cap, .func (.func 74) #[] #[.pointer (some ⟨W1.heap.size, 0, none⟩), .pointer (some ⟨W1.heap.size + 1, 0, none⟩)], chV a k, chV a k, vo, chV a k, vr, undef, undef, undef, undef, undef, undef, undef, undef, undef, undef, undef, undef, undef, undef], defers := [] } ∧ w2 = W'.drew) ?_ ?_
    · gi_region_o
      all_goals exact ⟨rfl, rfl, rfl⟩
    rintro _ _ _ ⟨rfl, rfl, rfl⟩
    gi_wp2
    refine wpIn_mono (Q := fun e a2 w2 => e = .normal ∧ a2 = { tmps := #[.func (.yield lo) #[] #[], .pointer (some ⟨Bb, 0, none⟩), .pointer (some ⟨W.heap.size, 0, none⟩), chV a k, vo, vr, vi, vl, .slice a ln cap, .func (.func 74) #[] #[.pointer (some ⟨W1.heap.size, 0, none⟩), .pointer (some ⟨W1.heap.size + 1, 0, none⟩)], chV a k, chV a k, vo, chV a k, vr, vr, vi, vr, vl, undef, undef, undef, undef, undef, undef, undef, undef, undef, undef], defers := [] } ∧ w2 = W'.drew.drew) ?_ ?_
    · gi_region_o
      all_goals exact ⟨rfl, rfl, rfl⟩
    rintro _ _ _ ⟨rfl, rfl, rfl⟩
    obtain ⟨X, hX⟩ : ∃ X, X = W'.drew.drew.drew := ⟨_, rfl⟩
    have HWX : Hid (Below W'.heap.size W' X) := by rw [hX]; exact (Below.refl _ W').drew.drew.drew
    have hJX : J pre X := HJ.out.1 pre W' X none HB.out.1.1 ⟨HWX.out.os, HWX.out.tape, HWX.out.output, HWX.out.size, fun i hi _ => HWX.out.block i hi⟩ (fun r e => by cases e)
    have cyX : X.cell? ⟨W.heap.size, 0, none⟩ = some (.func (.yield lo) #[] #[]) := by rw [HWX.out.cell (cell_lt cy)]; exact cy
    obtain ⟨fn, tmps, assign, body, hy, hR⟩ := HY.out pre ⟨k, hk⟩ X hJX hlt
    simp only [hdV] at hy
    have HEND : Hid (∀ W3, KpO nb G W.heap.size X W3 → J (pre ++ [⟨k, hk⟩]) W3 → KeepsFrom wL.heap.size W' W3 ∧ KpA nb G W' W3 ∧ (J (pre ++ [⟨k, hk⟩]) W3 ∧ Box W3 W.heap.size 96 #[.func (.yield lo) #[] #[]]) ∧ Below nb W W3) := fun W3 h1 h2 => by
      have hnW : nb ≤ W'.heap.size := by have := HB.out.1.2.lt; have := HG.out.2.2; omega
      have hk1 : KpA nb G W' X := .of_below HWX.out hnW
      refine ⟨⟨Nat.le_trans HWX.out.size h1.2.size, fun i o hi ho hc => h1.2.same i o (by have := HSZ.out; omega) ((HWX.out.block i (Array.getElem?_eq_some_iff.1 ho).1).trans ho) hc⟩, hk1.trans h1.1, ⟨h2, (hk1.trans h1.1).box HB.out.1.2 (fun hg => by have := HG.out.1 _ hg; omega) (by decide)⟩, HB.out.2.trans (hk1.trans h1.1).1⟩
    have HENX : Hid (∀ W3, KpO nb G W.heap.size X W3 → Jx (pre ++ [⟨k, hk⟩]) W3 → KeepsFrom wL.heap.size W' W3 ∧ Jx (pre ++ [⟨k, hk⟩]) W3) := fun W3 h1 h2 =>
      ⟨⟨Nat.le_trans HWX.out.size h1.2.size, fun i o hi ho hc => h1.2.same i o (by have := HSZ.out; omega) ((HWX.out.block i (Array.getElem?_eq_some_iff.1 ho).1).trans ho) hc⟩, h2⟩
    obtain ⟨vow, hvow⟩ : ∃ y, y = ow l k := ⟨_, rfl⟩
    obtain ⟨vix, hvix⟩ : ∃ y, y = ixn l k := ⟨_, rfl⟩
    obtain ⟨vln, hvln⟩ : ∃ y, y = lnn l k := ⟨_, rfl⟩
    rw [← hvow, ← hvix, ← hvln] at hy
    rw [← hvow, ← hvix, ← hvln] at HN
    clear hvow hvix hvln hJX
    gi_wp2
    refine wpIn_region_any hmix ?_
    refine anyIn_out (by kernel_rfl) _ _ _ _ ?_
    rw [show { (W'.drew.drew) with drawn := (W'.drew.drew).drawn + 1 } = X from hX.symm]
    clear hX hmix cy so sr si sl
    refine tin 1 20 ?_
    simp only [ua, ub, uc, ud]
    refine tin 3 22 ?_
    simp only [ua, ub, uc, ud]
    refine tin 6 25 ?_
    simp only [ua, ub, uc, ud]
    refine wpAnyIn_ready (rs := [0, 2]) (by kernel_rfl) (by decide) (AllReadyIn.cons (by rfl) (fun K hK => ?_) (AllReadyIn.cons (by rfl) (fun K hK => ?_) AllReadyIn.nil))
    · go_simp
      refine hK _ _ ?_
      clear hK
      refine wpAnyIn_ready (rs := [2]) (by kernel_rfl) (by decide) (AllReadyIn.cons (by rfl) (fun K hK => ?_) AllReadyIn.nil)
      go_simp
      refine ⟨trivial, fun _ => by omega, (callsIn_wide.2 (HN.out.1 _ HWX.out)).mono ?_⟩
      rintro e wn ⟨rfl, rfl⟩
      dsimp only
      refine hK _ _ ?_
      clear hK
      refine wpAnyIn_ready (rs := [4]) (by kernel_rfl) (by decide) (AllReadyIn.cons (by rfl) (fun K hK => ?_) AllReadyIn.nil)
      go_simp
      refine ⟨trivial, fun _ => by omega, (callsIn_wide.2 (HN.out.2.1 _ HWX.out)).mono ?_⟩
      rintro e wn ⟨rfl, rfl⟩
      dsimp only
      refine hK _ _ ?_
      clear hK
      refine tin 5 24 ?_
      simp only [ua, ub, uc, ud]
      refine wpAnyIn_ready (rs := [7]) (by kernel_rfl) (by decide) (AllReadyIn.cons (by rfl) (fun K hK => ?_) AllReadyIn.nil)
      go_simp
      refine ⟨trivial, fun _ => by omega, (callsIn_wide.2 (HN.out.2.2 _ HWX.out)).mono ?_⟩
      rintro e wn ⟨rfl, rfl⟩
      dsimp only
      refine hK _ _ ?_
      clear hK
      refine wpAnyIn_ready (rs := [8]) (by kernel_rfl) (by decide) (AllReadyIn.cons (by rfl) (fun K hK => ?_) AllReadyIn.nil)
      go_simp
      refine ⟨fun _ => by omega, (RoundIn.wide hR).mono ?_⟩
      rintro e W3 (⟨rfl, hJ3, hk3⟩ | ⟨rfl, hJx3, hk3⟩)
      · refine hK _ _ ?_
        clear hK
        have HE : Hid (KeepsFrom wL.heap.size W' W3 ∧ KpA nb G W' W3 ∧ (J (pre ++ [⟨k, hk⟩]) W3 ∧ Box W3 W.heap.size 96 #[.func (.yield lo) #[] #[]]) ∧ Below nb W W3) := HEND.out W3 hk3 hJ3
        clear hJ3 hk3 hy hR
        refine wpAnyIn_ready (rs := [9]) (by kernel_rfl) (by decide) (AllReadyIn.cons (by rfl) (fun K hK => ?_) AllReadyIn.nil)
        go_simp
        refine hK _ _ ?_
        clear hK
        refine wpAnyIn_done (by kernel_rfl) ?_ _
        gi_wp2
        exact HE.out
      · refine hK _ _ ?_
        clear hK
        have HE : Hid (KeepsFrom wL.heap.size W' W3 ∧ Jx (pre ++ [⟨k, hk⟩]) W3) := HENX.out W3 hk3 hJx3
        clear hJx3 hk3 hy hR
        refine wpAnyIn_ready (rs := [9]) (by kernel_rfl) (by decide) (AllReadyIn.cons (by rfl) (fun K hK => ?_) AllReadyIn.nil)
        go_simp
        refine hK _ _ ?_
        clear hK
        refine wpAnyIn_done (by kernel_rfl) ?_ _
        gi_wp2
        exact ⟨HE.out.1, rfl, HE.out.2⟩
    · go_simp
      refine ⟨trivial, fun _ => by omega, (callsIn_wide.2 (HN.out.1 _ HWX.out)).mono ?_⟩
      rintro e wn ⟨rfl, rfl⟩
      dsimp only
      refine hK _ _ ?_
      clear hK
      refine wpAnyIn_ready (rs := [0, 4]) (by kernel_rfl) (by decide) (AllReadyIn.cons (by rfl) (fun K hK => ?_) (AllReadyIn.cons (by rfl) (fun K hK => ?_) AllReadyIn.nil))
      · go_simp
        refine hK _ _ ?_
        clear hK
        refine wpAnyIn_ready (rs := [4]) (by kernel_rfl) (by decide) (AllReadyIn.cons (by rfl) (fun K hK => ?_) AllReadyIn.nil)
        go_simp
        refine ⟨trivial, fun _ => by omega, (callsIn_wide.2 (HN.out.2.1 _ HWX.out)).mono ?_⟩
        rintro e wn ⟨rfl, rfl⟩
        dsimp only
        refine hK _ _ ?_
        clear hK
        refine tin 5 24 ?_
        simp only [ua, ub, uc, ud]
        refine wpAnyIn_ready (rs := [7]) (by kernel_rfl) (by decide) (AllReadyIn.cons (by rfl) (fun K hK => ?_) AllReadyIn.nil)
        go_simp
        refine ⟨trivial, fun _ => by omega, (callsIn_wide.2 (HN.out.2.2 _ HWX.out)).mono ?_⟩
        rintro e wn ⟨rfl, rfl⟩
        dsimp only
        refine hK _ _ ?_
        clear hK
        refine wpAnyIn_ready (rs := [8]) (by kernel_rfl) (by decide) (AllReadyIn.cons (by rfl) (fun K hK => ?_) AllReadyIn.nil)
        go_simp
        refine ⟨fun _ => by omega, (RoundIn.wide hR).mono ?_⟩
        rintro e W3 (⟨rfl, hJ3, hk3⟩ | ⟨rfl, hJx3, hk3⟩)
        · refine hK _ _ ?_
          clear hK
          have HE : Hid (KeepsFrom wL.heap.size W' W3 ∧ KpA nb G W' W3 ∧ (J (pre ++ [⟨k, hk⟩]) W3 ∧ Box W3 W.heap.size 96 #[.func (.yield lo) #[] #[]]) ∧ Below nb W W3) := HEND.out W3 hk3 hJ3
          clear hJ3 hk3 hy hR
          refine wpAnyIn_ready (rs := [9]) (by kernel_rfl) (by decide) (AllReadyIn.cons (by rfl) (fun K hK => ?_) AllReadyIn.nil)
          go_simp
          refine hK _ _ ?_
          clear hK
          refine wpAnyIn_done (by kernel_rfl) ?_ _
          gi_wp2
          exact HE.out
        · refine hK _ _ ?_
          clear hK
          have HE : Hid (KeepsFrom wL.heap.size W' W3 ∧ Jx (pre ++ [⟨k, hk⟩]) W3) := HENX.out W3 hk3 hJx3
          clear hJx3 hk3 hy hR
          refine wpAnyIn_ready (rs := [9]) (by kernel_rfl) (by decide) (AllReadyIn.cons (by rfl) (fun K hK => ?_) AllReadyIn.nil)
          go_simp
          refine hK _ _ ?_
          clear hK
          refine wpAnyIn_done (by kernel_rfl) ?_ _
          gi_wp2
          exact ⟨HE.out.1, rfl, HE.out.2⟩
      · go_simp
        refine ⟨trivial, fun _ => by omega, (callsIn_wide.2 (HN.out.2.1 _ HWX.out)).mono ?_⟩
        rintro e wn ⟨rfl, rfl⟩
        dsimp only
        refine hK _ _ ?_
        clear hK
        refine tin 5 24 ?_
        simp only [ua, ub, uc, ud]
        refine wpAnyIn_ready (rs := [0, 7]) (by kernel_rfl) (by decide) (AllReadyIn.cons (by rfl) (fun K hK => ?_) (AllReadyIn.cons (by rfl) (fun K hK => ?_) AllReadyIn.nil))
        · go_simp
          refine hK _ _ ?_
          clear hK
          refine wpAnyIn_ready (rs := [7]) (by kernel_rfl) (by decide) (AllReadyIn.cons (by rfl) (fun K hK => ?_) AllReadyIn.nil)
          go_simp
          refine ⟨trivial, fun _ => by omega, (callsIn_wide.2 (HN.out.2.2 _ HWX.out)).mono ?_⟩
          rintro e wn ⟨rfl, rfl⟩
          dsimp only
          refine hK _ _ ?_
          clear hK
          refine wpAnyIn_ready (rs := [8]) (by kernel_rfl) (by decide) (AllReadyIn.cons (by rfl) (fun K hK => ?_) AllReadyIn.nil)
          go_simp
          refine ⟨fun _ => by omega, (RoundIn.wide hR).mono ?_⟩
          rintro e W3 (⟨rfl, hJ3, hk3⟩ | ⟨rfl, hJx3, hk3⟩)
          · refine hK _ _ ?_
            clear hK
            have HE : Hid (KeepsFrom wL.heap.size W' W3 ∧ KpA nb G W' W3 ∧ (J (pre ++ [⟨k, hk⟩]) W3 ∧ Box W3 W.heap.size 96 #[.func (.yield lo) #[] #[]]) ∧ Below nb W W3) := HEND.out W3 hk3 hJ3
            clear hJ3 hk3 hy hR
            refine wpAnyIn_ready (rs := [9]) (by kernel_rfl) (by decide) (AllReadyIn.cons (by rfl) (fun K hK => ?_) AllReadyIn.nil)
            go_simp
            refine hK _ _ ?_
            clear hK
            refine wpAnyIn_done (by kernel_rfl) ?_ _
            gi_wp2
            exact HE.out
          · refine hK _ _ ?_
            clear hK
            have HE : Hid (KeepsFrom wL.heap.size W' W3 ∧ Jx (pre ++ [⟨k, hk⟩]) W3) := HENX.out W3 hk3 hJx3
            clear hJx3 hk3 hy hR
            refine wpAnyIn_ready (rs := [9]) (by kernel_rfl) (by decide) (AllReadyIn.cons (by rfl) (fun K hK => ?_) AllReadyIn.nil)
            go_simp
            refine hK _ _ ?_
            clear hK
            refine wpAnyIn_done (by kernel_rfl) ?_ _
            gi_wp2
            exact ⟨HE.out.1, rfl, HE.out.2⟩
        · go_simp
          refine ⟨trivial, fun _ => by omega, (callsIn_wide.2 (HN.out.2.2 _ HWX.out)).mono ?_⟩
          rintro e wn ⟨rfl, rfl⟩
          dsimp only
          refine hK _ _ ?_
          clear hK
          refine wpAnyIn_ready (rs := [0]) (by kernel_rfl) (by decide) (AllReadyIn.cons (by rfl) (fun K hK => ?_) AllReadyIn.nil)
          go_simp
          refine hK _ _ ?_
          clear hK
          refine wpAnyIn_ready (rs := [8]) (by kernel_rfl) (by decide) (AllReadyIn.cons (by rfl) (fun K hK => ?_) AllReadyIn.nil)
          go_simp
          refine ⟨fun _ => by omega, (RoundIn.wide hR).mono ?_⟩
          rintro e W3 (⟨rfl, hJ3, hk3⟩ | ⟨rfl, hJx3, hk3⟩)
          · refine hK _ _ ?_
            clear hK
            have HE : Hid (KeepsFrom wL.heap.size W' W3 ∧ KpA nb G W' W3 ∧ (J (pre ++ [⟨k, hk⟩]) W3 ∧ Box W3 W.heap.size 96 #[.func (.yield lo) #[] #[]]) ∧ Below nb W W3) := HEND.out W3 hk3 hJ3
            clear hJ3 hk3 hy hR
            refine wpAnyIn_ready (rs := [9]) (by kernel_rfl) (by decide) (AllReadyIn.cons (by rfl) (fun K hK => ?_) AllReadyIn.nil)
            go_simp
            refine hK _ _ ?_
            clear hK
            refine wpAnyIn_done (by kernel_rfl) ?_ _
            gi_wp2
            exact HE.out
          · refine hK _ _ ?_
            clear hK
            have HE : Hid (KeepsFrom wL.heap.size W' W3 ∧ Jx (pre ++ [⟨k, hk⟩]) W3) := HENX.out W3 hk3 hJx3
            clear hJx3 hk3 hy hR
            refine wpAnyIn_ready (rs := [9]) (by kernel_rfl) (by decide) (AllReadyIn.cons (by rfl) (fun K hK => ?_) AllReadyIn.nil)
            go_simp
            refine hK _ _ ?_
            clear hK
            refine wpAnyIn_done (by kernel_rfl) ?_ _
            gi_wp2
            exact ⟨HE.out.1, rfl, HE.out.2⟩
  case done =>
    rintro D xs W' hD hS ⟨⟨hj, hbx⟩, hbel⟩ hK
    clear hit
    gi_wp2
    refine ⟨by simp, .inl ⟨_, _, rfl, run_takeDeferred hK, ?_⟩⟩
    refine ⟨.tuple #[], by simp [results, Try.results60, go_sem], ⟨_, rfl⟩, .inl ⟨xs, hS, HJ.out.1.putObj _ hj (by have := HSZ.out; omega) hK rfl⟩⟩
  case stop =>
    rintro D c pre W' hD hSp ⟨rfl, hjx⟩ hK
    clear hit
    gi_wp2
    refine ⟨by simp, .inl ⟨_, _, rfl, run_takeDeferred hK, ?_⟩⟩
    refine ⟨.tuple #[], by simp [results, Try.results60, go_sem], ⟨_, rfl⟩, .inr ⟨pre, hSp, HJ.out.2.1.putObj _ hjx (by have := HSZ.out; omega) hK rfl⟩⟩

end Go.Proofs.Ytmjgamokddedkaa
