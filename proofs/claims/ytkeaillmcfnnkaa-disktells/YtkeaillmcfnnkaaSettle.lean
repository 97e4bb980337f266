/-
  What settle makes of any disk: the error, or the sectors behind the writes that land, and an empty cache.
-/
import Derived.Test.YtkeaillmcfnnkaaIter
namespace Go.Proofs.Ytkeaillmcfnnkaa
open Go.RowKit Go.Shelf
attribute [local go_sem] Oper.semAt_some

set_option maxHeartbeats 400000 in
theorem written_any (a1 a2 : Option Addr) (n c1 m c2 : Nat) (lf : Fn) (x lb : Array Value) (w : World) :
    Calls Try.prog 43 #[.agg #[.slice a1 n c1, .slice a2 m c2], .func lf x lb] w fun e w' => e = .returned (.func (.func 46) #[] #[.pointer (some ⟨w.heap.size, 0, none⟩), .pointer (some ⟨w.heap.size + 1, 0, none⟩)]) ∧
      w' = (w.alloc (.cells #[.slice a1 n c1, .slice a2 m c2] 30)).alloc (.cells #[.func lf x lb] 73) := by
  go_enter Try.func43, Try.ntmps43
  go_wp2
  go_ret
  exact ⟨rfl, rfl⟩

/-- What stands behind those that were handed out. -/
def fill (init : List (List Int)) (ps : List (Nat × List Int)) : List (List Int) := ps.foldl (fun acc p => acc.set p.1 p.2) init

theorem fill_length (init : List (List Int)) (ps : List (Nat × List Int)) : (fill init ps).length = init.length := by
  unfold fill
  induction ps generalizing init with
  | nil => rfl
  | cons p ps ih => rw [List.foldl_cons, ih, List.length_set]
theorem fill_snoc (init : List (List Int)) (ps : List (Nat × List Int)) (p : Nat × List Int) : fill init (ps ++ [p]) = (fill init ps).set p.1 p.2 := by
  unfold fill; rw [List.foldl_append]; rfl
theorem cell_one {w : World} {B : Nat} {t : TypeId} {v : Value} (h : w.heap[B]? = some (.cells #[v] t (0, 0))) : w.cell? ⟨B, 0, none⟩ = some v := by simp [World.cell?, h]

/-- The rows, their blocks named. -/
def GridAt (bs : List Nat) (base : Nat) (w : World) (v : Value) (ls : List (List Int)) : Prop :=
  w.ownsRow base 26 1 v ls.length (bs.map fun b => Value.slice (some ⟨b, 0, none⟩) 64 64) ∧ bs.Nodup ∧
    Each (fun b l => base ≤ b ∧ l.length = 64 ∧ Oct l ∧ w.heap[b]? = some (.cells (l.map (Value.int .u8)).toArray 5 (0, 0))) bs ls
theorem GridAt.grid {bs : List Nat} {base : Nat} {w : World} {v : Value} {ls : List (List Int)} (h : GridAt bs base w v ls) : Grid base w v ls := ⟨bs, h⟩

theorem cells_kept {W W' : World} {row : Option Nat} {k : Nat} {cs : Array Value} {t : TypeId} {fr : Nat × Nat} (h : W.heap[k]? = some (.cells cs t fr)) (hg : W.grownBy W' row) (hr : ∀ r, row = some r → ∃ o : Obj, W.heap[r]? = some o ∧ o.isCells = false) : W'.heap[k]? = some (.cells cs t fr) := by
  rw [hg.block k (Array.getElem?_eq_some_iff.1 h).1 (fun e => by
    obtain ⟨o, ho, hc⟩ := hr k e.symm
    rw [h] at ho; cases ho; cases hc)]
  exact h

theorem GridAt.kept {bs : List Nat} {base : Nat} {W W' : World} {v : Value} {ls : List (List Int)} {row : Option Nat} (h : GridAt bs base W v ls) (hg : W.grownBy W' row) (hr : ∀ r, row = some r → ∃ o : Obj, W.heap[r]? = some o ∧ o.isCells = false) : GridAt bs base W' v ls := by
  obtain ⟨⟨h1, h2⟩, h3, h4⟩ := h
  refine ⟨⟨h1, ?_⟩, h3, h4.mono fun b l h => ⟨h.1, h.2.1, h.2.2.1, cells_kept h.2.2.2 hg hr⟩⟩
  rcases h2 with h | ⟨g, cap, cur, a, b, c, d⟩
  · exact .inl h
  · exact .inr ⟨g, cap, cur, a, b, cells_kept c hg hr, d⟩

/-- One row is written over. -/
theorem GridAt.put {bs : List Nat} {base : Nat} {W W' : World} {v : Value} {ls : List (List Int)} {i g : Nat} {l : List Int} (h : GridAt bs base W v ls) (hi : bs[i]? = some g) (hl : l.length = 64) (ho : Oct l) (hg : W.grownBy W' (some g)) (hw : W'.heap[g]? = some (.cells (l.map (Value.int .u8)).toArray 5 (0, 0))) : GridAt bs base W' v (ls.set i l) := by
  obtain ⟨h1, h3, h4⟩ := h
  have hgb : base ≤ g ∧ ∃ x, W.heap[g]? = some (.cells x 5 (0, 0)) := by
    have hlt : i < ls.length := by rw [← h4.length]; exact (List.getElem?_eq_some_iff.1 hi).1
    obtain ⟨b, hb, hx⟩ := h4.get (List.getElem?_eq_getElem hlt)
    rw [hi] at hb; cases hb
    exact ⟨hx.1, _, hx.2.2.2⟩
  refine ⟨?_, h3, ?_⟩
  · rw [List.length_set]
    refine h1.kept hg ?_
    rcases h1.2 with ⟨rfl, _⟩ | ⟨g', cap, cur, rfl, _, hg', _⟩
    · exact .inl rfl
    · refine .inr fun e => ?_
      have : g' = g := by simpa [Value.ownBlock] using e
      subst this
      obtain ⟨_, x, hx⟩ := hgb
      rw [hx] at hg'
      simp at hg'
  · refine each_of (by rw [List.length_set]; exact h4.length) fun j b l' hb hl' => ?_
    by_cases e : i = j
    · subst e
      rw [hi] at hb; cases hb
      have hlt : i < ls.length := by rw [← h4.length]; exact (List.getElem?_eq_some_iff.1 hi).1
      rw [List.getElem?_set_self hlt] at hl'
      cases hl'
      exact ⟨hgb.1, hl, ho, hw⟩
    · rw [List.getElem?_set_ne e] at hl'
      obtain ⟨b', hb', hx⟩ := h4.get hl'
      rw [hb] at hb'; cases hb'
      refine ⟨hx.1, hx.2.1, hx.2.2.1, ?_⟩
      rw [hg.block b (Array.getElem?_eq_some_iff.1 hx.2.2.2).1 (fun e' => ?_)]
      · exact hx.2.2.2
      · cases e'
        exact e (by
          have hi' := (List.getElem?_eq_some_iff.1 hi)
          have hb'' := (List.getElem?_eq_some_iff.1 hb)
          obtain ⟨p1, p2⟩ := hi'
          obtain ⟨p3, p4⟩ := hb''
          exact (List.getElem_inj h3).1 (p2.trans p4.symm))

theorem splice_all (cur l : List Value) (h : cur.length = l.length) : splice cur 0 l = l := by
  simp [splice, h]

set_option maxRecDepth 100000 in
set_option maxHeartbeats 2000000 in
theorem settle_good (n0 : Nat) (v : Value) (S : St) (gl : Nat) (lb : Array Value) (lands : Nat → Bool) (w : World) (h : Disk n0 w v S) (hS : chk S = true)
    (heg : ∀ args w, (callFunc gl args).run Try.prog w = .ok (.enter gl args) w)
    (hlands : ∀ (W : World) (j : Nat), (∀ k, k < w.heap.size → W.heap[k]? = w.heap[k]?) → Calls Try.prog gl (#[.int .i64 (j : Int)] ++ lb) W fun e w' => e = .returned (.bool (lands j)) ∧ W = w') :
    Calls Try.prog 38 #[v, .func (.func gl) #[] lb] w fun e w' => ∃ vs, e = .returned (.tuple #[.agg #[vs, .slice none 0 0], .int .i64 0]) ∧ Grid w.heap.size w' vs (fill (List.replicate S.secs.length zeros) (items S lands)) ∧ Below w.heap.size w w' := by
  refine (callsIn_wide (n := 5)).1 ?_
  obtain ⟨a1, c1, a2, c2, rfl, hL, hW⟩ := h.shape
  obtain ⟨k1, k2, k3, k4, k5, k6⟩ := chk_facts hS
  have HD : Hid (Disk n0 w (.agg #[.slice a1 S.secs.length c1, .slice a2 S.cache.length c2]) S) := h
  have HLW : Hid (Lists n0 w (.slice a1 S.secs.length c1) S.secs ∧ Writes n0 w (.slice a2 S.cache.length c2) S.cache) := ⟨hL, hW⟩
  have HLA : Hid (∀ (W : World) (j : Nat), (∀ k, k < w.heap.size → W.heap[k]? = w.heap[k]?) → Calls Try.prog gl (#[.int .i64 (j : Int)] ++ lb) W fun e w' => e = .returned (.bool (lands j)) ∧ W = w') := hlands
  have hl1 := run_len Try.underlying22 a1 S.secs.length c1
  obtain ⟨n, hn⟩ : ∃ n, n = S.secs.length := ⟨_, rfl⟩
  obtain ⟨m, hm⟩ : ∃ n, n = S.cache.length := ⟨_, rfl⟩
  rw [← hn] at HD HLW hl1 k1 k2 ⊢
  rw [← hm] at HD HLW k3 ⊢
  have HN : Hid (n = S.secs.length ∧ m = S.cache.length) := ⟨hn, hm⟩
  clear hn hm h hL hW k4 k5 k6 hlands
  refine callsIn_of_wp_marks Try.func38 rfl trivial ?_ rfl
  simp only [Try.ntmps38, List.size_toArray, List.length_cons, List.length_nil, Nat.reduceAdd, Nat.reduceSub, Array.replicate_succ, Array.replicate_zero, List.push_toArray, List.append_toArray, List.nil_append, List.cons_append]
  gi_wp2_with fail
  refine ⟨trivial, (callsIn_wide.2 (check_any n0 _ S _ (HD.out.below (((Below.refl _ w).alloc (Nat.le_refl _) _).alloc (by simp) _)))).mono ?_⟩
  rintro e w1 ⟨rfl, hb1⟩
  have hP1 : Box w1 w.heap.size 30 (.slice a1 n c1) (.slice a2 m c2) := ((Box.new w 30 _ _).alloc _).below hb1 (by simp; omega)
  have hR1 : Box w1 (w.heap.size + 1) 30 (.slice none 0 0) (.slice none 0 0) := by
    have := Box.new (w.alloc (.cells #[.slice a1 n c1, .slice a2 m c2] 30)) 30 (.slice none 0 0) (.slice none 0 0)
    rw [World.size_alloc] at this
    exact this.below hb1 (by simp)
  have hbe1 : Below w.heap.size w w1 := below_any (((Below.refl _ w).alloc (Nat.le_refl _) _).alloc (by simp) _) hb1
  have HB1 : Hid (Box w1 w.heap.size 30 (.slice a1 n c1) (.slice a2 m c2) ∧ Box w1 (w.heap.size + 1) 30 (.slice none 0 0) (.slice none 0 0) ∧ Below w.heap.size w w1) := ⟨hP1, hR1, hbe1⟩
  have g0 := hP1.cell0
  have g1 := hP1.cell1
  have hce : cerr S = 0 := by simp [cerr, hS]
  rw [hce]
  clear hb1 hbe1 hP1 hR1 hce
  gi_wp2_with fail
  refine ⟨trivial, (callsIn_wide.2 (blank_any n w1 k2)).mono ?_⟩
  rintro e w2 ⟨vg, rfl, hG, hb2⟩
  obtain ⟨bs, hgr⟩ := hG
  have hGA : GridAt bs w1.heap.size w2 vg (List.replicate n zeros) := hgr
  have hown := hgr.1
  rw [List.length_replicate] at hown
  obtain ⟨g, cap, rfl, hgl, hgs⟩ := hown.form (by omega)
  have hP2 := HB1.out.1.below hb2 HB1.out.1.lt
  have hR2 := HB1.out.2.1.below hb2 HB1.out.2.1.lt
  clear g0 g1 hown hgr
  have g0 := hP2.cell0
  have g1 := hP2.cell1
  obtain ⟨W, hW⟩ : ∃ W, W = w2.alloc (.cells #[.slice (some ⟨g, 0, none⟩) n cap, .slice none 0 0] 30) := ⟨_, rfl⟩
  have hbW : Below w2.heap.size w2 W := by rw [hW]; exact (Below.refl _ _).alloc (Nat.le_refl _) _
  have hXW : Box W w2.heap.size 30 (.slice (some ⟨g, 0, none⟩) n cap) (.slice none 0 0) := by rw [hW]; exact Box.new _ _ _ _
  have hsW : W.heap.size = w2.heap.size + 1 := by rw [hW]; simp
  have hPW := hP2.below hbW hP2.lt
  have hRW := hR2.below hbW hR2.lt
  have HW : Hid (Box W w2.heap.size 30 (.slice (some ⟨g, 0, none⟩) n cap) (.slice none 0 0) ∧ Box W (w.heap.size + 1) 30 (.slice none 0 0) (.slice none 0 0) ∧ GridAt bs w1.heap.size W (.slice (some ⟨g, 0, none⟩) n cap) (List.replicate n zeros) ∧ Below w.heap.size w W ∧ W.heap.size = w2.heap.size + 1 ∧ w.heap.size + 1 < w1.heap.size ∧ w1.heap.size ≤ w2.heap.size ∧ ∀ b ∈ bs, b < w2.heap.size) := by
    refine ⟨hXW, hRW, hGA.kept (row := none) ⟨hbW.os, hbW.tape, hbW.output, hbW.size, fun k hk _ => hbW.block k hk⟩ (fun r e => by cases e), below_any (below_any HB1.out.2.2 hb2) hbW, hsW, HB1.out.2.1.lt, hb2.size, fun b hb => ?_⟩
    obtain ⟨i, hi, rfl⟩ := List.mem_iff_getElem.1 hb
    have hlt : i < (List.replicate n zeros).length := by rw [← hGA.2.2.length]; exact hi
    obtain ⟨b', hb', hx⟩ := hGA.2.2.get (List.getElem?_eq_getElem hlt)
    rw [List.getElem?_eq_getElem hi] at hb'; cases hb'
    exact (Array.getElem?_eq_some_iff.1 hx.2.2.2).1
  have g2 := hPW.cell0
  have g3 := hPW.cell1
  have hwr := written_any a1 a2 n c1 m c2 (.func gl) #[] lb W
  rw [hW] at g2 g3
  clear hP2 hR2 hbW hXW hsW hPW hRW hGA hb2
  gi_wp2_with fail
  rw [← hW]
  refine ⟨trivial, (callsIn_wide.2 hwr).mono ?_⟩
  rintro e w4 ⟨rfl, hw4⟩
  clear hwr g0 g1 g2 g3 hW
  gi_wp2_with fail
  obtain ⟨wL, hwL⟩ : ∃ wL, wL = (W.alloc (.cells #[.slice a1 n c1, .slice a2 m c2] 30)).alloc (.cells #[.func (.func gl) #[] lb] 73) := ⟨_, rfl⟩
  rw [← hwL]
  have hbL : Below W.heap.size W wL := by rw [hwL]; exact ((Below.refl _ _).alloc (Nat.le_refl _) _).alloc (by simp) _
  have hsL : wL.heap.size = W.heap.size + 2 := by rw [hwL]; simp
  have hBsL : Box wL W.heap.size 30 (.slice a1 n c1) (.slice a2 m c2) := by rw [hwL]; exact (Box.new W 30 _ _).alloc _
  have hBlL : wL.cell? ⟨W.heap.size + 1, 0, none⟩ = some (.func (.func gl) #[] lb) := by
    rw [hwL]
    have := heap_alloc_new (W.alloc (.cells #[.slice a1 n c1, .slice a2 m c2] 30)) (.cells #[.func (.func gl) #[] lb] 73)
    rw [World.size_alloc] at this
    exact cell_one this
  have hwwL : Below w.heap.size w wL := below_any HW.out.2.2.2.1 hbL
  have HLT : Hid (wL.heap.size = w2.heap.size + 3 ∧ w.heap.size + 1 < w1.heap.size ∧ w1.heap.size ≤ w2.heap.size ∧ ∀ b ∈ bs, b < w2.heap.size) := ⟨by have := HW.out.2.2.2.2.1; omega, HW.out.2.2.2.2.2⟩
  have hbase : ∀ b ∈ bs, w1.heap.size ≤ b := fun b hb => by
    obtain ⟨i, hi, rfl⟩ := List.mem_iff_getElem.1 hb
    have hlt : i < (List.replicate n zeros).length := by rw [← HW.out.2.2.1.2.2.length]; exact hi
    obtain ⟨b', hb', hx⟩ := HW.out.2.2.1.2.2.get (List.getElem?_eq_getElem hlt)
    rw [List.getElem?_eq_getElem hi] at hb'; cases hb'
    exact hx.1
  have hsW : W.heap.size = w2.heap.size + 1 := HW.out.2.2.2.2.1
  have hit := iter_stops 4 (by omega) (fun k => k ∈ bs) wL.heap.size n0 W.heap.size (W.heap.size + 1) w wL S a1 a2 c1 c2 gl lb lands hS (by rw [← HN.out.1]; exact HLW.out.1) (by rw [← HN.out.2]; exact HLW.out.2)
    (fun k hk => by have := hbase k hk; have := HLT.out; omega) (by have := HLT.out; omega)
    ⟨by omega, fun hk => by have := HLT.out.2.2.2 _ hk; omega⟩ ⟨by omega, fun hk => by have := HLT.out.2.2.2 _ hk; omega⟩ (Nat.le_refl _) (fun k hk => hwwL.block k hk)
    (by rw [← HN.out.1, ← HN.out.2]; exact hBsL) hBlL heg
    (fun W' j hk => HLA.out W' j fun k hlt => (hk.same k (by have := HLT.out; omega) (fun hm => by have := hbase k hm; have := HLT.out; omega)).trans (hwwL.block k hlt))
  rw [← HN.out.1, ← HN.out.2] at hit
  obtain ⟨i2, hi2, hz20, hz21, hz22⟩ := info_parts Try.info26
  have hkt : ∀ {A B C : World}, Keep (fun k => k ∈ bs) wL.heap.size A B → Keep (fun k => k ∈ bs) wL.heap.size B C → Keep (fun k => k ∈ bs) wL.heap.size A C := fun h k => h.trans k
  have hkb : ∀ (W' : World) (l : Nat) (o o' : Obj), wL.heap.size ≤ l → W'.heap[l]? = some o → o.isCells = false → o.isWalk = false → Keep (fun k => k ∈ bs) wL.heap.size W' (W'.putObj l o') := fun W' l o o' hl h1 _ _ =>
    ⟨(grownBy_putObj' W' l o').size, fun k hk _ => (grownBy_putObj' W' l o').block k (by have := (Array.getElem?_eq_some_iff.1 h1).1; omega) (fun e => by cases e; omega)⟩
  refine wpIn_rangeFunc_ownF rfl (by omega) (gf := 46) (lb := #[.pointer (some ⟨W.heap.size, 0, none⟩), .pointer (some ⟨W.heap.size + 1, 0, none⟩)]) rfl trivial (enters_of Try.func46 (by kernel_rfl) rfl) hit hkt hkb (Below.refl _ _) (fun _ => rfl)
    (fun pre W' => Box W' w2.heap.size 30 (.slice (some ⟨g, 0, none⟩) n cap) (.slice none 0 0) ∧ Box W' (w.heap.size + 1) 30 (.slice none 0 0) (.slice none 0 0) ∧ GridAt bs w1.heap.size W' (.slice (some ⟨g, 0, none⟩) n cap) (fill (List.replicate n zeros) (pre.map proj)) ∧ Below w.heap.size w W' ∧ wL.heap.size ≤ W'.heap.size)
    (fun _ _ _ => False)
    (fun s A B row hs hg hr => ⟨cells_kept hs.1 hg (fun r e => (hr r e).2), cells_kept hs.2.1 hg (fun r e => (hr r e).2), hs.2.2.1.kept hg (fun r e => (hr r e).2), hs.2.2.2.1.grown hg hs.2.2.2.1.size (fun k e => by have := (hr k e).1; have := HLT.out; omega), Nat.le_trans hs.2.2.2.2 hg.size⟩)
    (fun _ _ _ _ _ hs _ _ => hs)
    ⟨HW.out.1.below hbL HW.out.1.lt, HW.out.2.1.below hbL HW.out.2.1.lt, HW.out.2.2.1.kept (row := none) ⟨hbL.os, hbL.tape, hbL.output, hbL.size, fun k hk _ => hbL.block k hk⟩ (fun r e => by cases e), hwwL, Nat.le_refl _⟩
    (fun x => { tmps := #[.agg #[.slice a1 n c1, .slice a2 m c2], .func (.func gl) #[] lb, .pointer (some ⟨w.heap.size, 0, none⟩), undef, .pointer (some ⟨w.heap.size + 1, 0, none⟩), .int .i64 0, .int .i64 0, .pointer (some ⟨w2.heap.size, 0, none⟩), .int .i64 (x.i : Int), .slice x.a 64 x.cap,
          .agg #[.slice a1 n c1, .slice a2 m c2], .int .i64 0, .int .i64 0, .bool false, undef, undef, .pointer (some ⟨w.heap.size, 0, none⟩), .slice a1 n c1, .int .i64 (n : Int), .agg #[.slice (some ⟨g, 0, none⟩) n cap, .slice none 0 0], .agg #[.slice a1 n c1, .slice a2 m c2], .func (.func gl) #[] lb,
          .func (.func 46) #[] #[.pointer (some ⟨W.heap.size, 0, none⟩), .pointer (some ⟨W.heap.size + 1, 0, none⟩)], .int .i64 (x.i : Int), .slice x.a 64 x.cap, undef, undef, undef, undef, undef, undef, undef, undef], defers := [] }) ?assign ?body ?done ?stop
  case assign =>
    intro l x W' K hK
    clear hit hkt hkb hsW hsL hbase hbL hBsL hBlL hwwL hwL
    unfold encs
    gi_wp2
    exact hK
  case body =>
    rintro l pre x W' ⟨hbo, hbr, hgr, hbe, hle⟩ _
    have hlen : (fill (List.replicate n zeros) (pre.map proj)).length = n := by rw [fill_length, List.length_replicate]
    obtain ⟨l0, hl0⟩ := get_lt (l := fill (List.replicate n zeros) (pre.map proj)) (k := x.i) (by rw [hlen]; exact x.lt)
    obtain ⟨b, hb, hbb, hl64, _, hheap⟩ := hgr.2.2.get hl0
    have hcb : W'.cell? ⟨g, x.i, none⟩ = some (.slice (some ⟨b, 0, none⟩) 64 64) := by
      have := hgr.1.cells (g := g) rfl x.i (.slice (some ⟨b, 0, none⟩) 64 64) (by simp [hb])
      rwa [add_plain, Nat.zero_add] at this
    have hix : ∀ W, (Instr.indexAt 22 (.slice (some ⟨g, 0, none⟩) n cap) (.int .i64 (x.i : Int))).run Try.prog W = .ok (.pointer (some ⟨g, x.i, none⟩)) W := fun W => by
      have := run_index Try.underlying22 hi2 hz21 g 0 n cap x.i x.lt W
      rwa [Nat.mul_one, Nat.zero_add] at this
    have hA : Arg n0 W' (.slice x.a x.l.length x.cap) x.l := by rw [x.len]; exact x.arg.below hbe
    obtain ⟨W2, hrun, hg2, hgrow, hsz2⟩ := run_copy_into W' b 0 64 64 x.a x.cap x.l (l0.map (Value.int .u8)) 5 hheap hA (by rw [x.len]; omega) (by rw [x.len, List.length_map, hl64]; omega)
    rw [x.len] at hrun
    rw [splice_all _ _ (by rw [List.length_map, List.length_map, hl64, x.len])] at hg2
    have hcc := hbo.cell0
    have hmem : b ∈ bs := List.mem_of_getElem? hb
    have hne1 : some w2.heap.size ≠ some b := fun e => by cases e; have := HLT.out.2.2.2 _ hmem; omega
    have hne2 : some (w.heap.size + 1) ≠ some b := fun e => by cases e; have := hbase _ hmem; have := HLT.out; omega
    have HFIN : Hid (KeepsOthers W' W2 ∧ Keep (fun k => k ∈ bs) wL.heap.size W' W2 ∧ (Box W2 w2.heap.size 30 (.slice (some ⟨g, 0, none⟩) n cap) (.slice none 0 0) ∧ Box W2 (w.heap.size + 1) 30 (.slice none 0 0) (.slice none 0 0) ∧ GridAt bs w1.heap.size W2 (.slice (some ⟨g, 0, none⟩) n cap) (fill (List.replicate n zeros) ((pre ++ [x]).map proj)) ∧ Below w.heap.size w W2 ∧ wL.heap.size ≤ W2.heap.size)) := by
      refine ⟨KeepsOthers.of_grownBy hgrow (fun j o ej hj => by cases ej; rw [hheap] at hj; cases hj; rfl), ⟨hgrow.size, fun k hk hne => hgrow.block k (by omega) (fun e => by cases e; exact hne hmem)⟩, hbo.grown hgrow hne1, hbr.grown hgrow hne2, ?_, hbe.grown hgrow hbe.size (fun k e => by cases e; have := HLT.out; omega), by omega⟩
      rw [List.map_append, List.map_cons, List.map_nil, fill_snoc]
      exact hgr.put hb x.len x.arg.2 hgrow hg2
    clear hit hkt hkb hsW hsL hbase hbL hBsL hBlL hwwL hwL hbo hbr hgr hbe hlen hl0 hheap hA hgrow hg2 hb hbb hl64 hne1 hne2 hmem
    gi_wp2
    exact HFIN.out
  case done =>
    rintro D ys W' hD hys ⟨hbo, hbr, hgr, hbe, hle⟩ hK
    have hDne : D ≠ w.heap.size + 1 := by have := HLT.out; omega
    have hK' : ((W'.setCell ⟨w.heap.size + 1, 0, none⟩ (.slice (some ⟨g, 0, none⟩) n cap)).setCell ⟨w.heap.size + 1, 1, none⟩ (.slice none 0 0)).heap[D]? = some (.deferred (some [])) := by rw [heap_set2 _ _ _ _ _ hDne]; exact hK
    have hbf : Box (((W'.setCell ⟨w.heap.size + 1, 0, none⟩ (.slice (some ⟨g, 0, none⟩) n cap)).setCell ⟨w.heap.size + 1, 1, none⟩ (.slice none 0 0)).putObj D (.deferred none)) (w.heap.size + 1) 30 (.slice (some ⟨g, 0, none⟩) n cap) (.slice none 0 0) :=
      Box.kept ((hbr.set0 _).set1 _) (World.putObj_heap_other hDne.symm)
    have f0 := hbf.cell0
    have f1 := hbf.cell1
    have c0 := hbo.cell0
    have c1' := hbo.cell1
    have d0 := hbr.cell0
    have d1 := hbr.cell1
    have d2 := hbr.frozen0
    have d3 := hbr.frozen1
    have HFIN : Hid (Grid w.heap.size (((W'.setCell ⟨w.heap.size + 1, 0, none⟩ (.slice (some ⟨g, 0, none⟩) n cap)).setCell ⟨w.heap.size + 1, 1, none⟩ (.slice none 0 0)).putObj D (.deferred none)) (.slice (some ⟨g, 0, none⟩) n cap) (fill (List.replicate n zeros) (items S lands)) ∧
        Below w.heap.size w (((W'.setCell ⟨w.heap.size + 1, 0, none⟩ (.slice (some ⟨g, 0, none⟩) n cap)).setCell ⟨w.heap.size + 1, 1, none⟩ (.slice none 0 0)).putObj D (.deferred none))) := by
      have hys' : ys.map proj = items S lands := hys
      rw [hys'] at hgr
      constructor
      · obtain ⟨bs', hgr'⟩ := Grid.set (B := w.heap.size + 1) (i := 1) (x := .slice none 0 0) (Grid.set (B := w.heap.size + 1) (i := 0) (x := .slice (some ⟨g, 0, none⟩) n cap) hgr.grid (by have := HLT.out; omega)) (by have := HLT.out; omega)
        have hga : GridAt bs' w1.heap.size _ _ _ := hgr'
        exact Grid.weaken (hga.kept (grownBy_putObj' _ D (.deferred none)) (fun r e => by cases e; exact ⟨_, hK', rfl⟩)).grid (by have := HLT.out; omega)
      · exact (below_set2 hbe (Nat.le_succ _) _ _).trans (belowK_b (w := w) (Nat.le_refl _) _ D _ _ (by have := HLT.out; omega) hK' rfl rfl)
    clear hit hkt hkb hsW hsL hbase hbL hBsL hBlL hwwL hwL hbo hbr hgr hbe hle hbf hys hD hDne
    gi_wp2
    refine ⟨by simp, .inl ⟨_, _, rfl, run_takeDeferred hK', ?_⟩⟩
    exact ⟨.tuple #[.agg #[.slice (some ⟨g, 0, none⟩) n cap, .slice none 0 0], .int .i64 0], by simp [results, Try.results38, go_sem, *], ⟨_, rfl, HFIN.out⟩⟩
  case stop =>
    rintro D c pre W' _ _ h _
    exact h.elim

def stand (S : St) (lands : Nat → Bool) : St := if chk S = true then ⟨fill (List.replicate S.secs.length zeros) (items S lands), []⟩ else none0

set_option maxHeartbeats 1000000 in
theorem settle_bad (n0 : Nat) (v lf : Value) (S : St) (w : World) (h : Disk n0 w v S) (hS : chk S = false) :
    Calls Try.prog 38 #[v, lf] w fun e w' => e = .returned (.tuple #[.agg #[.slice none 0 0, .slice none 0 0], .int .i64 9]) ∧ Below w.heap.size w w' := by
  obtain ⟨a1, c1, a2, c2, rfl, hL, hW⟩ := h.shape
  have HD : Hid (Disk n0 w (.agg #[.slice a1 S.secs.length c1, .slice a2 S.cache.length c2]) S) := h
  obtain ⟨n, hn⟩ : ∃ n, n = S.secs.length := ⟨_, rfl⟩
  obtain ⟨m, hm⟩ : ∃ n, n = S.cache.length := ⟨_, rfl⟩
  rw [← hn, ← hm] at HD ⊢
  clear h hL hW hn hm
  go_enter Try.func38, Try.ntmps38
  go_wp2_with fail
  refine (check_any n0 _ S _ (HD.out.below (((Below.refl _ w).alloc (Nat.le_refl _) _).alloc (by simp) _))).mono ?_
  rintro e w1 ⟨rfl, hb1⟩
  have hR1 : Box w1 (w.heap.size + 1) 30 (.slice none 0 0) (.slice none 0 0) := by
    have := Box.new (w.alloc (.cells #[.slice a1 n c1, .slice a2 m c2] 30)) 30 (.slice none 0 0) (.slice none 0 0)
    rw [World.size_alloc] at this
    exact this.below hb1 (by simp)
  have HB : Hid (Below w.heap.size w w1) := below_any (((Below.refl _ w).alloc (Nat.le_refl _) _).alloc (by simp) _) hb1
  have g2 := hR1.cell0
  have g3 := hR1.cell1
  have g4 := hR1.frozen0
  have g5 := hR1.frozen1
  have hce : cerr S = 9 := by simp [cerr, hS]
  rw [hce]
  clear hb1 hR1 hce
  go_wp2
  refine bodyPost_ret (v := .tuple #[.agg #[.slice none 0 0, .slice none 0 0], .int .i64 9]) (by simp [results, Try.results38, go_sem, *]) rfl ⟨rfl, ?_⟩
  exact below_set2 HB.out (Nat.le_succ _) _ _

theorem stand_good {S : St} {lands : Nat → Bool} (h : chk S = true) : stand S lands = ⟨fill (List.replicate S.secs.length zeros) (items S lands), []⟩ := by rw [stand, if_pos h]
theorem stand_bad {S : St} {lands : Nat → Bool} (h : chk S = false) : stand S lands = none0 := by rw [stand, if_neg (by simp [h])]

theorem Grid.disk {base : Nat} {w : World} {v : Value} {ls : List (List Int)} (h : Grid base w v ls) : Disk base w (.agg #[v, .slice none 0 0]) ⟨ls, []⟩ :=
  ⟨_, _, rfl, h.lists, ⟨[], ⟨by simp [flat], .inl ⟨rfl, rfl⟩⟩, trivial⟩⟩

theorem settle_any (n0 : Nat) (v : Value) (S : St) (gl : Nat) (lb : Array Value) (lands : Nat → Bool) (w : World) (h : Disk n0 w v S)
    (heg : ∀ args w, (callFunc gl args).run Try.prog w = .ok (.enter gl args) w)
    (hlands : ∀ (W : World) (j : Nat), (∀ k, k < w.heap.size → W.heap[k]? = w.heap[k]?) → Calls Try.prog gl (#[.int .i64 (j : Int)] ++ lb) W fun e w' => e = .returned (.bool (lands j)) ∧ W = w') :
    Calls Try.prog 38 #[v, .func (.func gl) #[] lb] w fun e w' => ∃ v', e = .returned (.tuple #[v', .int .i64 (cerr S)]) ∧ Disk w.heap.size w' v' (stand S lands) ∧ Below w.heap.size w w' := by
  cases hS : chk S
  · have hc : cerr S = 9 := by simp [cerr, hS]
    rw [hc, stand_bad hS]
    exact (settle_bad n0 v _ S w h hS).mono fun e w' ⟨he, hb⟩ => ⟨_, he, (own_zero _ _ 64).disk, hb⟩
  · have hc : cerr S = 0 := by simp [cerr, hS]
    rw [hc, stand_good hS]
    exact (settle_good n0 v S gl lb lands w h hS heg hlands).mono fun e w' ⟨vs, he, hG, hb⟩ => ⟨_, he, hG.disk, hb⟩

end Go.Proofs.Ytkeaillmcfnnkaa
