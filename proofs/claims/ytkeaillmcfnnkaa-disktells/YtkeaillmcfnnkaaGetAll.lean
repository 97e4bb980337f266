/-
  What GetAll and Get answer of any disk: the error by the document's order, or the octets of the sectors as all writes left them.
-/
import Derived.Test.YtkeaillmcfnnkaaGetMath
namespace Go.Proofs.Ytkeaillmcfnnkaa
open Go.RowKit Go.Shelf
attribute [local go_sem] Oper.semAt_some

def full (S : St) : List (List Int) := fill (List.replicate S.secs.length zeros) (items S fun _ => true)
def gerr (S : St) (s k : Int) : Int := if chk S = false then 9 else if reach S.secs.length s k = false then 41 else 0
def gout (S : St) (s k : Int) : List Int := if gerr S s k = 0 then window (full S) s.toNat k.toNat else []

def zrow (A : Nat) : List Value := (List.replicate A (0 : Int)).map (Value.int .u8)

theorem made_many (A : Nat) : madeCells #[Value.int .u8 0] A = (zrow A).toArray := by
  apply Array.ext'
  rw [toList_madeCells_one, zrow, List.map_replicate]

theorem make_many (A : Nat) (h : A ≤ 281474976710656) (W : World) : (Instr.makeSlice 26 (.int .i64 (A : Int)) (.int .i64 (A : Int))).run Try.prog W = .ok (.slice (some ⟨W.heap.size, 0, none⟩) A A) (W.alloc (.cells (zrow A).toArray 5)) := by
  have := run_make_row' (P := Try.prog) 26 5 (.int .u8 0) 1 Try.underlying26 Try.info5 rfl .i64 .i64 A (by omega) (by omega) W
  rw [made_many] at this
  exact this

/-- Block B is a variable of one cell. -/
def One (w : World) (B : Nat) (t : TypeId) (v : Value) : Prop := w.heap[B]? = some (.cells #[v] t (0, 0))
theorem One.cell {w : World} {B : Nat} {t : TypeId} {v : Value} (h : One w B t v) : w.cell? ⟨B, 0, none⟩ = some v := cell_one h
theorem One.lt {w : World} {B : Nat} {t : TypeId} {v : Value} (h : One w B t v) : B < w.heap.size := (Array.getElem?_eq_some_iff.1 h).1
theorem One.new (w : World) (t : TypeId) (v : Value) : One (w.alloc (.cells #[v] t)) w.heap.size t v := heap_alloc_new w _
theorem One.below {w w' : World} {B n : Nat} {t : TypeId} {v : Value} (h : One w B t v) (hb : Below n w w') (hn : B < n) : One w' B t v := (hb.block B hn).trans h
theorem One.alloc {w : World} {B : Nat} {t : TypeId} {v : Value} (h : One w B t v) (o : Obj) : One (w.alloc o) B t v := (Below.heap_alloc w o B h.lt).trans h
theorem One.grown {w w' : World} {row : Option Nat} {B : Nat} {t : TypeId} {v : Value} (h : One w B t v) (hg : w.grownBy w' row) (hne : some B ≠ row) : One w' B t v := (hg.block B h.lt hne).trans h

theorem wrap_in' (x : Int) (h : -9223372036854775808 ≤ x ∧ x ≤ 9223372036854775807) : IntKind.i64.wrap x = x := by rw [IntKind.wrap_i64]; omega
theorem wrap_to' (x y : Int) (e : x = y) (h : -9223372036854775808 ≤ x ∧ x ≤ 9223372036854775807) : IntKind.i64.wrap x = y := by rw [wrap_in' x h, e]
theorem elem26' : Try.prog.underlying 26 = some (.slice (Try.prog.elem 26)) := by kernel_rfl
theorem elem26_is' : Try.prog.elem 26 = 5 := by kernel_rfl
theorem size5' (W : World) : (sizeOf (Try.prog.elem 26)).run Try.prog W = .ok 1 W := by
  obtain ⟨i0, hi, hz0, hz1, hz2⟩ := info_parts Try.info5
  rw [elem26_is']
  simp [sizeOf, typeInfo, hi, hz1]

theorem items_len {S : St} (hS : chk S = true) (lands : Nat → Bool) : ∀ p ∈ items S lands, p.1 < S.secs.length ∧ p.2.length = 64 := by
  obtain ⟨_, _, _, k4, k5, k6⟩ := chk_facts hS
  intro p hp
  rcases List.mem_append.1 hp with h | h
  · obtain ⟨i, hi, rfl⟩ := List.mem_map.1 h
    have hlt := List.mem_range.1 hi
    refine ⟨hlt, ?_⟩
    simp only [List.getD, List.getElem?_eq_getElem hlt, Option.getD_some]
    exact k4 _ (List.getElem_mem hlt)
  · have aux : ∀ j, j ≤ S.cache.length → ∀ p ∈ landed S lands j, p.1 < S.secs.length ∧ p.2.length = 64 := by
      intro j
      induction j with
      | zero => intro _ p hp; simp [landed] at hp
      | succ j ih =>
        intro hj p hp
        rcases List.mem_append.1 hp with h | h
        · exact ih (by omega) p h
        · split at h
          · obtain rfl : p = write S j := by simpa using h
            have hlt : j < S.cache.length := hj
            have hm := List.getElem_mem hlt
            simp only [write, List.getD, List.getElem?_eq_getElem hlt, Option.getD_some]
            have := k6 _ hm
            exact ⟨by omega, k5 _ hm⟩
          · simp at h
    exact aux _ (Nat.le_refl _) p h

theorem full_64 {S : St} (hS : chk S = true) (lands : Nat → Bool) : all64 (fill (List.replicate S.secs.length zeros) (items S lands)) := all64_fill _ _ (all64_zeros _) fun p hp => (items_len hS lands p hp).2

set_option maxRecDepth 100000 in
set_option maxHeartbeats 2000000 in
theorem getAll_good (n0 : Nat) (v : Value) (S : St) (sn kn : Nat) (w : World) (h : Disk n0 w v S) (hS : chk S = true) (hr : sn + kn ≤ S.secs.length) :
    Calls Try.prog 27 #[v, .int .i64 (sn : Int), .int .i64 (kn : Int)] w fun e w' => ∃ v', e = .returned (.tuple #[v', .int .i64 0]) ∧ w'.ownsRow w.heap.size 5 1 v' (64 * kn) ((window (full S) sn kn).map (Value.int .u8)) ∧ Below w.heap.size w w' := by
  refine (callsIn_wide (n := 5)).1 ?_
  obtain ⟨a1, c1, a2, c2, rfl, hL, hW⟩ := h.shape
  obtain ⟨k1, k2, k3, k4, k5, k6⟩ := chk_facts hS
  have HD : Hid (Disk n0 w (.agg #[.slice a1 S.secs.length c1, .slice a2 S.cache.length c2]) S) := h
  have HLW : Hid (Lists n0 w (.slice a1 S.secs.length c1) S.secs ∧ Writes n0 w (.slice a2 S.cache.length c2) S.cache) := ⟨hL, hW⟩
  have hrt : reach S.secs.length (sn : Int) (kn : Int) = true := by simp [reach]; omega
  obtain ⟨n, hn⟩ : ∃ n, n = S.secs.length := ⟨_, rfl⟩
  obtain ⟨m, hm⟩ : ∃ n, n = S.cache.length := ⟨_, rfl⟩
  have HFL : Hid (full S = fill (List.replicate n zeros) (items S fun _ => true)) := by show _ = _; rw [hn]; rfl
  rw [← hn] at HD HLW k1 k2 hr hrt ⊢
  rw [← hm] at HD HLW k3 ⊢
  have HN : Hid (n = S.secs.length ∧ m = S.cache.length) := ⟨hn, hm⟩
  obtain ⟨A, hA⟩ : ∃ A, A = 64 * kn := ⟨_, rfl⟩
  rw [← hA]
  have HA : Hid (A = 64 * kn) := hA
  have hwm : IntKind.i64.wrap ((kn : Int) * 64) = (A : Int) := by rw [IntKind.wrap_i64]; omega
  have hmk := make_many A (by omega)
  clear hn hm h hL hW k4 k5 k6 hA
  refine callsIn_of_wp_marks Try.func27 rfl trivial ?_ rfl
  simp only [Try.ntmps27, List.size_toArray, List.length_cons, List.length_nil, Nat.reduceAdd, Nat.reduceSub, Array.replicate_succ, Array.replicate_zero, List.push_toArray, List.append_toArray, List.nil_append, List.cons_append]
  gi_wp2_with fail
  refine ⟨trivial, (callsIn_wide.2 (check_any n0 _ S _ (HD.out.below ((((Below.refl _ w).alloc (Nat.le_refl _) _).alloc (by simp) _).alloc (by simp; omega) _)))).mono ?_⟩
  rintro e w1 ⟨rfl, hb1⟩
  have hP1 : Box w1 w.heap.size 30 (.slice a1 n c1) (.slice a2 m c2) := (((Box.new w 30 _ _).alloc _).alloc _).below hb1 (by simp; omega)
  have hO1 : One w1 (w.heap.size + 1) 3 (.int .i64 (sn : Int)) := by
    have := (One.new (w.alloc (.cells #[.slice a1 n c1, .slice a2 m c2] 30)) 3 (.int .i64 (sn : Int))).alloc (.cells #[.int .i64 (kn : Int)] 3)
    rw [World.size_alloc] at this
    exact this.below hb1 (by simp)
  have hO2 : One w1 (w.heap.size + 2) 3 (.int .i64 (kn : Int)) := by
    have := One.new ((w.alloc (.cells #[.slice a1 n c1, .slice a2 m c2] 30)).alloc (.cells #[.int .i64 (sn : Int)] 3)) 3 (.int .i64 (kn : Int))
    rw [World.size_alloc, World.size_alloc] at this
    exact this.below hb1 (by simp)
  have HB1 : Hid (Box w1 w.heap.size 30 (.slice a1 n c1) (.slice a2 m c2) ∧ One w1 (w.heap.size + 1) 3 (.int .i64 (sn : Int)) ∧ One w1 (w.heap.size + 2) 3 (.int .i64 (kn : Int)) ∧ Below w.heap.size w w1) := ⟨hP1, hO1, hO2, below_any ((((Below.refl _ w).alloc (Nat.le_refl _) _).alloc (by simp) _).alloc (by simp; omega) _) hb1⟩
  have g0 := hP1.cell0
  have g1 := hP1.cell1
  have g2 := hO1.cell
  have g3 := hO2.cell
  have hce : cerr S = 0 := by simp [cerr, hS]
  rw [hce]
  clear hb1 hP1 hO1 hO2 hce
  gi_wp2_with fail
  refine ⟨trivial, (callsIn_wide.2 (reaches_any a1 a2 n c1 m c2 sn kn w1 (by unfold maxLen; omega) (by omega))).mono ?_⟩
  rw [hrt]
  rintro e w2 ⟨rfl, hb2⟩
  have hP2 := HB1.out.1.below hb2 HB1.out.1.lt
  have hO1 := HB1.out.2.1.below hb2 HB1.out.2.1.lt
  have hO2 := HB1.out.2.2.1.below hb2 HB1.out.2.2.1.lt
  have HLT1 : Hid (w.heap.size + 2 < w2.heap.size) := hO2.lt
  clear g0 g1 g2 g3
  have g0 := hP2.cell0
  have g1 := hP2.cell1
  have g2 := hO1.cell
  have g3 := hO2.cell
  obtain ⟨W, hW⟩ : ∃ W, W = (w2.alloc (.cells (zrow A).toArray 5)).alloc (.cells #[.slice (some ⟨w2.heap.size, 0, none⟩) A A] 26) := ⟨_, rfl⟩
  have hbW : Below w2.heap.size w2 W := by rw [hW]; exact ((Below.refl _ _).alloc (Nat.le_refl _) _).alloc (by simp) _
  have hgW : W.heap[w2.heap.size]? = some (.cells (zrow A).toArray 5 (0, 0)) := by
    rw [hW, Below.heap_alloc _ _ _ (by simp)]
    exact heap_alloc_new w2 _
  have hXW : One W (w2.heap.size + 1) 26 (.slice (some ⟨w2.heap.size, 0, none⟩) A A) := by
    rw [hW]
    have := One.new (w2.alloc (.cells (zrow A).toArray 5)) 26 (.slice (some ⟨w2.heap.size, 0, none⟩) A A)
    rw [World.size_alloc] at this
    exact this
  have hsW : W.heap.size = w2.heap.size + 2 := by rw [hW]; simp
  have hPW := hP2.below hbW hP2.lt
  have HW : Hid (One W (w.heap.size + 1) 3 (.int .i64 (sn : Int)) ∧ One W (w.heap.size + 2) 3 (.int .i64 (kn : Int)) ∧ One W (w2.heap.size + 1) 26 (.slice (some ⟨w2.heap.size, 0, none⟩) A A) ∧ W.heap[w2.heap.size]? = some (.cells (zrow A).toArray 5 (0, 0)) ∧ Below w.heap.size w W ∧ W.heap.size = w2.heap.size + 2) :=
    ⟨hO1.below hbW hO1.lt, hO2.below hbW hO2.lt, hXW, hgW, below_any (below_any HB1.out.2.2.2 hb2) hbW, hsW⟩
  have g4 := hPW.cell0
  have g5 := hPW.cell1
  have hwr := written_any a1 a2 n c1 m c2 (.func 39) #[] #[] W
  rw [hW] at g4 g5
  clear hP2 hO1 hO2 hbW hgW hXW hsW hPW hb2
  gi_wp2_with fail
  rw [← hW]
  refine ⟨trivial, (callsIn_wide.2 hwr).mono ?_⟩
  rintro e w4 ⟨rfl, hw4⟩
  clear hwr g0 g1 g2 g3 g4 g5 hW hmk hwm
  gi_wp2_with fail
  obtain ⟨wL, hwL⟩ : ∃ wL, wL = (W.alloc (.cells #[.slice a1 n c1, .slice a2 m c2] 30)).alloc (.cells #[.func (.func 39) #[] #[]] 73) := ⟨_, rfl⟩
  rw [← hwL]
  have hbL : Below W.heap.size W wL := by rw [hwL]; exact ((Below.refl _ _).alloc (Nat.le_refl _) _).alloc (by simp) _
  have hsL : wL.heap.size = W.heap.size + 2 := by rw [hwL]; simp
  have hBsL : Box wL W.heap.size 30 (.slice a1 n c1) (.slice a2 m c2) := by rw [hwL]; exact (Box.new W 30 _ _).alloc _
  have hBlL : wL.cell? ⟨W.heap.size + 1, 0, none⟩ = some (.func (.func 39) #[] #[]) := by
    rw [hwL]
    have := heap_alloc_new (W.alloc (.cells #[.slice a1 n c1, .slice a2 m c2] 30)) (.cells #[.func (.func 39) #[] #[]] 73)
    rw [World.size_alloc] at this
    exact cell_one this
  have hwwL : Below w.heap.size w wL := below_any HW.out.2.2.2.2.1 hbL
  have hsW : W.heap.size = w2.heap.size + 2 := HW.out.2.2.2.2.2
  have HLT : Hid (wL.heap.size = w2.heap.size + 4 ∧ w.heap.size + 2 < w2.heap.size) := ⟨by omega, HLT1.out⟩
  have hit := iter_stops 4 (by omega) (fun k => k = w2.heap.size) wL.heap.size n0 W.heap.size (W.heap.size + 1) w wL S a1 a2 c1 c2 39 #[] (fun _ => true) hS (by rw [← HN.out.1]; exact HLW.out.1) (by rw [← HN.out.2]; exact HLW.out.2)
    (fun k hk => by have := HLT.out; omega) (by have := HLT.out; omega) ⟨by omega, by omega⟩ ⟨by omega, by omega⟩ (Nat.le_refl _) (fun k hk => hwwL.block k hk)
    (by rw [← HN.out.1, ← HN.out.2]; exact hBsL) hBlL (enters_of Try.func39 (by kernel_rfl) rfl) (fun W' j _ => every_any j W')
  rw [← HN.out.1, ← HN.out.2] at hit
  obtain ⟨i2, hi2, hz20, hz21, hz22⟩ := info_parts Try.info26
  have hkt : ∀ {A B C : World}, Keep (fun k => k = w2.heap.size) wL.heap.size A B → Keep (fun k => k = w2.heap.size) wL.heap.size B C → Keep (fun k => k = w2.heap.size) wL.heap.size A C := fun h k => h.trans k
  have hkb : ∀ (W' : World) (l : Nat) (o o' : Obj), wL.heap.size ≤ l → W'.heap[l]? = some o → o.isCells = false → o.isWalk = false → Keep (fun k => k = w2.heap.size) wL.heap.size W' (W'.putObj l o') := fun W' l o o' hl h1 _ _ =>
    ⟨(grownBy_putObj' W' l o').size, fun k hk _ => (grownBy_putObj' W' l o').block k (by have := (Array.getElem?_eq_some_iff.1 h1).1; omega) (fun e => by cases e; omega)⟩
  refine wpIn_rangeFunc_ownF rfl (by omega) (gf := 46) (lb := #[.pointer (some ⟨W.heap.size, 0, none⟩), .pointer (some ⟨W.heap.size + 1, 0, none⟩)]) rfl trivial (enters_of Try.func46 (by kernel_rfl) rfl) hit hkt hkb (Below.refl _ _) (fun _ => rfl)
    (fun pre W' => One W' (w.heap.size + 1) 3 (.int .i64 (sn : Int)) ∧ One W' (w.heap.size + 2) 3 (.int .i64 (kn : Int)) ∧ One W' (w2.heap.size + 1) 26 (.slice (some ⟨w2.heap.size, 0, none⟩) A A) ∧ W'.heap[w2.heap.size]? = some (.cells ((window (fill (List.replicate n zeros) (pre.map proj)) sn kn).map (Value.int .u8)).toArray 5 (0, 0)) ∧ Below w.heap.size w W' ∧ wL.heap.size ≤ W'.heap.size)
    (fun _ _ _ => False)
    (fun s A B row hs hg hr => ⟨cells_kept hs.1 hg (fun r e => (hr r e).2), cells_kept hs.2.1 hg (fun r e => (hr r e).2), cells_kept hs.2.2.1 hg (fun r e => (hr r e).2), cells_kept hs.2.2.2.1 hg (fun r e => (hr r e).2), hs.2.2.2.2.1.grown hg hs.2.2.2.2.1.size (fun k e => by have := (hr k e).1; have := HLT.out; omega), Nat.le_trans hs.2.2.2.2.2 hg.size⟩)
    (fun _ _ _ _ _ hs _ _ => hs)
    ⟨HW.out.1.below hbL HW.out.1.lt, HW.out.2.1.below hbL HW.out.2.1.lt, HW.out.2.2.1.below hbL HW.out.2.2.1.lt, by
      rw [hbL.block _ (by omega), HW.out.2.2.2.1, List.map_nil, show fill (List.replicate n zeros) [] = List.replicate n zeros from rfl, window_zeros n sn kn hr, ← HA.out]
      rfl, hwwL, Nat.le_refl _⟩
    (fun x => { tmps := #[.agg #[.slice a1 n c1, .slice a2 m c2], .int .i64 (sn : Int), .int .i64 (kn : Int), .pointer (some ⟨w.heap.size, 0, none⟩), .pointer (some ⟨w.heap.size + 1, 0, none⟩), .pointer (some ⟨w.heap.size + 1 + 1, 0, none⟩), .slice none 0 0, .int .i64 0, .int .i64 0, .pointer (some ⟨w2.heap.size + 1, 0, none⟩), .int .i64 (x.i : Int), .slice x.a 64 x.cap,
          .agg #[.slice a1 n c1, .slice a2 m c2], .int .i64 0, .int .i64 0, .bool false, undef, .agg #[.slice a1 n c1, .slice a2 m c2], .int .i64 (sn : Int), .int .i64 (kn : Int), .bool true, .bool false, .int .i64 (kn : Int), .int .i64 (A : Int), .slice (some ⟨w2.heap.size, 0, none⟩) A A, .agg #[.slice a1 n c1, .slice a2 m c2],
          .func (.func 46) #[] #[.pointer (some ⟨W.heap.size, 0, none⟩), .pointer (some ⟨W.heap.size + 1, 0, none⟩)], .int .i64 (x.i : Int), .slice x.a 64 x.cap, undef, undef, undef, undef, undef, undef, undef, undef, undef, undef, undef, undef, undef, undef, undef, undef, undef, undef, undef], defers := [] }) ?assign ?body ?done ?stop
  case assign =>
    intro l x W' K hK
    clear hit hkt hkb hsW hsL hbL hBsL hBlL hwwL hwL
    unfold encs
    gi_wp2
    exact hK
  case body =>
    rintro l pre x W' ⟨ho1, ho2, ho3, hheap, hbe, hle⟩ _
    have hc1 := ho1.cell
    have hc2 := ho2.cell
    have hc3 := ho3.cell
    have ha64 : all64 (fill (List.replicate n zeros) (pre.map proj)) := all64_fill _ _ (all64_zeros n) (fun q hq => by
      obtain ⟨y, _, rfl⟩ := List.mem_map.1 hq
      exact y.len)
    have hlen : (fill (List.replicate n zeros) (pre.map proj)).length = n := by rw [fill_length, List.length_replicate]
    have hwin := window_length _ sn kn ha64 (by rw [hlen]; exact hr)
    have HXL : Hid (x.i < n) := x.lt
    have hws : IntKind.i64.wrap ((sn : Int) + (kn : Int)) = (sn : Int) + (kn : Int) := wrap_in' _ (by omega)
    by_cases h1 : (sn : Int) ≤ (x.i : Int)
    case neg =>
      have HFIN : Hid (KeepsOthers W' W' ∧ Keep (fun k => k = w2.heap.size) wL.heap.size W' W' ∧ (One W' (w.heap.size + 1) 3 (.int .i64 (sn : Int)) ∧ One W' (w.heap.size + 2) 3 (.int .i64 (kn : Int)) ∧ One W' (w2.heap.size + 1) 26 (.slice (some ⟨w2.heap.size, 0, none⟩) A A) ∧ W'.heap[w2.heap.size]? = some (.cells ((window (fill (List.replicate n zeros) ((pre ++ [x]).map proj)) sn kn).map (Value.int .u8)).toArray 5 (0, 0)) ∧ Below w.heap.size w W' ∧ wL.heap.size ≤ W'.heap.size)) := by
        refine ⟨KeepsOthers.refl _, Keep.refl _ _ _, ho1, ho2, ho3, ?_, hbe, hle⟩
        rw [List.map_append, List.map_cons, List.map_nil, fill_snoc, window_out _ _ _ _ _ (by show x.i < sn ∨ _; omega)]
        exact hheap
      clear hit hkt hkb hsW hsL hbL hBsL hBlL hwwL hwL ho1 ho2 ho3 hheap hbe hle ha64 hlen hwin
      gi_wp2
      exact HFIN.out
    by_cases h2 : (x.i : Int) < (sn : Int) + (kn : Int)
    case neg =>
      have HFIN : Hid (KeepsOthers W' W' ∧ Keep (fun k => k = w2.heap.size) wL.heap.size W' W' ∧ (One W' (w.heap.size + 1) 3 (.int .i64 (sn : Int)) ∧ One W' (w.heap.size + 2) 3 (.int .i64 (kn : Int)) ∧ One W' (w2.heap.size + 1) 26 (.slice (some ⟨w2.heap.size, 0, none⟩) A A) ∧ W'.heap[w2.heap.size]? = some (.cells ((window (fill (List.replicate n zeros) ((pre ++ [x]).map proj)) sn kn).map (Value.int .u8)).toArray 5 (0, 0)) ∧ Below w.heap.size w W' ∧ wL.heap.size ≤ W'.heap.size)) := by
        refine ⟨KeepsOthers.refl _, Keep.refl _ _ _, ho1, ho2, ho3, ?_, hbe, hle⟩
        rw [List.map_append, List.map_cons, List.map_nil, fill_snoc, window_out _ _ _ _ _ (by show _ ∨ sn + kn ≤ x.i; omega)]
        exact hheap
      clear hit hkt hkb hsW hsL hbL hBsL hBlL hwwL hwL ho1 ho2 ho3 hheap hbe hle ha64 hlen hwin
      gi_wp2
      exact HFIN.out
    obtain ⟨off, hoff⟩ : ∃ off, off = 64 * (x.i - sn) := ⟨_, rfl⟩
    have hw1 : IntKind.i64.wrap ((x.i : Int) - (sn : Int)) = (((x.i - sn : Nat)) : Int) := wrap_to' _ _ (by omega) (by omega)
    obtain ⟨ds, hds⟩ : ∃ ds, ds = x.i - sn := ⟨_, rfl⟩
    rw [← hds] at hw1 hoff
    have hw2 : IntKind.i64.wrap ((ds : Int) * 64) = (off : Int) := wrap_to' _ _ (by omega) (by omega)
    have hoA : off + 64 ≤ A := by have := HA.out; omega
    have hsl : ∀ W, (Instr.slice 26 (.slice (some ⟨w2.heap.size, 0, none⟩) A A) (some (.int .i64 (off : Int))) none none).run Try.prog W = .ok (.slice (some ⟨w2.heap.size, off, none⟩) (A - off) (A - off)) W := fun W => by
      rw [run_slice_l W 26 (some ⟨w2.heap.size, 0, none⟩) A A elem26' .i64 off (by omega) (by omega), size5']
      simp only [Result.andThen, sliced]
      rw [if_neg (by omega)]
      simp [add_plain]
    have hA : Arg n0 W' (.slice x.a x.l.length x.cap) x.l := by rw [x.len]; exact x.arg.below hbe
    obtain ⟨W2, hrun, hg2, hgrow, hsz2⟩ := run_copy_into W' w2.heap.size off (A - off) (A - off) x.a x.cap x.l _ 5 hheap hA (by rw [x.len]; omega) (by rw [x.len, List.length_map, hwin]; have := HA.out; omega)
    rw [x.len] at hrun
    rw [splice_map] at hg2
    have HFIN : Hid (KeepsOthers W' W2 ∧ Keep (fun k => k = w2.heap.size) wL.heap.size W' W2 ∧ (One W2 (w.heap.size + 1) 3 (.int .i64 (sn : Int)) ∧ One W2 (w.heap.size + 2) 3 (.int .i64 (kn : Int)) ∧ One W2 (w2.heap.size + 1) 26 (.slice (some ⟨w2.heap.size, 0, none⟩) A A) ∧ W2.heap[w2.heap.size]? = some (.cells ((window (fill (List.replicate n zeros) ((pre ++ [x]).map proj)) sn kn).map (Value.int .u8)).toArray 5 (0, 0)) ∧ Below w.heap.size w W2 ∧ wL.heap.size ≤ W2.heap.size)) := by
      refine ⟨KeepsOthers.of_grownBy hgrow (fun j o ej hj => by cases ej; rw [hheap] at hj; cases hj; rfl), ⟨hgrow.size, fun k hk hne => hgrow.block k (by omega) (fun e => by cases e; exact hne rfl)⟩, ho1.grown hgrow (by simp; have := HLT.out; omega), ho2.grown hgrow (by simp; have := HLT.out; omega), ho3.grown hgrow (by simp), ?_, hbe.grown hgrow hbe.size (fun k e => by cases e; have := HLT.out; omega), by omega⟩
      rw [List.map_append, List.map_cons, List.map_nil, fill_snoc, hg2]
      show _ = some (Obj.cells ((window ((fill (List.replicate n zeros) (pre.map proj)).set x.i x.l) sn kn).map (Value.int .u8)).toArray 5 (0, 0))
      rw [window_in _ sn kn x.i x.l ha64 x.len (by rw [hlen]; exact hr) (by omega) (by omega), ← hds, ← hoff]
    clear hit hkt hkb hsW hsL hbL hBsL hBlL hwwL hwL ho1 ho2 ho3 hheap hbe hle ha64 hlen hwin hA hgrow hg2 hsz2 hds hoff hoA
    gi_wp2
    exact HFIN.out
  case done =>
    rintro D ys W' hD hys ⟨ho1, ho2, ho3, hheap, hbe, hle⟩ hK
    have hys' : ys.map proj = items S fun _ => true := hys
    rw [hys', ← HFL.out] at hheap
    have hc3 := ho3.cell
    have hwl : (window (full S) sn kn).length = A := by
      unfold full
      rw [window_length _ sn kn (full_64 hS _) (by rw [fill_length, List.length_replicate, ← HN.out.1]; exact hr), ← HA.out]
    have HFIN : Hid ((W'.putObj D (.deferred none)).ownsRow w.heap.size 5 1 (.slice (some ⟨w2.heap.size, 0, none⟩) A A) A ((window (full S) sn kn).map (Value.int .u8)) ∧ Below w.heap.size w (W'.putObj D (.deferred none))) := by
      constructor
      · refine row_own ?_ (by have := HLT.out; omega) (by rw [List.length_map]; exact hwl) (by have := HA.out; unfold maxLen; omega)
        rw [World.putObj_heap_other (by have := HLT.out; omega)]
        exact hheap
      · exact hbe.trans (belowK_b (w := w) (Nat.le_refl _) _ D _ _ (by have := HLT.out; omega) hK rfl rfl)
    clear hit hkt hkb hsW hsL hbL hBsL hBlL hwwL hwL ho1 ho2 ho3 hheap hbe hle hys hys' hD hwl
    gi_wp2
    refine ⟨by simp, .inl ⟨_, _, rfl, run_takeDeferred hK, ?_⟩⟩
    exact ⟨.tuple #[.slice (some ⟨w2.heap.size, 0, none⟩) A A, .int .i64 0], by simp [results, Try.results27, go_sem, *], ⟨_, rfl, HFIN.out⟩⟩
  case stop =>
    rintro D c pre W' _ _ h _
    exact h.elim

set_option maxHeartbeats 1000000 in
theorem getAll_bad (n0 : Nat) (v : Value) (S : St) (s k : Int) (w : World) (h : Disk n0 w v S) (hs : -9223372036854775808 ≤ s ∧ s ≤ 9223372036854775807) (hb : chk S = false ∨ reach S.secs.length s k = false) :
    Calls Try.prog 27 #[v, .int .i64 s, .int .i64 k] w fun e w' => e = .returned (.tuple #[.slice none 0 0, .int .i64 (if chk S = false then 9 else 41)]) ∧ Below w.heap.size w w' := by
  obtain ⟨a1, c1, a2, c2, rfl, hL, hW⟩ := h.shape
  obtain ⟨_, _, _, _, hm1, _⟩ := hL.shape
  have HD : Hid (Disk n0 w (.agg #[.slice a1 S.secs.length c1, .slice a2 S.cache.length c2]) S) := h
  obtain ⟨n, hn⟩ : ∃ n, n = S.secs.length := ⟨_, rfl⟩
  obtain ⟨m, hm⟩ : ∃ n, n = S.cache.length := ⟨_, rfl⟩
  rw [← hn, ← hm] at HD ⊢
  rw [← hn] at hm1 hb
  obtain ⟨ee, hee⟩ : ∃ x : Int, x = if chk S = false then 9 else 41 := ⟨_, rfl⟩
  rw [← hee]
  have HE : Hid (ee = if chk S = false then 9 else 41) := hee
  clear h hL hW hn hm hee
  go_enter Try.func27, Try.ntmps27
  go_wp2_with fail
  refine (check_any n0 _ S _ (HD.out.below ((((Below.refl _ w).alloc (Nat.le_refl _) _).alloc (by simp) _).alloc (by simp; omega) _))).mono ?_
  rintro e w1 ⟨rfl, hb1⟩
  have hP1 : Box w1 w.heap.size 30 (.slice a1 n c1) (.slice a2 m c2) := (((Box.new w 30 _ _).alloc _).alloc _).below hb1 (by simp; omega)
  have hO1 : One w1 (w.heap.size + 1) 3 (.int .i64 s) := by
    have := (One.new (w.alloc (.cells #[.slice a1 n c1, .slice a2 m c2] 30)) 3 (.int .i64 s)).alloc (.cells #[.int .i64 k] 3)
    rw [World.size_alloc] at this
    exact this.below hb1 (by simp)
  have hO2 : One w1 (w.heap.size + 2) 3 (.int .i64 k) := by
    have := One.new ((w.alloc (.cells #[.slice a1 n c1, .slice a2 m c2] 30)).alloc (.cells #[.int .i64 s] 3)) 3 (.int .i64 k)
    rw [World.size_alloc, World.size_alloc] at this
    exact this.below hb1 (by simp)
  have HB : Hid (Below w.heap.size w w1) := below_any ((((Below.refl _ w).alloc (Nat.le_refl _) _).alloc (by simp) _).alloc (by simp; omega) _) hb1
  have g0 := hP1.cell0
  have g1 := hP1.cell1
  have g2 := hO1.cell
  have g3 := hO2.cell
  unfold cerr
  clear hb1 hP1 hO1 hO2
  cases hS : chk S
  · have he : ee = 9 := by rw [HE.out, if_pos hS]
    subst he
    clear hb
    go_wp2
    go_ret2
    exact ⟨rfl, HB.out⟩
  · have he : ee = 41 := by rw [HE.out, if_neg (by simp [hS])]
    subst he
    have hrf : reach n s k = false := hb.resolve_left (by simp [hS])
    clear hb
    go_wp2_with fail
    refine (reaches_any a1 a2 n c1 m c2 s k w1 hm1 hs).mono ?_
    rw [hrf]
    rintro e w2 ⟨rfl, hb2⟩
    have HB2 : Hid (Below w.heap.size w w2) := below_any HB.out hb2
    clear hb2 g0 g1 g2 g3
    go_wp2
    go_ret2
    exact ⟨rfl, HB2.out⟩

theorem getAll_any (n0 : Nat) (v : Value) (S : St) (s k : Int) (w : World) (h : Disk n0 w v S) (hs : -9223372036854775808 ≤ s ∧ s ≤ 9223372036854775807) :
    Calls Try.prog 27 #[v, .int .i64 s, .int .i64 k] w fun e w' => ∃ v', e = .returned (.tuple #[v', .int .i64 (gerr S s k)]) ∧ w'.ownsRow w.heap.size 5 1 v' (gout S s k).length ((gout S s k).map (Value.int .u8)) ∧ Below w.heap.size w w' := by
  by_cases hb : chk S = false ∨ reach S.secs.length s k = false
  · have e1 : gerr S s k = if chk S = false then 9 else 41 := by
      unfold gerr
      split
      · rfl
      · rename_i h0
        rw [if_pos (hb.resolve_left h0)]
    have e2 : gout S s k = [] := by rw [gout, if_neg (by rw [e1]; split <;> omega)]
    rw [e1, e2]
    exact (getAll_bad n0 v S s k w h hs hb).mono fun e w' ⟨he, hbl⟩ => ⟨_, he, World.ownsRow_nil _ _ _ _, hbl⟩
  · have hS : chk S = true := by
      cases hc : chk S
      · exact absurd (.inl hc) hb
      · rfl
    have hr : reach S.secs.length s k = true := by
      cases hc : reach S.secs.length s k
      · exact absurd (.inr hc) hb
      · rfl
    have e1 : gerr S s k = 0 := by rw [gerr, if_neg (by simp [hS]), if_neg (by simp [hr])]
    simp [reach] at hr
    obtain ⟨sn, rfl⟩ : ∃ sn : Nat, s = (sn : Int) := ⟨s.toNat, by omega⟩
    obtain ⟨kn, rfl⟩ : ∃ kn : Nat, k = (kn : Int) := ⟨k.toNat, by omega⟩
    have e2 : gout S (sn : Int) (kn : Int) = window (full S) sn kn := by rw [gout, if_pos e1]; simp
    have e3 : (window (full S) sn kn).length = 64 * kn := by
      unfold full
      exact window_length _ sn kn (full_64 hS _) (by rw [fill_length, List.length_replicate]; omega)
    rw [e1, e2, e3]
    exact getAll_good n0 v S sn kn w h hS (by omega)

set_option maxHeartbeats 400000 in
theorem get_any (n0 : Nat) (v : Value) (S : St) (s : Int) (w : World) (h : Disk n0 w v S) (hs : -9223372036854775808 ≤ s ∧ s ≤ 9223372036854775807) :
    Calls Try.prog 13 #[v, .int .i64 s] w fun e w' => ∃ v', e = .returned (.tuple #[v', .int .i64 (gerr S s 1)]) ∧ w'.ownsRow w.heap.size 5 1 v' (gout S s 1).length ((gout S s 1).map (Value.int .u8)) ∧ Below w.heap.size w w' := by
  have HD : Hid (Disk n0 w v S) := h
  obtain ⟨a1, c1, a2, c2, rfl, hL, hW⟩ := h.shape
  clear h hL hW
  go_enter Try.func13, Try.ntmps13
  go_wp2_with fail
  have hb0 : Below w.heap.size w (w.alloc (.cells #[.slice a1 S.secs.length c1, .slice a2 S.cache.length c2] 30)) := (Below.refl _ w).alloc (Nat.le_refl _) _
  refine (getAll_any n0 _ S s 1 _ (HD.out.below hb0) hs).mono ?_
  rintro e w1 ⟨v', rfl, hown, hb⟩
  have HF : Hid (w1.ownsRow w.heap.size 5 1 v' (gout S s 1).length ((gout S s 1).map (Value.int .u8)) ∧ Below w.heap.size w w1) := ⟨own_weaken hown hb0.size, below_any hb0 hb⟩
  clear hown hb hb0
  go_wp2
  go_ret2
  exact ⟨v', rfl, HF.out⟩

end Go.Proofs.Ytkeaillmcfnnkaa
