/-
  What gather makes of a map of blocks: the file of those that are not all zeros, in order.
-/
import Derived.Test.YtgflfmpoeamnnaaSort
import Derived.Deep.AppendLies
namespace Go.Proofs.Ytgflfmpoeamnnaa
open Go.RowKit

/-- Which blocks have been met: those with octets whose numbers are no longer to come. -/
structure Met (M : Nat → Option Nat) (T : Nat → List Int) (left : Nat → Bool) (G : List (Int × Nat)) : Prop where
  mem : ∀ p ∈ G, ∃ j : Nat, p.1 = (j : Int) ∧ M j = some p.2 ∧ left j = false ∧ isz (T j) = false
  all : ∀ (j g : Nat), M j = some g → left j = false → isz (T j) = false → ((j : Int), g) ∈ G
  apart : G.Pairwise fun a b => a.1 ≠ b.1

theorem Met.start {M : Nat → Option Nat} {T : Nat → List Int} {left : Nat → Bool} (h : ∀ j, (M j).isSome = true → left j = true) : Met M T left [] :=
  ⟨(fun p hp => by cases hp), fun j g hj hl => (by rw [h j (by rw [hj]; rfl)] at hl; cases hl), List.Pairwise.nil⟩
theorem Met.skip {M : Nat → Option Nat} {T : Nat → List Int} {left : Nat → Bool} {G : List (Int × Nat)} (h : Met M T left G) {j : Nat} (hz : isz (T j) = true) : Met M T (fun i => left i && !decide (i = j)) G :=
  ⟨fun p hp => by
    obtain ⟨i, h1, h2, h3, h4⟩ := h.mem p hp
    exact ⟨i, h1, h2, by simp [h3], h4⟩, fun i g hi hl hz' => by
    by_cases e : i = j
    · subst e; rw [hz] at hz'; cases hz'
    · exact h.all i g hi (by simpa [e] using hl) hz', h.apart⟩
theorem Met.take {M : Nat → Option Nat} {T : Nat → List Int} {left : Nat → Bool} {G : List (Int × Nat)} (h : Met M T left G) {j g : Nat} (hj : M j = some g) (hl : left j = true) (hz : isz (T j) = false) : Met M T (fun i => left i && !decide (i = j)) (G ++ [((j : Int), g)]) :=
  ⟨fun p hp => by
    rcases List.mem_append.1 hp with hp | hp
    · obtain ⟨i, h1, h2, h3, h4⟩ := h.mem p hp
      exact ⟨i, h1, h2, by simp [h3], h4⟩
    · obtain rfl := List.mem_singleton.1 hp
      exact ⟨j, rfl, hj, by simp, hz⟩, fun i g' hi hl' hz' => by
    by_cases e : i = j
    · subst e
      rw [hj] at hi
      cases hi
      exact List.mem_append_right _ (List.mem_singleton.2 rfl)
    · exact List.mem_append_left _ (h.all i g' hi (by simpa [e] using hl') hz'), by
    refine List.pairwise_append.2 ⟨h.apart, List.pairwise_singleton _ _, fun a ha b hb e => ?_⟩
    obtain rfl := List.mem_singleton.1 hb
    obtain ⟨i, h1, _, h3, _⟩ := h.mem a ha
    rw [h1] at e
    obtain rfl : i = j := Int.ofNat_inj.1 e
    rw [hl] at h3
    cases h3⟩

/-- The blocks as data. -/
def asB (T : Nat → List Int) (G : List (Int × Nat)) : List Bk := G.map fun p => (p.1, T p.1.toNat)

theorem met_done {M : Nat → Option Nat} {T : Nat → List Int} {left : Nat → Bool} {G G' : List (Int × Nat)} (h : Met M T left G) (hl : ∀ j, left j = false) (h76 : ∀ j g, M j = some g → j < 76) (h0 : ∀ j, M j = none → isz (T j) = true) (hp : G'.Perm G) (hs : G'.Pairwise fun a b => a.1 ≤ b.1) : asB T G' = mkL T 76 := by
  refine rise_unique ?_ (rise_mkL _ _) fun p => ?_
  · unfold Rise asB
    rw [List.pairwise_map]
    have ha : G'.Pairwise fun a b => a.1 ≠ b.1 := (hp.pairwise_iff (fun {_ _} h => Ne.symm h)).2 h.apart
    exact (hs.and ha).imp fun ⟨h1, h2⟩ => Int.lt_iff_le_and_ne.2 ⟨h1, h2⟩
  · rw [mem_mkL]
    unfold asB
    constructor
    · intro hm
      obtain ⟨q, hq, rfl⟩ := List.mem_map.1 hm
      obtain ⟨j, h1, h2, _, h4⟩ := h.mem q (hp.mem_iff.1 hq)
      have e : q.1.toNat = j := by omega
      exact ⟨j, h76 j _ h2, h4, by rw [e, h1]⟩
    · rintro ⟨j, h1, h2, rfl⟩
      cases hm : M j with
      | none => rw [h0 j hm] at h2; cases h2
      | some g =>
        refine List.mem_map.2 ⟨((j : Int), g), hp.mem_iff.2 (h.all j g hm (hl j) h2), ?_⟩
        simp

theorem each_bk {n0 : Nat} {w : World} {T : Nat → List Int} : ∀ {G : List (Int × Nat)}, (∀ p ∈ G, n0 ≤ p.2 ∧ Row w p.2 (T p.1.toNat) ∧ I64 p.1) → Each (bkN.lies n0 w) (G.map encB) (asB T G)
  | [], _ => trivial
  | p :: r, h => by
    obtain ⟨h1, h2, h3⟩ := h p (List.mem_cons_self ..)
    exact ⟨bk_mk (p := (p.1, T p.1.toNat)) (h2.arg h1) h3, each_bk fun q hq => h q (List.mem_cons_of_mem _ hq)⟩

theorem cellsB_snoc (G : List (Int × Nat)) (p : Int × Nat) : cellsB (G ++ [p]) = cellsB G ++ [.int .i64 p.1, rowV p.2] := by
  unfold cellsB
  rw [List.map_append, List.flatten_append]
  simp [encB]

set_option maxRecDepth 100000 in
set_option maxHeartbeats 4000000 in
theorem gather_any (n0 c : Nat) (s : Int) (b : Nat) (M : Nat → Option Nat) (T : Nat → List Int) (w : World) (h : MT n0 c w b M T) (hs : I64 s) (hc : c ≤ 1000) :
    Calls Try.prog 28 #[.int .i64 s, .map (some b)] w fun e w' => (∃ us', e = .returned (.agg us'.toArray) ∧ flN.lies n0 w' us' (s, mkL T 76)) ∧ Below w.heap.size w w' := by
  obtain ⟨i6, hi6, hz60, hz61, hz62⟩ := info_parts Try.info60
  obtain ⟨W0, hW0⟩ : ∃ W0, W0 = (w.alloc (.cells #[.int .i64 0, .slice none 0 0] 28)).alloc (.cells #[.int .i64 s, .slice none 0 0] 28) := ⟨_, rfl⟩
  have hb0 : Below w.heap.size w W0 := by rw [hW0]; exact ((Below.refl _ w).alloc (Nat.le_refl _) _).alloc (by simp) _
  have hP0 : Box W0 w.heap.size 28 #[.int .i64 0, .slice none 0 0] := by rw [hW0]; exact (Box.new _ _ _).alloc _
  have hP1 : Box W0 (w.heap.size + 1) 28 #[.int .i64 s, .slice none 0 0] := by
    rw [hW0]
    have := Box.new (w.alloc (.cells #[.int .i64 0, .slice none 0 0] 28)) 28 #[.int .i64 s, .slice none 0 0]
    rwa [World.size_alloc] at this
  have hsz0 : W0.heap.size = w.heap.size + 2 := by rw [hW0]; simp
  obtain ⟨w1, cnt0, hrange, hRG, hg1, hs1⟩ := (h.below hb0).range
  rw [hsz0] at hrange hRG hs1
  have HST : Hid (RG n0 c w1 b (w.heap.size + 2) M T (fun j => (M j).isSome) cnt0 ∧ Box w1 w.heap.size 28 #[.int .i64 0, .slice none 0 0] ∧ Box w1 (w.heap.size + 1) 28 #[.int .i64 s, .slice none 0 0] ∧ Below w.heap.size w w1 ∧ w1.heap.size = w.heap.size + 3) :=
    ⟨hRG, hP0.grown hg1 (by simp), hP1.grown hg1 (by simp), hb0.grown hg1 hb0.size (fun _ h => by cases h), hs1⟩
  have HNB : Hid (n0 ≤ w.heap.size ∧ I64 s ∧ b < w.heap.size) := ⟨by have := h.base; have := h.lt; omega, hs, h.lt⟩
  rw [hW0] at hrange
  clear h hb0 hP0 hP1 hsz0 hRG hg1 hs1 hW0 hs
  go_enter Try.func28, Try.ntmps28
  go_wp2
  go_loopw [6] (fun _ wr => ∃ (left : Nat → Bool) (cnt : Nat) (v : Value) (G : List (Int × Nat)), RG n0 c wr b (w.heap.size + 2) M T left cnt ∧ Box wr w.heap.size 28 #[.int .i64 0, .slice none 0 0] ∧ Box wr (w.heap.size + 1) 28 #[.int .i64 s, v] ∧
    wr.ownsRow (w.heap.size + 3) 60 2 v G.length (cellsB G) ∧ Met M T left G ∧ G.length + cnt ≤ 1000 ∧ Below w.heap.size w wr ∧ w.heap.size + 3 ≤ wr.heap.size) (fun _ wr => wr.rangeLeft b (w.heap.size + 2))
  case atStart =>
    obtain ⟨h1, h2, h3, h4, h5⟩ := HST.out
    refine ⟨_, cnt0, _, [], h1, h2, h3, World.ownsRow_nil _ _ _ _, Met.start fun j hj => hj, ?_, h4, by omega⟩
    obtain ⟨_, _, _, _, _, _, hle⟩ := h1
    simp only [List.length_nil]
    omega
  case round =>
    obtain ⟨left, cnt, v, G, hRG, hB0, hB1, hown, hmet, hcnt, hbel, hsz⟩ := hrel
    have HBEL : Hid (Below w.heap.size w wr ∧ w.heap.size + 3 ≤ wr.heap.size) := ⟨hbel, hsz⟩
    rcases hRG.next 0 with ⟨hl, hrun⟩ | ⟨j, g, w2, cnt2, hj, hlj, hrun, hRG2, hlt, hg2, hs2, hen⟩
    · have hnx : ∀ ty, (Instr.next (.pointer (some ⟨w.heap.size + 2, 0, none⟩)) false ty).run Try.prog wr = .ok (.tuple #[.bool false]) wr := fun _ => hrun
      have HS := sort_any (w.heap.size + 3) v G wr hown (by omega)
      have HR : Hid (RG n0 c wr b (w.heap.size + 2) M T left cnt ∧ wr.ownsRow (w.heap.size + 3) 60 2 v G.length (cellsB G) ∧ Met M T left G ∧ ∀ j, left j = false) := ⟨hRG, hown, hmet, hl⟩
      obtain ⟨q0, q1, _, _⟩ := hB1.two
      have HBX : Hid (Box wr w.heap.size 28 #[.int .i64 0, .slice none 0 0] ∧ Box wr (w.heap.size + 1) 28 #[.int .i64 s, v]) := ⟨hB0, hB1⟩
      obtain ⟨va, vc, rfl⟩ := own_shape hown
      clear hrun hRG hown hmet hl hB0 hB1 hbel hsz
      go_wp2_with fail
      refine HS.mono ?_
      rintro e w2 ⟨rfl, ⟨G', hp, hsr, hC⟩, hg2⟩
      have hX0 := HBX.out.1.grown hg2 (row_ne HR.out.2.1 (by omega))
      have hX1 := HBX.out.2.grown hg2 (row_ne HR.out.2.1 (by omega))
      obtain ⟨r0, r1, f0, f1⟩ := hX0.two
      obtain ⟨t0, t1, _, _⟩ := hX1.two
      have HG2 : Hid (G'.Perm G ∧ (G'.Pairwise fun a b => a.1 ≤ b.1) ∧ Cells (w.heap.size + 3) w2 2 (.slice va G.length vc) G.length (cellsB G') ∧ RG n0 c w2 b (w.heap.size + 2) M T left cnt ∧ Box w2 w.heap.size 28 #[.int .i64 0, .slice none 0 0]) := ⟨hp, hsr, hC, HR.out.1.grown hg2 (Far.own HR.out.2.1 (by decide)), hX0⟩
      have HB2 : Hid (Below w.heap.size w w2) := HBEL.out.1.grown hg2 HBEL.out.1.size (fun i hi => by have := (HR.out.2.1.lt i hi).1; omega)
      clear hp hsr hC hg2 hX0 hX1 HS
      go_wp2
      refine bodyPost_ret (v := .agg #[.int .i64 s, .slice va G.length vc]) (by simp [results, Try.results28, go_sem, *]) rfl ⟨⟨[_, _], rfl, ?_⟩, below_set2 HB2.out (Nat.le_refl _) _ _⟩
      obtain ⟨hp, hsr, hC, hRG, hX0⟩ := HG2.out
      have hM := hRG.mt
      have hM2 := (hM.grown (grown_set w2 w.heap.size 0 (.int .i64 s)) (Far.box hX0 (by decide))).grown (grown_set _ w.heap.size 1 (.slice va G.length vc)) (Far.box (hX0.set 0 _) (by decide))
      have hlen : G'.length = G.length := hp.length_eq
      have hdone := met_done HR.out.2.2.1 HR.out.2.2.2 (fun j g hj => (hM.row hj).1) (fun j hj => by rw [hM.zero hj]; decide) hp hsr
      refine fl_mkN (s := (s, mkL T 76)) ?_ HNB.out.2.1
      show bksN.lies n0 _ _ (mkL T 76)
      rw [← hdone]
      refine ⟨_, G'.map encB, rfl, ?_, each_bk fun p hp' => ?_⟩
      · have : (asB T G').length = G.length := by unfold asB; rw [List.length_map]; exact hlen
        rw [this]
        exact (hC.keep (.set2 (by omega))).weaken (by have := HNB.out.1; omega)
      · obtain ⟨j, h1, h2, _⟩ := HR.out.2.2.1.mem p (hp.mem_iff.1 hp')
        obtain ⟨h3, h4, h5⟩ := hM2.row h2
        exact ⟨h4, by rw [h1]; simpa using h5, ⟨by omega, by omega⟩⟩
    · have hnx : ∀ ty, (Instr.next (.pointer (some ⟨w.heap.size + 2, 0, none⟩)) false ty).run Try.prog wr = .ok (.tuple #[.bool true, .int .i64 j, rowV g]) w2 := fun _ => hrun
      obtain ⟨h76, hng, hrow⟩ := hRG2.mt.row hj
      have HZ := zero_any n0 (rowV g) (T j) w2 (hrow.arg hng)
      have hO2 : w2.ownsRow (w.heap.size + 3) 60 2 v G.length (cellsB G) := own_same hown (fun i hi hlt' => hg2.block i hlt' (fun e => by cases e; omega))
      have hX0 := hB0.grown hg2 (by simp)
      have hX1 := hB1.grown hg2 (by simp)
      have hb2 := hbel.grown hg2 hbel.size (fun i hi => by cases hi; omega)
      have hle := hRG.left_eq
      have hle2 := hRG2.left_eq
      have HLE : Hid (wr.rangeLeft b (w.heap.size + 2) = cnt ∧ w2.rangeLeft b (w.heap.size + 2) = cnt2 ∧ cnt2 < cnt) := ⟨hle, hle2, hlt⟩
      unfold rowV at hnx hen HZ
      have HRW : Hid (RG n0 c w2 b (w.heap.size + 2) M T (fun i => left i && !decide (i = j)) cnt2 ∧ M j = some g ∧ left j = true ∧ Met M T left G ∧ w2.ownsRow (w.heap.size + 3) 60 2 v G.length (cellsB G) ∧ Below w.heap.size w w2 ∧ w.heap.size + 3 ≤ w2.heap.size ∧ Box w2 w.heap.size 28 #[.int .i64 0, .slice none 0 0] ∧ Box w2 (w.heap.size + 1) 28 #[.int .i64 s, v]) := ⟨hRG2, hj, hlj, hmet, hO2, hb2, by omega, hX0, hX1⟩
      obtain ⟨t0, t1, f0, f1⟩ := hX1.two
      obtain ⟨va, vc, rfl⟩ := own_shape hown
      clear hrun hRG hRG2 hown hmet hB0 hB1 hbel hsz hO2 hX0 hX1 hb2 hle hle2 hlt hg2 hs2 hrow hng hj hlj HBEL
      cases hz : isz (T j)
      case true =>
        rw [hz] at HZ
        go_wp2_with fail
        refine HZ.mono ?_
        rintro e w3 ⟨rfl, rfl⟩
        clear HZ t0 t1 f0 f1 hen hnx
        go_wp2
        go_roundw
        case rel =>
          obtain ⟨h1, h2, h3, h4, h5, h6, h7, h8, h9⟩ := HRW.out
          exact ⟨_, cnt2, _, G, h1, h8, h9, h5, h4.skip hz, by have := HLE.out; omega, h6, h7⟩
        case measure => rw [HLE.out.1, HLE.out.2.1]; exact HLE.out.2.2
      case false =>
        rw [hz] at HZ
        go_wp2_with fail
        refine HZ.mono ?_
        rintro e w3 ⟨rfl, rfl⟩
        clear HZ hen hnx
        go_wp2_with (at_builtin; refine wpList_append_lies _ (by rfl) _ _ 26 (by rfl) (w.heap.size + 3) 60 i6 _ 2 32 Try.underlying26 hi6 hz60 hz61 hz62 rfl (by omega) _ G.length _ (by rfl) (HRW.out.2.2.2.2.1.alloc _) ⟨w2.heap.size, 0, none⟩ 1 1 [.int .i64 (j : Int), .slice (some ⟨g, 0, none⟩) 32 32] (by rfl) (by rfl) (World.news_of_block (cs := #[.int .i64 (j : Int), .slice (some ⟨g, 0, none⟩) 32 32]) (t := 60) (fr := (0, 0)) (heap_alloc_new w2 _)) (by simp [Value.oneCell']) (by omega) (by unfold maxLen; omega) (by omega) (by have := HRW.out.2.2.2.2.2.2.1; simp; omega) (w2.heap.size + 1) (by simp) ?_; intro gg cap3 w3 hown3 hgrow3 hat hltg; have hy0 := (HRW.out.2.2.2.2.2.2.2.1.alloc (.cells #[.int .i64 (j : Int), .slice (some ⟨g, 0, none⟩) 32 32] 60)).grown hgrow3 (row_ne HRW.out.2.2.2.2.1 (by omega)); have hy1 := (HRW.out.2.2.2.2.2.2.2.2.alloc (.cells #[.int .i64 (j : Int), .slice (some ⟨g, 0, none⟩) 32 32] 60)).grown hgrow3 (row_ne HRW.out.2.2.2.2.1 (by omega)); obtain ⟨y0, y1, z0, z1⟩ := hy1.two)
        obtain ⟨h1, h2, h3, h4, h5, h6, h7, h8, h9⟩ := HRW.out
        have hRG3 := (((h1.grown (World.grownBy_alloc w2 (.cells #[.int .i64 (j : Int), .slice (some ⟨g, 0, none⟩) 32 32] 60) none) (Far.none _)).grown hgrow3 (Far.own (h5.alloc _) (by decide))).grown (grown_set w3 (w.heap.size + 1) 1 (.slice (some ⟨gg, 0, none⟩) (G.length + 1) cap3)) (Far.box hy1 (by decide)))
        refine ⟨⟨_, cnt2, _, G ++ [((j : Int), g)], hRG3, hy0.other (by omega), hy1.set 1 _, ?_, h4.take h2 h3 hz, ?_, ?_, ?_⟩, ?_⟩
        · rw [cellsB_snoc, List.length_append]
          exact own_same hown3 (.set (by omega))
        · rw [List.length_append]
          have := HLE.out
          simp
          omega
        · exact ((h6.alloc (by omega) _).grown hgrow3 (by simp; omega) (fun i hi => by have := (h5.lt i hi).1; omega)).setCell (p := ⟨w.heap.size + 1, 1, none⟩) (by simp) _
        · have := hgrow3.size
          simp [World.setCell] at this ⊢
          omega
        · rw [hRG3.left_eq, HLE.out.1]
          exact HLE.out.2.2

end Go.Proofs.Ytgflfmpoeamnnaa
