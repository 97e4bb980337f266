/-
  What gather makes of a map of blocks: the file of those that are not all zeros, in order.
  Texts written over and cut, as plain mathematics; and the blocks that make them.
  What Write makes of a file, where it is refused at once or nothing is written.
  What Write makes of a file where octets go beyond the bound.
  What Write makes of a file where octets are written.
  What Write makes of a file, and Of.
-/
import Derived.Test.YtopcefhncildnaaGreatDoorU22
import Derived.Deep.AppendLies
set_option maxRecDepth 100000
set_option maxHeartbeats 4000000
namespace Go.Proofs.YtopcefhncildnaaGreatDoor.F
open Go.RowKit
structure Met (M : Nat → Option Nat) (T : Nat → List Int) (left : Nat → Bool) (G : List (Int × Nat)) : Prop where
 mem : ∀ p ∈ G, ∃ j : Nat, p.1 = (j : Int) ∧ M j = some p.2 ∧ left j = false ∧ isz (T j) = false
 all : ∀ (j g : Nat), M j = some g → left j = false → isz (T j) = false → ((j : Int), g) ∈ G
 apart : G.Pairwise fun a b => a.1 ≠ b.1
theorem Met.start {M : Nat → Option Nat} {T : Nat → List Int} {left : Nat → Bool} (h : ∀ j, (M j).isSome = true → left j = true) : Met M T left [] :=
 ⟨(fun p hp => by cases hp), fun j g hj hl => (by rw [h j (by rw [hj]; rfl)] at hl; cases hl), List.Pairwise.nil⟩
theorem Met.skip {M : Nat → Option Nat} {T : Nat → List Int} {left : Nat → Bool} {G : List (Int × Nat)} (h : Met M T left G) {j : Nat} (hz : isz (T j) = true) : Met M T (fun i => left i && !decide (i = j)) G :=
 ⟨fun p hp => by
   obtain ⟨i, h1, h2, h3, h4⟩ := h.mem p hp
   exact ⟨i, h1, h2, by simp [h3], h4⟩, fun i g hi hl hz' => by
   by_cases e : i = j
   · subst e; rw [hz] at hz'; cases hz'
   · exact h.all i g hi (by simpa [e] using hl) hz', h.apart⟩
theorem Met.take {M : Nat → Option Nat} {T : Nat → List Int} {left : Nat → Bool} {G : List (Int × Nat)} (h : Met M T left G) {j g : Nat} (hj : M j = some g) (hl : left j = true) (hz : isz (T j) = false) : Met M T (fun i => left i && !decide (i = j)) (G ++ [((j : Int), g)]) :=
 ⟨fun p hp => by
   rcases List.mem_append.1 hp with hp | hp
   · obtain ⟨i, h1, h2, h3, h4⟩ := h.mem p hp
     exact ⟨i, h1, h2, by simp [h3], h4⟩
   · obtain rfl := List.mem_singleton.1 hp
     exact ⟨j, rfl, hj, by simp, hz⟩, fun i g' hi hl' hz' => by
   by_cases e : i = j
   · subst e
     rw [hj] at hi
     cases hi
     exact List.mem_append_right _ (List.mem_singleton.2 rfl)
   · exact List.mem_append_left _ (h.all i g' hi (by simpa [e] using hl') hz'), by
   refine List.pairwise_append.2 ⟨h.apart, List.pairwise_singleton _ _, fun a ha b hb e => ?_⟩
   obtain rfl := List.mem_singleton.1 hb
   obtain ⟨i, h1, _, h3, _⟩ := h.mem a ha
   rw [h1] at e
   obtain rfl : i = j := Int.ofNat_inj.1 e
   rw [hl] at h3
   cases h3⟩
def asB (T : Nat → List Int) (G : List (Int × Nat)) : List Bk := G.map fun p => (p.1, T p.1.toNat)
theorem met_done {M : Nat → Option Nat} {T : Nat → List Int} {left : Nat → Bool} {G G' : List (Int × Nat)} (h : Met M T left G) (hl : ∀ j, left j = false) (h76 : ∀ j g, M j = some g → j < 76) (h0 : ∀ j, M j = none → isz (T j) = true) (hp : G'.Perm G) (hs : G'.Pairwise fun a b => a.1 ≤ b.1) : asB T G' = mkL T 76 := by
 refine rise_unique ?_ (rise_mkL _ _) fun p => ?_
 · unfold Rise asB
   rw [List.pairwise_map]
   have ha : G'.Pairwise fun a b => a.1 ≠ b.1 := (hp.pairwise_iff (fun {_ _} h => Ne.symm h)).2 h.apart
   exact (hs.and ha).imp fun ⟨h1, h2⟩ => Int.lt_iff_le_and_ne.2 ⟨h1, h2⟩
 · rw [mem_mkL]
   unfold asB
   constructor
   · intro hm
     obtain ⟨q, hq, rfl⟩ := List.mem_map.1 hm
     obtain ⟨j, h1, h2, _, h4⟩ := h.mem q (hp.mem_iff.1 hq)
     have e : q.1.toNat = j := by omega
     exact ⟨j, h76 j _ h2, h4, by rw [e, h1]⟩
   · rintro ⟨j, h1, h2, rfl⟩
     cases hm : M j with
     | none => rw [h0 j hm] at h2; cases h2
     | some g => (
 refine List.mem_map.2 ⟨((j : Int), g), hp.mem_iff.2 (h.all j g hm (hl j) h2), ?_⟩
 simp)
theorem each_bk {n0 : Nat} {w : World} {T : Nat → List Int} : ∀ {G : List (Int × Nat)}, (∀ p ∈ G, n0 ≤ p.2 ∧ Row w p.2 (T p.1.toNat) ∧ I64 p.1) → Each (bkN.lies n0 w) (G.map encB) (asB T G)
 | [], _ => trivial
 | p :: r, h => by
   obtain ⟨h1, h2, h3⟩ := h p (List.mem_cons_self ..)
   exact ⟨bk_mk (p := (p.1, T p.1.toNat)) (h2.arg h1) h3, each_bk fun q hq => h q (List.mem_cons_of_mem _ hq)⟩
theorem cellsB_snoc (G : List (Int × Nat)) (p : Int × Nat) : cellsB (G ++ [p]) = cellsB G ++ [.int .i64 p.1, rowV p.2] := by
 unfold cellsB
 rw [List.map_append, List.flatten_append]
 simp [encB]
theorem gather_any (n0 c : Nat) (s : Int) (b : Nat) (M : Nat → Option Nat) (T : Nat → List Int) (w : World) (h : MT n0 c w b M T) (hs : I64 s) (hc : c ≤ 1000) :
   Calls Tryz.prog 99 #[.int .i64 s, .map (some b)] w fun e w' => (∃ us', e = .returned (.agg us'.toArray) ∧ flN.lies n0 w' us' (s, mkL T 76)) ∧ Below w.heap.size w w' := by
 obtain ⟨i6, hi6, hz60, hz61, hz62⟩ := info_parts Tryz.info51
 obtain ⟨W0, hW0⟩ := exa ((w.alloc (.cells #[.int .i64 0, .slice none 0 0] 45)).alloc (.cells #[.int .i64 s, .slice none 0 0] 45))
 have hb0 : Below w.heap.size w W0 := by rw [hW0]; exact ((Below.refl _ w).alloc (Nat.le_refl _) _).alloc (by simp) _
 have hP0 : Box W0 w.heap.size 45 #[.int .i64 0, .slice none 0 0] := by rw [hW0]; exact (Box.new _ _ _).alloc _
 have hP1 : Box W0 (w.heap.size + 1) 45 #[.int .i64 s, .slice none 0 0] := by (
 rw [hW0]
 have := Box.new (w.alloc (.cells #[.int .i64 0, .slice none 0 0] 45)) 45 #[.int .i64 s, .slice none 0 0]
 rwa [World.size_alloc] at this)
 have hsz0 : W0.heap.size = w.heap.size + 2 := by rw [hW0]; simp
 obtain ⟨w1, cnt0, hrange, hRG, hg1, hs1⟩ := (h.below hb0).range
 rw [hsz0] at hrange hRG hs1
 have HST : Hid (RG n0 c w1 b (w.heap.size + 2) M T (fun j => (M j).isSome) cnt0 ∧ Box w1 w.heap.size 45 #[.int .i64 0, .slice none 0 0] ∧ Box w1 (w.heap.size + 1) 45 #[.int .i64 s, .slice none 0 0] ∧ Below w.heap.size w w1 ∧ w1.heap.size = w.heap.size + 3) :=
   ⟨hRG, hP0.grown hg1 (by simp), hP1.grown hg1 (by simp), hb0.grown hg1 hb0.size (fun _ h => by cases h), hs1⟩
 have HNB : Hid (n0 ≤ w.heap.size ∧ I64 s ∧ b < w.heap.size) := ⟨by have := h.base; have := h.lt; omega, hs, h.lt⟩
 rw [hW0] at hrange
 clear h hb0 hP0 hP1 hsz0 hRG hg1 hs1 hW0 hs
 go_enter Tryz.func99, Tryz.ntmps99
 go_wp2
 go_loopw [6] (fun _ wr => ∃ (left : Nat → Bool) (cnt : Nat) (v : Value) (G : List (Int × Nat)), RG n0 c wr b (w.heap.size + 2) M T left cnt ∧ Box wr w.heap.size 45 #[.int .i64 0, .slice none 0 0] ∧ Box wr (w.heap.size + 1) 45 #[.int .i64 s, v] ∧
   wr.ownsRow (w.heap.size + 3) 51 2 v G.length (cellsB G) ∧ Met M T left G ∧ G.length + cnt ≤ 1000 ∧ Below w.heap.size w wr ∧ w.heap.size + 3 ≤ wr.heap.size) (fun _ wr => wr.rangeLeft b (w.heap.size + 2))
 case atStart => (
 obtain ⟨h1, h2, h3, h4, h5⟩ := HST.out
 refine ⟨_, cnt0, _, [], h1, h2, h3, World.ownsRow_nil _ _ _ _, Met.start fun j hj => hj, ?_, h4, by omega⟩
 obtain ⟨_, _, _, _, _, _, hle⟩ := h1
 simp only [List.length_nil]
 omega)
 case round => (
 obtain ⟨left, cnt, v, G, hRG, hB0, hB1, hown, hmet, hcnt, hbel, hsz⟩ := hrel
 have HBEL : Hid (Below w.heap.size w wr ∧ w.heap.size + 3 ≤ wr.heap.size) := ⟨hbel, hsz⟩
 rcases hRG.next 0 with ⟨hl, hrun⟩ | ⟨j, g, w2, cnt2, hj, hlj, hrun, hRG2, hlt, hg2, hs2, hen⟩
 · have hnx : ∀ ty, (Instr.next (.pointer (some ⟨w.heap.size + 2, 0, none⟩)) false ty).run Tryz.prog wr = .ok (.tuple #[.bool false]) wr := fun _ => hrun
   have HS := sort_any (w.heap.size + 3) v G wr hown (by omega)
   have HR : Hid (RG n0 c wr b (w.heap.size + 2) M T left cnt ∧ wr.ownsRow (w.heap.size + 3) 51 2 v G.length (cellsB G) ∧ Met M T left G ∧ ∀ j, left j = false) := ⟨hRG, hown, hmet, hl⟩
   obtain ⟨q0, q1, _, _⟩ := hB1.two
   have HBX : Hid (Box wr w.heap.size 45 #[.int .i64 0, .slice none 0 0] ∧ Box wr (w.heap.size + 1) 45 #[.int .i64 s, v]) := ⟨hB0, hB1⟩
   obtain ⟨va, vc, rfl⟩ := own_shape hown
   clear hrun hRG hown hmet hl hB0 hB1 hbel hsz
   go_wp2_with fail
   refine HS.mono ?_
   rintro e w2 ⟨rfl, ⟨G', hp, hsr, hC⟩, hg2⟩
   have hX0 := HBX.out.1.grown hg2 (row_ne HR.out.2.1 (by omega))
   have hX1 := HBX.out.2.grown hg2 (row_ne HR.out.2.1 (by omega))
   obtain ⟨r0, r1, f0, f1⟩ := hX0.two
   obtain ⟨t0, t1, _, _⟩ := hX1.two
   have HG2 : Hid (G'.Perm G ∧ (G'.Pairwise fun a b => a.1 ≤ b.1) ∧ Cells (w.heap.size + 3) w2 2 (.slice va G.length vc) G.length (cellsB G') ∧ RG n0 c w2 b (w.heap.size + 2) M T left cnt ∧ Box w2 w.heap.size 45 #[.int .i64 0, .slice none 0 0]) := ⟨hp, hsr, hC, HR.out.1.grown hg2 (Far.own HR.out.2.1 (by decide)), hX0⟩
   have HB2 : Hid (Below w.heap.size w w2) := HBEL.out.1.grown hg2 HBEL.out.1.size (fun i hi => by have := (HR.out.2.1.lt i hi).1; omega)
   clear hp hsr hC hg2 hX0 hX1 HS
   go_wp2
   refine bodyPost_ret (v := .agg #[.int .i64 s, .slice va G.length vc]) (by simp [results, Tryz.results99, go_sem, *]) rfl ⟨⟨[_, _], rfl, ?_⟩, below_set2 HB2.out (Nat.le_refl _) _ _⟩
   obtain ⟨hp, hsr, hC, hRG, hX0⟩ := HG2.out
   have hM := hRG.mt
   have hM2 := (hM.grown (grown_set w2 w.heap.size 0 (.int .i64 s)) (Far.box hX0 (by decide))).grown (grown_set _ w.heap.size 1 (.slice va G.length vc)) (Far.box (hX0.set 0 _) (by decide))
   have hlen : G'.length = G.length := hp.length_eq
   have hdone := met_done HR.out.2.2.1 HR.out.2.2.2 (fun j g hj => (hM.row hj).1) (fun j hj => by rw [hM.zero hj]; decide) hp hsr
   refine fl_mkN (s := (s, mkL T 76)) ?_ HNB.out.2.1
   show bksN.lies n0 _ _ (mkL T 76)
   rw [← hdone]
   refine ⟨_, G'.map encB, rfl, ?_, each_bk fun p hp' => ?_⟩
   · have : (asB T G').length = G.length := by unfold asB; rw [List.length_map]; exact hlen
     rw [this]
     exact (hC.keep (.set2 (by omega))).weaken (by have := HNB.out.1; omega)
   · obtain ⟨j, h1, h2, _⟩ := HR.out.2.2.1.mem p (hp.mem_iff.1 hp')
     obtain ⟨h3, h4, h5⟩ := hM2.row h2
     exact ⟨h4, by rw [h1]; simpa using h5, ⟨by omega, by omega⟩⟩
 · have hnx : ∀ ty, (Instr.next (.pointer (some ⟨w.heap.size + 2, 0, none⟩)) false ty).run Tryz.prog wr = .ok (.tuple #[.bool true, .int .i64 j, rowV g]) w2 := fun _ => hrun
   obtain ⟨h76, hng, hrow⟩ := hRG2.mt.row hj
   have HZ := zero_any n0 (rowV g) (T j) w2 (hrow.arg hng)
   have hO2 : w2.ownsRow (w.heap.size + 3) 51 2 v G.length (cellsB G) := own_same hown (fun i hi hlt' => hg2.block i hlt' (fun e => by cases e; omega))
   have hX0 := hB0.grown hg2 (by simp)
   have hX1 := hB1.grown hg2 (by simp)
   have hb2 := hbel.grown hg2 hbel.size (fun i hi => by cases hi; omega)
   have hle := hRG.left_eq
   have hle2 := hRG2.left_eq
   have HLE : Hid (wr.rangeLeft b (w.heap.size + 2) = cnt ∧ w2.rangeLeft b (w.heap.size + 2) = cnt2 ∧ cnt2 < cnt) := ⟨hle, hle2, hlt⟩
   unfold rowV at hnx hen HZ
   have HRW : Hid (RG n0 c w2 b (w.heap.size + 2) M T (fun i => left i && !decide (i = j)) cnt2 ∧ M j = some g ∧ left j = true ∧ Met M T left G ∧ w2.ownsRow (w.heap.size + 3) 51 2 v G.length (cellsB G) ∧ Below w.heap.size w w2 ∧ w.heap.size + 3 ≤ w2.heap.size ∧ Box w2 w.heap.size 45 #[.int .i64 0, .slice none 0 0] ∧ Box w2 (w.heap.size + 1) 45 #[.int .i64 s, v]) := ⟨hRG2, hj, hlj, hmet, hO2, hb2, by omega, hX0, hX1⟩
   obtain ⟨t0, t1, f0, f1⟩ := hX1.two
   obtain ⟨va, vc, rfl⟩ := own_shape hown
   clear hrun hRG hRG2 hown hmet hB0 hB1 hbel hsz hO2 hX0 hX1 hb2 hle hle2 hlt hg2 hs2 hrow hng hj hlj HBEL
   cases hz : isz (T j)
   case true => (
 rw [hz] at HZ
 go_wp2_with fail
 refine HZ.mono ?_
 rintro e w3 ⟨rfl, rfl⟩
 clear HZ t0 t1 f0 f1 hen hnx
 go_wp2
 go_roundw
 case rel =>
   obtain ⟨h1, h2, h3, h4, h5, h6, h7, h8, h9⟩ := HRW.out
   exact ⟨_, cnt2, _, G, h1, h8, h9, h5, h4.skip hz, by have := HLE.out; omega, h6, h7⟩
 case measure => rw [HLE.out.1, HLE.out.2.1]; exact HLE.out.2.2)
   case false => (
 rw [hz] at HZ
 go_wp2_with fail
 refine HZ.mono ?_
 rintro e w3 ⟨rfl, rfl⟩
 clear HZ hen hnx
 go_wp2_with (at_builtin; refine wpList_append_lies _ (by rfl) _ _ 43 (by rfl) (w.heap.size + 3) 51 i6 _ 2 32 Tryz.underlying43 hi6 hz60 hz61 hz62 rfl (by omega) _ G.length _ (by rfl) (HRW.out.2.2.2.2.1.alloc _) ⟨w2.heap.size, 0, none⟩ 1 1 [.int .i64 (j : Int), .slice (some ⟨g, 0, none⟩) 32 32] (by rfl) (by rfl) (World.news_of_block (cs := #[.int .i64 (j : Int), .slice (some ⟨g, 0, none⟩) 32 32]) (t := 51) (fr := (0, 0)) (heap_alloc_new w2 _)) (by simp [Value.oneCell']) (by omega) (by unfold maxLen; omega) (by omega) (by have := HRW.out.2.2.2.2.2.2.1; simp; omega) (w2.heap.size + 1) (by simp) ?_; intro gg cap3 w3 hown3 hgrow3 hat hltg; have hy0 := (HRW.out.2.2.2.2.2.2.2.1.alloc (.cells #[.int .i64 (j : Int), .slice (some ⟨g, 0, none⟩) 32 32] 51)).grown hgrow3 (row_ne HRW.out.2.2.2.2.1 (by omega)); have hy1 := (HRW.out.2.2.2.2.2.2.2.2.alloc (.cells #[.int .i64 (j : Int), .slice (some ⟨g, 0, none⟩) 32 32] 51)).grown hgrow3 (row_ne HRW.out.2.2.2.2.1 (by omega)); obtain ⟨y0, y1, z0, z1⟩ := hy1.two)
 obtain ⟨h1, h2, h3, h4, h5, h6, h7, h8, h9⟩ := HRW.out
 have hRG3 := (((h1.grown (World.grownBy_alloc w2 (.cells #[.int .i64 (j : Int), .slice (some ⟨g, 0, none⟩) 32 32] 51) none) (Far.none _)).grown hgrow3 (Far.own (h5.alloc _) (by decide))).grown (grown_set w3 (w.heap.size + 1) 1 (.slice (some ⟨gg, 0, none⟩) (G.length + 1) cap3)) (Far.box hy1 (by decide)))
 refine ⟨⟨_, cnt2, _, G ++ [((j : Int), g)], hRG3, hy0.other (by omega), hy1.set 1 _, ?_, h4.take h2 h3 hz, ?_, ?_, ?_⟩, ?_⟩
 · rw [cellsB_snoc, List.length_append]
   exact own_same hown3 (.set (by omega))
 · rw [List.length_append]
   have := HLE.out
   simp
   omega
 · exact ((h6.alloc (by omega) _).grown hgrow3 (by simp; omega) (fun i hi => by have := (h5.lt i hi).1; omega)).setCell (p := ⟨w.heap.size + 1, 1, none⟩) (by simp) _
 · have := hgrow3.size
   simp [World.setCell] at this ⊢
   omega
 · rw [hRG3.left_eq, HLE.out.1]
   exact HLE.out.2.2))
end Go.Proofs.YtopcefhncildnaaGreatDoor.F
namespace Go.Proofs.YtopcefhncildnaaGreatDoor.F
open Go.RowKit
def wrT (t : List Int) (p : Nat) (d : List Int) : List Int := if d.length = 0 then t else (List.range (max t.length (p + d.length))).map fun i => if p ≤ i ∧ i < p + d.length then oc d (i - p) else oc t i
def cutT (t : List Int) (n : Nat) : List Int := (List.range n).map (oc t)
def wrE (f : Fl) (off : Int) (d : List Int) : Int := if chk f = false then 9 else if off < 0 then 4 else if d.length = 0 then 0 else if 2432 < off + d.length then 107 else 0
def wrF (f : Fl) (off : Int) (d : List Int) : Fl := if wrE f off d = 0 then mk (wrT (txt f) off.toNat d) else (0, [])
def trE (f : Fl) (n : Int) : Int := if chk f = false then 9 else if n < 0 then 4 else if 2432 < n then 107 else 0
def trF (f : Fl) (n : Int) : Fl := if trE f n = 0 then mk (cutT (txt f) n.toNat) else (0, [])
theorem wrT_none {t d : List Int} (p : Nat) (h : d.length = 0) : wrT t p d = t := if_pos h
theorem wrT_length {t d : List Int} {p : Nat} (h : d.length ≠ 0) : (wrT t p d).length = max t.length (p + d.length) := by
 unfold wrT
 rw [if_neg h]
 simp
theorem wrT_get {t d : List Int} {p : Nat} (h : d.length ≠ 0) (i : Nat) : oc (wrT t p d) i = if p ≤ i ∧ i < p + d.length then oc d (i - p) else oc t i := by
 unfold wrT
 rw [if_neg h]
 by_cases hi : i < max t.length (p + d.length)
 · unfold oc
   rw [range_get _ _ _ _ hi]
 · rw [oc_out (by simp; omega), if_neg (by omega), oc_out (by omega)]
theorem cutT_length (t : List Int) (n : Nat) : (cutT t n).length = n := by simp [cutT]
theorem cutT_get (t : List Int) (n i : Nat) : oc (cutT t n) i = if i < n then oc t i else 0 := by
 by_cases hi : i < n
 · rw [if_pos hi]
   unfold cutT
   show ((List.range n).map (oc t)).getD i 0 = _
   rw [range_get _ _ _ _ hi]
 · rw [if_neg hi, oc_out (by rw [cutT_length]; omega)]
def wrB (T : Nat → List Int) (d : List Int) (p F k : Nat) : Nat → List Int := fun j => if F ≤ j ∧ j < F + k then layL (T j) (32 * j) d p else T j
theorem wrB_zero (T : Nat → List Int) (d : List Int) (p F : Nat) : wrB T d p F 0 = T := by
 funext j
 exact if_neg (by omega)
theorem wrB_at (T : Nat → List Int) (d : List Int) (p F k : Nat) : wrB T d p F k (F + k) = T (F + k) := if_neg (by omega)
theorem wrB_succ (T : Nat → List Int) (d : List Int) (p F k : Nat) : upd (wrB T d p F k) (F + k) (layL (T (F + k)) (32 * (F + k)) d p) = wrB T d p F (k + 1) := by
 funext j
 unfold upd wrB
 by_cases e : j = F + k
 · subst e
   rw [if_pos rfl, if_pos (by omega)]
 · rw [if_neg e]
   by_cases h : F ≤ j ∧ j < F + k
   · rw [if_pos h, if_pos (by omega)]
   · rw [if_neg h, if_neg (by omega)]
theorem wrB_done {f : Fl} (h : chk f = true) {d : List Int} {p K : Nat} (hd : d.length ≠ 0) (hK : p / 32 + K = (p + d.length + 31) / 32) : mkL (wrB (bd f.2) d p (p / 32) K) 76 = (mk (wrT (txt f) p d)).2 := by
 refine mkL_congr fun j hj => tb_of ?_ fun k hk => ?_
 · unfold wrB
   split
   · rw [layL_length, bd_length h]
   · exact bd_length h j
 · rw [wrT_get hd, txt_get h, oct_at hk]
   unfold wrB
   by_cases hb : p / 32 ≤ j ∧ j < p / 32 + K
   · rw [if_pos hb, layL_get _ _ _ _ _ (by rw [bd_length h]; exact hk)]
     rfl
   · rw [if_neg hb, if_neg (by omega)]
def clr (l : List Int) (m : Nat) : List Int := (List.range l.length).map fun k => if k < m then l.getD k 0 else 0
theorem clr_length (l : List Int) (m : Nat) : (clr l m).length = l.length := by simp [clr]
theorem clr_get (l : List Int) (m k : Nat) (h : k < l.length) : (clr l m).getD k 0 = if k < m then l.getD k 0 else 0 := range_get _ _ _ _ h
theorem clr_oct {l : List Int} (h : Oct l) (m : Nat) : Oct (clr l m) := fun x hx => by
 obtain ⟨i, _, rfl⟩ := List.mem_map.1 hx
 split
 · exact getD_oct h _
 · decide
theorem clr_zs (m : Nat) : clr zs m = zs := alike (clr_length _ _) fun i hi => by
 rw [clr_length] at hi
 rw [clr_get _ _ _ hi, zs_get]
 split <;> rfl
theorem clr_done {f : Fl} (h : chk f = true) {n : Nat} : mkL (fun j => clr (bd f.2 j) (ins j n)) 76 = (mk (cutT (txt f) n)).2 := by
 refine mkL_congr fun j hj => tb_of (by rw [clr_length, bd_length h]) fun k hk => ?_
 rw [clr_get _ _ _ (by rw [bd_length h]; exact hk), cutT_get, txt_get h, oct_at hk]
 by_cases hc : k < ins j n
 · rw [if_pos hc, if_pos (by unfold ins at hc; omega)]
 · rw [if_neg hc, if_neg (by unfold ins at hc; omega)]
theorem same_done {f : Fl} (h : chk f = true) : mkL (bd f.2) 76 = f.2 := by
 rw [mkL_congr (T' := tb (oct f)) fun j _ => bd_tb h j]
 exact blocks_mkL h
theorem mk_nil : mk [] = (0, []) := by
 unfold mk
 rw [mkL_more (n := 0) (by omega) (fun j _ _ => isz_of fun k hk => by rw [tb_length] at hk; rw [tb_get _ _ _ hk]; rfl)]
 rfl
theorem chk_nil : chk (0, []) = true := by rw [← mk_nil]; exact chk_mk (by simp)
end Go.Proofs.YtopcefhncildnaaGreatDoor.F
namespace Go.Proofs.YtopcefhncildnaaGreatDoor.F
open Go.RowKit
theorem in_nil (w : World) (d : Nat) (a : Option Addr) (l c : Nat) : (Op.equalIn (d + 1) 25 (.slice a l c) (.slice none 0 0)).run Tryz.prog w = .ok a.isNone w := by
 cases a <;> simp [Op.equalIn, run_underlying Tryz.underlying25]
theorem equal_nil (w : World) (a : Option Addr) (l c : Nat) : (Op.equal 25 (.slice a l c) (.slice none 0 0)).run Tryz.prog w = .ok a.isNone w := in_nil w 9999 a l c
theorem eql_nil (w : World) (a : Option Addr) (l c : Nat) : (binOp .eql 25 (.slice a l c) (.slice none 0 0)).run Tryz.prog w = .ok (.bool a.isNone) w := by
 simp [binOp, equal_nil w a l c]
def Two (w : World) (V : World) (s : Int) (v : Value) : Prop := Below w.heap.size w V ∧ Box V w.heap.size 45 #[.int .i64 s, v] ∧ Box V (w.heap.size + 1) 45 #[.int .i64 0, .slice none 0 0]
theorem Two.start (w : World) (s : Int) (v : Value) : Two w ((w.alloc (.cells #[.int .i64 s, v] 45)).alloc (.cells #[.int .i64 0, .slice none 0 0] 45)) s v := by
 refine ⟨((Below.refl _ w).alloc (Nat.le_refl _) _).alloc (by simp) _, (Box.new _ _ _).alloc _, ?_⟩
 have := Box.new (w.alloc (.cells #[.int .i64 s, v] 45)) 45 #[.int .i64 0, .slice none 0 0]
 rwa [World.size_alloc] at this
theorem Two.below {w V V' : World} {s : Int} {v : Value} (h : Two w V s v) (hb : Below V.heap.size V V') : Two w V' s v := ⟨below_any h.1 hb, h.2.1.below hb h.2.1.lt, h.2.2.below hb h.2.2.lt⟩
theorem Two.lt {w V : World} {s : Int} {v : Value} (h : Two w V s v) : w.heap.size + 2 ≤ V.heap.size := h.2.2.lt
theorem Two.cells {w V : World} {s : Int} {v : Value} (h : Two w V s v) : V.cell? ⟨w.heap.size, 0, none⟩ = some (.int .i64 s) ∧ V.cell? ⟨w.heap.size, 1, none⟩ = some v ∧ V.cell? ⟨w.heap.size + 1, 0, none⟩ = some (.int .i64 0) ∧ V.cell? ⟨w.heap.size + 1, 1, none⟩ = some (.slice none 0 0) ∧ V.frozen? ⟨w.heap.size + 1, 0, none⟩ = false ∧ V.frozen? ⟨w.heap.size + 1, 1, none⟩ = false :=
 ⟨h.2.1.two.1, h.2.1.two.2.1, h.2.2.two.1, h.2.2.two.2.1, h.2.2.two.2.2.1, h.2.2.two.2.2.2⟩
theorem Two.grown {w V V' : World} {s : Int} {v : Value} {g : Nat} (h : Two w V s v) (hg : V.grownBy V' (some g)) (hn : w.heap.size + 2 ≤ g) : Two w V' s v := ⟨h.1.grown hg h.1.size (fun i hi => by cases hi; omega), h.2.1.grown hg (by simp; omega), h.2.2.grown hg (by simp; omega)⟩
theorem Two.ends {w V : World} {s : Int} {v : Value} (h : Two w V s v) {n0 : Nat} {us : List Value} {f : Fl} (hn : w.heap.size + 2 ≤ n0) (hl : flN.lies n0 V us f) (x y : Value) : flN.lies w.heap.size ((V.setCell ⟨w.heap.size + 1, 0, none⟩ x).setCell ⟨w.heap.size + 1, 1, none⟩ y) us f ∧ Below w.heap.size w ((V.setCell ⟨w.heap.size + 1, 0, none⟩ x).setCell ⟨w.heap.size + 1, 1, none⟩ y) :=
 ⟨flN.weaken (flN.keep hl (.set2 (by omega))) (by omega), below_set2 h.1 (by omega) _ _⟩
theorem write_less (n0 n1 : Nat) (us : List Value) (f : Fl) (off : Int) (v : Value) (d : List Int) (w : World) (h : flN.lies n0 w us f) (hoff : I64 off) (hv : Arg n1 w v d) (hless : chk f = false ∨ off < 0 ∨ d.length = 0) :
   Calls Tryz.prog 52 #[.agg us.toArray, .int .i64 off, v] w fun e w' => (∃ us', e = .returned (.tuple #[.agg us'.toArray, .int .i64 (wrE f off d)]) ∧ flN.lies w.heap.size w' us' (wrF f off d)) ∧ Below w.heap.size w w' := by
 obtain ⟨a, c, rfl, hL, hi, hm⟩ := fl_viewN h
 obtain ⟨s, l⟩ := f
 obtain ⟨x, cap, rfl, hcap, hdm, _⟩ := hv.shape
 simp only at hL hi hm ⊢
 unfold maxLen at hm hdm
 have hI := hoff
 unfold I64 at hoff
 have hld := run_len Tryz.underlying25 x d.length cap
 obtain ⟨W, hW⟩ := exa ((w.alloc (.cells #[.int .i64 s, .slice a l.length c] 45)).alloc (.cells #[.int .i64 0, .slice none 0 0] 45))
 have hT : Two w W s (.slice a l.length c) := by rw [hW]; exact Two.start _ _ _
 have HC := check_any n0 [.int .i64 s, .slice a l.length c] (s, l) W (flN.below h hT.1)
 have HT : Hid (Two w W s (.slice a l.length c)) := hT
 have HL : Hid (flN.lies n0 w [.int .i64 s, .slice a l.length c] (s, l) ∧ Arg n1 w (.slice x d.length cap) d ∧ I64 s) := ⟨h, hv, hi⟩
 obtain ⟨g0, g1, _⟩ := hT.cells
 rw [hW] at g0 g1
 clear h hL hi hT hv
 cases hck : chk (s, l)
 case false => (
 rw [show cerr (s, l) = 9 by unfold cerr; rw [hck]; rfl] at HC
 have e1 : wrE (s, l) off d = 9 := if_pos hck
 have e2 : wrF (s, l) off d = (0, []) := if_neg (by rw [e1]; omega)
 rw [e1, e2]
 go_enter Tryz.func52, Tryz.ntmps52
 go_wp2_with fail
 rw [← hW]
 clear hW g0 g1
 refine HC.mono ?_
 rintro e w1 ⟨rfl, hb1⟩
 have HT1 : Hid (Two w w1 s (.slice a l.length c)) := HT.out.below hb1
 obtain ⟨_, _, t0, t1, f0, f1⟩ := HT1.out.cells
 go_wp2
 refine bodyPost_ret (v := .tuple #[.agg #[.int .i64 0, .slice none 0 0], .int .i64 9]) (by simp [results, Tryz.results52, go_sem, *]) rfl ⟨⟨[_, _], rfl, fl_nilN _ _⟩, below_set2 HT1.out.1 (by omega) _ _⟩)
 rw [show cerr (s, l) = 0 by unfold cerr; rw [hck]; rfl] at HC
 by_cases ho0 : off < 0
 · have e1 : wrE (s, l) off d = 4 := by unfold wrE; rw [if_neg (by rw [hck]; simp), if_pos ho0]
   have e2 : wrF (s, l) off d = (0, []) := if_neg (by rw [e1]; omega)
   rw [e1, e2]
   go_enter Tryz.func52, Tryz.ntmps52
   go_wp2_with fail
   rw [← hW]
   clear hW g0 g1
   refine HC.mono ?_
   rintro e w1 ⟨rfl, hb1⟩
   have HT1 : Hid (Two w w1 s (.slice a l.length c)) := HT.out.below hb1
   obtain ⟨_, _, t0, t1, f0, f1⟩ := HT1.out.cells
   go_wp2
   refine bodyPost_ret (v := .tuple #[.agg #[.int .i64 0, .slice none 0 0], .int .i64 4]) (by simp [results, Tryz.results52, go_sem, *]) rfl ⟨⟨[_, _], rfl, fl_nilN _ _⟩, below_set2 HT1.out.1 (by omega) _ _⟩
 by_cases hd0 : d.length = 0
 · have e1 : wrE (s, l) off d = 0 := by unfold wrE; rw [if_neg (by rw [hck]; simp), if_neg ho0, if_pos hd0]
   have e2 : wrF (s, l) off d = (s, mkL (bd l) 76) := by (
 unfold wrF
 rw [if_pos e1, wrT_none _ hd0, mk_txt hck]
 rw [show mkL (bd l) 76 = l from same_done hck])
   rw [e1, e2]
   have hdz : (d.length : Int) = 0 := by omega
   have HSP : Hid (∀ V, Two w V s (.slice a l.length c) → Calls Tryz.prog 100 #[.agg #[.int .i64 s, .slice a l.length c]] V.drew fun e w' => (∃ b M c, e = .returned (.map (some b)) ∧ MT V.heap.size c w' b M (bd l) ∧ c ≤ 76) ∧ Below V.heap.size V w') := fun V hV =>
     (spread_any n0 [.int .i64 s, .slice a l.length c] (s, l) V.drew (flN.keep (flN.below HL.out.1 hV.1) (.drew _ _)) hck).mono fun e w' h => ⟨h.1, ((Below.refl _ V).drew).trans h.2⟩
   have HSI : Hid (I64 s) := HL.out.2.2
   obtain ⟨n, hn⟩ := exa (l.length)
   rw [← hn] at hW HT HC HSP g0 g1 ⊢
   obtain ⟨R, hR⟩ := exa (mkL (bd l) 76)
   have HR : Hid (R = mkL (bd l) 76) := hR
   rw [← hR]
   clear e1 e2 hck hn hR HL
   go_enter Tryz.func52, Tryz.ntmps52
   go_wp2_with fail
   rw [← hW]
   clear hW g0 g1
   refine HC.mono ?_
   rintro e w1 ⟨rfl, hb1⟩
   have HT1 : Hid (Two w w1 s (.slice a n c)) := HT.out.below hb1
   obtain ⟨r0, r1, t0, t1, f0, f1⟩ := HT1.out.cells
   clear HC hb1
   go_wp2
   go_region_held3 (fun V => V.cell? ⟨w.heap.size, 0, none⟩ = some (.int .i64 s) ∧ V.cell? ⟨w.heap.size, 1, none⟩ = some (.slice a n c)) (first | exact ⟨r0, r1⟩ | exact ⟨x0, x1⟩ | exact ⟨y0, y1⟩ | go_keep)
     ((first
       | (go_at_call 100; go_simp; refine Calls.mono (HSP.out _ HT1.out) ?_; rintro e w2 ⟨⟨b, M, cc, rfl, hMT, hcc⟩, hb2⟩; have HT2 : Hid (Two w w2 s (.slice a n c)) := HT1.out.below hb2; obtain ⟨x0, x1, _⟩ := HT2.out.cells; have HM : Hid (MT w1.heap.size cc w2 b M (bd l) ∧ cc ≤ 76) := ⟨hMT, hcc⟩; clear hMT hcc hb2)
       | (go_at_call 99; go_simp; refine Calls.mono (gather_any w1.heap.size _ s _ _ _ _ HM.out.1 HSI.out (by have := HM.out.2; omega)) ?_; rintro e w3 ⟨⟨us3, rfl, hu3⟩, hb3⟩; have HT3 : Hid (Two w w3 s (.slice a n c)) := HT2.out.below hb3; obtain ⟨y0, y1, y2, y3, y4, y5⟩ := HT3.out.cells; obtain ⟨a3, c3, rfl, _⟩ := fl_viewN hu3)))
   have HU3 : Hid (flN.lies w1.heap.size w3 [.int .i64 s, .slice a3 (mkL (bd l) 76).length c3] (s, mkL (bd l) 76)) := hu3
   clear hu3 hb3
   go_wp2
   refine bodyPost_ret (v := .tuple #[.agg #[.int .i64 s, .slice a3 (mkL (bd l) 76).length c3], .int .i64 0]) (by simp [results, Tryz.results52, go_sem, *]) rfl ?_
   obtain ⟨h1, h2⟩ := HT3.out.ends HT1.out.lt HU3.out (.int .i64 s) (.slice a3 (mkL (bd l) 76).length c3)
   rw [HR.out]
   exact ⟨⟨_, rfl, h1⟩, h2⟩
 rcases hless with h | h | h
 · rw [hck] at h; cases h
 · exact absurd h ho0
 · exact absurd h hd0
end Go.Proofs.YtopcefhncildnaaGreatDoor.F
namespace Go.Proofs.YtopcefhncildnaaGreatDoor.F
open Go.RowKit
theorem write_big (n0 n1 : Nat) (us : List Value) (f : Fl) (off : Int) (v : Value) (d : List Int) (w : World) (h : flN.lies n0 w us f) (hoff : I64 off) (hv : Arg n1 w v d) (hck : chk f = true) (ho0 : ¬ off < 0) (hd0 : ¬ d.length = 0) (hbig : 2432 < off + (d.length : Int)) :
   Calls Tryz.prog 52 #[.agg us.toArray, .int .i64 off, v] w fun e w' => (∃ us', e = .returned (.tuple #[.agg us'.toArray, .int .i64 (wrE f off d)]) ∧ flN.lies w.heap.size w' us' (wrF f off d)) ∧ Below w.heap.size w w' := by
 obtain ⟨a, c, rfl, hL, hi, hm⟩ := fl_viewN h
 obtain ⟨s, l⟩ := f
 obtain ⟨x, cap, rfl, hcap, hdm, _⟩ := hv.shape
 simp only at hL hi hm ⊢
 unfold maxLen at hm hdm
 have hI := hoff
 unfold I64 at hoff
 have hld := run_len Tryz.underlying25 x d.length cap
 obtain ⟨W, hW⟩ := exa ((w.alloc (.cells #[.int .i64 s, .slice a l.length c] 45)).alloc (.cells #[.int .i64 0, .slice none 0 0] 45))
 have hT : Two w W s (.slice a l.length c) := by rw [hW]; exact Two.start _ _ _
 have HC := check_any n0 [.int .i64 s, .slice a l.length c] (s, l) W (flN.below h hT.1)
 have HT : Hid (Two w W s (.slice a l.length c)) := hT
 have HL : Hid (flN.lies n0 w [.int .i64 s, .slice a l.length c] (s, l) ∧ Arg n1 w (.slice x d.length cap) d ∧ I64 s) := ⟨h, hv, hi⟩
 obtain ⟨g0, g1, _⟩ := hT.cells
 rw [hW] at g0 g1
 clear h hL hi hT hv
 rw [show cerr (s, l) = 0 by unfold cerr; rw [hck]; rfl] at HC
 obtain ⟨hs, _, _⟩ := chk_iff.1 hck
 simp only at hs
 obtain ⟨dl, hdl⟩ := exa (d.length)
 have HSPN := fun V => span_any off (dl : Int) V hI (by unfold I64; omega)
 have e1 : wrE (s, l) off d = 107 := by unfold wrE; rw [if_neg (by rw [hck]; simp), if_neg ho0, if_neg hd0, if_pos hbig]
 have e2 : wrF (s, l) off d = (0, []) := if_neg (by rw [e1]; omega)
 rw [e1, e2]
 obtain ⟨z1, z2, z3⟩ := spn_high (o := off) (n := (dl : Int)) (by omega) (by omega)
 rw [z1, z2, z3] at HSPN
 rw [← hdl] at hd0 hld ⊢
 have hdz : ¬ (dl : Int) = 0 := by omega
 obtain ⟨n, hn⟩ := exa (l.length)
 rw [← hn] at hW HT HC g0 g1 ⊢
 clear e1 e2 z1 z2 z3 hck hdl hn HL
 go_enter Tryz.func52, Tryz.ntmps52
 go_wp2_with fail
 rw [← hW]
 clear hW g0 g1
 refine HC.mono ?_
 rintro e w1 ⟨rfl, hb1⟩
 have HT1 : Hid (Two w w1 s (.slice a n c)) := HT.out.below hb1
 obtain ⟨_, _, t0, t1, f0, f1⟩ := HT1.out.cells
 clear HC
 go_wp2_with fail
 refine (HSPN _).mono ?_
 rintro e w2 ⟨rfl, rfl⟩
 clear HSPN hbig hs hI ho0 hoff
 go_wp2
 refine bodyPost_ret (v := .tuple #[.agg #[.int .i64 0, .slice none 0 0], .int .i64 107]) (by simp [results, Tryz.results52, go_sem, *]) rfl ⟨⟨[_, _], rfl, fl_nilN _ _⟩, below_set2 HT1.out.1 (by omega) _ _⟩
end Go.Proofs.YtopcefhncildnaaGreatDoor.F
namespace Go.Proofs.YtopcefhncildnaaGreatDoor.F
open Go.RowKit
theorem write_some (n0 n1 : Nat) (us : List Value) (f : Fl) (off : Int) (v : Value) (d : List Int) (w : World) (h : flN.lies n0 w us f) (hoff : I64 off) (hv : Arg n1 w v d) (hck : chk f = true) (ho0 : ¬ off < 0) (hd0 : ¬ d.length = 0) (hbig : ¬ 2432 < off + (d.length : Int)) :
   Calls Tryz.prog 52 #[.agg us.toArray, .int .i64 off, v] w fun e w' => (∃ us', e = .returned (.tuple #[.agg us'.toArray, .int .i64 (wrE f off d)]) ∧ flN.lies w.heap.size w' us' (wrF f off d)) ∧ Below w.heap.size w w' := by
 obtain ⟨a, c, rfl, hL, hi, hm⟩ := fl_viewN h
 obtain ⟨s, l⟩ := f
 obtain ⟨x, cap, rfl, hcap, hdm, _⟩ := hv.shape
 simp only at hL hi hm ⊢
 unfold maxLen at hm hdm
 have hI := hoff
 unfold I64 at hoff
 have hld := run_len Tryz.underlying25 x d.length cap
 obtain ⟨W, hW⟩ := exa ((w.alloc (.cells #[.int .i64 s, .slice a l.length c] 45)).alloc (.cells #[.int .i64 0, .slice none 0 0] 45))
 have hT : Two w W s (.slice a l.length c) := by rw [hW]; exact Two.start _ _ _
 have HC := check_any n0 [.int .i64 s, .slice a l.length c] (s, l) W (flN.below h hT.1)
 have HT : Hid (Two w W s (.slice a l.length c)) := hT
 have HL : Hid (flN.lies n0 w [.int .i64 s, .slice a l.length c] (s, l) ∧ Arg n1 w (.slice x d.length cap) d ∧ I64 s) := ⟨h, hv, hi⟩
 obtain ⟨g0, g1, _⟩ := hT.cells
 rw [hW] at g0 g1
 clear h hL hi hT hv
 rw [show cerr (s, l) = 0 by unfold cerr; rw [hck]; rfl] at HC
 obtain ⟨hs, _, _⟩ := chk_iff.1 hck
 simp only at hs
 obtain ⟨dl, hdl⟩ := exa (d.length)
 have HSPN := fun V => span_any off (dl : Int) V hI (by unfold I64; omega)
 obtain ⟨p, rfl⟩ : ∃ p : Nat, off = p := ⟨off.toNat, by omega⟩
 have e1 : wrE (s, l) (p : Int) d = 0 := by unfold wrE; rw [if_neg (by rw [hck]; simp), if_neg ho0, if_neg hd0, if_neg hbig]
 obtain ⟨F, hF⟩ := exa (p / 32)
 obtain ⟨K, hK⟩ := exa ((p + d.length + 31) / 32 - p / 32)
 have e2 : wrF (s, l) (p : Int) d = (max s ((p : Int) + (d.length : Int)), mkL (wrB (bd l) d p F K) 76) := by (
 unfold wrF
 rw [if_pos e1, Int.toNat_natCast, hF]
 rw [show mkL (wrB (bd l) d p (p / 32) K) 76 = (mk (wrT (txt (s, l)) p d)).2 from wrB_done hck hd0 (by omega)]
 refine Prod.ext ?_ rfl
 show ((wrT (txt (s, l)) p d).length : Int) = _
 rw [wrT_length hd0, txt_length]
 show ((max s.toNat (p + d.length) : Nat) : Int) = _
 omega)
 rw [e1, e2]
 obtain ⟨z1, _, z3, z4⟩ := spn_in (o := (p : Int)) (n := (dl : Int)) (by omega) (by omega)
 rw [z1, z3 (by omega), z4, show (p : Int) / 32 = (F : Int) by omega, show ((p : Int) + (dl : Int) + 31) / 32 - (F : Int) = (K : Int) by omega] at HSPN
 have hFK : F + K ≤ 76 ∧ F ≤ 76 := by omega
 have hmax : max s ((p : Int) + (dl : Int)) = max s ((p : Int) + (d.length : Int)) := by rw [hdl]
 obtain ⟨S, hS⟩ := exa (max s ((p : Int) + (d.length : Int)))
 have hSI : I64 S := by unfold I64; omega
 have hSS : (p : Int) + (dl : Int) ≤ 2432 := by omega
 rw [← hS] at hmax ⊢
 have HMX : Hid (max s ((p : Int) + (dl : Int)) = S) := hmax
 clear hmax
 have HSI : Hid (I64 S) := hSI
 have HSP : Hid (∀ V, Two w V s (.slice a l.length c) → Calls Tryz.prog 100 #[.agg #[.int .i64 s, .slice a l.length c]] V fun e w' => (∃ b M c, e = .returned (.map (some b)) ∧ MT V.heap.size c w' b M (bd l) ∧ c ≤ 76) ∧ Below V.heap.size V w') := fun V hV =>
   spread_any n0 [.int .i64 s, .slice a l.length c] (s, l) V (flN.below HL.out.1 hV.1) hck
 have HA : Hid (Arg n1 w (.slice x d.length cap) d ∧ p + d.length ≤ 2432) := ⟨HL.out.2.1, by omega⟩
 have HTL : Hid (∀ j, (bd l j).length = 32) := fun j => bd_length hck j
 obtain ⟨n, hn⟩ := exa (l.length)
 rw [← hn] at hW HT HC HSP g0 g1 ⊢
 rw [← hdl] at hd0 hld HA ⊢
 have hdz : ¬ (dl : Int) = 0 := by omega
 obtain ⟨R, hR⟩ := exa (mkL (wrB (bd l) d p F K) 76)
 have HR : Hid (R = mkL (wrB (bd l) d p F K) 76) := hR
 rw [← hR]
 have HDL : Hid (dl = d.length) := hdl
 clear e1 e2 hck hn hR HL z1 z3 z4 hF hK hS hSI hbig hdl hI
 go_enter Tryz.func52, Tryz.ntmps52
 go_wp2_with fail
 rw [← hW]
 clear hW g0 g1
 refine HC.mono ?_
 rintro e w1 ⟨rfl, hb1⟩
 have HT1 : Hid (Two w w1 s (.slice a n c)) := HT.out.below hb1
 obtain ⟨r0, r1, _⟩ := HT1.out.cells
 clear HC hb1
 go_wp2_with fail
 refine (HSPN _).mono ?_
 rintro e w2 ⟨rfl, rfl⟩
 clear HSPN
 go_wp2_with fail
 refine (HSP.out _ HT1.out).mono ?_
 rintro e w2 ⟨⟨b, M0, c0, rfl, hMT, hc0⟩, hb2⟩
 have HT2 : Hid (Two w w2 s (.slice a n c) ∧ MT w1.heap.size c0 w2 b M0 (bd l) ∧ c0 ≤ 76) := ⟨HT1.out.below hb2, hMT, hc0⟩
 clear hMT hc0 hb2 r0 r1
 go_wp2
 have HDO : Hid (Oct d ∧ dl = d.length) := ⟨HA.out.1.oct, HDL.out⟩
 go_loopw [13] (fun i wr => ∃ (j : Nat) (M : Nat → Option Nat) (cc : Nat), F ≤ j ∧ j ≤ F + K ∧ i = .int .i64 (j : Int) ∧ MT w1.heap.size cc wr b M (wrB (bd l) d p F (j - F)) ∧ cc ≤ 76 + (j - F) ∧ Two w wr s (.slice a n c)) (fun i _ => F + K - (intOf i).toNat)
 case atStart => (
 refine ⟨F, M0, c0, Nat.le_refl _, by omega, by simp, ?_, by have := HT2.out.2.2; omega, HT2.out.1⟩
 rw [Nat.sub_self, wrB_zero]
 exact HT2.out.2.1)
 case round => (
 obtain ⟨j, M, cc, hj0, hj1, rfl, hMT, hcc, hTV⟩ := hrel
 by_cases hlt : j < F + K
 · have hji : (j : Int) < (F : Int) + (K : Int) := by omega
   have HWB : Hid (wrB (bd l) d p F (j - F) j = bd l j) := by (
 have := wrB_at (bd l) d p F (j - F)
 rwa [show F + (j - F) = j by omega] at this)
   have HWS : Hid (upd (wrB (bd l) d p F (j - F)) j (layL (bd l j) (32 * j) d p) = wrB (bd l) d p F (j + 1 - F)) := by (
 have := wrB_succ (bd l) d p F (j - F)
 rwa [show F + (j - F) = j by omega, show j - F + 1 = j + 1 - F by omega] at this)
   have HAV : Hid (∀ V, Below w.heap.size w V → Arg n1 V (.slice x dl cap) d) := fun V hV => HA.out.1.below hV
   cases hMj : M j with
   | none => (
 have hlk := hMT.lookNot hMj (by omega)
 have hq := fun W => eql_nil W none 0 0
 have hmk := make32 wr
 have hb3 : Below wr.heap.size wr (wr.alloc (.cells zeros32.toArray 5)) := (Below.refl _ _).alloc (Nat.le_refl _) _
 obtain ⟨W4, hupd, hMT4, hg4⟩ := (hMT.below hb3).update hMj (by omega) (row_new wr) (by have := hMT.base; have := hMT.lt; omega) (fun i hi => by have := (hMT.row hi).2.2.lt; omega) (by omega)
 rw [show upd (wrB (bd l) d p F (j - F)) j zs = wrB (bd l) d p F (j - F) by
   funext i
   unfold upd
   by_cases e : i = j
   · rw [if_pos e, e]; exact (hMT.zero hMj).symm
   · rw [if_neg e]] at hMT4
 have hMg : upd M j (some wr.heap.size) j = some wr.heap.size := upd_same _ _ _
 have hTV := (hTV.below hb3).grown hg4 (by have := hMT.base; have := HT1.out.lt; omega)
 unfold rowV at hupd
 clear hMT hb3 hg4
 obtain ⟨_, hng, hrow⟩ := hMT4.row hMg
 rw [HWB.out] at hrow
 have HS := start_any j W4.drew (by omega)
 have HY := lay_any n1 wr.heap.size 32 (32 * j) p (.slice x dl cap) (bd l j) d W4.drew hrow.2.1 hrow.1 (HAV.out W4.drew hTV.1.drew) (by omega) (by have := HA.out.2; have := HDL.out; omega)
 rw [show ((32 * j : Nat) : Int) = 32 * (j : Int) by omega] at HY
 have HLK : Hid (∀ U Tx, MT w1.heap.size (cc + 1) U b (upd M j (some wr.heap.size)) Tx → (Instr.lookup 170 (.map (some b)) (.int .i64 j) false).run Tryz.prog U = .ok (.slice (some ⟨wr.heap.size, 0, none⟩) 32 32) U) := fun U Tx hU => hU.look hMg
 have hlk1 := HLK.out W4.drew _ (hMT4.same (.drew _ _))
 have HMV : Hid (MT w1.heap.size (cc + 1) W4 b (upd M j (some wr.heap.size)) (wrB (bd l) d p F (j - F)) ∧ Two w W4 s (.slice a n c) ∧ (upd M j (some wr.heap.size)) j = some wr.heap.size ∧ w1.heap.size ≤ wr.heap.size ∧ Oct (bd l j)) := ⟨hMT4, hTV, hMg, hng, hrow.2.2⟩
 clear hMT4 hTV hrow hMg
 go_wp2
 go_region_held3 (fun U => (Instr.lookup 170 (.map (some b)) (.int .i64 j) false).run Tryz.prog U = .ok (.slice (some ⟨wr.heap.size, 0, none⟩) 32 32) U) (first | exact hlk1 | exact hlk2)
   ((first | (go_simp; with_reducible refine Calls.mono HS ?_; rintro e w4 ⟨rfl, rfl⟩) | (go_simp; refine HY.mono ?_; rintro e w4 ⟨rfl, hr4, hg4, hs4⟩; have hM4 := (HMV.out.1.same (.drew _ _)).over HMV.out.2.2.1 hg4 ⟨hr4, by rw [layL_length]; exact HTL.out j, layL_oct HMV.out.2.2.2.2 HDO.out.1 _ _⟩; have hlk2 := HLK.out w4 _ hM4)))
 all_goals
   have HM4 : Hid (MT w1.heap.size (cc + 1) w4 b (upd M j (some wr.heap.size)) (wrB (bd l) d p F (j + 1 - F)) ∧ Two w w4 s (.slice a n c)) := ⟨by rw [← HWS.out]; exact hM4, Two.grown (V := W4.drew) ⟨HMV.out.2.1.1.drew, HMV.out.2.1.2.1, HMV.out.2.1.2.2⟩ hg4 (by have := HMV.out.2.2.2.1; have := HT1.out.lt; omega)⟩
   clear hr4 hg4 hs4 hM4 hlk1 hlk2 HS HY
   go_wp2
   go_roundw
   case rel => exact ⟨j + 1, (upd M j (some wr.heap.size)), (cc + 1), by omega, by omega, by go_num, HM4.out.1, by omega, HM4.out.2⟩
   case measure => simp [intOf]; omega)
   | some g => (
 have hlk := hMT.look hMj
 unfold rowV at hlk
 have hq := fun W => eql_nil W (some ⟨g, 0, none⟩) 32 32
 obtain ⟨_, hng, hrow⟩ := hMT.row hMj
 rw [HWB.out] at hrow
 have HS := start_any j wr.drew (by omega)
 have HY := lay_any n1 g 32 (32 * j) p (.slice x dl cap) (bd l j) d wr.drew hrow.2.1 hrow.1 (HAV.out wr.drew hTV.1.drew) (by omega) (by have := HA.out.2; have := HDL.out; omega)
 rw [show ((32 * j : Nat) : Int) = 32 * (j : Int) by omega] at HY
 have HLK : Hid (∀ U Tx, MT w1.heap.size cc U b M Tx → (Instr.lookup 170 (.map (some b)) (.int .i64 j) false).run Tryz.prog U = .ok (.slice (some ⟨g, 0, none⟩) 32 32) U) := fun U Tx hU => hU.look hMj
 have hlk1 := HLK.out wr.drew _ (hMT.same (.drew _ _))
 have HMV : Hid (MT w1.heap.size cc wr b M (wrB (bd l) d p F (j - F)) ∧ Two w wr s (.slice a n c) ∧ M j = some g ∧ w1.heap.size ≤ g ∧ Oct (bd l j)) := ⟨hMT, hTV, hMj, hng, hrow.2.2⟩
 clear hMT hTV hrow hMj
 go_wp2
 go_region_held3 (fun U => (Instr.lookup 170 (.map (some b)) (.int .i64 j) false).run Tryz.prog U = .ok (.slice (some ⟨g, 0, none⟩) 32 32) U) (first | exact hlk1 | exact hlk2)
   ((first | (go_simp; with_reducible refine Calls.mono HS ?_; rintro e w4 ⟨rfl, rfl⟩) | (go_simp; refine HY.mono ?_; rintro e w4 ⟨rfl, hr4, hg4, hs4⟩; have hM4 := (HMV.out.1.same (.drew _ _)).over HMV.out.2.2.1 hg4 ⟨hr4, by rw [layL_length]; exact HTL.out j, layL_oct HMV.out.2.2.2.2 HDO.out.1 _ _⟩; have hlk2 := HLK.out w4 _ hM4)))
 all_goals
   have HM4 : Hid (MT w1.heap.size cc w4 b M (wrB (bd l) d p F (j + 1 - F)) ∧ Two w w4 s (.slice a n c)) := ⟨by rw [← HWS.out]; exact hM4, Two.grown (V := wr.drew) ⟨HMV.out.2.1.1.drew, HMV.out.2.1.2.1, HMV.out.2.1.2.2⟩ hg4 (by have := HMV.out.2.2.2.1; have := HT1.out.lt; omega)⟩
   clear hr4 hg4 hs4 hM4 hlk1 hlk2 HS HY
   go_wp2
   go_roundw
   case rel => exact ⟨j + 1, M, cc, by omega, by omega, by go_num, HM4.out.1, by omega, HM4.out.2⟩
   case measure => simp [intOf]; omega)
 · have hjK : j - F = K := by omega
   have HG := gather_any w1.heap.size cc S b M _ wr hMT HSI.out (by omega)
   rw [hjK, ← HR.out] at HG
   obtain ⟨t0, t1, _⟩ := hTV.cells
   have HTV : Hid (Two w wr s (.slice a n c)) := hTV
   have hji : ¬ (j : Int) < (F : Int) + (K : Int) := by omega
   clear hMT hTV hjK hlt hj0 hj1 hcc
   go_wp2_with fail
   rw [HMX.out]
   refine HG.mono ?_
   rintro e w3 ⟨⟨us3, rfl, hu3⟩, hb3⟩
   have HT3 : Hid (Two w w3 s (.slice a n c)) := HTV.out.below hb3
   obtain ⟨y0, y1, y2, y3, y4, y5⟩ := HT3.out.cells
   obtain ⟨a3, c3, rfl, _⟩ := fl_viewN hu3
   simp only at hu3 ⊢
   obtain ⟨rl, hrl⟩ := exa (R.length)
   rw [← hrl] at hu3 ⊢
   have HU3 : Hid (flN.lies w1.heap.size w3 [.int .i64 S, .slice a3 rl c3] (S, R)) := hu3
   clear hu3 hb3 HG hrl
   go_wp2
   refine bodyPost_ret (v := .tuple #[.agg #[.int .i64 S, .slice a3 rl c3], .int .i64 0]) (by simp [results, Tryz.results52, go_sem, *]) rfl ?_
   obtain ⟨h1, h2⟩ := HT3.out.ends HT1.out.lt HU3.out (.int .i64 S) (.slice a3 rl c3)
   exact ⟨⟨_, rfl, h1⟩, h2⟩)
end Go.Proofs.YtopcefhncildnaaGreatDoor.F
namespace Go.Proofs.YtopcefhncildnaaGreatDoor.F
open Go.RowKit
theorem write_any (n0 n1 : Nat) (us : List Value) (f : Fl) (off : Int) (v : Value) (d : List Int) (w : World) (h : flN.lies n0 w us f) (hoff : I64 off) (hv : Arg n1 w v d) :
   Calls Tryz.prog 52 #[.agg us.toArray, .int .i64 off, v] w fun e w' => (∃ us', e = .returned (.tuple #[.agg us'.toArray, .int .i64 (wrE f off d)]) ∧ flN.lies w.heap.size w' us' (wrF f off d)) ∧ Below w.heap.size w w' := by
 by_cases h1 : chk f = false
 · exact write_less n0 n1 us f off v d w h hoff hv (.inl h1)
 have h1' : chk f = true := by simpa using h1
 by_cases h2 : off < 0
 · exact write_less n0 n1 us f off v d w h hoff hv (.inr (.inl h2))
 by_cases h3 : d.length = 0
 · exact write_less n0 n1 us f off v d w h hoff hv (.inr (.inr h3))
 by_cases h4 : 2432 < off + (d.length : Int)
 · exact write_big n0 n1 us f off v d w h hoff hv h1' h2 h3 h4
 · exact write_some n0 n1 us f off v d w h hoff hv h1' h2 h3 h4
end Go.Proofs.YtopcefhncildnaaGreatDoor.F
