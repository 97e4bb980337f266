import Derived.Test.YtkpckadicjdieabSortLaid
import Derived.Test.YtkpckadicjdieabZ27
import Derived.Test.YtkpckadicjdieabZ26
import Derived.Test.YtkpckadicjdieabZ28
import Derived.Test.YtkpckadicjdieabLCopy
import Derived.Test.YtkpckadicjdieabZ19
/-
  What the library's sort makes of a row of blocks by their kinds.
-/
namespace Go.Proofs.Ytkpckadicjdieab
open Go.Shelf Go.RowKit Go.Lib Go.Sort

/-- A block's three cells: its two numbers, and where its octets lie. -/
abbrev El := Int × Int × Option Addr × Nat × Nat
def encE (x : El) : List Value := [.int .i64 x.1, .int .i64 x.2.1, .slice x.2.2.1 x.2.2.2.1 x.2.2.2.2]
def cmpE (x y : El) : Int := if cmpI x.1 y.1 ≠ 0 then cmpI x.1 y.1 else cmpI x.2.1 y.2.1
theorem cmpE_lt {x y : El} : cmpE x y < 0 ↔ x.1 < y.1 ∨ (x.1 = y.1 ∧ x.2.1 < y.2.1) := by
  have := @cmpK_lt (x.1, x.2.1, []) (y.1, y.2.1, [])
  exact this

set_option maxRecDepth 100000 in
set_option maxHeartbeats 2000000 in
theorem closure_any (x y : El) (W : World) : Calls Try.prog 35 #[.agg (encE x).toArray, .agg (encE y).toArray] W fun e w' => e = .returned (.int .i64 (cmpE x y)) ∧ ∃ q os', w' = grow (W.drewN q) os' := by
  obtain ⟨x1, x2, xa, xm, xc⟩ := x
  obtain ⟨y1, y2, ya, ym, yc⟩ := y
  unfold encE cmpE
  simp only
  have HC1 := compare_any x1 y1
  have HC2 := compare_any x2 y2
  obtain ⟨r1, hr1⟩ : ∃ r, r = cmpI x1 y1 := ⟨_, rfl⟩
  obtain ⟨r2, hr2⟩ : ∃ r, r = cmpI x2 y2 := ⟨_, rfl⟩
  rw [← hr1] at HC1 ⊢
  rw [← hr2] at HC2 ⊢
  obtain ⟨post, hpost⟩ : ∃ post : Ending → World → Prop, post = fun e w' => e = .returned (.int .i64 (if r1 ≠ 0 then r1 else r2)) ∧ ∃ q os', w' = grow (W.drewN q) os' := ⟨_, rfl⟩
  obtain ⟨r3, hr3⟩ : ∃ r, r = if r1 ≠ 0 then r1 else r2 := ⟨_, rfl⟩
  have HPo : Hid (∀ w' q os', w' = grow (W.drewN q) os' → post (.returned (.int .i64 r3)) w') := fun w' q os' h => by rw [hpost, hr3]; exact ⟨rfl, q, os', h⟩
  have HOr : Hid (∀ g w, Box w g 3 #[.int .i64 r1, .int .i64 r2] → Calls Try.prog 36 #[.slice (some ⟨g, 0, none⟩) 2 2] w fun e w' => e = .returned (.int .i64 r3) ∧ w = w') := fun g w hB => by rw [hr3]; exact or_any g r1 r2 w hB
  rw [← hpost]
  clear hpost hr1 hr2 hr3
  obtain ⟨V, hV⟩ : ∃ V, V = (W.alloc (.cells #[.int .i64 x1, .int .i64 x2, .slice xa xm xc] 48)).alloc (.cells #[.int .i64 y1, .int .i64 y2, .slice ya ym yc] 48) := ⟨_, rfl⟩
  have hB1 : Box V W.heap.size 48 #[.int .i64 x1, .int .i64 x2, .slice xa xm xc] := by rw [hV]; exact (Box.new _ _ _).alloc _
  have hB2 : Box V (W.heap.size + 1) 48 #[.int .i64 y1, .int .i64 y2, .slice ya ym yc] := by
    rw [hV]
    have := Box.new (W.alloc (.cells #[.int .i64 x1, .int .i64 x2, .slice xa xm xc] 48)) 48 #[.int .i64 y1, .int .i64 y2, .slice ya ym yc]
    rwa [World.size_alloc] at this
  have HV : Hid (∀ c, V.drew.alloc c = (((W.drewN 1).alloc (.cells #[.int .i64 x1, .int .i64 x2, .slice xa xm xc] 48)).alloc (.cells #[.int .i64 y1, .int .i64 y2, .slice ya ym yc] 48)).alloc c) := fun c => by rw [hV]; rfl
  have HS : Hid (∀ U, Below V.heap.size V U → U.cell? ⟨W.heap.size, 0, none⟩ = some (.int .i64 x1) ∧ U.cell? ⟨W.heap.size, 1, none⟩ = some (.int .i64 x2) ∧ U.cell? ⟨W.heap.size + 1, 0, none⟩ = some (.int .i64 y1) ∧ U.cell? ⟨W.heap.size + 1, 1, none⟩ = some (.int .i64 y2)) := fun U hU => by
    have h1 := (hB1.below hU hB1.lt).three
    have h2 := (hB2.below hU hB2.lt).three
    exact ⟨h1.1, h1.2.1, h2.1, h2.2.1⟩
  clear hB1 hB2
  go_enter Try.func35, Try.ntmps35
  go_upto_region 1 with fail
  rw [← hV]
  clear hV
  refine AnyBut.begin (fun U => U.cell? ⟨W.heap.size, 0, none⟩ = some (.int .i64 x1) ∧ U.cell? ⟨W.heap.size, 1, none⟩ = some (.int .i64 x2) ∧ U.cell? ⟨W.heap.size + 1, 0, none⟩ = some (.int .i64 y1) ∧ U.cell? ⟨W.heap.size + 1, 1, none⟩ = some (.int .i64 y2)) 1000 (by kernel_rfl) ?_
  have hSS := HS.out V.drew (Below.refl _ V).drew
  refine tx 0 5 hSS ?_
  simp only [ua, ub, uc, ud]
  refine tx 1 6 hSS ?_
  simp only [ua, ub, uc, ud]
  refine tx 2 7 hSS ?_
  simp only [ua, ub, uc, ud]
  refine tx 3 8 hSS ?_
  simp only [ua, ub, uc, ud]
  refine tx 5 10 hSS ?_
  simp only [ua, ub, uc, ud]
  refine tx 6 11 hSS ?_
  simp only [ua, ub, uc, ud]
  refine tx 7 12 hSS ?_
  simp only [ua, ub, uc, ud]
  refine tx 8 13 hSS ?_
  simp only [ua, ub, uc, ud]
  refine AnyBut.step (i := 4) (by kernel_rfl) rfl (fun K hK => ?_)
  go_simp
  refine Calls.mono (HC1 _) ?_
  rintro e1 w1 ⟨rfl, rfl⟩
  dsimp only
  refine hK.out _ _ hSS ?_
  clear hK
  refine AnyBut.step (i := 9) (by kernel_rfl) rfl (fun K hK => ?_)
  go_simp
  refine Calls.mono (HC2 _) ?_
  rintro e1 w1 ⟨rfl, rfl⟩
  dsimp only
  refine hK.out _ _ hSS ?_
  clear hK
  refine AnyBut.step (i := 10) (by kernel_rfl) rfl (fun K hK => ?_)
  go_simp
  obtain ⟨Z, hZ⟩ : ∃ Z, Z = (V.alloc (.cells #[.int .i64 r1, .int .i64 r2] 3)).drew := ⟨_, rfl⟩
  have hbZ : Below V.heap.size V Z := by rw [hZ]; exact ((Below.refl _ V).alloc (Nat.le_refl _) _).drew
  have hBZ : Box Z V.heap.size 3 #[.int .i64 r1, .int .i64 r2] := by rw [hZ]; exact Box.drew (Box.new _ _ _)
  have HZ : Hid (Z = V.drew.alloc (.cells #[.int .i64 r1, .int .i64 r2] 3)) := by rw [hZ]; rfl
  rw [← hZ]
  refine hK.out _ _ (HS.out Z hbZ) ?_
  clear hK hZ hSS
  have hSS := HS.out Z hbZ
  have HO := HOr.out V.heap.size Z hBZ
  refine AnyBut.step (i := 11) (by kernel_rfl) rfl (fun K hK => ?_)
  go_simp
  refine Calls.mono HO ?_
  rintro e1 w1 ⟨rfl, rfl⟩
  dsimp only
  refine hK.out _ _ hSS ?_
  clear hK
  refine tx 12 4 hSS ?_
  simp only [ua, ub, uc, ud]
  refine AnyBut.done (by kernel_rfl) ?_
  have HE : Hid (post (.returned (.int .i64 r3)) Z) := HPo.out Z 1 _ (by rw [HZ.out, HV.out, alloc_eq_grow, alloc_eq_grow, alloc_eq_grow, grow_grow, grow_grow])
  clear hSS hbZ hBZ HO
  go_wp2
  exact HE.out

theorem lt_key (x y : El) : ltOf cmpE x y = decide (x.1 < y.1 ∨ (x.1 = y.1 ∧ x.2.1 < y.2.1)) := by
  unfold ltOf
  have := @cmpE_lt x y
  by_cases h : cmpE x y < 0
  · rw [decide_eq_true h, decide_eq_true (this.1 h)]
  · rw [decide_eq_false h, decide_eq_false (fun c => h (this.2 c))]
theorem swo_key : SWO (ltOf cmpE) where
  irrefl x := by rw [lt_key]; simp
  trans x y z h1 h2 := by rw [lt_key] at *; simp at *; omega
  ntrans x y z h1 h2 := by rw [lt_key] at *; simp at *; omega

def cellsE (G : List El) : List Value := (G.map encE).flatten

theorem flatK_cells (G : List El) : flatK encE 3 G.toArray = (cellsE G).toArray := by
  have hs : ∀ us ∈ G.map encE, us.length = 3 := fun us hus => by obtain ⟨x, _, rfl⟩ := List.mem_map.1 hus; rfl
  have hl : (cellsE G).length = G.length * 3 := by
    unfold cellsE
    rw [flat_length hs, List.length_map]
  refine ext_get! (by simp [hl]) fun t ht => ?_
  have ht' : t < G.length * 3 := by simpa using ht
  rw [get_flatK _ _ _ _ (by simpa using ht')]
  have hd : t / 3 < G.length := by omega
  have h1 : (G.map encE)[t / 3]? = some (encE G[t / 3]) := by rw [List.getElem?_map, List.getElem?_eq_getElem hd]; rfl
  have h2 : (encE G[t / 3])[t % 3]? = some (encE G[t / 3])[t % 3]! := by
    have : t % 3 < (encE G[t / 3]).length := by show t % 3 < 3; omega
    rw [List.getElem?_eq_getElem this, List.getElem!_eq_getElem?_getD, List.getElem?_eq_getElem this]
    rfl
  have h3 := flat_get hs h1 h2
  rw [show t / 3 * 3 + t % 3 = t by omega] at h3
  have h4 : (cellsE G)[t]? = some (encE G[t / 3])[t % 3]! := h3
  rw [show G.toArray[t / 3]! = G[t / 3] by simp [hd]]
  simp [h4]

theorem sort_other (w : World) (blk off m : Nat) (dk : Array El) (os : Array Obj) : w.grownBy (sortWorldK encE 3 w blk off m dk os) (some blk) := by
  refine ⟨rfl, rfl, rfl, size_sortWorldK_c _ _ _ _ _ _ _ _, fun i hi hne => ?_⟩
  have hne' : i ≠ blk := fun e => hne (by rw [e])
  unfold sortWorldK grow putRowK putRow
  have hsz : i < (mapBlock (Sort.ahead w m) blk (putCells id off (flatK encE 3 dk))).heap.size := by simpa [mapBlock, Sort.ahead] using hi
  rw [Array.getElem?_append_left hsz]
  simp [mapBlock, Sort.ahead, Array.getElem?_modify, Ne.symm hne']

set_option maxHeartbeats 1000000 in
theorem sort_any (base : Nat) (v : Value) (G : List El) (w : World) (hown : w.ownsRow base 48 3 v G.length (cellsE G)) (hlen : G.length ≤ 1000) :
    Calls Try.prog 34 #[v, .func (.func 35) #[] #[]] w fun e w' => e = .returned (.tuple #[]) ∧ (∃ G' : List El, G'.Perm G ∧ G'.Pairwise (fun a b => ¬ cmpE b a < 0) ∧ Cells base w' 3 v G.length (cellsE G')) ∧ w.grownBy w' v.ownBlock := by
  rcases id hown.2 with ⟨rfl, h0⟩ | ⟨g, cap, cur, rfl, hb, hg, hc1, hc2, hc3, hc4⟩
  · obtain rfl := List.eq_nil_of_length_eq_zero h0
    have := AnyF.slices_SortFunc_none sortBk none 0 (.func (.func 35) #[] #[]) w
    change Calls Try.prog 34 _ _ _ at this
    refine this.mono ?_
    rintro e w' ⟨rfl, rfl⟩
    exact ⟨rfl, ⟨[], List.Perm.refl _, List.Pairwise.nil, .own hown⟩, ⟨rfl, rfl, rfl, Nat.le_refl _, fun _ _ _ => rfl⟩⟩
  · have eg : ∀ args w, (callFunc 35 args).run Try.prog w = .ok (.enter 35 args) w := enters_of Try.func35 (by kernel_rfl) rfl
    have hlt : g < w.heap.size := (Array.getElem?_eq_some_iff.1 hg).1
    have hH : HoldsK encE 3 w g 0 G.toArray := by
      unfold HoldsK
      rw [flatK_cells]
      intro j hj
      have hj' : j < (cellsE G).length := by simpa using hj
      refine ⟨?_, ?_⟩
      · have := hown.cells (g := g) rfl j (cellsE G)[j] (by rw [List.getElem?_eq_getElem hj'])
        rw [add_plain] at this
        simpa [hj'] using this
      · have := hown.frozenAt j
        simpa using this
    have hcon := AnyQ.slices_SortFunc sortBk 3 Try.isAgg48 Try.sizeOf48 encE (fun _ => rfl) (fun x v hv => by simp [encE] at hv; rcases hv with rfl | rfl | rfl <;> rfl) cmpE swo_key 35 #[] g 0 cap G.toArray w eg (fun _ _ _ _ x y => closure_any x y _) hH hlt (by simp; omega)
    change Calls Try.prog 34 _ _ _ at hcon
    rw [List.size_toArray] at hcon
    refine hcon.mono ?_
    rintro e w' ⟨rfl, d', n, os, hp, hs, rfl⟩
    have hsz : d'.size = G.length := by simpa using hp.1
    have hH' := holdsK_sortWorldK_c encE 3 w g 0 G.toArray d' n os hH hlt (by simpa using hsz)
    refine ⟨rfl, ⟨d'.toList, ?_, ?_, ?_⟩, sort_other _ _ _ _ _ _⟩
    · have := hp.2.2
      have e : d'.toList.take G.length = d'.toList := List.take_of_length_le (by simp [hsz])
      simp at this
      rwa [e] at this
    · rw [List.pairwise_iff_getElem]
      intro i j hi hj hij
      have hi' : i < d'.size := by simpa using hi
      have hj' : j < d'.size := by simpa using hj
      have := hs i j (Nat.zero_le _) hij (by omega)
      rw [getElem!_pos d' i hi', getElem!_pos d' j hj'] at this
      unfold ltOf at this
      simpa using this
    · refine ⟨?_, .inr ⟨_, cap, rfl, hc1, by omega, hb, fun i u hu => ?_⟩⟩
      · unfold cellsE
        rw [flat_length (size := 3) (fun us hus => by obtain ⟨x, _, rfl⟩ := List.mem_map.1 hus; rfl)]
        simp [hsz]
      · rw [add_plain, Nat.zero_add]
        unfold HoldsK at hH'
        rw [show d' = d'.toList.toArray by simp, flatK_cells] at hH'
        obtain ⟨hlt', hget⟩ := List.getElem?_eq_some_iff.1 hu
        have := (hH' i (by simpa using hlt')).1
        rw [Nat.zero_add] at this
        rw [Array.toArray_toList] at this
        rw [this]
        simp [hlt', hget]


end Go.Proofs.Ytkpckadicjdieab

/-
  The sort of a row of blocks whose data lie elsewhere, told of the blocks themselves.
-/
namespace Go.Proofs.Ytkpckadicjdieab
open Go.RowKit

theorem bk_enc {n : Nat} {w : World} {us : List Value} {b : Bk} (h : bkN.lies n w us b) : ∃ x : El, us = encE x ∧ x.1 = b.1 ∧ x.2.1 = b.2.1 := by
  obtain ⟨a, cap, e, _⟩ := bk_view h
  exact ⟨(b.1, b.2.1, a, b.2.2.length, cap), e, rfl, rfl⟩
/-- What ties a block's cells to it. -/
def Tie (w0 : World) (x : El) (b : Bk) : Prop := bkN.lies 0 w0 (encE x) b ∧ x.1 = b.1 ∧ x.2.1 = b.2.1
theorem each_enc {w0 : World} : ∀ {vss : List (List Value)} {L : List Bk}, Each (bkN.lies 0 w0) vss L → ∃ G : List El, vss = G.map encE ∧ Each (Tie w0) G L
  | [], [], _ => ⟨[], rfl, trivial⟩
  | us :: vss, b :: L, h => by
    obtain ⟨G, e, hG⟩ := each_enc h.2
    obtain ⟨x, e1, e2, e3⟩ := bk_enc h.1
    exact ⟨x :: G, by rw [List.map_cons, ← e1, ← e], ⟨by rw [← e1]; exact h.1, e2, e3⟩, hG⟩
  | [], _ :: _, h => h.elim
  | _ :: _, [], h => h.elim
theorem enc_each {w0 : World} : ∀ {G : List El} {L : List Bk}, Each (Tie w0) G L → Each (bkN.lies 0 w0) (G.map encE) L
  | [], [], _ => trivial
  | _ :: _, _ :: _, h => ⟨h.1.1, enc_each h.2⟩
  | [], _ :: _, h => h.elim
  | _ :: _, [], h => h.elim
theorem BX.enc {w0 w : World} {base : Nat} {v : Value} {L : List Bk} (h : BX w0 w base v L) : ∃ G : List El, w.ownsRow base 48 3 v G.length (cellsE G) ∧ Each (Tie w0) G L := by
  obtain ⟨vss, h1, h2⟩ := h
  obtain ⟨G, rfl, hG⟩ := each_enc h2
  refine ⟨G, ?_, hG⟩
  rw [hG.length]
  exact h1
/-- What is put into another order on one side can be so on the other. -/
theorem each_perm {α β : Type} {R : α → β → Prop} {G' G : List α} (hp : G'.Perm G) : ∀ {L : List β}, Each R G L → ∃ L' : List β, L'.Perm L ∧ Each R G' L' := by
  induction hp with
  | nil =>
    intro L h
    exact ⟨L, .refl _, h⟩
  | cons x _ ih =>
    intro L h
    match L, h with
    | b :: L, h =>
      obtain ⟨L', h1, h2⟩ := ih h.2
      exact ⟨b :: L', h1.cons b, h.1, h2⟩
    | [], h => exact h.elim
  | swap x y l =>
    intro L h
    match L, h with
    | a :: b :: L, h => exact ⟨b :: a :: L, .swap a b L, h.2.1, h.1, h.2.2⟩
    | [a], h => exact h.2.elim
    | [], h => exact h.elim
  | trans _ _ ih1 ih2 =>
    intro L h
    obtain ⟨L1, h1, h2⟩ := ih2 h
    obtain ⟨L2, h3, h4⟩ := ih1 h2
    exact ⟨L2, h3.trans h1, h4⟩
/-- Blocks of unlike kinds. -/
def unl (a b : Bk) : Prop := ¬ (a.1 = b.1 ∧ a.2.1 = b.2.1)
theorem unl.symm {a b : Bk} (h : unl a b) : unl b a := fun e => h ⟨e.1.symm, e.2.symm⟩
theorem each_up {w0 : World} : ∀ {G : List El} {L : List Bk}, Each (Tie w0) G L → G.Pairwise (fun a b => ¬ cmpE b a < 0) → L.Pairwise unl → L.Pairwise kLt
  | [], [], _, _, _ => List.Pairwise.nil
  | x :: G, b :: L, h, hg, hl => by
    obtain ⟨g1, g2⟩ := List.pairwise_cons.1 hg
    obtain ⟨l1, l2⟩ := List.pairwise_cons.1 hl
    refine List.pairwise_cons.2 ⟨fun c hc => ?_, each_up h.2 g2 l2⟩
    obtain ⟨y, hy, _, e1, e2⟩ := h.2.right hc
    have k1 := g1 y hy
    rw [cmpE_lt] at k1
    have k2 := l1 c hc
    obtain ⟨_, d1, d2⟩ := h.1
    unfold unl at k2
    unfold kLt
    omega
  | [], _ :: _, h, _, _ => h.elim
  | _ :: _, [], h, _, _ => h.elim

set_option maxHeartbeats 1000000 in
theorem sorted_any {w0 w : World} {v : Value} {L : List Bk} (h : BX w0 w w0.heap.size v L) (hb : Below w0.heap.size w0 w) (hlen : L.length ≤ 1000) (hu : L.Pairwise unl) :
    Calls Try.prog 34 #[v, .func (.func 35) #[] #[]] w fun e w' => e = .returned (.tuple #[]) ∧ (∃ L' : List Bk, L'.Perm L ∧ L'.Pairwise kLt ∧ bksN.lies 0 w' [v] L') ∧ Below w0.heap.size w0 w' := by
  obtain ⟨G, h1, h2⟩ := h.enc
  have hl := h2.length
  refine (sort_any _ v G w h1 (by omega)).mono ?_
  rintro e w' ⟨rfl, ⟨G', hp, hs, hc⟩, hg⟩
  have hb' : Below w0.heap.size w0 w' := h.grow hg hb hb.size
  obtain ⟨L', hp', h2'⟩ := each_perm hp h2
  refine ⟨rfl, ⟨L', hp', each_up h2' hs ((hp'.pairwise_iff (fun h => h.symm)).2 hu), v, G'.map encE, rfl, ?_, (enc_each h2').mono fun _ _ h => bkN.below h hb'⟩, hb'⟩
  have := hc.weaken (Nat.zero_le _)
  rw [hl, ← hp'.length_eq] at this
  exact this

end Go.Proofs.Ytkpckadicjdieab

/-
  The mathematics of a range over the last versions that keeps those that are there.
-/
namespace Go.Proofs.Ytkpckadicjdieab

/-- What has been kept of the kinds that have been met. -/
structure Met (s : St) (left : Int → Int → Bool) (L : List Bk) : Prop where
  un : L.Pairwise unl
  mem : ∀ b, b ∈ L ↔ isThere s b ∧ left b.1 b.2.1 = false
theorem Met.start (s : St) : Met s (fun o i => decide (0 < (kn (vers s) o i).2.2.2)) [] := by
  refine ⟨List.Pairwise.nil, fun b => ⟨(fun hb => by cases hb), fun ⟨h1, h2⟩ => ?_⟩⟩
  obtain ⟨e, h3⟩ := h1
  unfold last at e
  have := (kn_kind (l := vers s) (o := b.1) (i := b.2.1) (by rw [← e]; exact h3)).2.2
  simp only [decide_eq_false_iff_not] at h2
  exact absurd this h2
theorem Met.step {s : St} {left : Int → Int → Bool} {L : List Bk} {o i : Int} (h : Met s left L) (hl : left o i = true) :
    Met s (fun o' i' => left o' i' && !decide (o' = o ∧ i' = i)) (if (kn (vers s) o i).1.2.2 = [] then L else L ++ [(kn (vers s) o i).1]) := by
  have key : ∀ b, isThere s b ∧ (left b.1 b.2.1 && !decide (b.1 = o ∧ b.2.1 = i)) = false ↔ b ∈ L ∨ ((kn (vers s) o i).1.2.2 ≠ [] ∧ b = (kn (vers s) o i).1) := fun b => by
    constructor
    · rintro ⟨h1, h2⟩
      by_cases e : b.1 = o ∧ b.2.1 = i
      · right
        obtain ⟨k1, k2⟩ := h1
        unfold last at k1
        rw [e.1, e.2] at k1
        have k3 : (kn (vers s) o i).1.2.2 ≠ [] := by rw [← k1]; exact k2
        obtain ⟨k4, k5, _⟩ := kn_kind k3
        exact ⟨k3, Prod.ext (e.1.trans k4.symm) (Prod.ext (e.2.trans k5.symm) k1)⟩
      · left
        refine (h.mem b).2 ⟨h1, ?_⟩
        simpa [e] using h2
    · rintro (hb | ⟨k3, rfl⟩)
      · obtain ⟨h1, h2⟩ := (h.mem b).1 hb
        exact ⟨h1, by rw [h2]; rfl⟩
      · obtain ⟨k4, k5, _⟩ := kn_kind k3
        refine ⟨⟨by unfold last; rw [k4, k5], k3⟩, ?_⟩
        simp [k4, k5]
  by_cases h0 : (kn (vers s) o i).1.2.2 = []
  · rw [if_pos h0]
    refine ⟨h.un, fun b => ?_⟩
    rw [key b]
    exact ⟨.inl, fun c => c.elim id fun c => absurd h0 c.1⟩
  · rw [if_neg h0]
    refine ⟨?_, fun b => ?_⟩
    · refine List.pairwise_append.2 ⟨h.un, List.pairwise_singleton _ _, fun a ha b hb => ?_⟩
      obtain rfl := List.mem_singleton.1 hb
      obtain ⟨k4, k5, _⟩ := kn_kind h0
      intro e
      have := ((h.mem a).1 ha).2
      rw [e.1, e.2, k4, k5, hl] at this
      cases this
    · rw [key b, List.mem_append, List.mem_singleton]
      exact ⟨fun c => c.elim .inl fun c => .inr ⟨h0, c⟩, fun c => c.elim .inl fun c => .inr c.2⟩
theorem there_i64 {s : St} (h : Ok s) {b : Bk} (hb : isThere s b) : I64 b.1 ∧ I64 b.2.1 := by
  obtain ⟨t, ht, e1, e2⟩ := there_mem hb
  obtain ⟨⟨h1, h2⟩, ⟨h3, h4⟩, _⟩ := may_iff.1 (all_may h ht)
  rw [← e1, ← e2]
  exact ⟨⟨by omega, by omega⟩, ⟨by omega, by omega⟩⟩
theorem Met.done {s : St} {left : Int → Int → Bool} {L L' : List Bk} (h : Met s left L) (hok : Ok s) (hn : ∀ o i, I64 o → I64 i → left o i = false) (hp : L'.Perm L) (hu : L'.Pairwise kLt) : AllOf s L' := by
  refine ⟨hu, fun b => (hp.mem_iff.trans (h.mem b)).trans ⟨fun c => c.1, fun c => ⟨c, ?_⟩⟩⟩
  obtain ⟨h1, h2⟩ := there_i64 hok c
  exact hn _ _ h1 h2
/-- A list of unlike kinds is no longer than one that has them all. -/
theorem unl_le : ∀ {L A : List Bk}, L.Pairwise unl → (∀ b ∈ L, ∃ t ∈ A, t.1 = b.1 ∧ t.2.1 = b.2.1) → L.length ≤ A.length
  | [], _, _, _ => Nat.zero_le _
  | b :: L, A, h, hs => by
    obtain ⟨p1, p2⟩ := List.pairwise_cons.1 h
    obtain ⟨t, ht, e1, e2⟩ := hs b (List.mem_cons_self ..)
    have := unl_le (L := L) (A := A.erase t) p2 fun c hc => by
      obtain ⟨u, hu, g1, g2⟩ := hs c (List.mem_cons_of_mem _ hc)
      refine ⟨u, (List.mem_erase_of_ne fun e => ?_).2 hu, g1, g2⟩
      subst e
      exact p1 c hc ⟨e1.symm.trans g1, e2.symm.trans g2⟩
    rw [List.length_erase_of_mem ht] at this
    have := List.length_pos_of_mem ht
    simp only [List.length_cons]
    omega
theorem Met.few {s : St} {left : Int → Int → Bool} {L : List Bk} (h : Met s left L) (hok : Ok s) : L.length ≤ 1000 := by
  have h0 := unl_le (A := s.2.2.1 ++ blks s.1) h.un fun b hb => there_mem ((h.mem b).1 hb).1
  have h1 := blks_length (l := s.1) fun q hq => hok.small q hq
  have h2 := hok.slots.2
  have h3 := hok.few
  rw [List.length_append] at h0
  omega
theorem AllOf.fits {s : St} {L : List Bk} (h : AllOf s L) (hok : Ok s) (hl : L.length ≤ 1000) : FitsB L := by
  refine ⟨by omega, fun b hb => ?_⟩
  have h1 := ((h.mem b).1 hb).1
  have h2 := last_may hok b.1 b.2.1
  rw [h1]
  omega

end Go.Proofs.Ytkpckadicjdieab

/-
  Plain mathematics: how many are there; what is put once more changes nothing; remainders.
-/
namespace Go.Proofs.Ytkpckadicjdieab
open Go.ChangeShapes Go.WideShapes Go.ChangeAt Go.RowKit

theorem AllOf.few {s : St} {L : List Bk} (h : AllOf s L) (hok : Ok s) : L.length ≤ 1000 := by
  have hu : L.Pairwise unl := h.up.imp fun {a b} hab => by
    unfold kLt at hab
    unfold unl
    omega
  have h0 := unl_le (A := s.2.2.1 ++ blks s.1) hu fun b hb => there_mem ((h.mem b).1 hb)
  have h1 := blks_length (l := s.1) fun q hq => hok.small q hq
  have h2 := hok.slots.2
  have h3 := hok.few
  rw [List.length_append] at h0
  omega
theorem there_may {s : St} (h : Ok s) {b : Bk} (hb : isThere s b) : mayB b = true := by
  obtain ⟨t, ht, e1, e2⟩ := there_mem hb
  obtain ⟨h1, h2, _⟩ := may_iff.1 (all_may h ht)
  have h3 := last_may h b.1 b.2.1
  rw [← hb.1] at h3
  exact may_iff.2 ⟨by rw [← e1]; exact h1, by rw [← e2]; exact h2, h3⟩
/-- What is there, put once more as it is, changes nothing that is got. -/
theorem again_last {s : St} {b : Bk} (h : pE s b = 0) (hb : isThere s b) (o i : Int) : (last (pS s b) o i).1.2.2 = (last s o i).1.2.2 := by
  rw [pS_last h]
  by_cases c : o = b.1 ∧ i = b.2.1
  · rw [if_pos c, c.1, c.2, hb.1]
  · rw [if_neg c]
theorem wrap64_in' (x : Int) (h : -9223372036854775808 ≤ x ∧ x ≤ 9223372036854775807) : wrap64 x = x := by
  unfold wrap64
  omega
theorem tmod_bounds (x : Int) (m : Nat) (hm : 0 < m) : -(m : Int) < x.tmod m ∧ x.tmod m < m := by
  constructor
  · have := Int.lt_tmod_of_pos x (show (0 : Int) < m by omega)
    omega
  · exact Int.tmod_lt_of_pos x (by omega)
theorem mod_pos (x : Int) (m : Nat) (hm : 0 < m) (hb : m ≤ 10000) : ∃ r : Nat, r < m ∧ (wrap64 (x.tmod m + m)).tmod m = (r : Int) := by
  obtain ⟨h1, h2⟩ := tmod_bounds x m hm
  have e : wrap64 (x.tmod m + m) = x.tmod m + m := wrap64_in' _ (by omega)
  rw [e, Int.tmod_eq_emod_of_nonneg (by omega)]
  have h3 := Int.emod_nonneg (x.tmod m + m) (show (m : Int) ≠ 0 by omega)
  have h4 := Int.emod_lt_of_pos (x.tmod m + m) (show (0 : Int) < m by omega)
  exact ⟨((x.tmod m + m) % m).toNat, by omega, by omega⟩

end Go.Proofs.Ytkpckadicjdieab

/-
  All blocks that are there, as the program tells them.
-/
namespace Go.Proofs.Ytkpckadicjdieab
open Go.RowKit

theorem BX.far {w0 w : World} {base : Nat} {v : Value} {L : List Bk} (h : BX w0 w base v L) {k : Nat} (hk : k < base) : some k ≠ v.ownBlock := by
  obtain ⟨vss, h1, _⟩ := h
  intro e
  have := (h1.lt k e.symm).1
  omega

set_option maxRecDepth 100000 in
set_option maxHeartbeats 8000000 in
theorem all_any (n0 : Nat) (us : List Value) (s : St) (w : World) (h : stN.lies n0 w us s) :
    Calls Try.prog 12 #[.agg us.toArray] w fun e w' => (∃ v' L, e = .returned (.tuple #[v', .int .i64 (okE s)]) ∧ bksN.owns w.heap.size w' [v'] L ∧ (Ok s → AllOf s L) ∧ (¬ Ok s → L = [])) ∧ Below w.heap.size w w' := by
  obtain ⟨a, c, b, d, e, f, rfl, hS, hH, hO, hN, m1, m2, m3⟩ := st_viewN h
  obtain ⟨post, hpost⟩ : ∃ post : Ending → World → Prop, post = fun e w' => (∃ v' L, e = .returned (.tuple #[v', .int .i64 (okE s)]) ∧ bksN.owns w.heap.size w' [v'] L ∧ (Ok s → AllOf s L) ∧ (¬ Ok s → L = [])) ∧ Below w.heap.size w w' := ⟨_, rfl⟩
  have HNO : Hid (∀ w', ¬ Ok s → Below w.heap.size w w' → post (.returned (.tuple #[.slice none 0 0, .int .i64 9])) w') := fun w' h1 h3 => by
    rw [hpost]
    exact ⟨⟨_, [], by rw [okE_bad h1], Shape.list_nil bkN 29 Try.underlying29 cells29 _ _, fun h => absurd h h1, fun _ => rfl⟩, h3⟩
  have HYES : Hid (∀ v' L w', Ok s → bksN.owns w.heap.size w' [v'] L → AllOf s L → Below w.heap.size w w' → post (.returned (.tuple #[v', .int .i64 0])) w') := fun v' L w' h1 h2 h4 h3 => by
    rw [hpost]
    exact ⟨⟨v', L, by rw [okE_ok h1], h2, fun _ => h4, fun h => absurd h1 h⟩, h3⟩
  rw [← hpost]
  clear hpost
  obtain ⟨n, hn⟩ : ∃ n, n = s.1.length := ⟨_, rfl⟩
  obtain ⟨nh, hnh⟩ : ∃ n, n = s.2.1.length := ⟨_, rfl⟩
  obtain ⟨no, hno⟩ : ∃ n, n = s.2.2.1.length := ⟨_, rfl⟩
  obtain ⟨nx, hnx⟩ : ∃ n, n = s.2.2.2 := ⟨_, rfl⟩
  rw [← hn, ← hnh, ← hno, ← hnx] at h ⊢
  obtain ⟨W, hW⟩ : ∃ W, W = w.alloc (.cells #[.slice a n c, .slice b nh d, .slice e no f, .int .i64 nx] 31) := ⟨_, rfl⟩
  have hbW : Below w.heap.size w W := by rw [hW]; exact (Below.refl _ w).alloc (Nat.le_refl _) _
  have hB1 : Box W w.heap.size 31 #[.slice a n c, .slice b nh d, .slice e no f, .int .i64 nx] := by rw [hW]; exact Box.new _ _ _
  have HC := checkL_any n0 [.slice a n c, .slice b nh d, .slice e no f, .int .i64 nx] s W (stN.below h hbW)
  have HW : Hid (Below w.heap.size w W ∧ Box W w.heap.size 31 #[.slice a n c, .slice b nh d, .slice e no f, .int .i64 nx] ∧ stN.lies n0 w [.slice a n c, .slice b nh d, .slice e no f, .int .i64 nx] s) := ⟨hbW, hB1, h⟩
  obtain ⟨g0, g1, g2, g3, -⟩ := hB1.four
  rw [hW] at g0 g1 g2 g3
  clear h hS hH hO hN m1 m2 m3 hbW hB1 hn hnh hno hnx
  go_enter Try.func12, Try.ntmps12
  go_wp2_with fail
  rw [← hW]
  clear hW g0 g1 g2 g3
  refine HC.mono ?_
  rintro e1 w1 ⟨rfl, hb1⟩
  have HB1 : Hid (Below w.heap.size w w1) := below_any HW.out.1 hb1
  obtain ⟨q0, q1, q2, q3, -⟩ := (HW.out.2.1.below hb1 HW.out.2.1.lt).four
  clear hb1 HC
  rcases okE_cases s with ⟨hk, hok⟩ | ⟨hk, hok⟩
  case inr =>
    rw [hk]
    have HE : Hid (post (.returned (.tuple #[.slice none 0 0, .int .i64 9])) w1) := HNO.out w1 hok HB1.out
    clear hk hok
    go_wp2
    exact HE.out
  case inl =>
    rw [hk]
    have HOK : Hid (Ok s) := hok
    have HCL := last_any n0 [.slice a n c, .slice b nh d, .slice e no f, .int .i64 nx] s w1 (stN.below HW.out.2.2 HB1.out) hok
    clear hk hok
    go_wp2_with fail
    refine HCL.mono ?_
    rintro e2 w2 ⟨⟨bb, rfl, hLV, hbb⟩, hb2⟩
    obtain ⟨w3, cnt0, hrange, hLG, hg3, hs3⟩ := hLV.range
    have hb3 : Below w1.heap.size w1 w3 := hb2.grown hg3 hb2.size (fun _ h => by cases h)
    have HST : Hid (LG w1 w3 bb w2.heap.size (vers s) (fun o i => decide (0 < (kn (vers s) o i).2.2.2)) cnt0 ∧ Below w1.heap.size w1 w3 ∧ w3.heap.size = w2.heap.size + 1 ∧ w1.heap.size ≤ bb ∧ bb < w2.heap.size ∧ w1.heap.size ≤ w2.heap.size) := ⟨hLG, hb3, hs3, hbb, hLV.lt, hb2.size⟩
    clear hLV hbb hb2 hLG hg3 hs3 hb3 HCL q0 q1 q2 q3
    go_wp2
    go_loopw [5] (fun v wr => ∃ (left : Int → Int → Bool) (cnt : Nat) (L : List Bk), Hid (LG w1 wr bb w2.heap.size (vers s) left cnt ∧ BX w1 wr (w2.heap.size + 1) v L ∧ Met s left L ∧ Below w1.heap.size w1 wr ∧ w2.heap.size + 1 ≤ wr.heap.size)) (fun _ wr => wr.rangeLeft bb w2.heap.size)
    case atStart => exact ⟨_, cnt0, [], HST.out.1, BX.nil _ _ _, Met.start s, HST.out.2.1, by have := HST.out.2.2.1; omega⟩
    case round =>
      obtain ⟨left, cnt, L, HJ⟩ := hrel
      have HLEN : Hid (L.length ≤ 1000) := HJ.out.2.2.1.few HOK.out
      have hle := HJ.out.1.left_eq
      rcases HJ.out.1.next 0 with ⟨hl, hrun⟩ | ⟨o, i, kvv, w4, cnt4, ho, hi, hlo, hkv, hrun, hLG4, hlt, hg4, hs4, hen⟩
      · have hnx : ∀ ty, (Instr.next (.pointer (some ⟨w2.heap.size, 0, none⟩)) false ty).run Try.prog wr = .ok (.tuple #[.bool false]) wr := fun _ => hrun
        obtain ⟨av, cv, rfl⟩ := HJ.out.2.1.shape
        have HS := sorted_any ((HJ.out.2.1).weaken (by have := HST.out.2.2.2.2.2; omega : w1.heap.size ≤ w2.heap.size + 1)) HJ.out.2.2.2.1 HLEN.out HJ.out.2.2.1.un
        have HL : Hid (∀ L', L'.Perm L → L'.Pairwise kLt → AllOf s L') := fun L' hp hu => HJ.out.2.2.1.done HOK.out hl hp hu
        obtain ⟨ml, hml⟩ : ∃ m, m = L.length := ⟨_, rfl⟩
        rw [← hml] at HS ⊢
        have HML : Hid (ml = L.length) := hml
        clear hl hrun hml
        go_wp2_with fail
        refine HS.mono ?_
        rintro e5 w5 ⟨rfl, ⟨L', hp, hu, hl5⟩, hb5⟩
        have hall := HL.out L' hp hu
        have HCB := cblocks_any 0 _ L' w5 hl5 (hall.fits HOK.out (by rw [hp.length_eq]; exact HLEN.out))
        clear HS hp hu hl5
        dsimp only
        go_wp2_with fail
        refine HCB.mono ?_
        rintro e6 w6 ⟨⟨v6, rfl, ho6⟩, hb6⟩
        have HE : Hid (post (.returned (.tuple #[v6, .int .i64 0])) w6) := HYES.out v6 L' w6 HOK.out (bksN.oweaken ho6 (by have := HB1.out.size; have := hb5.size; omega)) hall (below_any (below_any HB1.out hb5) hb6)
        clear ho6 hb6 hb5 hall HCB
        go_wp2
        exact HE.out
      · have hnx : ∀ ty, (Instr.next (.pointer (some ⟨w2.heap.size, 0, none⟩)) false ty).run Try.prog wr = .ok (.tuple #[.bool true, kv o i, kvv]) w4 := fun _ => hrun
        obtain ⟨ka, kc, hkv0, hKA, hko, hki, _⟩ := hkv
        have HMT : Hid (Met s (fun o' i' => left o' i' && !decide (o' = o ∧ i' = i)) (if (kn (vers s) o i).1.2.2 = [] then L else L ++ [(kn (vers s) o i).1])) := HJ.out.2.2.1.step hlo
        obtain ⟨⟨kb, sq, pl, ct⟩, hkk⟩ : ∃ y, y = kn (vers s) o i := ⟨_, rfl⟩
        rw [← hkk] at hkv0 hKA hko hki HMT
        simp only at hkv0 hKA hko hki HMT
        obtain ⟨m, hm⟩ : ∃ m, m = kb.2.2.length := ⟨_, rfl⟩
        rw [← hm] at hkv0 hKA
        subst hkv0
        have HM : Hid (m = kb.2.2.length) := hm
        have HUS : Hid (bkN.lies 0 w1 [.int .i64 kb.1, .int .i64 kb.2.1, .slice ka m kc] kb) := bk_mk (p := kb) hKA hko hki
        obtain ⟨lf, hlf⟩ : ∃ lf, lf = (fun o' i' => left o' i' && !decide (o' = o ∧ i' = i)) := ⟨_, rfl⟩
        rw [← hlf] at HMT hLG4
        obtain ⟨V, hV⟩ : ∃ V, V = w4.alloc (.cells #[.int .i64 kb.1, .int .i64 kb.2.1, .slice ka m kc, .int .i64 sq, .int .i64 (pl : Nat), .int .i64 (ct : Nat)] 82) := ⟨_, rfl⟩
        have hb4 : Below w1.heap.size w1 w4 := HJ.out.2.2.2.1.grown hg4 HJ.out.2.2.2.1.size (fun i hi => by cases hi; exact HST.out.2.2.2.2.2)
        obtain ⟨av, cv, rfl⟩ := HJ.out.2.1.shape
        have hx4 : BX w1 w4 (w2.heap.size + 1) (.slice av L.length cv) L := by
          obtain ⟨vss, h1, h2⟩ := HJ.out.2.1
          exact ⟨vss, own_same h1 (fun i hi hlt' => hg4.block i hlt' (fun e => by cases e; omega)), h2⟩
        have hbV : Below w4.heap.size w4 V := by rw [hV]; exact (Below.refl _ _).alloc (Nat.le_refl _) _
        have hxV : Box V w4.heap.size 82 #[.int .i64 kb.1, .int .i64 kb.2.1, .slice ka m kc, .int .i64 sq, .int .i64 (pl : Nat), .int .i64 (ct : Nat)] := by rw [hV]; exact Box.new _ _ _
        have HG := isGone_any kb.1 kb.2.1 ka m kc V
        have HV : Hid (∀ U, Below V.heap.size V U → LG w1 U bb w2.heap.size (vers s) lf cnt4 ∧ BX w1 U (w2.heap.size + 1) (.slice av L.length cv) L ∧ Below w1.heap.size w1 U ∧ w2.heap.size + 1 ≤ U.heap.size ∧ Box U w4.heap.size 82 #[.int .i64 kb.1, .int .i64 kb.2.1, .slice ka m kc, .int .i64 sq, .int .i64 (pl : Nat), .int .i64 (ct : Nat)]) := fun U hU => by
          have h1 : Below w4.heap.size w4 U := hbV.trans (hU.mono hbV.size)
          exact ⟨hLG4.below h1, hx4.below h1, below_any hb4 h1, by have := h1.size; have := HJ.out.2.2.2.2; omega, hxV.below hU hxV.lt⟩
        have HLE : Hid (wr.rangeLeft bb w2.heap.size = cnt ∧ cnt4 < cnt) := ⟨hle, hlt⟩
        obtain ⟨x0, x1, x2, x3, x4, x5⟩ := hxV.six
        clear hrun hKA hko hki hkk hm hlf hLG4 hlt hg4 hs4 hb4 hx4 hbV hxV hle ho hi hlo
        go_upto_region 8 with fail
        rw [← hV]
        clear hV hen hnx
        by_cases h0 : m = 0
        · have HEM : Hid (kb.2.2 = []) := List.eq_nil_of_length_eq_zero (by rw [← HM.out]; exact h0)
          rw [decide_eq_true h0] at HG
          clear h0
          go_wp2_with fail
          refine HG.mono ?_
          rintro e5 w5 ⟨rfl, hb5⟩
          have HF := HV.out w5 hb5
          clear hb5 HG x0 x1 x2 x3 x4 x5
          dsimp only
          go_wp2
          go_roundw
          case rel =>
            have := HMT.out
            rw [if_pos HEM.out] at this
            exact ⟨lf, cnt4, L, HF.1, HF.2.1, this, HF.2.2.1, HF.2.2.2.1⟩
          case measure => rw [HF.1.left_eq, HLE.out.1]; exact HLE.out.2
        · have HEM : Hid (kb.2.2 ≠ []) := fun c => h0 (by rw [HM.out, c]; rfl)
          rw [decide_eq_false h0] at HG
          clear h0
          go_wp2_with fail
          refine HG.mono ?_
          rintro e5 w5 ⟨rfl, hb5⟩
          obtain ⟨f1, f2, f3, f4, f5⟩ := HV.out w5 hb5
          obtain ⟨y0, y1, y2, y3, y4, y5⟩ := f5.six
          obtain ⟨gg, cap3, w6, hrun, hbx6, hg6⟩ := f2.push HUS.out f4 (by have := HLEN.out; omega)
          have HF : Hid (LG w1 w6 bb w2.heap.size (vers s) lf cnt4 ∧ BX w1 w6 (w2.heap.size + 1) (.slice (some ⟨gg, 0, none⟩) (L.length + 1) cap3) (L ++ [kb]) ∧ Met s lf (L ++ [kb]) ∧ Below w1.heap.size w1 w6 ∧ w2.heap.size + 1 ≤ w6.heap.size) := by
            have h9 := HMT.out
            rw [if_neg HEM.out] at h9
            have h8 := HST.out.2.2.2.2
            exact ⟨f1.kept hg6 (f2.far (by omega)) (f2.far (by omega)), hbx6, h9, (f2.weaken (by omega : w1.heap.size ≤ w2.heap.size + 1)).grow hg6 f3 f3.size, Nat.le_trans f4 hg6.size⟩
          clear hb5 HG x0 x1 x2 x3 x4 x5 f1 f2 f3 f4 f5 hbx6 hg6
          dsimp only
          go_wp2_with (at_builtin; refine list_app rfl _ _ 29 rfl rfl rfl rfl hrun ?_)
          go_roundw
          case rel => exact ⟨lf, cnt4, _, HF.out⟩
          case measure => rw [HF.out.1.left_eq, HLE.out.1]; exact HLE.out.2

end Go.Proofs.Ytkpckadicjdieab
