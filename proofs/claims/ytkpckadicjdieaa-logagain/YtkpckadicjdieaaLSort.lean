/-
  What the library's sort makes of a row of blocks by their kinds.
-/
import Derived.Test.YtkpckadicjdieaaSortLaid
import Derived.Test.YtkpckadicjdieaaLCmp
namespace Go.Proofs.Ytkpckadicjdieaa
open Go.Shelf Go.RowKit Go.Lib Go.Sort

/-- A block's three cells: its two numbers, and where its octets lie. -/
abbrev El := Int × Int × Option Addr × Nat × Nat
def encE (x : El) : List Value := [.int .i64 x.1, .int .i64 x.2.1, .slice x.2.2.1 x.2.2.2.1 x.2.2.2.2]
def cmpE (x y : El) : Int := if cmpI x.1 y.1 ≠ 0 then cmpI x.1 y.1 else cmpI x.2.1 y.2.1
theorem cmpE_lt {x y : El} : cmpE x y < 0 ↔ x.1 < y.1 ∨ (x.1 = y.1 ∧ x.2.1 < y.2.1) := by
  have := @cmpK_lt (x.1, x.2.1, []) (y.1, y.2.1, [])
  exact this

set_option maxRecDepth 100000 in
set_option maxHeartbeats 2000000 in
theorem closure_any (x y : El) (W : World) : Calls Try.prog 52 #[.agg (encE x).toArray, .agg (encE y).toArray] W fun e w' => e = .returned (.int .i64 (cmpE x y)) ∧ ∃ q os', w' = grow (W.drewN q) os' := by
  obtain ⟨x1, x2, xa, xm, xc⟩ := x
  obtain ⟨y1, y2, ya, ym, yc⟩ := y
  unfold encE cmpE
  simp only
  have HC1 := compare_any x1 y1
  have HC2 := compare_any x2 y2
  obtain ⟨r1, hr1⟩ : ∃ r, r = cmpI x1 y1 := ⟨_, rfl⟩
  obtain ⟨r2, hr2⟩ : ∃ r, r = cmpI x2 y2 := ⟨_, rfl⟩
  rw [← hr1] at HC1 ⊢
  rw [← hr2] at HC2 ⊢
  obtain ⟨post, hpost⟩ : ∃ post : Ending → World → Prop, post = fun e w' => e = .returned (.int .i64 (if r1 ≠ 0 then r1 else r2)) ∧ ∃ q os', w' = grow (W.drewN q) os' := ⟨_, rfl⟩
  obtain ⟨r3, hr3⟩ : ∃ r, r = if r1 ≠ 0 then r1 else r2 := ⟨_, rfl⟩
  have HPo : Hid (∀ w' q os', w' = grow (W.drewN q) os' → post (.returned (.int .i64 r3)) w') := fun w' q os' h => by rw [hpost, hr3]; exact ⟨rfl, q, os', h⟩
  have HOr : Hid (∀ g w, Box w g 3 #[.int .i64 r1, .int .i64 r2] → Calls Try.prog 53 #[.slice (some ⟨g, 0, none⟩) 2 2] w fun e w' => e = .returned (.int .i64 r3) ∧ w = w') := fun g w hB => by rw [hr3]; exact or_any g r1 r2 w hB
  rw [← hpost]
  clear hpost hr1 hr2 hr3
  obtain ⟨V, hV⟩ : ∃ V, V = (W.alloc (.cells #[.int .i64 x1, .int .i64 x2, .slice xa xm xc] 36)).alloc (.cells #[.int .i64 y1, .int .i64 y2, .slice ya ym yc] 36) := ⟨_, rfl⟩
  have hB1 : Box V W.heap.size 36 #[.int .i64 x1, .int .i64 x2, .slice xa xm xc] := by rw [hV]; exact (Box.new _ _ _).alloc _
  have hB2 : Box V (W.heap.size + 1) 36 #[.int .i64 y1, .int .i64 y2, .slice ya ym yc] := by
    rw [hV]
    have := Box.new (W.alloc (.cells #[.int .i64 x1, .int .i64 x2, .slice xa xm xc] 36)) 36 #[.int .i64 y1, .int .i64 y2, .slice ya ym yc]
    rwa [World.size_alloc] at this
  have HV : Hid (∀ c, V.drew.alloc c = (((W.drewN 1).alloc (.cells #[.int .i64 x1, .int .i64 x2, .slice xa xm xc] 36)).alloc (.cells #[.int .i64 y1, .int .i64 y2, .slice ya ym yc] 36)).alloc c) := fun c => by rw [hV]; rfl
  have HS : Hid (∀ U, Below V.heap.size V U → U.cell? ⟨W.heap.size, 0, none⟩ = some (.int .i64 x1) ∧ U.cell? ⟨W.heap.size, 1, none⟩ = some (.int .i64 x2) ∧ U.cell? ⟨W.heap.size + 1, 0, none⟩ = some (.int .i64 y1) ∧ U.cell? ⟨W.heap.size + 1, 1, none⟩ = some (.int .i64 y2)) := fun U hU => by
    have h1 := (hB1.below hU hB1.lt).three
    have h2 := (hB2.below hU hB2.lt).three
    exact ⟨h1.1, h1.2.1, h2.1, h2.2.1⟩
  clear hB1 hB2
  go_enter Try.func52, Try.ntmps52
  go_upto_region 1 with fail
  rw [← hV]
  clear hV
  refine AnyBut.begin (fun U => U.cell? ⟨W.heap.size, 0, none⟩ = some (.int .i64 x1) ∧ U.cell? ⟨W.heap.size, 1, none⟩ = some (.int .i64 x2) ∧ U.cell? ⟨W.heap.size + 1, 0, none⟩ = some (.int .i64 y1) ∧ U.cell? ⟨W.heap.size + 1, 1, none⟩ = some (.int .i64 y2)) 1000 (by kernel_rfl) ?_
  have hSS := HS.out V.drew (Below.refl _ V).drew
  refine tx 0 5 hSS ?_
  simp only [ua, ub, uc, ud]
  refine tx 1 6 hSS ?_
  simp only [ua, ub, uc, ud]
  refine tx 2 7 hSS ?_
  simp only [ua, ub, uc, ud]
  refine tx 3 8 hSS ?_
  simp only [ua, ub, uc, ud]
  refine tx 5 10 hSS ?_
  simp only [ua, ub, uc, ud]
  refine tx 6 11 hSS ?_
  simp only [ua, ub, uc, ud]
  refine tx 7 12 hSS ?_
  simp only [ua, ub, uc, ud]
  refine tx 8 13 hSS ?_
  simp only [ua, ub, uc, ud]
  refine AnyBut.step (i := 4) (by kernel_rfl) rfl (fun K hK => ?_)
  go_simp
  refine Calls.mono (HC1 _) ?_
  rintro e1 w1 ⟨rfl, rfl⟩
  dsimp only
  refine hK.out _ _ hSS ?_
  clear hK
  refine AnyBut.step (i := 9) (by kernel_rfl) rfl (fun K hK => ?_)
  go_simp
  refine Calls.mono (HC2 _) ?_
  rintro e1 w1 ⟨rfl, rfl⟩
  dsimp only
  refine hK.out _ _ hSS ?_
  clear hK
  refine AnyBut.step (i := 10) (by kernel_rfl) rfl (fun K hK => ?_)
  go_simp
  obtain ⟨Z, hZ⟩ : ∃ Z, Z = (V.alloc (.cells #[.int .i64 r1, .int .i64 r2] 3)).drew := ⟨_, rfl⟩
  have hbZ : Below V.heap.size V Z := by rw [hZ]; exact ((Below.refl _ V).alloc (Nat.le_refl _) _).drew
  have hBZ : Box Z V.heap.size 3 #[.int .i64 r1, .int .i64 r2] := by rw [hZ]; exact Box.drew (Box.new _ _ _)
  have HZ : Hid (Z = V.drew.alloc (.cells #[.int .i64 r1, .int .i64 r2] 3)) := by rw [hZ]; rfl
  rw [← hZ]
  refine hK.out _ _ (HS.out Z hbZ) ?_
  clear hK hZ hSS
  have hSS := HS.out Z hbZ
  have HO := HOr.out V.heap.size Z hBZ
  refine AnyBut.step (i := 11) (by kernel_rfl) rfl (fun K hK => ?_)
  go_simp
  refine Calls.mono HO ?_
  rintro e1 w1 ⟨rfl, rfl⟩
  dsimp only
  refine hK.out _ _ hSS ?_
  clear hK
  refine tx 12 4 hSS ?_
  simp only [ua, ub, uc, ud]
  refine AnyBut.done (by kernel_rfl) ?_
  have HE : Hid (post (.returned (.int .i64 r3)) Z) := HPo.out Z 1 _ (by rw [HZ.out, HV.out, alloc_eq_grow, alloc_eq_grow, alloc_eq_grow, grow_grow, grow_grow])
  clear hSS hbZ hBZ HO
  go_wp2
  exact HE.out

theorem lt_key (x y : El) : ltOf cmpE x y = decide (x.1 < y.1 ∨ (x.1 = y.1 ∧ x.2.1 < y.2.1)) := by
  unfold ltOf
  have := @cmpE_lt x y
  by_cases h : cmpE x y < 0
  · rw [decide_eq_true h, decide_eq_true (this.1 h)]
  · rw [decide_eq_false h, decide_eq_false (fun c => h (this.2 c))]
theorem swo_key : SWO (ltOf cmpE) where
  irrefl x := by rw [lt_key]; simp
  trans x y z h1 h2 := by rw [lt_key] at *; simp at *; omega
  ntrans x y z h1 h2 := by rw [lt_key] at *; simp at *; omega

def cellsE (G : List El) : List Value := (G.map encE).flatten

theorem flatK_cells (G : List El) : flatK encE 3 G.toArray = (cellsE G).toArray := by
  have hs : ∀ us ∈ G.map encE, us.length = 3 := fun us hus => by obtain ⟨x, _, rfl⟩ := List.mem_map.1 hus; rfl
  have hl : (cellsE G).length = G.length * 3 := by
    unfold cellsE
    rw [flat_length hs, List.length_map]
  refine ext_get! (by simp [hl]) fun t ht => ?_
  have ht' : t < G.length * 3 := by simpa using ht
  rw [get_flatK _ _ _ _ (by simpa using ht')]
  have hd : t / 3 < G.length := by omega
  have h1 : (G.map encE)[t / 3]? = some (encE G[t / 3]) := by rw [List.getElem?_map, List.getElem?_eq_getElem hd]; rfl
  have h2 : (encE G[t / 3])[t % 3]? = some (encE G[t / 3])[t % 3]! := by
    have : t % 3 < (encE G[t / 3]).length := by show t % 3 < 3; omega
    rw [List.getElem?_eq_getElem this, List.getElem!_eq_getElem?_getD, List.getElem?_eq_getElem this]
    rfl
  have h3 := flat_get hs h1 h2
  rw [show t / 3 * 3 + t % 3 = t by omega] at h3
  have h4 : (cellsE G)[t]? = some (encE G[t / 3])[t % 3]! := h3
  rw [show G.toArray[t / 3]! = G[t / 3] by simp [hd]]
  simp [h4]

theorem sort_other (w : World) (blk off m : Nat) (dk : Array El) (os : Array Obj) : w.grownBy (sortWorldK encE 3 w blk off m dk os) (some blk) := by
  refine ⟨rfl, rfl, rfl, size_sortWorldK_c _ _ _ _ _ _ _ _, fun i hi hne => ?_⟩
  have hne' : i ≠ blk := fun e => hne (by rw [e])
  unfold sortWorldK grow putRowK putRow
  have hsz : i < (mapBlock (Sort.ahead w m) blk (putCells id off (flatK encE 3 dk))).heap.size := by simpa [mapBlock, Sort.ahead] using hi
  rw [Array.getElem?_append_left hsz]
  simp [mapBlock, Sort.ahead, Array.getElem?_modify, Ne.symm hne']

set_option maxHeartbeats 1000000 in
theorem sort_any (base : Nat) (v : Value) (G : List El) (w : World) (hown : w.ownsRow base 36 3 v G.length (cellsE G)) (hlen : G.length ≤ 1000) :
    Calls Try.prog 51 #[v, .func (.func 52) #[] #[]] w fun e w' => e = .returned (.tuple #[]) ∧ (∃ G' : List El, G'.Perm G ∧ G'.Pairwise (fun a b => ¬ cmpE b a < 0) ∧ Cells base w' 3 v G.length (cellsE G')) ∧ w.grownBy w' v.ownBlock := by
  rcases id hown.2 with ⟨rfl, h0⟩ | ⟨g, cap, cur, rfl, hb, hg, hc1, hc2, hc3, hc4⟩
  · obtain rfl := List.eq_nil_of_length_eq_zero h0
    have := AnyF.slices_SortFunc_none sortBk none 0 (.func (.func 52) #[] #[]) w
    change Calls Try.prog 51 _ _ _ at this
    refine this.mono ?_
    rintro e w' ⟨rfl, rfl⟩
    exact ⟨rfl, ⟨[], List.Perm.refl _, List.Pairwise.nil, .own hown⟩, ⟨rfl, rfl, rfl, Nat.le_refl _, fun _ _ _ => rfl⟩⟩
  · have eg : ∀ args w, (callFunc 52 args).run Try.prog w = .ok (.enter 52 args) w := enters_of Try.func52 (by kernel_rfl) rfl
    have hlt : g < w.heap.size := (Array.getElem?_eq_some_iff.1 hg).1
    have hH : HoldsK encE 3 w g 0 G.toArray := by
      unfold HoldsK
      rw [flatK_cells]
      intro j hj
      have hj' : j < (cellsE G).length := by simpa using hj
      refine ⟨?_, ?_⟩
      · have := hown.cells (g := g) rfl j (cellsE G)[j] (by rw [List.getElem?_eq_getElem hj'])
        rw [add_plain] at this
        simpa [hj'] using this
      · have := hown.frozenAt j
        simpa using this
    have hcon := AnyQ.slices_SortFunc sortBk 3 Try.isAgg36 Try.sizeOf36 encE (fun _ => rfl) (fun x v hv => by simp [encE] at hv; rcases hv with rfl | rfl | rfl <;> rfl) cmpE swo_key 52 #[] g 0 cap G.toArray w eg (fun _ _ _ _ x y => closure_any x y _) hH hlt (by simp; omega)
    change Calls Try.prog 51 _ _ _ at hcon
    rw [List.size_toArray] at hcon
    refine hcon.mono ?_
    rintro e w' ⟨rfl, d', n, os, hp, hs, rfl⟩
    have hsz : d'.size = G.length := by simpa using hp.1
    have hH' := holdsK_sortWorldK_c encE 3 w g 0 G.toArray d' n os hH hlt (by simpa using hsz)
    refine ⟨rfl, ⟨d'.toList, ?_, ?_, ?_⟩, sort_other _ _ _ _ _ _⟩
    · have := hp.2.2
      have e : d'.toList.take G.length = d'.toList := List.take_of_length_le (by simp [hsz])
      simp at this
      rwa [e] at this
    · rw [List.pairwise_iff_getElem]
      intro i j hi hj hij
      have hi' : i < d'.size := by simpa using hi
      have hj' : j < d'.size := by simpa using hj
      have := hs i j (Nat.zero_le _) hij (by omega)
      rw [getElem!_pos d' i hi', getElem!_pos d' j hj'] at this
      unfold ltOf at this
      simpa using this
    · refine ⟨?_, .inr ⟨_, cap, rfl, hc1, by omega, hb, fun i u hu => ?_⟩⟩
      · unfold cellsE
        rw [flat_length (size := 3) (fun us hus => by obtain ⟨x, _, rfl⟩ := List.mem_map.1 hus; rfl)]
        simp [hsz]
      · rw [add_plain, Nat.zero_add]
        unfold HoldsK at hH'
        rw [show d' = d'.toList.toArray by simp, flatK_cells] at hH'
        obtain ⟨hlt', hget⟩ := List.getElem?_eq_some_iff.1 hu
        have := (hH' i (by simpa using hlt')).1
        rw [Nat.zero_add] at this
        rw [Array.toArray_toList] at this
        rw [this]
        simp [hlt', hget]


end Go.Proofs.Ytkpckadicjdieaa
