/-
  What the comparison of gather answers, and what the library's sort makes of a row of blocks by it.
-/
import Derived.Test.YtopcefhncildnaaGreatDoorU01
import Derived.Test.YtopcefhncildnaaGreatDoorU18
set_option maxRecDepth 100000
set_option maxHeartbeats 1000000
namespace Go.Proofs.YtopcefhncildnaaGreatDoor.F
open Go.Shelf Go.RowKit Go.Lib Go.Sort
def encB (x : Int × Nat) : List Value := [.int .i64 x.1, rowV x.2]
theorem closure_any (x y : Int × Nat) (W : World) : Calls Tryz.prog 170 #[.agg (encB x).toArray, .agg (encB y).toArray] W fun e w' => e = .returned (.int .i64 (cmpI x.1 y.1)) ∧ ∃ q os', w' = grow (W.drewN q) os' := by
 have HC := fun W' => compare_any x.1 y.1 W'
 generalize cmpI x.1 y.1 = r at HC ⊢
 unfold encB rowV
 go_enter Tryz.func170, Tryz.ntmps170
 go_wp2_with (go_at_call 156; refine (HC _).mono ?_; rintro e w' ⟨rfl, rfl⟩)
 go_ret
 exact ⟨rfl, 0, _, by rw [alloc_eq_grow, alloc_eq_grow, grow_grow]; rfl⟩
theorem lt_key (x y : Int × Nat) : ltOf (fun x y : Int × Nat => cmpI x.1 y.1) x y = decide (x.1 < y.1) := by
 unfold ltOf cmpI
 by_cases h1 : x.1 < y.1
 · simp [h1]
 · by_cases h2 : y.1 < x.1 <;> simp [h1, h2]
theorem swo_key : SWO (ltOf fun x y : Int × Nat => cmpI x.1 y.1) where
 irrefl x := by rw [lt_key]; simp
 trans x y z h1 h2 := by rw [lt_key] at *; simp at *; omega
 ntrans x y z h1 h2 := by rw [lt_key] at *; simp at *; omega
def cellsB (G : List (Int × Nat)) : List Value := (G.map encB).flatten
theorem flatK_cells (G : List (Int × Nat)) : flatK encB 2 G.toArray = (cellsB G).toArray := by
 have hs : ∀ us ∈ G.map encB, us.length = 2 := fun us hus => by obtain ⟨x, _, rfl⟩ := List.mem_map.1 hus; rfl
 have hl : (cellsB G).length = G.length * 2 := by
   unfold cellsB
   rw [flat_length hs, List.length_map]
 refine ext_get! (by simp [hl]) fun t ht => ?_
 have ht' : t < G.length * 2 := by simpa using ht
 rw [get_flatK _ _ _ _ (by simpa using ht')]
 have hd : t / 2 < G.length := by omega
 have h1 : (G.map encB)[t / 2]? = some (encB G[t / 2]) := by rw [List.getElem?_map, List.getElem?_eq_getElem hd]; rfl
 have h2 : (encB G[t / 2])[t % 2]? = some (encB G[t / 2])[t % 2]! := by (
 have : t % 2 < (encB G[t / 2]).length := by show t % 2 < 2; omega
 rw [List.getElem?_eq_getElem this, List.getElem!_eq_getElem?_getD, List.getElem?_eq_getElem this]
 rfl)
 have h3 := flat_get hs h1 h2
 rw [show t / 2 * 2 + t % 2 = t by omega] at h3
 have h4 : (cellsB G)[t]? = some (encB G[t / 2])[t % 2]! := h3
 rw [show G.toArray[t / 2]! = G[t / 2] by simp [hd]]
 simp [h4]
theorem sort_other (w : World) (blk off m : Nat) (dk : Array (Int × Nat)) (os : Array Obj) : w.grownBy (sortWorldK encB 2 w blk off m dk os) (some blk) := by
 refine ⟨rfl, rfl, rfl, size_sortWorldK_c _ _ _ _ _ _ _ _, fun i hi hne => ?_⟩
 have hne' : i ≠ blk := fun e => hne (by rw [e])
 unfold sortWorldK grow putRowK putRow
 have hsz : i < (mapBlock (Sort.ahead w m) blk (putCells id off (flatK encB 2 dk))).heap.size := by simpa [mapBlock, Sort.ahead] using hi
 rw [Array.getElem?_append_left hsz]
 simp [mapBlock, Sort.ahead, Array.getElem?_modify, Ne.symm hne']
theorem sort_any (base : Nat) (v : Value) (G : List (Int × Nat)) (w : World) (hown : w.ownsRow base 51 2 v G.length (cellsB G)) (hlen : G.length ≤ 1000) :
   Calls Tryz.prog 169 #[v, .func (.func 170) #[] #[]] w fun e w' => e = .returned (.tuple #[]) ∧ (∃ G' : List (Int × Nat), G'.Perm G ∧ G'.Pairwise (fun a b => a.1 ≤ b.1) ∧ Cells base w' 2 v G.length (cellsB G')) ∧ w.grownBy w' v.ownBlock := by
 rcases id hown.2 with ⟨rfl, h0⟩ | ⟨g, cap, cur, rfl, hb, hg, hc1, hc2, hc3, hc4⟩
 · obtain rfl := List.eq_nil_of_length_eq_zero h0
   have := AnyF.slices_SortFunc_none sortBk none 0 (.func (.func 170) #[] #[]) w
   change Calls Tryz.prog 169 _ _ _ at this
   refine this.mono ?_
   rintro e w' ⟨rfl, rfl⟩
   exact ⟨rfl, ⟨[], List.Perm.refl _, List.Pairwise.nil, .own hown⟩, ⟨rfl, rfl, rfl, Nat.le_refl _, fun _ _ _ => rfl⟩⟩
 · have eg : ∀ args w, (callFunc 170 args).run Tryz.prog w = .ok (.enter 170 args) w := enters_of Tryz.func170 (by kernel_rfl) rfl
   have hlt : g < w.heap.size := (Array.getElem?_eq_some_iff.1 hg).1
   have hH : HoldsK encB 2 w g 0 G.toArray := by (
 unfold HoldsK
 rw [flatK_cells]
 intro j hj
 have hj' : j < (cellsB G).length := by simpa using hj
 refine ⟨?_, ?_⟩
 · have := hown.cells (g := g) rfl j (cellsB G)[j] (by rw [List.getElem?_eq_getElem hj'])
   rw [add_plain] at this
   simpa [hj'] using this
 · have := hown.frozenAt j
   simpa using this)
   have hcon := AnyQ.slices_SortFunc sortBk 2 Tryz.isAgg51 Tryz.sizeOf51 encB (fun _ => rfl) (fun x v hv => by simp [encB, rowV] at hv; rcases hv with rfl | rfl <;> rfl) (fun x y => cmpI x.1 y.1) swo_key 170 #[] g 0 cap G.toArray w eg (fun _ _ _ _ x y => closure_any x y _) hH hlt (by simp; omega)
   change Calls Tryz.prog 169 _ _ _ at hcon
   rw [List.size_toArray] at hcon
   refine hcon.mono ?_
   rintro e w' ⟨rfl, d', n, os, hp, hs, rfl⟩
   have hsz : d'.size = G.length := by simpa using hp.1
   have hH' := holdsK_sortWorldK_c encB 2 w g 0 G.toArray d' n os hH hlt (by simpa using hsz)
   refine ⟨rfl, ⟨d'.toList, ?_, ?_, ?_⟩, sort_other _ _ _ _ _ _⟩
   · have := hp.2.2
     have e : d'.toList.take G.length = d'.toList := List.take_of_length_le (by simp [hsz])
     simp at this
     rwa [e] at this
   · rw [List.pairwise_iff_getElem]
     intro i j hi hj hij
     have hi' : i < d'.size := by simpa using hi
     have hj' : j < d'.size := by simpa using hj
     have := hs i j (Nat.zero_le _) hij (by omega)
     rw [lt_key, getElem!_pos d' i hi', getElem!_pos d' j hj'] at this
     simp at this
     simpa using this
   · refine ⟨?_, .inr ⟨_, cap, rfl, hc1, by omega, hb, fun i u hu => ?_⟩⟩
     · unfold cellsB
       rw [flat_length (size := 2) (fun us hus => by obtain ⟨x, _, rfl⟩ := List.mem_map.1 hus; rfl)]
       simp [hsz]
     · rw [add_plain, Nat.zero_add]
       unfold HoldsK at hH'
       rw [show d' = d'.toList.toArray by simp, flatK_cells] at hH'
       obtain ⟨hlt', hget⟩ := List.getElem?_eq_some_iff.1 hu
       have := (hH' i (by simpa using hlt')).1
       rw [Nat.zero_add] at this
       rw [Array.toArray_toList] at this
       rw [this]
       simp [hlt', hget]
end Go.Proofs.YtopcefhncildnaaGreatDoor.F
