import Derived.Test.YthlfgpnabcplnaaGreatDoorTe23
import Derived.Deep.RegionHeld3
import Derived.Deep.DrawnRows
/-
  What CopyInts, CopyLists and of make: the same numbers, texts and record in memory of their own.
-/
namespace Go.Proofs.YthlfgpnabcplnaaGreatDoor.W
open Go.RowKit

theorem one_ints (l : List Int) : ∀ u ∈ l.map (Value.int .i64), u.oneCell' = true := fun u hu => by
  obtain ⟨y, _, rfl⟩ := List.mem_map.1 hu
  rfl
theorem ints_cells {n : Nat} {w : World} {v : Value} {l : List Int} (h : intsS.lies n w [v] l) : Cells n w 1 v l.length (l.map (Value.int .i64)) := by
  obtain ⟨v', hv, hC, _⟩ := h
  obtain rfl : v = v' := by simpa using hv
  exact hC


/-- As great as the form reads texts. -/
def FitsT (l : List (List Int)) : Prop := l.length * 24 ≤ 140737488351232 ∧ ∀ t ∈ l, t.length ≤ 140737488351232

set_option maxRecDepth 100000 in
set_option maxHeartbeats 4000000 in
theorem copyLists_any (n0 : Nat) (v : Value) (l : List (List Int)) (w : World) (h : textsS.lies n0 w [v] l) (hf : FitsT l) :
    Calls Tryz.prog 40 #[v] w fun e w' => (∃ v', e = .returned v' ∧ textsS.owns w.heap.size w' [v'] l) ∧ Below w.heap.size w w' := by
  obtain ⟨a, c, e0, _, hm, _⟩ := texts_len h
  obtain rfl : v = _ := by simpa using e0
  obtain ⟨i2, hi2, hz20, hz21, hz22⟩ := info_parts info22
  have HL : Hid (textsS.lies n0 w [.slice a l.length c] l ∧ FitsT l) := ⟨h, hf⟩
  obtain ⟨n, hn⟩ : ∃ n, n = l.length := ⟨_, rfl⟩
  have HN : Hid (n = l.length) := hn
  have hnb : n * 24 ≤ 140737488351232 := by rw [hn]; exact hf.1
  rw [← hn] at HL hm ⊢
  unfold maxLen at hm
  have hl1 := run_len Tryz.underlying44 a n c
  clear h hf hn e0
  go_enter Tryz.func40, Tryz.ntmps40
  go_wp2
  go_loopw [3, 4] (fun o i wr => ∃ k : Nat, k ≤ n ∧ i = .int .i64 k ∧ textsS.owns w.heap.size wr [o] (l.take k) ∧ Below w.heap.size w wr) (fun _ i _ => n - (intOf i).toNat)
  case atStart => exact ⟨0, Nat.zero_le _, rfl, Shape.list_nil bytesS 44 Tryz.underlying44 cells44 _ _, Below.refl _ _⟩
  case round =>
    obtain ⟨k, hk, rfl, hO, hbel⟩ := hrel
    by_cases hlt : k < n
    · obtain ⟨t, ht⟩ := get_lt (l := l) (k := k) (by rw [← HN.out]; exact hlt)
      obtain ⟨b, o, u, hix, g0, hA⟩ := texts_at (textsS.below HL.out.1 hbel) k t ht
      have HTK : Hid (l.take (k + 1) = l.take k ++ [t] ∧ (l.take k).length = k) := ⟨take_snoc ht, by have := HN.out; rw [List.length_take]; omega⟩
      have HC := copy_any n0 u t wr hA (by have := HL.out.2.2 t (List.mem_of_getElem? ht); omega)
      obtain ⟨x1, y1, rfl, _⟩ := hA.shape
      obtain ⟨len, hlen⟩ : ∃ y, y = t.length := ⟨_, rfl⟩
      rw [← hlen] at g0 HC
      obtain ⟨v', vss, hv, hown0, hE⟩ := hO
      obtain rfl : u3 = v' := by simpa using hv
      have hown : wr.ownsRow w.heap.size 22 1 u3 k vss.flatten := by rw [← HTK.out.2]; exact hown0
      obtain ⟨a', cap', rfl⟩ := own_shape hown
      have HE : Hid (Each (bytesS.owns w.heap.size wr) vss (l.take k)) := hE
      have HBL : Hid (Below w.heap.size w wr) := hbel
      have HO : Hid (wr.ownsRow w.heap.size 22 1 (.slice a' k cap') k vss.flatten) := hown
      have hki : (k : Int) < (n : Int) := by omega
      clear hA ht hE hbel hown hown0 hv
      have HC2 : Hid (Calls Tryz.prog 7 #[.slice x1 len y1] wr fun e w' => (∃ v', e = .returned v' ∧ Own1 wr.heap.size w' v' t) ∧ Below wr.heap.size wr w') := HC
      have HLN : Hid (len = t.length) := hlen
      clear HC hlen
      go_wp2_with (first
        | (go_at_call 7; refine HC2.out.mono ?_; rintro e w2 ⟨⟨u2, rfl, hu2⟩, hb2⟩; obtain ⟨ux, uc, rfl⟩ := hu2.shape; rw [← HLN.out] at *)
        | (at_builtin; refine wpList_append_lies _ (by rfl) _ _ 44 (by rfl) w.heap.size 22 i2 _ 1 24 Tryz.underlying44 hi2 hz20 hz21 hz22 rfl (by omega) _ k _ (by rfl) ((own_below HO.out hb2).alloc _) ⟨w2.heap.size, 0, none⟩ 1 1 [.slice ux len uc] (by rfl) (by rfl) (World.news_of_block (cs := #[.slice ux len uc]) (t := 22) (fr := (0, 0)) (heap_alloc_new w2 _)) (by simp [Value.oneCell']) (by omega) (by unfold maxLen; omega) (by omega) (by have := hb2.size; have := HBL.out.size; simp; omega) (w2.heap.size + 1) (by simp) ?_; intro gg cap3 w3 hown3 hgrow3 hat hltg
           have hS2 : Same w.heap.size wr (w2.alloc (.cells #[.slice ux len uc] 22)) := Same.trans (.of_below hb2) hb2.size (.alloc _ _ _)
           have hG3 : textsS.owns w.heap.size w3 [.slice (some ⟨gg, 0, none⟩) (k + 1) cap3] (l.take (k + 1)) := by
            rw [HTK.out.1]
            refine Shape.list_push (S := bytesS) (ht := Tryz.underlying44) (hc := cells44) (by decide) (HE.out.mono fun _ _ h => bytesS.osame h hS2) (by rw [HTK.out.2]; exact own_same HO.out hS2) (bytesS.oweaken (bytesS.osame hu2 (.alloc _ _ _)) (by have := HBL.out.size; omega)) hgrow3 ?_
            rw [HTK.out.2]
            exact hown3
           have hbe3 : Below w.heap.size w w3 := ((below_any HBL.out hb2).alloc (by have := hb2.size; have := HBL.out.size; omega) _).grown hgrow3 (by have := hb2.size; have := HBL.out.size; simp; omega) (fun j hj => (HO.out.lt j hj).1)
           have HBB : Hid (textsS.owns w.heap.size w3 [.slice (some ⟨gg, 0, none⟩) (k + 1) cap3] (l.take (k + 1)) ∧ Below w.heap.size w w3) := ⟨hG3, hbe3⟩
           clear hown3 hgrow3 hat hltg hS2 hG3 hbe3 hu2))
      go_roundw
      case rel => exact ⟨k + 1, by omega, by go_num, HBB.out⟩
      case measure => simp [intOf]; omega
    · obtain rfl : k = n := by omega
      have hT : l.take k = l := by rw [HN.out]; simp
      rw [hT] at hO
      have HO : Hid (textsS.owns w.heap.size wr [u3] l ∧ Below w.heap.size w wr) := ⟨hO, hbel⟩
      clear hO hbel hT
      go_wp2
      go_ret
      exact ⟨⟨_, rfl, HO.out.1⟩, HO.out.2⟩

end Go.Proofs.YthlfgpnabcplnaaGreatDoor.W

/-
  How great octets and texts are that the form reads.
-/
namespace Go.Proofs.YthlfgpnabcplnaaGreatDoor.W
open Go.RowKit

theorem fits_b {l : List Int} (h : bytesS.fits l) : l.length ≤ 140737488351232 := by
  have b5 : Tryz.prog.bytesOf 5 = 1 := by kernel_rfl
  have h5 : l.length * Tryz.prog.bytesOf 5 ≤ 140737488351232 := h
  rwa [b5, Nat.mul_one] at h5
theorem fits_t {l : List (List Int)} (h : textsS.fits l) : FitsT l := by
  obtain ⟨h2, h3⟩ := h
  have b26 : Tryz.prog.bytesOf 22 = 24 := by kernel_rfl
  refine ⟨?_, fun t ht => fits_b (h3 t ht)⟩
  have h4 : l.length * Tryz.prog.bytesOf 22 ≤ 140737488351232 := h2
  rwa [b26] at h4

end Go.Proofs.YthlfgpnabcplnaaGreatDoor.W
