/-
  What strings.HasPrefix, Index and Cut answer of one slash; for every text.
-/
import Derived.Test.YtopcefhncildnaaGreatDoorZ23
import Derived.Lib.IndexLaws
set_option maxRecDepth 100000
set_option maxHeartbeats 2000000
namespace Go.Proofs.YtopcefhncildnaaGreatDoor.P
open Go.Proofs.YtopcefhncildnaaGreatDoor.D (nameOk nerr two name_any num_any anyL anyL_ren empty_iff)
open Go.RowKit Go.Shelf Go.Lib
def bk (x : List UInt8) : ByteArray := ⟨x.toArray⟩
theorem bk_data (x : List UInt8) : (bk x).data.toList = x := by simp [bk]
theorem bk_size (x : List UInt8) : (bk x).size = x.length := by rw [Lib.size_eq, bk_data]
theorem bk_of (s : ByteArray) : bk s.data.toList = s := by cases s; simp [bk]
def sl (s : ByteArray) : Int := Lib.indexByte s.data.toList 47
theorem sl_none {s : ByteArray} (h : sl s < 0) : (47 : UInt8) ∉ s.data.toList := fun hm => by
 have h1 := Lib.indexByte_ge s.data.toList 47
 have h2 : Lib.indexByte s.data.toList 47 = -1 := by have : Lib.indexByte s.data.toList 47 < 0 := h; omega
 obtain ⟨k, hk, e⟩ := List.mem_iff_getElem.1 hm
 exact Lib.indexByte_none h2 k (by rw [List.getElem?_eq_getElem hk, e])
theorem sl_some {s : ByteArray} {o : Nat} (h : sl s = o) : o < s.size ∧ s.data.toList = s.data.toList.take o ++ 47 :: s.data.toList.drop (o + 1) ∧ (47 : UInt8) ∉ s.data.toList.take o := by
 obtain ⟨h1, h2⟩ := Lib.indexByte_some (show Lib.indexByte s.data.toList 47 = o from h)
 obtain ⟨hlt, he⟩ := List.getElem?_eq_some_iff.1 h1
 refine ⟨by rw [Lib.size_eq]; exact hlt, ?_, fun hm => ?_⟩
 · conv => lhs; rw [← List.take_append_drop o s.data.toList]
   rw [List.drop_eq_getElem_cons hlt, he]
 · obtain ⟨k, hk, e⟩ := List.mem_iff_getElem.1 hm
   have hk' := hk
   rw [List.length_take] at hk'
   refine h2 k (by omega) ?_
   rw [List.getElem_take] at e
   rw [List.getElem?_eq_getElem (by omega), e]
theorem lite_byte (s : ByteArray) (w : World) : Calls Tryz.prog 324 #[.string s, .int .u8 47] w fun e w' => e = .returned (.int .i64 (sl s)) ∧ w = w' :=
 (Any.stringslite_IndexByte (ρ := anyL_ren) { anyL with } s 47 w).mono fun _ _ h => ⟨h.1, h.2.symm⟩
theorem index_any (s : ByteArray) (w : World) : Calls Tryz.prog 318 #[.string s, .string ⟨#[47]⟩] w fun e w' => e = .returned (.int .i64 (sl s)) ∧ w = w' := by
 have HC : Hid (Calls Tryz.prog 324 #[.string s, .int .u8 47] w fun e w' => e = .returned (.int .i64 (sl s)) ∧ w = w') := lite_byte s w
 cases hd : ([47] : List UInt8) == s.toList
 case true => (
 have HE : Hid (sl s = 0) := by
   show _ = _
   rw [sl, ← Lib.toList_data, ← eq_of_beq hd]; rfl
 go_enter Tryz.func318, Tryz.ntmps318
 go_wp2
 go_ret
 exact ⟨by rw [HE.out]; rfl, rfl⟩)
 go_enter Tryz.func318, Tryz.ntmps318
 go_wp2_with (go_at_call 324; refine HC.out.mono ?_; rintro e w' ⟨rfl, rfl⟩)
 go_ret
 exact ⟨rfl, rfl⟩
end Go.Proofs.YtopcefhncildnaaGreatDoor.P
