/-
  What strings.Cut and Clone answer, and the maker of a path's parts.
-/
import Derived.Test.YtopcefhncildnaaGreatDoorZ02
import Derived.Test.YtopcefhncildnaaGreatDoorZ26
set_option maxRecDepth 100000
set_option maxHeartbeats 1000000
namespace Go.Proofs.YtopcefhncildnaaGreatDoor.P
open Go.Proofs.YtopcefhncildnaaGreatDoor.D (nameOk nerr two name_any num_any anyL anyL_ren empty_iff)
open Go.RowKit Go.Shelf Go.Lib
theorem ext_take (s : ByteArray) (o : Nat) : s.extract 0 o = bk (s.data.toList.take o) := by
 rw [← bk_of (s.extract 0 o), Lib.extract_data]; simp
theorem ext_drop (s : ByteArray) (o : Nat) : s.extract o s.size = bk (s.data.toList.drop o) := by
 rw [← bk_of (s.extract o s.size), Lib.extract_data, List.take_of_length_le (by rw [List.length_drop, Lib.size_eq]; omega)]
theorem liteCut_none (s : ByteArray) (w : World) (h : sl s < 0) : Calls Tryz.prog 306 #[.string s, .string ⟨#[47]⟩] w fun e w' => e = .returned (.tuple #[.string s, .string ⟨#[]⟩, .bool false]) ∧ w = w' := by
 have HC := index_any s w
 have h2 : ¬ 0 ≤ sl s := by omega
 generalize sl s = i at HC h2
 go_enter Tryz.func306, Tryz.ntmps306
 go_wp2_with (go_at_call 318; refine HC.mono ?_; rintro e w' ⟨rfl, rfl⟩)
 go_ret3
 exact ⟨rfl, rfl⟩
theorem liteCut_some (s : ByteArray) (o : Nat) (w : World) (h : sl s = o) (hw : o + 1 ≤ s.size) (hm : s.size ≤ 128) : Calls Tryz.prog 306 #[.string s, .string ⟨#[47]⟩] w fun e w' => e = .returned (.tuple #[.string (s.extract 0 o), .string (s.extract (o + 1) s.size), .bool true]) ∧ ∃ q, w' = w.drewN q := by
 have HC := index_any s w
 rw [h] at HC
 clear h
 go_enter Tryz.func306, Tryz.ntmps306
 go_wp2_with (go_at_call 318; refine HC.mono ?_; rintro e w' ⟨rfl, rfl⟩)
 go_quiet (fail)
 go_wp2
 go_ret3
 exact ⟨rfl, nq, rfl⟩
theorem cut_none (s : ByteArray) (w : World) (h : sl s < 0) : Calls Tryz.prog 277 #[.string s, .string ⟨#[47]⟩] w fun e w' => e = .returned (.tuple #[.string s, .string ⟨#[]⟩, .bool false]) ∧ w = w' := by
 have HC := liteCut_none s w h
 go_enter Tryz.func277, Tryz.ntmps277
 go_wp2_with (go_at_call 306; refine HC.mono ?_; rintro e w' ⟨rfl, rfl⟩)
 go_ret3
 exact ⟨rfl, rfl⟩
theorem cut_some (s : ByteArray) (o : Nat) (w : World) (h : sl s = o) (hm : s.size ≤ 128) : Calls Tryz.prog 277 #[.string s, .string ⟨#[47]⟩] w fun e w' => e = .returned (.tuple #[.string (bk (s.data.toList.take o)), .string (bk (s.data.toList.drop (o + 1))), .bool true]) ∧ ∃ q, w' = w.drewN q := by
 have HC := liteCut_some s o w h (sl_some h).1 hm
 rw [ext_take, ext_drop] at HC
 go_enter Tryz.func277, Tryz.ntmps277
 go_wp2_with (go_at_call 306; refine HC.mono ?_; rintro e w' ⟨rfl, q, hq⟩)
 go_ret3
 exact ⟨rfl, q, rfl⟩
theorem clone_any (s : ByteArray) (w : World) (h : s.size ≤ 16) : Calls Tryz.prog 188 #[.string s] w fun e w' => e = .returned (.string s) ∧ Below w.heap.size w w' := by
 have HC := stringslite_Clone s w (by omega)
 go_enter Tryz.func188, Tryz.ntmps188
 go_wp2_with (go_at_call 254; refine HC.mono ?_; rintro e w' ⟨rfl, hb⟩)
 go_ret
 exact ⟨rfl, hb⟩
def rooted (s : ByteArray) : Bool := Lib.hasPrefix s.data.toList [47]
theorem prefix_any (s : ByteArray) (w : World) : Calls Tryz.prog 225 #[.string s, .string ⟨#[47]⟩] w fun e w' => e = .returned (.bool (rooted s)) ∧ w = w' :=
 (strings_HasPrefix s ⟨#[47]⟩ w).mono fun _ _ h => ⟨h.1, h.2.symm⟩
theorem parts_any (s : ByteArray) (w : World) : Calls Tryz.prog 226 #[.string s] w fun e w' => e = .returned (.func (.func 276) #[] #[.pointer (some ⟨w.heap.size, 0, none⟩)]) ∧ w' = w.alloc (.cells #[.string s] 9) := by
 go_enter Tryz.func226, Tryz.ntmps226
 go_wp2
 go_ret
 exact ⟨rfl, rfl⟩
end Go.Proofs.YtopcefhncildnaaGreatDoor.P
