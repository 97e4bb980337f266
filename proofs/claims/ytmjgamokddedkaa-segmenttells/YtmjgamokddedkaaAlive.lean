/-
  The example: one block sealed, and read back.
-/
import Derived.Test.YtmjgamokddedkaaBackMath
namespace Go.Proofs.Ytmjgamokddedkaa
open Go.RowKit
open O (nv oct)

abbrev ex : Sg := (1, [(1, 0, [120])])
theorem ex_chk : Chk ex := by
  refine ⟨⟨by decide, by decide⟩, ⟨by decide, by decide⟩, by decide⟩
theorem ex_arg (w : World) : Arg w.heap.size (w.alloc (.cells #[.int .u8 120] 5)) (.slice (some ⟨w.heap.size, 0, none⟩) 1 1) [120] :=
  Arg.mk (Cells.box (Box.new w 5 #[.int .u8 120]) rfl (by decide) (Nat.le_refl _)) (fun x hx => by
    simp at hx
    rcases hx with rfl
    decide)
theorem ex_lies {n0 : Nat} {Z : World} {v : Value} (h : Arg n0 Z v [120]) (hn : n0 ≤ Z.heap.size) : sgN.lies n0 (Z.alloc (.cells #[.int .i64 1, .int .i64 0, v] 58)) [.int .i64 1, .slice (some ⟨Z.heap.size, 0, none⟩) 1 1] ex := by
  have hb : Below Z.heap.size Z (Z.alloc (.cells #[.int .i64 1, .int .i64 0, v] 58)) := (Below.refl _ _).alloc (Nat.le_refl _) _
  have hx := Box.new Z 58 #[.int .i64 1, .int .i64 0, v]
  refine sg_mkN (s := ex) ⟨_, [[.int .i64 1, .int .i64 0, v]], rfl, ⟨rfl, .inr ⟨⟨Z.heap.size, 0, none⟩, 1, rfl, Nat.le_refl _, by decide, hn, fun j u hu => ?_⟩⟩, bk_mk (p := (1, 0, [120])) (h.below hb) ⟨by decide, by decide⟩ ⟨by decide, by decide⟩, trivial⟩ ⟨by decide, by decide⟩
  rw [add_plain, Nat.zero_add]
  exact hx.cell j (by simpa using hu)
theorem mrk_str : strOfNums mrk = ⟨#[115, 101, 103, 49]⟩ := by decide

set_option maxRecDepth 100000 in
set_option maxHeartbeats 4000000 in
theorem alive_any (w : World) : Calls Try.prog 23 #[] w fun e w' => e = .returned (.bool true) ∧ Below w.heap.size w w' := by
  obtain ⟨Y, hY⟩ : ∃ Y, Y = w.alloc (.cells #[.int .u8 120] 5) := ⟨_, rfl⟩
  have hbY : Below w.heap.size w Y := by rw [hY]; exact (Below.refl _ _).alloc (Nat.le_refl _) _
  have hxY : Box Y w.heap.size 5 #[.int .u8 120] := by rw [hY]; exact Box.new _ _ _
  have hAY : Arg w.heap.size Y (.slice (some ⟨w.heap.size, 0, none⟩) 1 1) [120] := by rw [hY]; exact ex_arg w
  obtain ⟨Z, hcvt, hbZ, hcel⟩ := conv_mark Y w.heap.size 1 1 _ hxY
  have hbZ2 : Below w.heap.size w Z := hbY.trans hbZ
  have hAZ := hAY.same hcel
  obtain ⟨V, hV⟩ : ∃ V, V = Z.alloc (.cells #[.int .i64 1, .int .i64 0, .slice (some ⟨w.heap.size, 0, none⟩) 1 1] 58) := ⟨_, rfl⟩
  have hL : sgN.lies w.heap.size V [.int .i64 1, .slice (some ⟨Z.heap.size, 0, none⟩) 1 1] ex := by rw [hV]; exact ex_lies hAZ hbZ2.size
  have H1 : Hid (Below w.heap.size w V) := by rw [hV]; exact hbZ2.alloc hbZ2.size _
  have HC := seal_any _ _ _ V hL
  rw [cerr_ok ex_chk, seal_ok ex_chk] at HC
  rw [hY] at hcvt
  clear hY hbY hxY hAY hbZ hcel hbZ2 hAZ hL
  go_enter Try.func23, Try.ntmps23
  go_wp2_with fail
  rw [← hV]
  clear hV
  refine HC.mono ?_
  rintro e w1 ⟨⟨v, rfl, hO⟩, hb1⟩
  have H2 : Hid (Below w.heap.size w w1) := below_any H1.out hb1
  have hA := hO.arg.weaken (Nat.zero_le _)
  have hE := open_seal ex_chk hA.oct
  have hlen := seal_length ex_chk
  have h4 : (sealO ex).take 4 = mrk := by
    have := congrArg (List.take 4) (seal_take ex_chk)
    rw [List.take_take] at this
    rw [show min 4 380 = 4 from rfl] at this
    rw [this, full_parts]
    rfl
  obtain ⟨b, hb⟩ : ∃ b, b = sealO ex := ⟨_, rfl⟩
  rw [← hb] at hA hE hlen h4
  clear HC H1 hcvt hO hb1 hb
  have HC := open_any 0 v b w1 hA
  rw [hE.1, hE.2] at HC
  go_wp2_with fail
  refine HC.mono ?_
  rintro e w2 ⟨⟨us, rfl, hS⟩, hb2⟩
  obtain ⟨sa, sc, rfl, -⟩ := sg_viewN hS
  have H3 : Hid (Below w.heap.size w w2) := below_any H2.out hb2
  have hl1 := hA.len
  rw [hlen] at hl1
  obtain ⟨v4, hA4, s4⟩ := hA.ahead 4 (by omega)
  replace s4 : ∀ X, (Instr.slice 25 v none (some (.int .i64 4)) none).run Try.prog X = .ok v4 X := s4
  rw [h4] at hA4
  obtain ⟨Y, hY⟩ : ∃ Y, Y = w2.alloc (.cells #[.int .i64 1, .slice sa 1 sc] 28) := ⟨_, rfl⟩
  have hbY : Below w2.heap.size w2 Y := by rw [hY]; exact (Below.refl _ _).alloc (Nat.le_refl _) _
  have hxY : Box Y w2.heap.size 28 #[.int .i64 1, .slice sa 1 sc] := by rw [hY]; exact Box.new _ _ _
  have hcv := C.conv_bytes ((hA4.below hb2).below hbY).toC.bytes
  rw [mrk_str] at hcv
  have H4 : Hid (Below w.heap.size w Y) := below_any H3.out hbY
  obtain ⟨g0, g1, f0, f1⟩ := hxY.two
  clear HC H2 hA hE hlen h4 hS hb2 hA4 hbY hxY H3
  rw [hY] at hcv g0 g1 f0 f1
  have H5 : Hid (Below w.heap.size w (w2.alloc (.cells #[.int .i64 1, .slice sa 1 sc] 28))) := by rw [← hY]; exact H4.out
  clear hY H4
  go_wp2_with (go_at_call 18; refine (num_any _ _).mono ?_; rintro e w9 ⟨rfl, rfl⟩)
  go_ret
  exact ⟨rfl, H5.out⟩

end Go.Proofs.Ytmjgamokddedkaa
