/-
  The statements' helper alive: the page's example.
-/
import Derived.Test.YtopcefhncildnaaGreatDoorO22
import Derived.Test.YtopcefhncildnaaGreatDoorO42
import Derived.Lib.SlBytesConst
set_option maxRecDepth 100000
set_option maxHeartbeats 8000000
namespace Go.Proofs.YtopcefhncildnaaGreatDoor
open Go.RowKit
open F (conv_any)
open P (serr sval)
theorem ex_text : strOfNums [104, 105] = ⟨#[104, 105]⟩ := by decide +kernel
theorem Tells.yes {s : St} {ps : List ByteArray} {K : Int} {s' : St} {w : World} {e : Ending} {w' : World} (h : Tells s ps K s' w e w') (h1 : Ok s) (h2 : psE ps = 0) (h3 : K = 0) : (∃ a c, e = .returned (.tuple #[.agg #[.slice a s'.1.length c, .int .i64 s'.2], .int .i64 0]) ∧ ndsN.lies w.heap.size w' [.slice a s'.1.length c] s'.1) ∧ Below w.heap.size w w' := by
 obtain ⟨⟨k, S, a, c, rfl, hl, ht⟩, hb⟩ := h
 obtain ⟨rfl, rfl⟩ := ht.yes h1 h2 h3
 exact ⟨⟨a, c, rfl, hl⟩, hb⟩
theorem Tells.no {s : St} {ps : List ByteArray} {K : Int} {s' : St} {w : World} {e : Ending} {w' : World} (h : Tells s ps K s' w e w') (h1 : Ok s) (h2 : psE ps = 0) (h3 : K ≠ 0) : (∃ a c, e = .returned (.tuple #[.agg #[.slice a 0 c, .int .i64 0], .int .i64 K])) ∧ Below w.heap.size w w' := by
 obtain ⟨⟨k, S, a, c, rfl, hl, ht⟩, hb⟩ := h
 obtain ⟨rfl, rfl⟩ := ht.no h1 h2 h3
 exact ⟨⟨a, c, rfl⟩, hb⟩
theorem num10_any (k : Int) (w : World) : Calls Tryz.prog 17 #[.int .i64 k] w fun e w' => e = .returned (.int .i64 k) ∧ w = w' := by
 go_enter Tryz.func17, Tryz.ntmps17
 go_wp2
 go_ret
 exact ⟨rfl, rfl⟩
theorem alive_any (w : World) (hg : Glob w) : Calls Tryz.prog 9 #[] w fun e w' => e = .returned (.bool true) ∧ Below w.heap.size w w' := by
 have HG : Hid (∀ V, Below w.heap.size w V → Glob V) := fun V hV => hg.below hV hg.lt
 have HN := New_any w
 go_enter Tryz.func9, Tryz.ntmps9
 go_wp2_with fail
 refine HN.mono ?_
 rintro e w1 ⟨⟨v, rfl, ho⟩, hb1⟩
 have hl1 := ndsN.olies ho
 obtain ⟨a1, c1, rfl⟩ := nds_shape hl1
 have H1 : Calls Tryz.prog 42 #[.agg #[.slice a1 1 c1, .int .i64 2], .string ⟨#[47, 97]⟩] w1 fun e w' => (∃ a c, e = .returned (.tuple #[.agg #[.slice a 2 c, .int .i64 3], .int .i64 0]) ∧ ndsN.lies w1.heap.size w' [.slice a 2 c] ex1.1) ∧ Below w1.heap.size w1 w' :=
   (Mkdir_any _ a1 c1 ([rootN], 2) ⟨#[47, 97]⟩ (by decide) w1 hl1 (HG.out _ hb1)).mono fun e w' h => by (
 have ht := h.tells
 rw [ex_p.2, ex_1.2] at ht
 exact ht.yes ok_new (by rw [psE_one]; exact ex_p.1) ex_1.1)
 have HB1 : Hid (Below w.heap.size w w1) := hb1
 clear HN ho hl1 hb1
 go_wp2_with fail
 refine H1.mono ?_
 rintro e w2 ⟨⟨a2, c2, rfl, hl2⟩, hb2⟩
 have HZ : Hid (w.heap.size ≤ w2.heap.size) := Nat.le_trans HB1.out.size hb2.size
 obtain ⟨W2, hW2⟩ := exa (w2.alloc (.cells #[.slice a2 2 c2, .int .i64 3] 29))
 have hbW2 : Below w2.heap.size w2 W2 := by rw [hW2]; exact (Below.refl _ w2).alloc (Nat.le_refl _) _
 have hB2 : Box W2 w2.heap.size 29 #[.slice a2 2 c2, .int .i64 3] := by rw [hW2]; exact Box.new _ _ _
 have HB2 : Hid (Below w.heap.size w W2 ∧ Box W2 w2.heap.size 29 #[.slice a2 2 c2, .int .i64 3]) := ⟨below_any (below_any HB1.out hb2) hbW2, hB2⟩
 have H2 : Calls Tryz.prog 14 #[.agg #[.slice a2 2 c2, .int .i64 3], .string ⟨#[47, 97, 47, 102]⟩] W2 fun e w' => (∃ a c, e = .returned (.tuple #[.agg #[.slice a 3 c, .int .i64 4], .int .i64 0]) ∧ ndsN.lies W2.heap.size w' [.slice a 3 c] ex2.1) ∧ Below W2.heap.size W2 w' :=
   (Create_any _ a2 c2 ex1 ⟨#[47, 97, 47, 102]⟩ (by decide) W2 (ndsN.below hl2 hbW2) (HG.out _ HB2.out.1)).mono fun e w' h => by (
 have ht := h.tells
 rw [ex_q.2, ex_2.2] at ht
 exact ht.yes ex_ok1 (by rw [psE_one]; exact ex_q.1) ex_2.1)
 obtain ⟨g0, g1, -, -⟩ := hB2.two
 rw [hW2] at g0 g1
 clear hl2 hb2 hbW2 hB2 H1
 go_wp2_with fail
 rw [← hW2]
 clear hW2 g0 g1
 refine H2.mono ?_
 rintro e w3 ⟨⟨a3, c3, rfl, hl3⟩, hb3⟩
 have hB3 := HB2.out.2.below hb3 HB2.out.2.lt
 obtain ⟨W3, hW3⟩ := exa ((w3.setCell ⟨w2.heap.size, 0, none⟩ (.slice a3 3 c3)).setCell ⟨w2.heap.size, 1, none⟩ (.int .i64 4))
 have hs3 : w2.heap.size < W2.heap.size := HB2.out.2.lt
 have hB3' : Box W3 w2.heap.size 29 #[.slice a3 3 c3, .int .i64 4] := by
   rw [hW3]
   exact (hB3.set 0 (.slice a3 3 c3)).set 1 (.int .i64 4)
 have hl3' : ndsN.lies W2.heap.size W3 [.slice a3 3 c3] ex2.1 := by
   rw [hW3]
   exact ndsN.keep (ndsN.keep hl3 (.set hs3)) (.set hs3)
 have hbW3 : Below w.heap.size w W3 := by
   rw [hW3]
   exact ((below_any HB2.out.1 hb3).setCell (p := ⟨w2.heap.size, 0, none⟩) HZ.out _).setCell (p := ⟨w2.heap.size, 1, none⟩) HZ.out _
 have HB3 : Hid (Below w.heap.size w W3 ∧ Box W3 w2.heap.size 29 #[.slice a3 3 c3, .int .i64 4] ∧ ndsN.lies W2.heap.size W3 [.slice a3 3 c3] ex2.1) := ⟨hbW3, hB3', hl3'⟩
 obtain ⟨X, hX⟩ := exa (W3.alloc (.cells #[.int .u8 104, .int .u8 105] 5 (2, 3)))
 have hconv := Lib.run_convert_bytes_const (P := Tryz.prog) W3 25 5 #[.int .u8 104, .int .u8 105] 2 2 Tryz.underlying25 Tryz.underlying5
 have hsz1 : (#[Value.int .u8 104, .int .u8 105] : Array Value).size = 2 := rfl
 rw [hsz1] at hconv
 have hbX : Below W3.heap.size W3 X := by rw [hX]; exact (Below.refl _ W3).alloc (Nat.le_refl _) _
 have hA : Arg W3.heap.size X (.slice (some ⟨W3.heap.size, 0, none⟩) 2 2) [104, 105] := by (
 have hh : X.heap[W3.heap.size]? = some (.cells #[.int .u8 104, .int .u8 105] 5 (2, 3)) := by rw [hX]; exact heap_alloc_new W3 _
 refine .mk ⟨rfl, .inr ⟨⟨W3.heap.size, 0, none⟩, 2, rfl, Nat.le_refl _, by simp [maxLen], Nat.le_refl _, fun i u hu => ?_⟩⟩ (fun x hx => by
   rcases List.mem_cons.1 hx with rfl | hx
   · decide
   · rw [List.mem_singleton.1 hx]; decide)
 match i, hu with
 | 0, hu => (
 simp at hu
 subst hu
 rw [add_plain]
 simp [World.cell?, hh])
 | 1, hu => (
 simp at hu
 subst hu
 rw [add_plain]
 simp [World.cell?, hh]))
 have HBX : Hid (Below w.heap.size w X ∧ Box X w2.heap.size 29 #[.slice a3 3 c3, .int .i64 4]) := ⟨below_any HB3.out.1 hbX, HB3.out.2.1.below hbX HB3.out.2.1.lt⟩
 have H3 : Calls Tryz.prog 12 #[.agg #[.slice a3 3 c3, .int .i64 4], .string ⟨#[47, 97, 47, 102]⟩, .int .i64 0, .slice (some ⟨W3.heap.size, 0, none⟩) 2 2] X fun e w' => (∃ a c, e = .returned (.tuple #[.agg #[.slice a 3 c, .int .i64 4], .int .i64 2, .int .i64 0]) ∧ ndsN.lies X.heap.size w' [.slice a 3 c] ex3.1) ∧ Below X.heap.size X w' :=
   (Write_any _ a3 c3 ex2 ⟨#[47, 97, 47, 102]⟩ (by decide) 0 (by unfold I64; omega) _ 2 [104, 105] _ X hA (ndsN.below HB3.out.2.2 hbX) (HG.out _ HBX.out.1)).mono fun e w' h => by (
 rw [ex_q.2, ex_3.2, ex_3.1] at h
 refine ⟨?_, h.2⟩
 rcases h.1 with ⟨k, -, hk⟩ | ⟨v, he, -, -, -, hl⟩
 · exfalso
   rcases hk with ⟨a, -⟩ | ⟨-, b, -⟩ | ⟨-, -, d, -⟩
   · exact a ex_ok2
   · exact b (by rw [psE_one]; exact ex_q.1)
   · exact d rfl
 · obtain ⟨a, c, rfl⟩ := nds_shape hl
   exact ⟨a, c, he, hl⟩)
 have hs33 : W3.heap.size = w3.heap.size := by rw [hW3]; simp
 rw [hs33] at hconv H3
 obtain ⟨g0, g1, -, -⟩ := hB3'.two
 obtain ⟨f0, f1, f2, f3⟩ := hB3.two
 rw [hW3] at g0 g1 hconv hX
 clear hl3 hl3' hb3 hbW3 hB3 hB3' hA hbX H2 hs3 hs33
 go_wp2_with fail
 rw [← hX]
 clear hX hconv g0 g1 f0 f1 f2 f3 hsz1 hW3
 refine H3.mono ?_
 rintro e w4 ⟨⟨a4, c4, rfl, hl4⟩, hb4⟩
 have hB4 := HBX.out.2.below hb4 HBX.out.2.lt
 obtain ⟨W4, hW4⟩ := exa ((w4.setCell ⟨w2.heap.size, 0, none⟩ (.slice a4 3 c4)).setCell ⟨w2.heap.size, 1, none⟩ (.int .i64 4))
 have hs4 : w2.heap.size < X.heap.size := HBX.out.2.lt
 have hB4' : Box W4 w2.heap.size 29 #[.slice a4 3 c4, .int .i64 4] := by
   rw [hW4]
   exact (hB4.set 0 (.slice a4 3 c4)).set 1 (.int .i64 4)
 have hl4' : ndsN.lies X.heap.size W4 [.slice a4 3 c4] ex3.1 := by
   rw [hW4]
   exact ndsN.keep (ndsN.keep hl4 (.set hs4)) (.set hs4)
 have hbW4 : Below w.heap.size w W4 := by
   rw [hW4]
   exact ((below_any HBX.out.1 hb4).setCell (p := ⟨w2.heap.size, 0, none⟩) HZ.out _).setCell (p := ⟨w2.heap.size, 1, none⟩) HZ.out _
 have HB4 : Hid (Below w.heap.size w W4 ∧ Box W4 w2.heap.size 29 #[.slice a4 3 c4, .int .i64 4] ∧ ndsN.lies X.heap.size W4 [.slice a4 3 c4] ex3.1) := ⟨hbW4, hB4', hl4'⟩
 have H4 : Calls Tryz.prog 43 #[.agg #[.slice a4 3 c4, .int .i64 4], .string ⟨#[47, 97, 47, 102]⟩, .int .i64 0, .int .i64 9] W4 fun e w' => (∃ v, e = .returned (.tuple #[v, .int .i64 0]) ∧ Arg W4.heap.size w' v [104, 105]) ∧ Below W4.heap.size W4 w' :=
   (Read_any _ a4 c4 ex3 ⟨#[47, 97, 47, 102]⟩ (by decide) 0 9 (by unfold I64; omega) (by unfold I64; omega) W4 HB4.out.2.2 (HG.out _ HB4.out.1)).mono fun e w' h => by (
 obtain ⟨⟨v, O, k, he, hA, hk⟩, hb⟩ := h
 refine ⟨?_, hb⟩
 rcases hk with ⟨a, -⟩ | ⟨-, b, -⟩ | ⟨-, -, hO, hk⟩
 · exact absurd ex_ok3 a
 · exact absurd ex_q.1 b
 · rw [ex_q.2, ex_4.2] at hO
   rw [ex_q.2, ex_4.1] at hk
   subst hO hk
   exact ⟨v, he, hA⟩)
 obtain ⟨g0, g1, -, -⟩ := hB4'.two
 obtain ⟨f0, f1, f2, f3⟩ := hB4.two
 rw [hW4] at g0 g1
 clear hl4 hl4' hb4 hbW4 hB4 hB4' H3 hs4
 go_wp2_with fail
 rw [← hW4]
 clear hW4 g0 g1 f0 f1 f2 f3
 refine H4.mono ?_
 rintro e w5 ⟨⟨v5, rfl, hA5⟩, hb5⟩
 have HB5 : Hid (Below w.heap.size w w5 ∧ Box w5 w2.heap.size 29 #[.slice a4 3 c4, .int .i64 4] ∧ ndsN.lies X.heap.size w5 [.slice a4 3 c4] ex3.1 ∧ Arg W4.heap.size w5 v5 [104, 105]) := ⟨below_any HB4.out.1 hb5, HB4.out.2.1.below hb5 HB4.out.2.1.lt, ndsN.below HB4.out.2.2 hb5, hA5⟩
 have H5 : Calls Tryz.prog 44 #[.agg #[.slice a4 3 c4, .int .i64 4], .string ⟨#[47, 97]⟩] w5 fun e w' => (∃ a c, e = .returned (.tuple #[.agg #[.slice a 0 c, .int .i64 0], .int .i64 104])) ∧ Below w5.heap.size w5 w' :=
   (Unlink_any _ a4 c4 ex3 ⟨#[47, 97]⟩ (by decide) w5 HB5.out.2.2.1 (HG.out _ HB5.out.1)).mono fun e w' h => by (
 have ht := h.tells
 rw [ex_p.2, ex_5.1] at ht
 exact ht.no ex_ok3 (by rw [psE_one]; exact ex_p.1) (by decide))
 obtain ⟨g0, g1, -, -⟩ := HB5.out.2.1.two
 clear hb5 hA5 H4
 go_wp2_with fail
 clear g0 g1
 refine H5.mono ?_
 rintro e w6 ⟨⟨a6, c6, rfl⟩, hb6⟩
 obtain ⟨W6, hW6⟩ := exa (w6.alloc (.cells #[.slice a6 0 c6, .int .i64 0] 29))
 have hbW6 : Below w5.heap.size w5 W6 := by rw [hW6]; exact hb6.alloc hb6.size _
 have HB6 : Hid (Below w.heap.size w W6 ∧ Box W6 w2.heap.size 29 #[.slice a4 3 c4, .int .i64 4] ∧ ndsN.lies X.heap.size W6 [.slice a4 3 c4] ex3.1 ∧ Arg W4.heap.size W6 v5 [104, 105]) := ⟨below_any HB5.out.1 hbW6, HB5.out.2.1.below hbW6 HB5.out.2.1.lt, ndsN.below HB5.out.2.2.1 hbW6, HB5.out.2.2.2.below hbW6⟩
 have H6 : Calls Tryz.prog 45 #[.agg #[.slice a4 3 c4, .int .i64 4], .string ⟨#[47, 97]⟩] W6 fun e w' => (∃ a c, e = .returned (.tuple #[.agg #[.slice a 0 c, .int .i64 0], .int .i64 105])) ∧ Below W6.heap.size W6 w' :=
   (Rmdir_any _ a4 c4 ex3 ⟨#[47, 97]⟩ (by decide) W6 HB6.out.2.2.1 (HG.out _ HB6.out.1)).mono fun e w' h => by (
 have ht := h.tells
 rw [ex_p.2, ex_5.2] at ht
 exact ht.no ex_ok3 (by rw [psE_one]; exact ex_p.1) (by decide))
 obtain ⟨g0, g1, -, -⟩ := HB6.out.2.1.two
 rw [hW6] at g0 g1
 clear hb6 hbW6 H5
 go_wp2_with fail
 rw [← hW6]
 clear hW6 g0 g1
 refine H6.mono ?_
 rintro e w7 ⟨⟨a7, c7, rfl⟩, hb7⟩
 have hA7 := HB6.out.2.2.2.below hb7
 have HBF : Hid (Below w.heap.size w (w7.alloc (.cells #[.slice a7 0 c7, .int .i64 0] 29))) := (below_any HB6.out.1 hb7).alloc (below_any HB6.out.1 hb7).size _
 have hcv := conv_any (hA7.below (w' := w7.alloc (.cells #[.slice a7 0 c7, .int .i64 0] 29)) ((Below.refl _ w7).alloc (Nat.le_refl _) _))
 rw [ex_text] at hcv
 clear hb7 H6 hA7
 go_wp2_with (go_at_call 17; refine (num10_any _ _).mono ?_; rintro e w8 ⟨rfl, rfl⟩)
 go_ret
 exact ⟨rfl, HBF.out⟩
end Go.Proofs.YtopcefhncildnaaGreatDoor
