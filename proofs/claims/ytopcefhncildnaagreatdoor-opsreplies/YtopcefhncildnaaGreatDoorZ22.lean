/-
  What strings.IndexRune answers in the text of the two octets that no name has: -1 for every rune from 128 on.
-/
import Derived.Test.YtopcefhncildnaaGreatDoorZ01
import Derived.Test.YtopcefhncildnaaGreatDoorZ11
import Derived.Lib.OthersKept
import Derived.WalkMore
set_option maxRecDepth 100000
set_option maxHeartbeats 2000000
namespace Go.Proofs.YtopcefhncildnaaGreatDoor.D
open Go.RowKit Go.Shelf Go.Lib
theorem rune_low (s : ByteArray) (r : Int) (w : World) (h0 : 0 ≤ r) (h1 : r < 128) : Calls Tryz.prog 319 #[.string s, .int .i32 r] w fun e w' => e = .returned (.int .i64 (Lib.indexByte s.data.toList r.toNat.toUInt8)) ∧ w' = w :=
 Any.strings_IndexRune_ascii (ρ := anyL_ren) { anyL with } s r w h0 h1
theorem byte_any (s : ByteArray) (c : Int) (w : World) : Calls Tryz.prog 328 #[.string s, .int .u8 c] w fun e w' => e = .returned (.int .i64 (Lib.indexByte s.data.toList c.toNat.toUInt8)) ∧ w' = w :=
 Any.strings_IndexByte (ρ := anyL_ren) { anyL with } s c w
theorem valid_any (r : Int) (w : World) : Calls Tryz.prog 329 #[.int .i32 r] w fun e w' => e = .returned (.bool (validRune r)) ∧ w = w' := by
 by_cases h1 : 0 ≤ r ∧ r < 55296
 · have e : validRune r = true := decide_eq_true (.inl h1)
   obtain ⟨h2, h3⟩ := h1
   rw [e]
   clear e
   go_enter Tryz.func329, Tryz.ntmps329
   go_wp2
   go_ret
   exact ⟨rfl, rfl⟩
 · by_cases h2 : 57343 < r ∧ r ≤ 1114111
   · have e : validRune r = true := decide_eq_true (.inr h2)
     obtain ⟨h3, h4⟩ := h2
     have h5 : ¬ r < 55296 := by omega
     have h6 : 0 ≤ r := by omega
     rw [e]
     clear e h1
     go_enter Tryz.func329, Tryz.ntmps329
     go_wp2
     go_ret
     exact ⟨rfl, rfl⟩
   · have e : validRune r = false := decide_eq_false (by omega)
     rw [e]
     clear e
     by_cases h3 : 0 ≤ r
     · have h5 : ¬ r < 55296 := by omega
       by_cases h4 : 57343 < r
       · have h6 : ¬ r ≤ 1114111 := by omega
         clear h1 h2
         go_enter Tryz.func329, Tryz.ntmps329
         go_wp2
         go_ret
         exact ⟨rfl, rfl⟩
       · clear h1 h2
         go_enter Tryz.func329, Tryz.ntmps329
         go_wp2
         go_ret
         exact ⟨rfl, rfl⟩
     · have h4 : ¬ 57343 < r := by omega
       clear h1 h2
       go_enter Tryz.func329, Tryz.ntmps329
       go_wp2
       go_ret
       exact ⟨rfl, rfl⟩
theorem rune_error (w : World) : Calls Tryz.prog 319 #[.string ⟨#[0, 47]⟩, .int .i32 65533] w fun e w' => e = .returned (.int .i64 (-1)) ∧ Below w.heap.size w w' := by
 have n0 := fun ty => run_next_ascii (P := Tryz.prog) w ⟨#[0, 47]⟩ 0 ty (by decide) (by decide)
 have n1 := fun ty => run_next_ascii (P := Tryz.prog) w ⟨#[0, 47]⟩ 1 ty (by decide) (by decide)
 have n2 := fun ty => run_next_end (P := Tryz.prog) w ⟨#[0, 47]⟩ 2 ty (by decide)
 have e0 : ((⟨#[0, 47]⟩ : ByteArray)[0]'(by decide)).toNat = 0 := by decide
 have e1 : ((⟨#[0, 47]⟩ : ByteArray)[1]'(by decide)).toNat = 47 := by decide
 rw [e0] at n0
 rw [e1] at n1
 have HB : Hid (Below w.heap.size w (w.iter ⟨#[0, 47]⟩ 2)) := (Below.refl _ w).alloc (Nat.le_refl _) _
 clear e0 e1
 go_enter Tryz.func319, Tryz.ntmps319
 go_wp2
 refine wp_loop_rounds 3 ?_
 rw [rounds_succ]
 go_wp2
 rw [rounds_succ]
 go_wp2
 rw [rounds_succ]
 go_wp2
 go_ret
 exact ⟨rfl, HB.out⟩
theorem size_cases (r : Int) (h0 : 128 ≤ r) (hv : Utf8.valid r = true) : (∃ x y : UInt8, Utf8.encode r = ⟨#[x, y]⟩ ∧ 128 ≤ y.toNat) ∨ (∃ x y z : UInt8, Utf8.encode r = ⟨#[x, y, z]⟩) ∨ (∃ x y z u : UInt8, Utf8.encode r = ⟨#[x, y, z, u]⟩) := by
 have hc : ¬ r.toNat < 128 := by omega
 unfold Utf8.encode
 simp only [hv, if_true, hc, if_false]
 split
 · refine .inl ⟨_, _, rfl, ?_⟩
   simp; omega
 · split
   · exact .inr (.inl ⟨_, _, _, rfl⟩)
   · exact .inr (.inr ⟨_, _, _, _, rfl⟩)
theorem bne47 (x y : UInt8) (hy : 128 ≤ y.toNat) : ((((⟨#[0, 47]⟩ : ByteArray)[1]'(by decide)).toNat : Int) != (((⟨#[x, y]⟩ : ByteArray)[1]'(by show 1 < 2; omega)).toNat : Int)) = true := by
 show ((47 : Int) != (y.toNat : Int)) = true
 simp
 omega
theorem rune_high (r : Int) (w : World) (h0 : 128 ≤ r) : Calls Tryz.prog 319 #[.string ⟨#[0, 47]⟩, .int .i32 r] w fun e w' => e = .returned (.int .i64 (-1)) ∧ Below w.heap.size w w' := by
 by_cases he : r = 65533
 · subst he
   exact rune_error w
 have h1 : ¬ r < 128 := by omega
 have h2 : (0 : Int) ≤ r := by omega
 have HB : Hid (Below w.heap.size w w) := Below.refl _ w
 have HV : Hid (Calls Tryz.prog 329 #[.int .i32 r] w fun e w' => e = .returned (.bool (validRune r)) ∧ w = w') := valid_any r w
 cases hvr : validRune r
 · rw [hvr] at HV
   clear hvr
   go_enter Tryz.func319, Tryz.ntmps319
   go_wp2_with (go_at_call 329; refine HV.out.mono ?_; rintro e w' ⟨rfl, rfl⟩)
   go_ret
   exact ⟨rfl, HB.out⟩
 · rw [hvr] at HV
   have hval : Utf8.valid r = true := by rw [validRune_eq]; exact hvr
   rcases size_cases r h0 hval with ⟨x, y, hs, hy⟩ | ⟨x, y, z, hs⟩ | ⟨x, y, z, u, hs⟩
   · have HY : Hid (128 ≤ y.toNat) := hy
     have HC : Hid (∀ c W, Calls Tryz.prog 328 #[.string ByteArray.empty, .int .u8 c] W fun e w' => e = .returned (.int .i64 (-1)) ∧ ∃ q, w' = W.drewN q) := fun c W => (byte_any ByteArray.empty c W).mono fun e w' h => ⟨h.1, 0, h.2⟩
     clear hvr hval hy
     go_enter Tryz.func319, Tryz.ntmps319
     go_wp2_with (go_at_call 329; refine HV.out.mono ?_; rintro e w' ⟨rfl, rfl⟩)
     go_step3
     go_wp2
     refine wp_loop_rounds 1 ?_
     rw [rounds_succ]
     go_wp2
     go_step3
     go_wp2
     go_quiet (fail)
     obtain ⟨W, hW⟩ := exa (w.drewN nq)
     rw [← hW, bne47 x y HY.out]
     have HD : Hid (∀ q, Below w.heap.size w (W.drewN q)) := fun q => by rw [hW]; exact below_drewN (below_drewN (Below.refl _ w) _) q
     clear hW
     have hw2 : IntKind.i64.wrap 2 = 2 := by decide
     go_wp2
     go_quiet ((go_at_call 328; exact Calls.quiet_of (HC.out _ _)))
     go_wp2
     rw [Exit.noGoto_ret]
     go_wp2
     rw [Exit.noGoto_ret]
     go_ret
     exact ⟨rfl, HD.out _⟩
   · clear hvr hval
     go_enter Tryz.func319, Tryz.ntmps319
     go_wp2_with (go_at_call 329; refine HV.out.mono ?_; rintro e w' ⟨rfl, rfl⟩)
     go_step3
     go_wp2
     refine wp_loop_rounds 1 ?_
     rw [rounds_succ]
     go_wp2
     rw [Exit.noGoto_ret]
     go_ret
     exact ⟨rfl, HB.out⟩
   · clear hvr hval
     go_enter Tryz.func319, Tryz.ntmps319
     go_wp2_with (go_at_call 329; refine HV.out.mono ?_; rintro e w' ⟨rfl, rfl⟩)
     go_step3
     go_wp2
     refine wp_loop_rounds 1 ?_
     rw [rounds_succ]
     go_wp2
     rw [Exit.noGoto_ret]
     go_ret
     exact ⟨rfl, HB.out⟩
end Go.Proofs.YtopcefhncildnaaGreatDoor.D
