/-
  What the program tells of each node's kind: directories and files that may be, and how many links each may have.
-/
import Derived.Test.YtkcnephbaffmbaaGreatDoorK25
set_option maxRecDepth 100000
set_option maxHeartbeats 4000000
namespace Go.Proofs.YtkcnephbaffmbaaGreatDoor
open Go.RowKit
open D (En ArgE Chk)
open F (Fl chk)
theorem mayBeDir_any (n0 : Nat) (p1 : Int) (p2 : Bool) (p3 : Int) (p4 : List En) (p5 : Int) (p6 : List F.Bk) (ea : Option Addr) (el ec : Nat) (fa : Option Addr) (fl fc : Nat) (w : World) (hL : LN n0 w (p1, p2, p3, p4, p5, p6) (.slice ea el ec) (.slice fa fl fc)) (hfl : fl = p6.length) :
   Calls Tryz.prog 112 #[.agg #[.int .i64 p1, .bool p2, .int .i64 p3, .slice ea el ec, .int .i64 p5, .slice fa fl fc]] w fun e w' => e = .returned (.bool (decide (Chk p4 ∧ ((p5, p6) : Fl) = (0, [])))) ∧ Below w.heap.size w w' := by
 obtain ⟨W, hW⟩ : ∃ W, W = w.alloc (.cells #[.int .i64 p1, .bool p2, .int .i64 p3, .slice ea el ec, .int .i64 p5, .slice fa fl fc] 86) := ⟨_, rfl⟩
 have HW : Hid (Below w.heap.size w W ∧ Box W w.heap.size 86 #[.int .i64 p1, .bool p2, .int .i64 p3, .slice ea el ec, .int .i64 p5, .slice fa fl fc]) := ⟨by rw [hW]; exact (Below.refl _ w).alloc (Nat.le_refl _) _, by rw [hW]; exact Box.new _ _ _⟩
 have HC := D.check_any n0 _ p4 W (hL.1.below HW.out.1)
 have hl1 := run_len Tryz.underlying81 fa fl fc
 have hfl0 : fl = 0 ↔ p6 = [] := by rw [hfl]; exact List.length_eq_zero_iff
 clear hL hfl
 by_cases hck : Chk p4
 · rw [D.cerr_ok hck] at HC
   by_cases h5 : p5 = 0
   · subst h5
     by_cases h6 : p6 = []
     · have hz := hfl0.2 h6
       subst hz
       rw [decide_eq_true (⟨hck, by rw [h6]⟩ : Chk p4 ∧ ((0, p6) : Fl) = (0, []))]
       clear hck hfl0 h6
       go_enter Tryz.func112, Tryz.ntmps112
       go_wp2_with fail
       rw [← hW]
       clear hW
       refine HC.mono ?_
       rintro e w1 ⟨rfl, hb1⟩
       obtain ⟨g0, g1, g2, g3, g4, g5⟩ := (HW.out.2.below hb1 HW.out.2.lt).six
       go_wp2
       go_ret
       exact ⟨rfl, below_any HW.out.1 hb1⟩
     · have hz : ¬ (fl : Int) = 0 := fun c => h6 (hfl0.1 (by omega))
       have hzb : ((fl : Int) == 0) = false := by simpa using hz
       rw [decide_eq_false (fun c : Chk p4 ∧ ((0, p6) : Fl) = (0, []) => h6 (Prod.mk.inj c.2).2)]
       clear hck hfl0 h6
       go_enter Tryz.func112, Tryz.ntmps112
       go_wp2_with fail
       rw [← hW]
       clear hW
       refine HC.mono ?_
       rintro e w1 ⟨rfl, hb1⟩
       obtain ⟨g0, g1, g2, g3, g4, g5⟩ := (HW.out.2.below hb1 HW.out.2.lt).six
       go_wp2
       go_ret
       exact ⟨by simp, below_any HW.out.1 hb1⟩
   · rw [decide_eq_false (fun c : Chk p4 ∧ ((p5, p6) : Fl) = (0, []) => h5 (Prod.mk.inj c.2).1)]
     clear hck hfl0
     go_enter Tryz.func112, Tryz.ntmps112
     go_wp2_with fail
     rw [← hW]
     clear hW
     refine HC.mono ?_
     rintro e w1 ⟨rfl, hb1⟩
     obtain ⟨g0, g1, g2, g3, g4, g5⟩ := (HW.out.2.below hb1 HW.out.2.lt).six
     go_wp2
     go_ret
     exact ⟨rfl, below_any HW.out.1 hb1⟩
 · rw [D.cerr_bad hck] at HC
   rw [decide_eq_false (fun c : Chk p4 ∧ ((p5, p6) : Fl) = (0, []) => hck c.1)]
   clear hck hfl0
   go_enter Tryz.func112, Tryz.ntmps112
   go_wp2_with fail
   rw [← hW]
   clear hW
   refine HC.mono ?_
   rintro e w1 ⟨rfl, hb1⟩
   go_wp2
   go_ret
   exact ⟨rfl, below_any HW.out.1 hb1⟩
theorem mayBeFile_any (n0 : Nat) (p1 : Int) (p2 : Bool) (p3 : Int) (p4 : List En) (p5 : Int) (p6 : List F.Bk) (ea : Option Addr) (el ec : Nat) (fa : Option Addr) (fl fc : Nat) (w : World) (hL : LN n0 w (p1, p2, p3, p4, p5, p6) (.slice ea el ec) (.slice fa fl fc)) (hel : el = p4.length) :
   Calls Tryz.prog 113 #[.agg #[.int .i64 p1, .bool p2, .int .i64 p3, .slice ea el ec, .int .i64 p5, .slice fa fl fc]] w fun e w' => e = .returned (.bool (decide (p4 = [] ∧ chk (p5, p6) = true))) ∧ Below w.heap.size w w' := by
 obtain ⟨W, hW⟩ : ∃ W, W = w.alloc (.cells #[.int .i64 p1, .bool p2, .int .i64 p3, .slice ea el ec, .int .i64 p5, .slice fa fl fc] 86) := ⟨_, rfl⟩
 have HW : Hid (Below w.heap.size w W ∧ Box W w.heap.size 86 #[.int .i64 p1, .bool p2, .int .i64 p3, .slice ea el ec, .int .i64 p5, .slice fa fl fc]) := ⟨by rw [hW]; exact (Below.refl _ w).alloc (Nat.le_refl _) _, by rw [hW]; exact Box.new _ _ _⟩
 have HC := F.check_any n0 _ (p5, p6) W (hL.below HW.out.1).file
 have hl1 := run_len Tryz.underlying79 ea el ec
 have hel0 : el = 0 ↔ p4 = [] := by rw [hel]; exact List.length_eq_zero_iff
 clear hL hel
 by_cases h4 : p4 = []
 · have hz := hel0.2 h4
   subst hz
   have hd : decide (p4 = [] ∧ chk (p5, p6) = true) = chk (p5, p6) := by
     cases chk (p5, p6) <;> simp [h4]
   rw [hd]
   unfold F.cerr at HC
   cases hck : chk (p5, p6)
   · rw [if_neg (by rw [hck]; decide)] at HC
     clear hck hel0 h4 hd
     go_enter Tryz.func113, Tryz.ntmps113
     go_wp2_with fail
     rw [← hW]
     clear hW
     refine HC.mono ?_
     rintro e w1 ⟨rfl, hb1⟩
     go_wp2
     go_ret
     exact ⟨rfl, below_any HW.out.1 hb1⟩
   · rw [if_pos hck] at HC
     clear hck hel0 h4 hd
     go_enter Tryz.func113, Tryz.ntmps113
     go_wp2_with fail
     rw [← hW]
     clear hW
     refine HC.mono ?_
     rintro e w1 ⟨rfl, hb1⟩
     go_wp2
     go_ret
     exact ⟨rfl, below_any HW.out.1 hb1⟩
 · have hz : ¬ (el : Int) = 0 := fun c => h4 (hel0.1 (by omega))
   rw [decide_eq_false (fun c : p4 = [] ∧ chk (p5, p6) = true => h4 c.1)]
   clear hel0 h4 HC
   go_enter Tryz.func113, Tryz.ntmps113
   go_wp2
   rw [← hW]
   go_ret
   exact ⟨rfl, HW.out.1⟩
def least (p : Nd) : Int := if p.1 = 1 then 0 else 1
def most (p : Nd) : Int := if p.1 = 1 then 0 else if isD p = true then 1 else 16
theorem mayLink_any (p1 : Int) (p2 : Bool) (p3 : Int) (p4 : List En) (p5 : Int) (p6 : List F.Bk) (ea : Option Addr) (el ec : Nat) (fa : Option Addr) (fl fc : Nat) (w : World) :
   Calls Tryz.prog 115 #[.agg #[.int .i64 p1, .bool p2, .int .i64 p3, .slice ea el ec, .int .i64 p5, .slice fa fl fc]] w fun e w' => e = .returned (.tuple #[.int .i64 (least (p1, p2, p3, p4, p5, p6)), .int .i64 (most (p1, p2, p3, p4, p5, p6))]) ∧ Below w.heap.size w w' := by
 have HB := (Below.refl w.heap.size w).alloc (Nat.le_refl _) (.cells #[.int .i64 p1, .bool p2, .int .i64 p3, .slice ea el ec, .int .i64 p5, .slice fa fl fc] 86)
 by_cases h1 : p1 = 1
 · rw [show least (p1, p2, p3, p4, p5, p6) = 0 from if_pos h1, show most (p1, p2, p3, p4, p5, p6) = 0 from if_pos h1]
   subst h1
   go_enter Tryz.func115, Tryz.ntmps115
   go_wp2
   go_ret2
   exact ⟨rfl, HB⟩
 · rw [show least (p1, p2, p3, p4, p5, p6) = 1 from if_neg h1]
   cases p2
   · rw [show most (p1, false, p3, p4, p5, p6) = 16 by unfold most; rw [if_neg h1]; rfl]
     go_enter Tryz.func115, Tryz.ntmps115
     go_wp2
     go_ret2
     exact ⟨rfl, HB⟩
   · rw [show most (p1, true, p3, p4, p5, p6) = 1 by unfold most; rw [if_neg h1]; rfl]
     go_enter Tryz.func115, Tryz.ntmps115
     go_wp2
     go_ret2
     exact ⟨rfl, HB⟩
def NodeOk (p : Nd) : Prop := (isD p = true → Chk (en p) ∧ fi p = (0, [])) ∧ (isD p = false → en p = [] ∧ chk (fi p) = true)
theorem nodes_any (n0 : Nat) (a : Option Addr) (c : Nat) (l : List Nd) (nx : Int) (w : World) (hA : ndsN.lies n0 w [.slice a l.length c] l) (hlen : l.length ≤ 100000) :
   Calls Tryz.prog 63 #[.agg #[.slice a l.length c, .int .i64 nx]] w fun e w' => Says e (∀ p ∈ l, NodeOk p) ∧ Below w.heap.size w w' := by
 have HV : Hid (∀ V, Below w.heap.size w V → NV n0 (.slice a l.length c) l V) := nds_view hA
 obtain ⟨n, hn⟩ : ∃ n, n = l.length := ⟨_, rfl⟩
 have hl1 := run_len Tryz.underlying25 a l.length c
 rw [← hn] at hl1 HV hlen ⊢
 have HN : Hid (n = l.length) := hn
 obtain ⟨W, hW⟩ : ∃ W, W = w.alloc (.cells #[.slice a n c, .int .i64 nx] 27) := ⟨_, rfl⟩
 have HW : Hid (Below w.heap.size w W ∧ Box W w.heap.size 27 #[.slice a n c, .int .i64 nx]) := ⟨by rw [hW]; exact (Below.refl _ w).alloc (Nat.le_refl _) _, by rw [hW]; exact Box.new _ _ _⟩
 obtain ⟨g0, g1, _, _⟩ := HW.out.2.two
 rw [hW] at g0 g1
 clear hA hn
 go_enter Tryz.func63, Tryz.ntmps63
 go_wp2
 rw [← hW]
 clear hW g0 g1
 go_loopw [8] (fun i wr => ∃ (k : Nat), k ≤ n ∧ i = .int .i64 k ∧ Hid (∀ p ∈ l.take k, NodeOk p) ∧ Below W.heap.size W wr) (fun i _ => n - (intOf i).toNat)
 case atStart => exact ⟨0, Nat.zero_le _, rfl, fun _ h => (by simp at h), Below.refl _ _⟩
 case round =>
   obtain ⟨k, hk, rfl, HF, hbel⟩ := hrel
   by_cases hlt : k < n
   · obtain ⟨p, hp⟩ := get_lt (l := l) (k := k) (by rw [← HN.out]; exact hlt)
     obtain ⟨b, o, ea, el, ec, fa, fl, fc, hix, ⟨c0, c1, c2, c3, c4, c5⟩, hL, _, hel, hfl⟩ := HV.out wr (below_any HW.out.1 hbel) k p hp
     have hki : (k : Int) < (n : Int) := by omega
     obtain ⟨p1, p2, p3, p4, p5, p6⟩ := p
     simp only at c0 c1 c2 c3 c4 c5
     have HP : Hid (l[k]? = some (p1, p2, p3, p4, p5, p6)) := hp
     obtain ⟨V, hV⟩ : ∃ V, V = wr.alloc (.cells #[.int .i64 p1, .bool p2, .int .i64 p3, .slice ea el ec, .int .i64 p5, .slice fa fl fc] 86) := ⟨_, rfl⟩
     have hbV : Below wr.heap.size wr V := by rw [hV]; exact (Below.refl _ wr).alloc (Nat.le_refl _) _
     have HVV : Hid (Below W.heap.size W V ∧ Box V wr.heap.size 86 #[.int .i64 p1, .bool p2, .int .i64 p3, .slice ea el ec, .int .i64 p5, .slice fa fl fc]) := ⟨below_any hbel hbV, by rw [hV]; exact Box.new _ _ _⟩
     have hm : (p1, p2, p3, p4, p5, p6) ∈ l := List.mem_of_getElem? hp
     have HM : Hid ((p1, p2, p3, p4, p5, p6) ∈ l) := hm
     have hg1 : ∀ q ∈ l.take (k + 1), q ∈ l.take k ∨ q = (p1, p2, p3, p4, p5, p6) := fun q hq => by
       rw [take_snoc hp] at hq
       rcases List.mem_append.1 hq with h | h
       · exact .inl h
       · exact .inr (List.mem_singleton.1 h)
     have HG : Hid (∀ q ∈ l.take (k + 1), q ∈ l.take k ∨ q = (p1, p2, p3, p4, p5, p6)) := hg1
     have HD := mayBeDir_any n0 p1 p2 p3 p4 p5 p6 ea el ec fa fl fc V (hL.below hbV) hfl
     have HE := mayBeFile_any n0 p1 p2 p3 p4 p5 p6 ea el ec fa fl fc V (hL.below hbV) hel
     obtain ⟨q0, q1, q2, q3, q4, q5⟩ := HVV.out.2.six
     rw [hV] at q0 q1 q2 q3 q4 q5
     clear hp hbel hL hel hfl hbV hm hg1
     cases p2
     · by_cases hok : p4 = [] ∧ chk (p5, p6) = true
       · rw [decide_eq_true hok] at HE
         have HO : Hid (NodeOk (p1, false, p3, p4, p5, p6)) := ⟨fun c => (by cases c), fun _ => hok⟩
         clear hok HD
         go_wp2_with fail
         rw [← hV]
         clear hV q0 q1 q2 q3 q4 q5
         refine HE.mono ?_
         rintro e w1 ⟨rfl, hb1⟩
         go_wp2
         go_roundw
         case rel => exact ⟨k + 1, by omega, by go_num, fun q hq => (HG.out q hq).elim (HF.out q) (fun e => by rw [e]; exact HO.out), below_any HVV.out.1 hb1⟩
         case measure => simp [intOf]; omega
       · rw [decide_eq_false hok] at HE
         have HO : Hid (¬ ∀ p ∈ l, NodeOk p) := fun h => hok ((h _ HM.out).2 rfl)
         clear hok HD
         go_wp2_with fail
         rw [← hV]
         clear hV q0 q1 q2 q3 q4 q5
         refine HE.mono ?_
         rintro e w1 ⟨rfl, hb1⟩
         go_wp2
         go_ret
         exact ⟨says_no HO.out, below_any HW.out.1 (below_any HVV.out.1 hb1)⟩
     · by_cases hok : Chk p4 ∧ ((p5, p6) : Fl) = (0, [])
       · rw [decide_eq_true hok] at HD
         have HO : Hid (NodeOk (p1, true, p3, p4, p5, p6)) := ⟨fun _ => hok, fun c => (by cases c)⟩
         clear hok HE
         go_wp2_with fail
         rw [← hV]
         clear hV q0 q1 q2 q3 q4 q5
         refine HD.mono ?_
         rintro e w1 ⟨rfl, hb1⟩
         obtain ⟨q0, q1, q2, q3, q4, q5⟩ := (HVV.out.2.below hb1 HVV.out.2.lt).six
         go_wp2
         go_roundw
         case rel => exact ⟨k + 1, by omega, by go_num, fun q hq => (HG.out q hq).elim (HF.out q) (fun e => by rw [e]; exact HO.out), below_any HVV.out.1 hb1⟩
         case measure => simp [intOf]; omega
       · rw [decide_eq_false hok] at HD
         have HO : Hid (¬ ∀ p ∈ l, NodeOk p) := fun h => hok ((h _ HM.out).1 rfl)
         clear hok HE
         go_wp2_with fail
         rw [← hV]
         clear hV q0 q1 q2 q3 q4 q5
         refine HD.mono ?_
         rintro e w1 ⟨rfl, hb1⟩
         go_wp2
         go_ret
         exact ⟨says_no HO.out, below_any HW.out.1 (below_any HVV.out.1 hb1)⟩
   · obtain rfl : k = n := by omega
     have HO : Hid (∀ p ∈ l, NodeOk p) := fun p hp => HF.out p (by rw [List.take_of_length_le (by rw [HN.out]; exact Nat.le_refl _)]; exact hp)
     go_wp2
     go_ret
     exact ⟨says_yes HO.out, below_any HW.out.1 hbel⟩
end Go.Proofs.YtkcnephbaffmbaaGreatDoor
