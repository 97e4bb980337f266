/-
  fs.rename.
  fs.Rename: what it answers.
  What each op tells, in one word for all its answers: its error's number and the state.
-/
import Derived.Test.YtkcnephbaffmbaaGreatDoorK39
import Derived.Test.YtkcnephbaffmbaaGreatDoorK40
set_option maxRecDepth 100000
set_option maxHeartbeats 16000000
namespace Go.Proofs.YtkcnephbaffmbaaGreatDoor
open Go.RowKit
open D (En ins del there Chk aerr)
open P (ArgT)
theorem hid_mk {p : Prop} (h : p) : Hid p := h
def RenOk (s : St) (xs ys : List ByteArray) : Prop := (isD (tgt s xs) = true → isB xs ys = false) ∧ stdT s.1 ys ≠ (tgt s xs).1 ∧ (stdT s.1 ys ≠ 0 → cwE s xs ys = 0)
theorem rename_any (n S : Nat) (s : St) (hOk : Ok s) (av bv : Option Addr) (cv dv : Nat) (xs ys : List ByteArray) (hok : ys ≠ [] → (lst ys).data.toList ≠ []) (hy8 : ys.length ≤ 8) (w : World) (hM : MS n w S s) (hnS : n ≤ S) (hX : Stay n w (.slice av xs.length cv) xs) (hY : Stay n w (.slice bv ys.length dv) ys) :
   Calls Tryz.prog 71 #[.pointer (some ⟨S, 0, none⟩), .slice av xs.length cv, .slice bv ys.length dv] w fun e w' => (∃ E, e = .returned E ∧ EV (renE s xs ys) E) ∧ Below n w w' ∧ (renE s xs ys = 0 → MS n w' S (renS s xs ys)) := by
 obtain ⟨v, hB, hO⟩ := hM
 obtain ⟨a, c, rfl⟩ := own_len hO
 have hnw : n ≤ w.heap.size := by have := hB.lt; omega
 have hl1 := run_len Tryz.underlying59 av xs.length cv
 have hl2 := run_len Tryz.underlying59 bv ys.length dv
 obtain ⟨post, hpost⟩ : ∃ post : Ending → World → Prop, post = fun e w' => (∃ E, e = .returned E ∧ EV (renE s xs ys) E) ∧ Below n w w' ∧ (renE s xs ys = 0 → MS n w' S (renS s xs ys)) := ⟨_, rfl⟩
 have HPo : Hid (∀ E w', EV (renE s xs ys) E → Below n w w' → (renE s xs ys = 0 → MS n w' S (renS s xs ys)) → post (.returned E) w') := fun E w' h1 h2 h3 => by rw [hpost]; exact ⟨⟨E, rfl, h1⟩, h2, h3⟩
 rw [← hpost]
 by_cases hemp : xs = [] ∨ ys = []
 · have hK : renE s xs ys = 108 := by unfold renE; rw [if_pos hemp]
   rw [hK] at HPo
   have hr := refuse_bad 108 (by decide) none 0 0 w
   have hle : xs.length = 0 ∨ ys.length = 0 := hemp.imp (fun h => by rw [h]; rfl) (fun h => by rw [h]; rfl)
   generalize xs.length = m at hl1 hle ⊢
   generalize ys.length = m2 at hl2 hle ⊢
   clear hB hO hX hY hpost hok hK hemp hy8
   by_cases hm : m = 0
   · subst hm
     go_enter Tryz.func71, Tryz.ntmps71
     go_wp2_with (go_at_call 94; refine hr.mono ?_; rintro e1 w1 ⟨rfl, rfl⟩)
     exact HPo.out _ _ (ev_ref (by decide) _ _ _ _) (Below.refl _ _) (fun h => by omega)
   · have hm2 : m2 = 0 := by omega
     subst hm2
     have e1 : (((m : Nat) : Int) == 0) = false := by simp; omega
     clear hle
     go_enter Tryz.func71, Tryz.ntmps71
     go_wp2_with (go_at_call 94; refine hr.mono ?_; rintro e1 w1 ⟨rfl, rfl⟩)
     exact HPo.out _ _ (ev_ref (by decide) _ _ _ _) (Below.refl _ _) (fun h => by omega)
 have hx0 : xs ≠ [] := fun h => hemp (.inl h)
 have hy0 : ys ≠ [] := fun h => hemp (.inr h)
 have e1 : (((xs.length : Nat) : Int) == 0) = false := by have := List.length_pos_iff.2 hx0; simp; omega
 have e2 : (((ys.length : Nat) : Int) == 0) = false := by have := List.length_pos_iff.2 hy0; simp; omega
 have HWK := walk_any n 0 a c s hOk.wk av cv xs w (ndsN.olies hO) hX.at
 have HSD : Hid (∀ W, Below w.heap.size w W → Calls Tryz.prog 121 #[.agg #[.slice a s.1.length c, .int .i64 s.2], .slice bv ys.length dv] W fun e w' => (∃ E, e = .returned (.tuple #[.int .i64 (stdI s.1 ys), .int .i64 (stdT s.1 ys), E]) ∧ EV (stdE s.1 ys) E) ∧ Below W.heap.size W w') := fun W hW => stand_any n 0 a c s hOk.wk bv dv ys hy0 (hok hy0) W (ndsN.olies (ndsN.obelow hO hW)) (hY.below (hW.mono hnw)).at
 have HRI : Hid ((wlk s.1 1 xs).2 = 0 → (wlk s.1 1 xs).1 = (tgt s xs).1) := fun h => (hOk.wk.lead h).2.1
 have HND0 : Hid ((wlk s.1 1 xs).2 = 0 → ∀ W, Below w.heap.size w W → ∃ b o, W.cell? ⟨b, o + 1, none⟩ = some (.bool (isD (tgt s xs))) ∧ Calls Tryz.prog 100 #[.agg #[.slice a s.1.length c, .int .i64 s.2], .int .i64 (tgt s xs).1] W fun e w' => e = .returned (.pointer (some ⟨b, o, none⟩)) ∧ Below W.heap.size W w') := fun h0 W hW => by
   obtain ⟨h1, h2, _⟩ := hOk.wk.lead h0
   obtain ⟨k, hk⟩ := List.getElem?_of_mem h1
   obtain ⟨g, cap, e, f, hv, -, -, hix, hPu⟩ := nds_own_at hO k _ hk
   exact ⟨g, k * 6, (hPu W hW).1 1 _ rfl, node_any n _ s.2 s.1 hOk.wk.up k _ hk g (k * 6) W (ndsN.olies (ndsN.obelow hO hW)) (by have := hOk.wk.len; omega) hix⟩
 have HIB : Hid (∀ W, Below n w W → Calls Tryz.prog 122 #[.slice av xs.length cv, .slice bv ys.length dv] W fun e w' => e = .returned (.bool (isB xs ys)) ∧ Below W.heap.size W w') := fun W hW => isBelow_any 0 0 av bv cv dv xs ys W (hX.below hW).at (hY.below hW).at
 have HCW0 : Hid (∀ W, Below w.heap.size w W → Calls Tryz.prog 123 #[.pointer (some ⟨S, 0, none⟩), .bool (isD (tgt s xs)), .slice bv ys.length dv] W fun e w' => (∃ E, e = .returned E ∧ EV (cwE s xs ys) E) ∧ Below n W w' ∧ (cwE s xs ys = 0 → MS n w' S (dropN s (hold s ys) (lst ys) (tgt s ys)))) := fun W hW => clearWay_any n S s hOk (isD (tgt s xs)) bv dv ys W ⟨_, hB.below hW hB.lt, ndsN.obelow hO hW⟩ hnS (hY.below (hW.mono hnw))
 have HSK0 : Hid ((wlk s.1 1 xs).2 = 0 → stdE s.1 ys = 0 → RenOk s xs ys → ∀ W v1, Below n w W → ndsN.owns n W [v1] (ren1 s ys).1 → Calls Tryz.prog 124 #[.agg #[v1, .int .i64 s.2], .slice av xs.length cv] W fun e w' => e = .returned (.tuple #[]) ∧ W.grownBy w' v1.ownBlock ∧ ndsN.owns n w' [v1] (ren2 s xs ys)) := fun h1 h2 h3 W v1 hW hOW => by
   obtain ⟨c1, c2, c3, c4, c5, _⟩ := ren_clear hOk hx0 hy0 h1 h2 h3.2.1 h3.2.2
   obtain ⟨b1, b2, b3, b4, b5⟩ := c1.wk.stands hx0 (by rw [c2])
   obtain ⟨k, hk⟩ := List.getElem?_of_mem b1
   have := strike_any n 0 v1 (ren1 s ys) c1.wk k _ hk av cv xs hx0 b2 b3 b5 W hOW (hX.below hW).at
   rw [c3] at this
   exact this
 have HEN0 : Hid ((wlk s.1 1 xs).2 = 0 → stdE s.1 ys = 0 → RenOk s xs ys → ∀ W v1, Below n w W → ndsN.owns n W [v1] (ren2 s xs ys) → Calls Tryz.prog 109 #[.agg #[v1, .int .i64 s.2], .int .i64 (stdI s.1 ys), .slice bv ys.length dv, .int .i64 (tgt s xs).1] W fun e w' => (∃ E, e = .returned E ∧ EV (aerr (en (gt (ren2 s xs ys) (stdI s.1 ys))) (lst ys, (tgt s xs).1)) E) ∧ W.grownBy w' v1.ownBlock ∧ (aerr (en (gt (ren2 s xs ys) (stdI s.1 ys))) (lst ys, (tgt s xs).1) = 0 → ndsN.owns n w' [v1] (ren3 s xs ys)) ∧ (aerr (en (gt (ren2 s xs ys) (stdI s.1 ys))) (lst ys, (tgt s xs).1) ≠ 0 → Below W.heap.size W w')) := fun h1 h2 h3 W v1 hW hOW => by
   obtain ⟨d1, d2, d3, d4, _, _⟩ := ren_struck hOk hx0 hy0 h1 h2 h3.2.1 h3.2.2
   obtain ⟨k, hk⟩ := List.getElem?_of_mem d2
   have hlow := hOk.wk.low _ (hOk.wk.lead h1).1
   have hnx := hOk.wk.nx
   have := enlist_any n 0 v1 (ren2 s xs ys) s.2 d1.up (by have := d1.len; simp only at this; omega) k _ hk bv dv ys hy0 (tgt s xs).1 ⟨by omega, by omega⟩ W hOW (hY.below hW).at
   rw [d3] at this
   exact this
 have HBE0 : Hid ((wlk s.1 1 xs).2 = 0 → stdE s.1 ys = 0 → RenOk s xs ys → aerr (en (gt (ren2 s xs ys) (stdI s.1 ys))) (lst ys, (tgt s xs).1) = 0 → ∀ W a1 L1 c1, ndsN.owns n W [.slice a1 L1 c1] (ren3 s xs ys) → Calls Tryz.prog 117 #[.agg #[.slice a1 L1 c1, .int .i64 s.2], .int .i64 (tgt s xs).1] W fun e w' => e = .returned (.int .i64 (dpt s.1 8 (tgt s xs).1)) ∧ Below W.heap.size W w') := fun h1 h2 h3 h4 W a1 L1 c1 hOW => by
   obtain ⟨r1, ⟨m, m1, m2⟩, r3, r4⟩ := ren_named hOk hx0 hy0 h1 h2 h3.1 h3.2.1 h3.2.2 h4
   obtain ⟨a', c', hv⟩ := own_len hOW
   simp only [Value.slice.injEq] at hv
   obtain ⟨-, rfl, -⟩ := hv
   have h63 : ∀ p ∈ ren3 s xs ys, (en p).length ≤ 63 := fun p hp => by
     cases hd : isD p
     · rw [(r1.files p hp hd).1]; simp
     · exact (r1.dirs p hp hd).1.1
   have := deep_any n a1 c1 (ren3 s xs ys) s.2 r1.up (by have := r1.len; exact this) h63 r1.names 8 m m1 (by rw [m2]; exact r3) (by omega) W (ndsN.olies hOW)
   rw [m2, r4] at this
   exact this
 have HA1 : (wlk s.1 1 xs).2 ≠ 0 → renE s xs ys = (wlk s.1 1 xs).2 := fun h1 => by unfold renE; rw [if_neg hemp, if_pos h1]
 have HA2 : (wlk s.1 1 xs).2 = 0 → stdE s.1 ys ≠ 0 → renE s xs ys = stdE s.1 ys := fun h1 h2 => by unfold renE; rw [if_neg hemp, if_neg (by rw [h1]; decide), if_pos h2]
 have HA3 : (wlk s.1 1 xs).2 = 0 → stdE s.1 ys = 0 → isD (tgt s xs) = true → isB xs ys = true → renE s xs ys = 108 := fun h1 h2 h3 h4 => by unfold renE; rw [if_neg hemp, if_neg (by rw [h1]; decide), if_neg (by rw [h2]; decide), if_pos ⟨h3, h4⟩]
 have HA4 : (wlk s.1 1 xs).2 = 0 → stdE s.1 ys = 0 → (isD (tgt s xs) = true → isB xs ys = false) → (stdT s.1 ys = (tgt s xs).1 → renE s xs ys = 0 ∧ renS s xs ys = (s.1, s.2)) ∧ (stdT s.1 ys ≠ (tgt s xs).1 → stdT s.1 ys ≠ 0 → cwE s xs ys ≠ 0 → renE s xs ys = cwE s xs ys) ∧ (stdT s.1 ys ≠ (tgt s xs).1 → (stdT s.1 ys ≠ 0 → cwE s xs ys = 0) → RenOk s xs ys) ∧
     (RenOk s xs ys → aerr (en (gt (ren2 s xs ys) (stdI s.1 ys))) (lst ys, (tgt s xs).1) ≠ 0 → renE s xs ys = aerr (en (gt (ren2 s xs ys) (stdI s.1 ys))) (lst ys, (tgt s xs).1)) ∧ (RenOk s xs ys → aerr (en (gt (ren2 s xs ys) (stdI s.1 ys))) (lst ys, (tgt s xs).1) = 0 → 8 < ys.length + dpt s.1 8 (tgt s xs).1 → renE s xs ys = 5) ∧
     (RenOk s xs ys → aerr (en (gt (ren2 s xs ys) (stdI s.1 ys))) (lst ys, (tgt s xs).1) = 0 → ¬ 8 < ys.length + dpt s.1 8 (tgt s xs).1 → renE s xs ys = 0 ∧ renS s xs ys = (ren3 s xs ys, s.2)) := fun h1 h2 h3 => by
   have h4 : ¬ (isD (tgt s xs) = true ∧ isB xs ys = true) := fun h => by have := h3 h.1; rw [h.2] at this; cases this
   have hg : renE s xs ys = (if stdT s.1 ys = (tgt s xs).1 then 0 else if stdT s.1 ys ≠ 0 ∧ cwE s xs ys ≠ 0 then cwE s xs ys else if aerr (en (gt (ren2 s xs ys) (stdI s.1 ys))) (lst ys, (tgt s xs).1) ≠ 0 then aerr (en (gt (ren2 s xs ys) (stdI s.1 ys))) (lst ys, (tgt s xs).1) else if 8 < ys.length + dpt s.1 8 (tgt s xs).1 then 5 else 0) := by
     unfold renE
     rw [if_neg hemp, if_neg (by rw [h1]; decide), if_neg (by rw [h2]; decide), if_neg h4]
   have hn : RenOk s xs ys → ¬ (stdT s.1 ys ≠ 0 ∧ cwE s xs ys ≠ 0) := fun h hh => hh.2 (h.2.2 hh.1)
   refine ⟨fun h => ⟨by rw [hg, if_pos h], by unfold renS; rw [if_pos h]⟩, fun h5 h6 h7 => by rw [hg, if_neg h5, if_pos ⟨h6, h7⟩], fun h5 h6 => ⟨h3, h5, h6⟩, fun h5 h6 => by rw [hg, if_neg h5.2.1, if_neg (hn h5), if_pos h6], fun h5 h6 h7 => by rw [hg, if_neg h5.2.1, if_neg (hn h5), if_neg (by rw [h6]; decide), if_pos h7], fun h5 h6 h7 => ⟨by rw [hg, if_neg h5.2.1, if_neg (hn h5), if_neg (by rw [h6]; decide), if_neg h7], by unfold renS; rw [if_neg h5.2.1]⟩⟩
 have HA5 : (stdT s.1 ys = 0 → (ren1 s ys).1 = s.1) ∧ (stdT s.1 ys ≠ 0 → (dropN s (hold s ys) (lst ys) (tgt s ys)).1 = (ren1 s ys).1) := ⟨fun h => by unfold ren1; rw [if_pos h], fun h => by unfold ren1; rw [if_neg h]⟩
 have HCW1 : Hid (∀ W, Below w.heap.size w W → Calls Tryz.prog 123 #[.pointer (some ⟨S, 0, none⟩), .bool (isD (tgt s xs)), .slice bv ys.length dv] W fun e w' => (∃ E, e = .returned E ∧ EV (cwE s xs ys) E) ∧ Below n W w' ∧ (cwE s xs ys = 0 → MS n w' S ((dropN s (hold s ys) (lst ys) (tgt s ys)).1, s.2))) := HCW0.out
 have hdp : dpt s.1 8 (tgt s xs).1 ≤ 8 := dpt_le 8 _
 have HAL : Hid (((wlk s.1 1 xs).2 ≠ 0 → renE s xs ys = (wlk s.1 1 xs).2) ∧ ((wlk s.1 1 xs).2 = 0 → stdE s.1 ys ≠ 0 → renE s xs ys = stdE s.1 ys) ∧ ((wlk s.1 1 xs).2 = 0 → stdE s.1 ys = 0 → isD (tgt s xs) = true → isB xs ys = true → renE s xs ys = 108)) := ⟨HA1, HA2, HA3⟩
 have HAM : Hid ((wlk s.1 1 xs).2 = 0 → stdE s.1 ys = 0 → (isD (tgt s xs) = true → isB xs ys = false) → (stdT s.1 ys = (tgt s xs).1 → renE s xs ys = 0 ∧ renS s xs ys = (s.1, s.2)) ∧ (stdT s.1 ys ≠ (tgt s xs).1 → stdT s.1 ys ≠ 0 → cwE s xs ys ≠ 0 → renE s xs ys = cwE s xs ys) ∧ (stdT s.1 ys ≠ (tgt s xs).1 → (stdT s.1 ys ≠ 0 → cwE s xs ys = 0) → RenOk s xs ys) ∧
     (RenOk s xs ys → aerr (en (gt (ren2 s xs ys) (stdI s.1 ys))) (lst ys, (tgt s xs).1) ≠ 0 → renE s xs ys = aerr (en (gt (ren2 s xs ys) (stdI s.1 ys))) (lst ys, (tgt s xs).1)) ∧ (RenOk s xs ys → aerr (en (gt (ren2 s xs ys) (stdI s.1 ys))) (lst ys, (tgt s xs).1) = 0 → 8 < ys.length + dpt s.1 8 (tgt s xs).1 → renE s xs ys = 5) ∧
     (RenOk s xs ys → aerr (en (gt (ren2 s xs ys) (stdI s.1 ys))) (lst ys, (tgt s xs).1) = 0 → ¬ 8 < ys.length + dpt s.1 8 (tgt s xs).1 → renE s xs ys = 0 ∧ renS s xs ys = (ren3 s xs ys, s.2))) := HA4
 have HS1 : Hid ((stdT s.1 ys = 0 → (ren1 s ys).1 = s.1) ∧ (stdT s.1 ys ≠ 0 → (dropN s (hold s ys) (lst ys) (tgt s ys)).1 = (ren1 s ys).1)) := HA5
 have HS : Hid (Box w S 27 #[.slice a s.1.length c, .int .i64 s.2] ∧ ndsN.owns n w [.slice a s.1.length c] s.1 ∧ n ≤ w.heap.size ∧ n ≤ S) := ⟨hB, hO, hnw, hnS⟩
 obtain ⟨g0, g1, -, -⟩ := hB.two
 clear HA1 HA2 HA3 HA4 HA5 HCW0 hB hO hX hY hok hpost hOk hemp hx0 hy0
 generalize renE s xs ys = K at HPo HAL HAM
 generalize renS s xs ys = S' at HPo HAM
 generalize aerr (en (gt (ren2 s xs ys) (stdI s.1 ys))) (lst ys, (tgt s xs).1) = ae at HAM HEN0 HBE0
 generalize RenOk s xs ys = Cond at HAM HSK0 HEN0 HBE0
 generalize (dropN s (hold s ys) (lst ys) (tgt s ys)).1 = ld at HS1 HCW1
 generalize (ren1 s ys).1 = l1 at HS1 HSK0
 generalize ren2 s xs ys = l2 at HSK0 HEN0
 generalize ren3 s xs ys = l3 at HEN0 HBE0 HAM
 generalize cwE s xs ys = cw at HAM HCW1
 generalize dpt s.1 8 (tgt s xs).1 = dp at HAM HBE0 hdp
 generalize isB xs ys = ib at HAL HAM HIB
 generalize isD (tgt s xs) = d at HAL HAM HND0 HCW1
 generalize (tgt s xs).1 = ri at HRI HND0 HEN0 HBE0 HAM
 generalize stdT s.1 ys = st at HSD HAM HS1
 generalize stdI s.1 ys = si at HSD HEN0
 generalize stdE s.1 ys = se at HSD HAL HAM HSK0 HEN0 HBE0
 generalize (wlk s.1 1 xs).1 = wi at HWK HRI
 generalize (wlk s.1 1 xs).2 = re at HWK HRI HAL HAM HND0 HSK0 HEN0 HBE0
 obtain ⟨l, nx⟩ := s
 simp only at HWK HSD HND0 HCW1 HSK0 HEN0 HBE0 HAM HS1 HS g0 g1
 generalize hLL : l.length = L at HWK HSD HND0 HS g0
 generalize xs.length = m at HWK HIB hl1 e1 HSK0 ⊢
 generalize ys.length = m2 at HSD HIB hl2 e2 HCW1 HEN0 HAM hy8 ⊢
 clear hLL hnw hnS
 go_enter Tryz.func71, Tryz.ntmps71
 go_wp2_with fail
 refine HWK.mono ?_
 rintro e3 w1 ⟨⟨E, rfl, hE⟩, hb1⟩
 have HB1 : Hid (Below w.heap.size w w1) := hb1
 clear hb1 HWK g0 g1
 by_cases hre : re = 0
 case neg =>
   have HK : Hid (K = re ∧ re ≠ 0) := ⟨HAL.out.1 hre, hre⟩
   obtain ⟨a2, l2', c2, s2, rfl⟩ : ∃ a2 l2 c2 s2, E = refV (.slice a2 l2 c2) re s2 := by
     rcases hE with ⟨h, _⟩ | ⟨_, a2, l2, c2, s2, h⟩
     · exact absurd h hre
     · exact ⟨a2, l2, c2, s2, h⟩
   clear hE hre
   go_wp2
   exact HPo.out _ _ (by rw [HK.out.1]; exact ev_ref HK.out.2 _ _ _ _) (HB1.out.mono HS.out.2.2.1) (fun h => absurd (HK.out.1.symm.trans h) HK.out.2)
 have hwi := HRI.out hre
 obtain rfl : E = .nilIface := by
   rcases hE with ⟨_, h⟩ | ⟨h, _⟩
   · exact h
   · exact absurd hre h
 subst hwi
 have HND : Hid (∀ W, Below w.heap.size w W → ∃ b o, W.cell? ⟨b, o + 1, none⟩ = some (.bool d) ∧ Calls Tryz.prog 100 #[.agg #[.slice a L c, .int .i64 nx], .int .i64 wi] W fun e w' => e = .returned (.pointer (some ⟨b, o, none⟩)) ∧ Below W.heap.size W w') := HND0.out hre
 have HRE0 : Hid (re = 0) := hre
 have HCS1 := HSD.out w1 HB1.out
 obtain ⟨t0, t1, -, -⟩ := (HS.out.1.below HB1.out HS.out.1.lt).two
 clear hE hre HND0
 go_wp2_with fail
 refine HCS1.mono ?_
 rintro e4 w2 ⟨⟨E, rfl, hE⟩, hb2⟩
 have HB2 : Hid (Below w.heap.size w w2) := below_any HB1.out hb2
 clear hb2 HCS1 t0 t1
 by_cases hse : se = 0
 case neg =>
   have HK : Hid (K = se ∧ se ≠ 0) := ⟨HAL.out.2.1 HRE0.out hse, hse⟩
   obtain ⟨a2, l2', c2, s2, rfl⟩ : ∃ a2 l2 c2 s2, E = refV (.slice a2 l2 c2) se s2 := by
     rcases hE with ⟨h, _⟩ | ⟨_, a2, l2, c2, s2, h⟩
     · exact absurd h hse
     · exact ⟨a2, l2, c2, s2, h⟩
   clear hE hse
   go_wp2
   exact HPo.out _ _ (by rw [HK.out.1]; exact ev_ref HK.out.2 _ _ _ _) (HB2.out.mono HS.out.2.2.1) (fun h => absurd (HK.out.1.symm.trans h) HK.out.2)
 obtain rfl : E = .nilIface := by
   rcases hE with ⟨_, h⟩ | ⟨h, _⟩
   · exact h
   · exact absurd hse h
 have HSE0 : Hid (se = 0) := hse
 obtain ⟨b3, o3, hc3, HCN⟩ := HND.out w2 HB2.out
 obtain ⟨t0, t1, -, -⟩ := (HS.out.1.below HB2.out HS.out.1.lt).two
 clear hE hse
 go_wp2_with fail
 refine HCN.mono ?_
 rintro e5 w3 ⟨rfl, hb3⟩
 have hc3' : w3.cell? ⟨b3, o3 + 1, none⟩ = some (.bool d) := by rw [hb3.cell (cell_lt hc3)]; exact hc3
 have HB3 : Hid (Below w.heap.size w w3) := below_any HB2.out hb3
 clear hb3 hc3 HCN t0 t1
 cases d
 case true =>
   have HCI := HIB.out w3 (HB3.out.mono HS.out.2.2.1)
   go_wp2_with fail
   refine HCI.mono ?_
   rintro e6 w4 ⟨rfl, hb4⟩
   have HBW0 : Hid (Below w.heap.size w w4) := below_any HB3.out hb4
   clear hb4 HCI hc3'
   cases ib
   case true =>
     have HK : Hid (K = 108) := HAL.out.2.2 HRE0.out HSE0.out (by simp) (by simp)
     have hr := refuse_bad 108 (by decide) bv m2 dv w4
     go_wp2_with fail
     refine hr.mono ?_
     rintro e7 w5 ⟨rfl, rfl⟩
     go_wp2
     exact HPo.out _ _ (by rw [HK.out]; exact ev_ref (by decide) _ _ _ _) (HBW0.out.mono HS.out.2.2.1) (fun h => by rw [HK.out] at h; omega)
   case false =>
     have HG := HAM.out HRE0.out HSE0.out (fun _ => rfl)
     have HKS := hid_mk HG.1
     have HKC := hid_mk HG.2.1
     have HCO := hid_mk HG.2.2.1
     have HKK := hid_mk (And.intro trivial HG.2.2.2)
     have HSK := hid_mk (HSK0.out HRE0.out HSE0.out)
     have HEN := hid_mk (HEN0.out HRE0.out HSE0.out)
     have HBE := hid_mk (fun h => HBE0.out HRE0.out HSE0.out h)
     have HCW := HCW1
     clear HG HAM HSK0 HEN0 HBE0 HCW1 HSD HAL hl1 e1 e2
     have HBk : Hid (Below w.heap.size w w4 ∧ Box w4 S 27 #[.slice a L c, .int .i64 nx] ∧ ndsN.owns n w4 [.slice a L c] l) := ⟨HBW0.out, HS.out.1.below HBW0.out HS.out.1.lt, ndsN.obelow HS.out.2.1 HBW0.out⟩
     by_cases hsr : st = wi
     · have HK : Hid (K = 0 ∧ S' = (l, nx)) := HKS.out hsr
       subst hsr
       go_wp2
       exact HPo.out _ _ (by rw [HK.out.1]; exact ev_nil) (HBk.out.1.mono HS.out.2.2.1) (fun _ => by rw [HK.out.2]; exact ⟨_, HBk.out.2.1, HBk.out.2.2⟩)
     have hsr' : (st == wi) = false := by simpa using hsr
     have HSR : Hid (st ≠ wi) := hsr
     clear hsr
     by_cases hs0 : st = 0
     · have hC1 : Cond := HCO.out HSR.out (fun h => absurd hs0 h)
       have hs1 := HS1.out.1 hs0
       have HBW : Hid (Below n w w4 ∧ Box w4 S 27 #[.slice a L c, .int .i64 nx] ∧ ndsN.owns n w4 [.slice a L c] l1) := ⟨HBk.out.1.mono HS.out.2.2.1, HBk.out.2.1, by rw [hs1]; exact HBk.out.2.2⟩
       subst hs0
       clear hs1
       have HCS := HSK.out hC1 w4 _ HBW.out.1 HBW.out.2.2
       obtain ⟨t0, t1, -, -⟩ := HBW.out.2.1.two
       go_wp2_with fail
       refine HCS.mono ?_
       rintro e7 w7 ⟨rfl, hg7, hO7⟩
       have hB7 := HBW.out.2.1.grown hg7 (own_apart HBW.out.2.1 HBW.out.2.2)
       have HB7 : Hid (Below n w w7 ∧ Box w7 S 27 #[.slice a L c, .int .i64 nx] ∧ ndsN.owns n w7 [.slice a L c] l2) := ⟨HBW.out.1.trans (row_below HBW.out.2.2 (by have := HBW.out.2.1.lt; have := HS.out.2.2.2; omega) hg7), hB7, hO7⟩
       have HCE := HEN.out hC1 w7 _ HB7.out.1 HB7.out.2.2
       clear t0 t1 hg7 hO7 hB7 HCS
       obtain ⟨t0, t1, -, -⟩ := HB7.out.2.1.two
       go_wp2_with fail
       refine HCE.mono ?_
       rintro e8 w8 ⟨⟨E8, rfl, hE8⟩, hg8, hO8, -⟩
       have hB8 := HB7.out.2.1.grown hg8 (own_apart HB7.out.2.1 HB7.out.2.2)
       have HB8 : Hid (Below n w w8 ∧ Box w8 S 27 #[.slice a L c, .int .i64 nx] ∧ (ae = 0 → ndsN.owns n w8 [.slice a L c] l3)) := ⟨HB7.out.1.trans (row_below HB7.out.2.2 (by have := HB7.out.2.1.lt; have := HS.out.2.2.2; omega) hg8), hB8, hO8⟩
       clear t0 t1 hg8 hO8 hB8 HCE
       by_cases hae : ae = 0
       case neg =>
         have HK : Hid (K = ae ∧ ae ≠ 0) := ⟨HKK.out.2.1 hC1 hae, hae⟩
         obtain ⟨a2, l2', c2, s2, rfl⟩ : ∃ a2 l2 c2 s2, E8 = refV (.slice a2 l2 c2) ae s2 := by
           rcases hE8 with ⟨h, _⟩ | ⟨_, a2, l2, c2, s2, h⟩
           · exact absurd h hae
           · exact ⟨a2, l2, c2, s2, h⟩
         clear hE8 hae
         go_wp2
         exact HPo.out _ _ (by rw [HK.out.1]; exact ev_ref HK.out.2 _ _ _ _) HB8.out.1 (fun h => absurd (HK.out.1.symm.trans h) HK.out.2)
       subst hae
       obtain rfl : E8 = .nilIface := by
         rcases hE8 with ⟨_, h⟩ | ⟨h, _⟩
         · exact h
         · exact absurd rfl h
       have HCB := HBE.out hC1 (by simp) w8 a L c (HB8.out.2.2 (by simp))
       obtain ⟨t0, t1, -, -⟩ := HB8.out.2.1.two
       clear hE8
       go_wp2_with fail
       refine HCB.mono ?_
       rintro e9 w9 ⟨rfl, hb9⟩
       have HB9 : Hid (Below n w w9 ∧ MS n w9 S (l3, nx)) := ⟨HB8.out.1.trans (hb9.mono (by have := HB8.out.2.1.lt; have := HS.out.2.2.2; omega)), ⟨_, HB8.out.2.1.below hb9 HB8.out.2.1.lt, ndsN.obelow (HB8.out.2.2 (by simp)) hb9⟩⟩
       clear hb9 HCB t0 t1
       by_cases h8 : 8 < m2 + dp
       · have HK : Hid (K = 5) := HKK.out.2.2.1 hC1 (by simp) h8
         have h8i : (8 : Int) < (m2 : Int) + (dp : Int) := by omega
         have hr := refuse_bad 5 (by decide) bv m2 dv w9
         clear h8
         go_wp2_with fail
         refine hr.mono ?_
         rintro e10 w10 ⟨rfl, rfl⟩
         go_wp2
         exact HPo.out _ _ (by rw [HK.out]; exact ev_ref (by decide) _ _ _ _) HB9.out.1 (fun h => by rw [HK.out] at h; omega)
       · have HK : Hid (K = 0 ∧ S' = (l3, nx)) := HKK.out.2.2.2 hC1 (by simp) h8
         have h8i : ¬ (8 : Int) < (m2 : Int) + (dp : Int) := by omega
         clear h8
         go_wp2
         exact HPo.out _ _ (by rw [HK.out.1]; exact ev_nil) HB9.out.1 (fun _ => by rw [HK.out.2]; exact HB9.out.2)
     have hs0' : (st == 0) = false := by simpa using hs0
     have HS0 : Hid (st ≠ 0) := hs0
     obtain ⟨b5, o5, hc5, HCN5⟩ := HND.out w4 HBk.out.1
     obtain ⟨t0, t1, -, -⟩ := HBk.out.2.1.two
     go_wp2_with fail
     refine HCN5.mono ?_
     rintro e5 w5 ⟨rfl, hb5⟩
     have hc5' : w5.cell? ⟨b5, o5 + 1, none⟩ = some (.bool true) := by rw [hb5.cell (cell_lt hc5)]; exact hc5
     have HB5 : Hid (Below w.heap.size w w5) := below_any HBk.out.1 hb5
     have HCC := HCW.out w5 HB5.out
     clear t0 t1 hb5 hc5 HCN5
     go_wp2_with fail
     refine HCC.mono ?_
     rintro e6 w6 ⟨⟨E6, rfl, hE6⟩, hb6, hM6⟩
     have HB6 : Hid (Below n w w6) := (HB5.out.mono HS.out.2.2.1).trans hb6
     by_cases hcw : cw = 0
     case neg =>
       have HK : Hid (K = cw ∧ cw ≠ 0) := ⟨HKC.out HSR.out HS0.out hcw, hcw⟩
       obtain ⟨a2, l2', c2, s2, rfl⟩ : ∃ a2 l2 c2 s2, E6 = refV (.slice a2 l2 c2) cw s2 := by
         rcases hE6 with ⟨h, _⟩ | ⟨_, a2, l2, c2, s2, h⟩
         · exact absurd h hcw
         · exact ⟨a2, l2, c2, s2, h⟩
       clear hE6 hcw hb6 hM6 HCC
       go_wp2
       exact HPo.out _ _ (by rw [HK.out.1]; exact ev_ref HK.out.2 _ _ _ _) HB6.out (fun h => absurd (HK.out.1.symm.trans h) HK.out.2)
     have hC1 : Cond := HCO.out HSR.out (fun _ => hcw)
     obtain ⟨v6, hB6, hO6⟩ := hM6 hcw
     rw [HS1.out.2 HS0.out] at hO6
     obtain ⟨a1, c1, hv6⟩ := own_len hO6
     obtain ⟨L1, hL1⟩ : ∃ L1, L1 = l1.length := ⟨_, rfl⟩
     rw [← hL1] at hv6
     subst hv6
     have HBW : Hid (Below n w w6 ∧ Box w6 S 27 #[.slice a1 L1 c1, .int .i64 nx] ∧ ndsN.owns n w6 [.slice a1 L1 c1] l1) := ⟨HB6.out, hB6, hO6⟩
     obtain rfl : E6 = .nilIface := by
       rcases hE6 with ⟨_, h⟩ | ⟨h, _⟩
       · exact h
       · exact absurd hcw h
     clear hE6 hcw hb6 hM6 HCC hB6 hO6 hL1 hc5'
     have HCS := HSK.out hC1 w6 _ HBW.out.1 HBW.out.2.2
     obtain ⟨t0, t1, -, -⟩ := HBW.out.2.1.two
     go_wp2_with fail
     refine HCS.mono ?_
     rintro e7 w7 ⟨rfl, hg7, hO7⟩
     have hB7 := HBW.out.2.1.grown hg7 (own_apart HBW.out.2.1 HBW.out.2.2)
     have HB7 : Hid (Below n w w7 ∧ Box w7 S 27 #[.slice a1 L1 c1, .int .i64 nx] ∧ ndsN.owns n w7 [.slice a1 L1 c1] l2) := ⟨HBW.out.1.trans (row_below HBW.out.2.2 (by have := HBW.out.2.1.lt; have := HS.out.2.2.2; omega) hg7), hB7, hO7⟩
     have HCE := HEN.out hC1 w7 _ HB7.out.1 HB7.out.2.2
     clear t0 t1 hg7 hO7 hB7 HCS
     obtain ⟨t0, t1, -, -⟩ := HB7.out.2.1.two
     go_wp2_with fail
     refine HCE.mono ?_
     rintro e8 w8 ⟨⟨E8, rfl, hE8⟩, hg8, hO8, -⟩
     have hB8 := HB7.out.2.1.grown hg8 (own_apart HB7.out.2.1 HB7.out.2.2)
     have HB8 : Hid (Below n w w8 ∧ Box w8 S 27 #[.slice a1 L1 c1, .int .i64 nx] ∧ (ae = 0 → ndsN.owns n w8 [.slice a1 L1 c1] l3)) := ⟨HB7.out.1.trans (row_below HB7.out.2.2 (by have := HB7.out.2.1.lt; have := HS.out.2.2.2; omega) hg8), hB8, hO8⟩
     clear t0 t1 hg8 hO8 hB8 HCE
     by_cases hae : ae = 0
     case neg =>
       have HK : Hid (K = ae ∧ ae ≠ 0) := ⟨HKK.out.2.1 hC1 hae, hae⟩
       obtain ⟨a2, l2', c2, s2, rfl⟩ : ∃ a2 l2 c2 s2, E8 = refV (.slice a2 l2 c2) ae s2 := by
         rcases hE8 with ⟨h, _⟩ | ⟨_, a2, l2, c2, s2, h⟩
         · exact absurd h hae
         · exact ⟨a2, l2, c2, s2, h⟩
       clear hE8 hae
       go_wp2
       exact HPo.out _ _ (by rw [HK.out.1]; exact ev_ref HK.out.2 _ _ _ _) HB8.out.1 (fun h => absurd (HK.out.1.symm.trans h) HK.out.2)
     subst hae
     obtain rfl : E8 = .nilIface := by
       rcases hE8 with ⟨_, h⟩ | ⟨h, _⟩
       · exact h
       · exact absurd rfl h
     have HCB := HBE.out hC1 (by simp) w8 a1 L1 c1 (HB8.out.2.2 (by simp))
     obtain ⟨t0, t1, -, -⟩ := HB8.out.2.1.two
     clear hE8
     go_wp2_with fail
     refine HCB.mono ?_
     rintro e9 w9 ⟨rfl, hb9⟩
     have HB9 : Hid (Below n w w9 ∧ MS n w9 S (l3, nx)) := ⟨HB8.out.1.trans (hb9.mono (by have := HB8.out.2.1.lt; have := HS.out.2.2.2; omega)), ⟨_, HB8.out.2.1.below hb9 HB8.out.2.1.lt, ndsN.obelow (HB8.out.2.2 (by simp)) hb9⟩⟩
     clear hb9 HCB t0 t1
     by_cases h8 : 8 < m2 + dp
     · have HK : Hid (K = 5) := HKK.out.2.2.1 hC1 (by simp) h8
       have h8i : (8 : Int) < (m2 : Int) + (dp : Int) := by omega
       have hr := refuse_bad 5 (by decide) bv m2 dv w9
       clear h8
       go_wp2_with fail
       refine hr.mono ?_
       rintro e10 w10 ⟨rfl, rfl⟩
       go_wp2
       exact HPo.out _ _ (by rw [HK.out]; exact ev_ref (by decide) _ _ _ _) HB9.out.1 (fun h => by rw [HK.out] at h; omega)
     · have HK : Hid (K = 0 ∧ S' = (l3, nx)) := HKK.out.2.2.2 hC1 (by simp) h8
       have h8i : ¬ (8 : Int) < (m2 : Int) + (dp : Int) := by omega
       clear h8
       go_wp2
       exact HPo.out _ _ (by rw [HK.out.1]; exact ev_nil) HB9.out.1 (fun _ => by rw [HK.out.2]; exact HB9.out.2)
 case false =>
   have HBW0 : Hid (Below w.heap.size w w3) := HB3.out
   have HG := HAM.out HRE0.out HSE0.out (fun h => by cases h)
   have HKS := hid_mk HG.1
   have HKC := hid_mk HG.2.1
   have HCO := hid_mk HG.2.2.1
   have HKK := hid_mk (And.intro trivial HG.2.2.2)
   have HSK := hid_mk (HSK0.out HRE0.out HSE0.out)
   have HEN := hid_mk (HEN0.out HRE0.out HSE0.out)
   have HBE := hid_mk (fun h => HBE0.out HRE0.out HSE0.out h)
   have HCW := HCW1
   clear HG HAM HSK0 HEN0 HBE0 HCW1 HSD HAL hl1 e1 e2
   have HBk : Hid (Below w.heap.size w w3 ∧ Box w3 S 27 #[.slice a L c, .int .i64 nx] ∧ ndsN.owns n w3 [.slice a L c] l) := ⟨HBW0.out, HS.out.1.below HBW0.out HS.out.1.lt, ndsN.obelow HS.out.2.1 HBW0.out⟩
   by_cases hsr : st = wi
   · have HK : Hid (K = 0 ∧ S' = (l, nx)) := HKS.out hsr
     subst hsr
     go_wp2
     exact HPo.out _ _ (by rw [HK.out.1]; exact ev_nil) (HBk.out.1.mono HS.out.2.2.1) (fun _ => by rw [HK.out.2]; exact ⟨_, HBk.out.2.1, HBk.out.2.2⟩)
   have hsr' : (st == wi) = false := by simpa using hsr
   have HSR : Hid (st ≠ wi) := hsr
   clear hsr
   by_cases hs0 : st = 0
   · have hC1 : Cond := HCO.out HSR.out (fun h => absurd hs0 h)
     have hs1 := HS1.out.1 hs0
     have HBW : Hid (Below n w w3 ∧ Box w3 S 27 #[.slice a L c, .int .i64 nx] ∧ ndsN.owns n w3 [.slice a L c] l1) := ⟨HBk.out.1.mono HS.out.2.2.1, HBk.out.2.1, by rw [hs1]; exact HBk.out.2.2⟩
     subst hs0
     clear hs1
     have HCS := HSK.out hC1 w3 _ HBW.out.1 HBW.out.2.2
     obtain ⟨t0, t1, -, -⟩ := HBW.out.2.1.two
     go_wp2_with fail
     refine HCS.mono ?_
     rintro e7 w7 ⟨rfl, hg7, hO7⟩
     have hB7 := HBW.out.2.1.grown hg7 (own_apart HBW.out.2.1 HBW.out.2.2)
     have HB7 : Hid (Below n w w7 ∧ Box w7 S 27 #[.slice a L c, .int .i64 nx] ∧ ndsN.owns n w7 [.slice a L c] l2) := ⟨HBW.out.1.trans (row_below HBW.out.2.2 (by have := HBW.out.2.1.lt; have := HS.out.2.2.2; omega) hg7), hB7, hO7⟩
     have HCE := HEN.out hC1 w7 _ HB7.out.1 HB7.out.2.2
     clear t0 t1 hg7 hO7 hB7 HCS
     obtain ⟨t0, t1, -, -⟩ := HB7.out.2.1.two
     go_wp2_with fail
     refine HCE.mono ?_
     rintro e8 w8 ⟨⟨E8, rfl, hE8⟩, hg8, hO8, -⟩
     have hB8 := HB7.out.2.1.grown hg8 (own_apart HB7.out.2.1 HB7.out.2.2)
     have HB8 : Hid (Below n w w8 ∧ Box w8 S 27 #[.slice a L c, .int .i64 nx] ∧ (ae = 0 → ndsN.owns n w8 [.slice a L c] l3)) := ⟨HB7.out.1.trans (row_below HB7.out.2.2 (by have := HB7.out.2.1.lt; have := HS.out.2.2.2; omega) hg8), hB8, hO8⟩
     clear t0 t1 hg8 hO8 hB8 HCE
     by_cases hae : ae = 0
     case neg =>
       have HK : Hid (K = ae ∧ ae ≠ 0) := ⟨HKK.out.2.1 hC1 hae, hae⟩
       obtain ⟨a2, l2', c2, s2, rfl⟩ : ∃ a2 l2 c2 s2, E8 = refV (.slice a2 l2 c2) ae s2 := by
         rcases hE8 with ⟨h, _⟩ | ⟨_, a2, l2, c2, s2, h⟩
         · exact absurd h hae
         · exact ⟨a2, l2, c2, s2, h⟩
       clear hE8 hae
       go_wp2
       exact HPo.out _ _ (by rw [HK.out.1]; exact ev_ref HK.out.2 _ _ _ _) HB8.out.1 (fun h => absurd (HK.out.1.symm.trans h) HK.out.2)
     subst hae
     obtain rfl : E8 = .nilIface := by
       rcases hE8 with ⟨_, h⟩ | ⟨h, _⟩
       · exact h
       · exact absurd rfl h
     have HCB := HBE.out hC1 (by simp) w8 a L c (HB8.out.2.2 (by simp))
     obtain ⟨t0, t1, -, -⟩ := HB8.out.2.1.two
     clear hE8
     go_wp2_with fail
     refine HCB.mono ?_
     rintro e9 w9 ⟨rfl, hb9⟩
     have HB9 : Hid (Below n w w9 ∧ MS n w9 S (l3, nx)) := ⟨HB8.out.1.trans (hb9.mono (by have := HB8.out.2.1.lt; have := HS.out.2.2.2; omega)), ⟨_, HB8.out.2.1.below hb9 HB8.out.2.1.lt, ndsN.obelow (HB8.out.2.2 (by simp)) hb9⟩⟩
     clear hb9 HCB t0 t1
     by_cases h8 : 8 < m2 + dp
     · have HK : Hid (K = 5) := HKK.out.2.2.1 hC1 (by simp) h8
       have h8i : (8 : Int) < (m2 : Int) + (dp : Int) := by omega
       have hr := refuse_bad 5 (by decide) bv m2 dv w9
       clear h8
       go_wp2_with fail
       refine hr.mono ?_
       rintro e10 w10 ⟨rfl, rfl⟩
       go_wp2
       exact HPo.out _ _ (by rw [HK.out]; exact ev_ref (by decide) _ _ _ _) HB9.out.1 (fun h => by rw [HK.out] at h; omega)
     · have HK : Hid (K = 0 ∧ S' = (l3, nx)) := HKK.out.2.2.2 hC1 (by simp) h8
       have h8i : ¬ (8 : Int) < (m2 : Int) + (dp : Int) := by omega
       clear h8
       go_wp2
       exact HPo.out _ _ (by rw [HK.out.1]; exact ev_nil) HB9.out.1 (fun _ => by rw [HK.out.2]; exact HB9.out.2)
   have hs0' : (st == 0) = false := by simpa using hs0
   have HS0 : Hid (st ≠ 0) := hs0
   obtain ⟨b5, o5, hc5, HCN5⟩ := HND.out w3 HBk.out.1
   obtain ⟨t0, t1, -, -⟩ := HBk.out.2.1.two
   go_wp2_with fail
   refine HCN5.mono ?_
   rintro e5 w5 ⟨rfl, hb5⟩
   have hc5' : w5.cell? ⟨b5, o5 + 1, none⟩ = some (.bool false) := by rw [hb5.cell (cell_lt hc5)]; exact hc5
   have HB5 : Hid (Below w.heap.size w w5) := below_any HBk.out.1 hb5
   have HCC := HCW.out w5 HB5.out
   clear t0 t1 hb5 hc5 HCN5
   go_wp2_with fail
   refine HCC.mono ?_
   rintro e6 w6 ⟨⟨E6, rfl, hE6⟩, hb6, hM6⟩
   have HB6 : Hid (Below n w w6) := (HB5.out.mono HS.out.2.2.1).trans hb6
   by_cases hcw : cw = 0
   case neg =>
     have HK : Hid (K = cw ∧ cw ≠ 0) := ⟨HKC.out HSR.out HS0.out hcw, hcw⟩
     obtain ⟨a2, l2', c2, s2, rfl⟩ : ∃ a2 l2 c2 s2, E6 = refV (.slice a2 l2 c2) cw s2 := by
       rcases hE6 with ⟨h, _⟩ | ⟨_, a2, l2, c2, s2, h⟩
       · exact absurd h hcw
       · exact ⟨a2, l2, c2, s2, h⟩
     clear hE6 hcw hb6 hM6 HCC
     go_wp2
     exact HPo.out _ _ (by rw [HK.out.1]; exact ev_ref HK.out.2 _ _ _ _) HB6.out (fun h => absurd (HK.out.1.symm.trans h) HK.out.2)
   have hC1 : Cond := HCO.out HSR.out (fun _ => hcw)
   obtain ⟨v6, hB6, hO6⟩ := hM6 hcw
   rw [HS1.out.2 HS0.out] at hO6
   obtain ⟨a1, c1, hv6⟩ := own_len hO6
   obtain ⟨L1, hL1⟩ : ∃ L1, L1 = l1.length := ⟨_, rfl⟩
   rw [← hL1] at hv6
   subst hv6
   have HBW : Hid (Below n w w6 ∧ Box w6 S 27 #[.slice a1 L1 c1, .int .i64 nx] ∧ ndsN.owns n w6 [.slice a1 L1 c1] l1) := ⟨HB6.out, hB6, hO6⟩
   obtain rfl : E6 = .nilIface := by
     rcases hE6 with ⟨_, h⟩ | ⟨h, _⟩
     · exact h
     · exact absurd hcw h
   clear hE6 hcw hb6 hM6 HCC hB6 hO6 hL1 hc5'
   have HCS := HSK.out hC1 w6 _ HBW.out.1 HBW.out.2.2
   obtain ⟨t0, t1, -, -⟩ := HBW.out.2.1.two
   go_wp2_with fail
   refine HCS.mono ?_
   rintro e7 w7 ⟨rfl, hg7, hO7⟩
   have hB7 := HBW.out.2.1.grown hg7 (own_apart HBW.out.2.1 HBW.out.2.2)
   have HB7 : Hid (Below n w w7 ∧ Box w7 S 27 #[.slice a1 L1 c1, .int .i64 nx] ∧ ndsN.owns n w7 [.slice a1 L1 c1] l2) := ⟨HBW.out.1.trans (row_below HBW.out.2.2 (by have := HBW.out.2.1.lt; have := HS.out.2.2.2; omega) hg7), hB7, hO7⟩
   have HCE := HEN.out hC1 w7 _ HB7.out.1 HB7.out.2.2
   clear t0 t1 hg7 hO7 hB7 HCS
   obtain ⟨t0, t1, -, -⟩ := HB7.out.2.1.two
   go_wp2_with fail
   refine HCE.mono ?_
   rintro e8 w8 ⟨⟨E8, rfl, hE8⟩, hg8, hO8, -⟩
   have hB8 := HB7.out.2.1.grown hg8 (own_apart HB7.out.2.1 HB7.out.2.2)
   have HB8 : Hid (Below n w w8 ∧ Box w8 S 27 #[.slice a1 L1 c1, .int .i64 nx] ∧ (ae = 0 → ndsN.owns n w8 [.slice a1 L1 c1] l3)) := ⟨HB7.out.1.trans (row_below HB7.out.2.2 (by have := HB7.out.2.1.lt; have := HS.out.2.2.2; omega) hg8), hB8, hO8⟩
   clear t0 t1 hg8 hO8 hB8 HCE
   by_cases hae : ae = 0
   case neg =>
     have HK : Hid (K = ae ∧ ae ≠ 0) := ⟨HKK.out.2.1 hC1 hae, hae⟩
     obtain ⟨a2, l2', c2, s2, rfl⟩ : ∃ a2 l2 c2 s2, E8 = refV (.slice a2 l2 c2) ae s2 := by
       rcases hE8 with ⟨h, _⟩ | ⟨_, a2, l2, c2, s2, h⟩
       · exact absurd h hae
       · exact ⟨a2, l2, c2, s2, h⟩
     clear hE8 hae
     go_wp2
     exact HPo.out _ _ (by rw [HK.out.1]; exact ev_ref HK.out.2 _ _ _ _) HB8.out.1 (fun h => absurd (HK.out.1.symm.trans h) HK.out.2)
   subst hae
   obtain rfl : E8 = .nilIface := by
     rcases hE8 with ⟨_, h⟩ | ⟨h, _⟩
     · exact h
     · exact absurd rfl h
   have HCB := HBE.out hC1 (by simp) w8 a1 L1 c1 (HB8.out.2.2 (by simp))
   obtain ⟨t0, t1, -, -⟩ := HB8.out.2.1.two
   clear hE8
   go_wp2_with fail
   refine HCB.mono ?_
   rintro e9 w9 ⟨rfl, hb9⟩
   have HB9 : Hid (Below n w w9 ∧ MS n w9 S (l3, nx)) := ⟨HB8.out.1.trans (hb9.mono (by have := HB8.out.2.1.lt; have := HS.out.2.2.2; omega)), ⟨_, HB8.out.2.1.below hb9 HB8.out.2.1.lt, ndsN.obelow (HB8.out.2.2 (by simp)) hb9⟩⟩
   clear hb9 HCB t0 t1
   by_cases h8 : 8 < m2 + dp
   · have HK : Hid (K = 5) := HKK.out.2.2.1 hC1 (by simp) h8
     have h8i : (8 : Int) < (m2 : Int) + (dp : Int) := by omega
     have hr := refuse_bad 5 (by decide) bv m2 dv w9
     clear h8
     go_wp2_with fail
     refine hr.mono ?_
     rintro e10 w10 ⟨rfl, rfl⟩
     go_wp2
     exact HPo.out _ _ (by rw [HK.out]; exact ev_ref (by decide) _ _ _ _) HB9.out.1 (fun h => by rw [HK.out] at h; omega)
   · have HK : Hid (K = 0 ∧ S' = (l3, nx)) := HKK.out.2.2.2 hC1 (by simp) h8
     have h8i : ¬ (8 : Int) < (m2 : Int) + (dp : Int) := by omega
     clear h8
     go_wp2
     exact HPo.out _ _ (by rw [HK.out.1]; exact ev_nil) HB9.out.1 (fun _ => by rw [HK.out.2]; exact HB9.out.2)
end Go.Proofs.YtkcnephbaffmbaaGreatDoor
namespace Go.Proofs.YtkcnephbaffmbaaGreatDoor
open Go.RowKit
open P (ArgT serr sval)
theorem sval_len {p : ByteArray} (h : serr p = 0) : (sval p).length ≤ 8 := by
 rw [P.sval_zero h]
 exact (P.serr_zero.1 h).2.2.2
theorem renameDo_any (n S : Nat) (s : St) (hOk : Ok s) (p q : ByteArray) (hq : serr q = 0) (v2 : Value) (w : World) (hM : MS n w S s) (hnS : n ≤ S) (hL : StayL n w v2 [p, q]) :
   Calls Tryz.prog 70 #[.pointer (some ⟨S, 0, none⟩), v2] w fun e w' => (∃ E, e = .returned E ∧ EV (renE s (sval p) (sval q)) E) ∧ Below n w w' ∧ (renE s (sval p) (sval q) = 0 → MS n w' S (renS s (sval p) (sval q))) := by
 obtain ⟨b, o, av, cv, hix, hc, hX⟩ := hL 0 p rfl
 obtain ⟨b2, o2, bv, dv, hix2, hc2, hY⟩ := hL 1 q rfl
 have hix : ∀ W, (Instr.indexAt 89 v2 (.int .i64 0)).run Tryz.prog W = .ok (.pointer (some ⟨b, o, none⟩)) W := hix
 have hix2 : ∀ W, (Instr.indexAt 89 v2 (.int .i64 1)).run Tryz.prog W = .ok (.pointer (some ⟨b2, o2, none⟩)) W := hix2
 have HC := rename_any n S s hOk av bv cv dv (sval p) (sval q) (lst_name hq) (sval_len hq) w.drew (by exact hM) hnS (hX.below (Below.refl _ w).drew) (hY.below (Below.refl _ w).drew)
 obtain ⟨post, hpost⟩ : ∃ post : Ending → World → Prop, post = fun e w' => (∃ E, e = .returned E ∧ EV (renE s (sval p) (sval q)) E) ∧ Below n w w' ∧ (renE s (sval p) (sval q) = 0 → MS n w' S (renS s (sval p) (sval q))) := ⟨_, rfl⟩
 have HC' := HC.mono (R' := fun e w' => post e w' ∧ (∃ E, e = .returned E ∧ post (.returned E) w') ∧ Below n w w') fun e w' h => by
   have hb : Below n w w' := (Below.refl _ w).drew.trans h.2.1
   obtain ⟨⟨E, rfl, h1⟩, h2, h3⟩ := h
   have hh : post (.returned E) w' := by rw [hpost]; exact ⟨⟨E, rfl, h1⟩, hb, h3⟩
   exact ⟨hh, ⟨E, rfl, hh⟩, hb⟩
 rw [← hpost]
 have HCC : Hid (∀ w', Below n w w' → w'.cell? ⟨b, o, none⟩ = some (.slice av (sval p).length cv) ∧ w'.cell? ⟨b2, o2, none⟩ = some (.slice bv (sval q).length dv)) := fun w' hb => ⟨hc w' hb, hc2 w' hb⟩
 obtain ⟨m, hm⟩ : ∃ m, m = (sval p).length := ⟨_, rfl⟩
 obtain ⟨m2, hm2⟩ : ∃ m, m = (sval q).length := ⟨_, rfl⟩
 rw [← hm, ← hm2] at HC' HCC
 have HS0 : w.drew.cell? ⟨b, o, none⟩ = some (.slice av m cv) ∧ w.drew.cell? ⟨b2, o2, none⟩ = some (.slice bv m2 dv) := HCC.out w (Below.refl _ _)
 clear hX hY hM hpost hm hm2 hc hc2 hL HC
 go_enter Tryz.func70, Tryz.ntmps70
 go_wp2
 go_region_held3 (fun U => U.cell? ⟨b, o, none⟩ = some (.slice av m cv) ∧ U.cell? ⟨b2, o2, none⟩ = some (.slice bv m2 dv))
   (first | with_reducible exact HS1 | with_reducible exact HS0)
   ((first | (go_at_call 71; refine HC'.mono ?_; rintro e1 w1 ⟨-, ⟨E, rfl, h2⟩, hb1⟩; have HS1 : w1.cell? ⟨b, o, none⟩ = some (.slice av m cv) ∧ w1.cell? ⟨b2, o2, none⟩ = some (.slice bv m2 dv) := HCC.out w1 hb1)))
 have H2 : Hid (post (.returned E) w1) := h2
 clear h2 HC' hb1 HS0 HS1 hix hix2
 go_wp2
 exact H2.out
theorem Rename_any (n0 : Nat) (a : Option Addr) (c : Nat) (s : St) (p q : ByteArray) (hp : p.size ≤ maxLen) (hq : q.size ≤ maxLen) (w : World) (hA : ndsN.lies n0 w [.slice a s.1.length c] s.1) (hg : Glob w) :
   Calls Tryz.prog 25 #[.agg #[.slice a s.1.length c, .int .i64 s.2], .string p, .string q] w (Changed s [p, q] (renE s (sval p) (sval q)) (renS s (sval p) (sval q)) w) := by
 obtain ⟨W1, hW1⟩ : ∃ W, W = w.alloc (.cells #[.slice a s.1.length c, .int .i64 s.2] 27) := ⟨_, rfl⟩
 obtain ⟨W2, hW2⟩ : ∃ W, W = W1.alloc (.cells #[.slice none 0 0, .int .i64 0] 27) := ⟨_, rfl⟩
 obtain ⟨W3, hW3⟩ : ∃ W, W = W2.alloc (.cells #[.string p, .string q] 9) := ⟨_, rfl⟩
 have hb1 : Below w.heap.size w W1 := by rw [hW1]; exact (Below.refl _ w).alloc (Nat.le_refl _) _
 have hb2 : Below w.heap.size w W2 := by rw [hW2]; exact hb1.alloc hb1.size _
 have hb3 : Below w.heap.size w W3 := by rw [hW3]; exact hb2.alloc hb2.size _
 have hs1 : W1.heap.size = w.heap.size + 1 := by rw [hW1]; exact Array.size_push _
 have hs2 : W2.heap.size = w.heap.size + 1 + 1 := by rw [hW2, ← hs1]; exact Array.size_push _
 have hBS : Box W2 w.heap.size 27 #[.slice a s.1.length c, .int .i64 s.2] := by
   have : Box W1 w.heap.size 27 #[.slice a s.1.length c, .int .i64 s.2] := by rw [hW1]; exact Box.new _ _ _
   rw [hW2]; exact this.alloc _
 have hBR : Box W3 (w.heap.size + 1) 27 #[.slice none 0 0, .int .i64 0] := by rw [hW3, hW2, ← hs1]; exact (Box.new _ _ _).alloc _
 have hBT : Box W3 W2.heap.size 9 #[.string p, .string q] := by rw [hW3]; exact Box.new _ _ _
 have hX : ArgT w.heap.size W3 (.slice (some ⟨W2.heap.size, 0, none⟩) 2 2) [p, q] := argT_box (ps := [p, q]) hBT hb2.size (by simp [maxLen]) fun r hr => by
   rcases List.mem_cons.1 hr with rfl | hr
   · exact hp
   · rw [List.mem_singleton.1 hr]; exact hq
 have HC := change0_any 70 Tryz.call70 n0 w.heap.size a c s (some ⟨W2.heap.size, 0, none⟩) 2 [p, q] (by simp) W3 (ndsN.below hA hb3) hX (hg.below hb3 hg.lt) (renE s (sval p) (sval q)) (renS s (sval p) (sval q))
   (fun hok hps V v2 B S hbV hB hBS hL hM => (renameDo_any B S s hok p q (psE_zero hps q (by simp)) v2 V hM hBS hL).mono fun e w' h => ⟨h.1, h.2.1, fun k => (h.2.2 k).ml⟩)
 rw [hs2] at HC
 have HCH : Hid (∀ e w', Changed s [p, q] (renE s (sval p) (sval q)) (renS s (sval p) (sval q)) W3 e w' → ∃ a3 n3 c3 x3 k3, e = .returned (.tuple #[.agg #[.slice a3 n3 c3, .int .i64 x3], .int .i64 k3]) ∧ Below W3.heap.size W3 w' ∧ Changed s [p, q] (renE s (sval p) (sval q)) (renS s (sval p) (sval q)) w (.returned (.tuple #[.agg #[.slice a3 n3 c3, .int .i64 x3], .int .i64 k3])) ((w'.setCell ⟨w.heap.size + 1, 0, none⟩ (.slice a3 n3 c3)).setCell ⟨w.heap.size + 1, 1, none⟩ (.int .i64 x3))) := fun e w' h => changed_up hb3 (by have : W3.heap.size = W2.heap.size + 1 := (by rw [hW3]; exact Array.size_push _); omega) h
 generalize renE s (sval p) (sval q) = K at HC HCH ⊢
 generalize renS s (sval p) (sval q) = s' at HC HCH ⊢
 obtain ⟨post, hpost⟩ : ∃ post : Ending → World → Prop, post = Changed s [p, q] K s' w := ⟨_, rfl⟩
 rw [← hpost] at HCH ⊢
 obtain ⟨pre, hpre⟩ : ∃ post : Ending → World → Prop, post = Changed s [p, q] K s' W3 := ⟨_, rfl⟩
 rw [← hpre] at HCH HC
 have HB : Hid (Box W3 (w.heap.size + 1) 27 #[.slice none 0 0, .int .i64 0]) := hBR
 obtain ⟨g0, g1, -, -⟩ := hBS.two
 rw [hW2, hW1] at g0 g1
 obtain ⟨n, hn⟩ : ∃ n, n = s.1.length := ⟨_, rfl⟩
 obtain ⟨nx, hnx⟩ : ∃ n, n = s.2 := ⟨_, rfl⟩
 rw [← hn] at HC hW1 g0 g1 ⊢
 rw [← hnx] at HC hW1 g0 g1 ⊢
 clear hA hg hp hq hb1 hb2 hb3 hBR hBS hBT hX hn hnx hpost hpre hs1 hs2
 go_enter Tryz.func25, Tryz.ntmps25
 go_wp2_with fail
 rw [← hW1, ← hW2, ← hW3]
 clear hW1 hW2 hW3 g0 g1
 refine HC.mono ?_
 intro e4 w4 h4
 obtain ⟨a3, n3, c3, x3, k3, rfl, hb4, hP⟩ := HCH.out e4 w4 h4
 obtain ⟨d0, d1, e0, e1⟩ := (HB.out.below hb4 HB.out.lt).two
 have HP : Hid (post (.returned (.tuple #[.agg #[.slice a3 n3 c3, .int .i64 x3], .int .i64 k3])) ((w4.setCell ⟨w.heap.size + 1, 0, none⟩ (.slice a3 n3 c3)).setCell ⟨w.heap.size + 1, 1, none⟩ (.int .i64 x3))) := hP
 clear h4 hP hb4 HC HCH
 go_wp2
 refine bodyPost_ret (v := .tuple #[.agg #[.slice a3 n3 c3, .int .i64 x3], .int .i64 k3]) (by simp [results, Tryz.results25, go_sem, *]) rfl HP.out
end Go.Proofs.YtkcnephbaffmbaaGreatDoor
namespace Go.Proofs.YtkcnephbaffmbaaGreatDoor
open Go.RowKit
open P (serr sval)
def Told (s : St) (ps : List ByteArray) (K : Int) (s' : St) (k : Int) (S : St) : Prop :=
 (¬ Ok s ∧ k = 9 ∧ S = ([], 0)) ∨ (Ok s ∧ psE ps ≠ 0 ∧ k = psE ps ∧ S = ([], 0)) ∨ (Ok s ∧ psE ps = 0 ∧ K ≠ 0 ∧ k = K ∧ S = ([], 0)) ∨ (Ok s ∧ psE ps = 0 ∧ K = 0 ∧ k = 0 ∧ S = s')
theorem Told.one {s : St} {ps : List ByteArray} {K : Int} {s' : St} {k k2 : Int} {S S2 : St} (h : Told s ps K s' k S) (h2 : Told s ps K s' k2 S2) : k = k2 ∧ S = S2 := by
 rcases h with ⟨a, b, c⟩ | ⟨a, b, c, d⟩ | ⟨a, b, c, d, e⟩ | ⟨a, b, c, d, e⟩ <;> rcases h2 with ⟨a2, b2, c2⟩ | ⟨a2, b2, c2, d2⟩ | ⟨a2, b2, c2, d2, e2⟩ | ⟨a2, b2, c2, d2, e2⟩ <;>
   first
     | (exfalso; contradiction)
     | (subst_vars; exact ⟨rfl, rfl⟩)
     | (exfalso; omega)
theorem Told.ok {s : St} {ps : List ByteArray} {K : Int} {s' : St} {S : St} (h : Told s ps K s' 0 S) : Ok s ∧ psE ps = 0 ∧ K = 0 ∧ S = s' := by
 rcases h with ⟨_, b, _⟩ | ⟨_, b, c, _⟩ | ⟨_, _, c, d, _⟩ | ⟨a, b, c, _, e⟩
 · omega
 · omega
 · omega
 · exact ⟨a, b, c, e⟩
theorem Told.bad {s : St} {ps : List ByteArray} {K : Int} {s' : St} {k : Int} {S : St} (h : Told s ps K s' k S) (hk : k ≠ 0) : S = ([], 0) := by
 rcases h with ⟨_, _, c⟩ | ⟨_, _, _, d⟩ | ⟨_, _, _, _, e⟩ | ⟨_, _, _, d, _⟩
 · exact c
 · exact d
 · exact e
 · exact absurd d hk
theorem Told.yes {s : St} {ps : List ByteArray} {K : Int} {s' : St} {k : Int} {S : St} (h : Told s ps K s' k S) (h1 : Ok s) (h2 : psE ps = 0) (h3 : K = 0) : k = 0 ∧ S = s' := h.one (.inr (.inr (.inr ⟨h1, h2, h3, rfl, rfl⟩)))
theorem Told.no {s : St} {ps : List ByteArray} {K : Int} {s' : St} {k : Int} {S : St} (h : Told s ps K s' k S) (h1 : Ok s) (h2 : psE ps = 0) (h3 : K ≠ 0) : k = K ∧ S = ([], 0) := h.one (.inr (.inr (.inl ⟨h1, h2, h3, rfl, rfl⟩)))
theorem psE_one {p : ByteArray} : psE [p] = serr p := by
 by_cases h : serr p = 0
 · rw [h]; exact psE_all fun q hq => by rw [List.mem_singleton.1 hq]; exact h
 · exact psE_bad (k := 0) (fun q hq => by simp at hq) rfl h
theorem psE_two {p q : ByteArray} : psE [p, q] = 0 ↔ serr p = 0 ∧ serr q = 0 := by
 constructor
 · intro h
   have := psE_zero h
   exact ⟨this p (by simp), this q (by simp)⟩
 · rintro ⟨h1, h2⟩
   exact psE_all fun x hx => by
     rcases List.mem_cons.1 hx with rfl | hx
     · exact h1
     · rw [List.mem_singleton.1 hx]; exact h2
theorem nds_nil (n : Nat) (w : World) : ndsN.lies n w [.slice none 0 0] [] := ndsN.olies (Shape.list_nil ndN 25 Tryz.underlying25 cells25 n w)
theorem nds_shape {n : Nat} {w : World} {v : Value} {l : List Nd} (h : ndsN.lies n w [v] l) : ∃ a c, v = .slice a l.length c := by
 obtain ⟨a, cap, he, _⟩ := Shape.list_len (S := ndN) (ht := Tryz.underlying25) (hc := cells25) h
 exact ⟨a, cap, by simpa using he⟩
def Tells (s : St) (ps : List ByteArray) (K : Int) (s' : St) (w : World) (e : Ending) (w' : World) : Prop :=
 (∃ k S a c, e = .returned (.tuple #[.agg #[.slice a S.1.length c, .int .i64 S.2], .int .i64 k]) ∧ ndsN.lies w.heap.size w' [.slice a S.1.length c] S.1 ∧ Told s ps K s' k S) ∧ Below w.heap.size w w'
theorem Changed.tells {s : St} {ps : List ByteArray} {K : Int} {s' : St} {w : World} {e : Ending} {w' : World} (h : Changed s ps K s' w e w') : Tells s ps K s' w e w' := by
 refine ⟨?_, h.2⟩
 rcases h.1 with ⟨k, he, hk⟩ | ⟨v, he, h1, h2, h3, hl⟩
 · refine ⟨k, ([], 0), none, 0, he, nds_nil _ _, ?_⟩
   rcases hk with ⟨a, b⟩ | ⟨a, b, c⟩ | ⟨a, b, c, d⟩
   · exact .inl ⟨a, b, rfl⟩
   · exact .inr (.inl ⟨a, b, c, rfl⟩)
   · exact .inr (.inr (.inl ⟨a, b, c, d, rfl⟩))
 · obtain ⟨a, c, rfl⟩ := nds_shape hl
   exact ⟨0, s', a, c, he, hl, .inr (.inr (.inr ⟨h1, h2, h3, rfl, rfl⟩))⟩
end Go.Proofs.YtkcnephbaffmbaaGreatDoor
