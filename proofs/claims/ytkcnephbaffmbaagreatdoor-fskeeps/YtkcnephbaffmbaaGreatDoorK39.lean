/-
  fs.Create, fs.Mkdir, fs.Unlink, fs.Rmdir: what each answers.
  fs.link: another name for a file.
  fs.Link: what it answers.
-/
import Derived.Test.YtkcnephbaffmbaaGreatDoorK35
import Derived.Test.YtkcnephbaffmbaaGreatDoorK38
set_option maxRecDepth 100000
set_option maxHeartbeats 8000000
namespace Go.Proofs.YtkcnephbaffmbaaGreatDoor
open Go.RowKit
open P (ArgT serr sval)
theorem lst_name {p : ByteArray} (h : serr p = 0) : sval p ≠ [] → (lst (sval p)).data.toList ≠ [] := fun hne => by
 have h1 := P.serr_zero.1 h
 rw [P.sval_zero h] at hne ⊢
 have h2 : lst (P.pts p) ∈ P.pts p := lst_mem hne
 have h3 := (P.name_size (List.all_eq_true.1 h1.2.2.1 _ h2)).2
 intro h4
 have : (lst (P.pts p)).size = 0 := by
   show (lst (P.pts p)).data.size = 0
   rw [← Array.length_toList, h4]; rfl
 omega
theorem changed_up {s : St} {ps : List ByteArray} {K : Int} {s' : St} {w W3 : World} (hb : Below w.heap.size w W3) (hs : w.heap.size + 2 ≤ W3.heap.size) {e : Ending} {w' : World} (h : Changed s ps K s' W3 e w') :
   ∃ a3 n3 c3 x3 k3, e = .returned (.tuple #[.agg #[.slice a3 n3 c3, .int .i64 x3], .int .i64 k3]) ∧ Below W3.heap.size W3 w' ∧ Changed s ps K s' w (.returned (.tuple #[.agg #[.slice a3 n3 c3, .int .i64 x3], .int .i64 k3])) ((w'.setCell ⟨w.heap.size + 1, 0, none⟩ (.slice a3 n3 c3)).setCell ⟨w.heap.size + 1, 1, none⟩ (.int .i64 x3)) := by
 obtain ⟨⟨k, rfl, hk⟩ | ⟨v, rfl, h1, h2, h3, h4⟩, hbw⟩ := h
 · exact ⟨none, 0, 0, 0, k, rfl, hbw, .inl ⟨k, rfl, hk⟩, below_set2 (below_any hb hbw) (by omega) _ _⟩
 · obtain ⟨a, c, hv, -, -⟩ := Shape.list_len (S := ndN) (ht := Tryz.underlying25) (hc := cells25) h4
   obtain rfl : v = _ := by simpa using hv
   exact ⟨a, _, c, s'.2, 0, rfl, hbw, .inr ⟨_, rfl, h1, h2, h3, ndsN.weaken (n := W3.heap.size) (ndsN.keep h4 (.set2 (by omega))) (by omega)⟩, below_set2 (below_any hb hbw) (by omega) _ _⟩
theorem createDo_any (n S : Nat) (s : St) (hOk : Ok s) (p : ByteArray) (hp : serr p = 0) (v2 : Value) (w : World) (hM : MS n w S s) (hnS : n ≤ S) (hL : StayL n w v2 [p]) :
   Calls Tryz.prog 51 #[.pointer (some ⟨S, 0, none⟩), v2] w fun e w' => (∃ E, e = .returned E ∧ EV (mkE s (sval p)) E) ∧ Below n w w' ∧ (mkE s (sval p) = 0 → MS n w' S (mkN s (hold s (sval p)) (lst (sval p)) false)) := by
 obtain ⟨b, o, av, cv, hix, hc, hX⟩ := hL 0 p rfl
 have hix : ∀ W, (Instr.indexAt 89 v2 (.int .i64 0)).run Tryz.prog W = .ok (.pointer (some ⟨b, o, none⟩)) W := hix
 have hc0 := hc w (Below.refl _ _)
 have hok : sval p ≠ [] → (lst (sval p)).data.toList ≠ [] := lst_name hp
 generalize sval p = xs at hok hc0 hX ⊢
 have HC := makeNode_any n S s hOk av cv xs hok false w hM hnS hX
 obtain ⟨post, hpost⟩ : ∃ post : Ending → World → Prop, post = fun e w' => (∃ E, e = .returned E ∧ EV (mkE s xs) E) ∧ Below n w w' ∧ (mkE s xs = 0 → MS n w' S (mkN s (hold s xs) (lst xs) false)) := ⟨_, rfl⟩
 rw [← hpost] at HC ⊢
 have HPo : Hid (∀ e w', post e w' → ∃ E, e = .returned E ∧ post (.returned E) w') := fun e w' h => by
   rw [hpost] at h ⊢
   obtain ⟨⟨E, rfl, h1⟩, h2⟩ := h
   exact ⟨E, rfl, ⟨E, rfl, h1⟩, h2⟩
 obtain ⟨m, hm⟩ : ∃ m, m = xs.length := ⟨_, rfl⟩
 rw [← hm] at hc0 HC
 clear hX hM hpost hm hok hc hL
 go_enter Tryz.func51, Tryz.ntmps51
 go_wp2_with fail
 refine HC.mono ?_
 intro e1 w1 h1
 obtain ⟨E, rfl, h2⟩ := HPo.out e1 w1 h1
 have H2 : Hid (post (.returned E) w1) := h2
 clear h1 h2 HC hc0 hix
 go_wp2
 exact H2.out
theorem Create_any (n0 : Nat) (a : Option Addr) (c : Nat) (s : St) (p : ByteArray) (hp : p.size ≤ maxLen) (w : World) (hA : ndsN.lies n0 w [.slice a s.1.length c] s.1) (hg : Glob w) :
   Calls Tryz.prog 12 #[.agg #[.slice a s.1.length c, .int .i64 s.2], .string p] w (Changed s [p] (mkE s (sval p)) (mkN s (hold s (sval p)) (lst (sval p)) false) w) := by
 obtain ⟨W1, hW1⟩ : ∃ W, W = w.alloc (.cells #[.slice a s.1.length c, .int .i64 s.2] 27) := ⟨_, rfl⟩
 obtain ⟨W2, hW2⟩ : ∃ W, W = W1.alloc (.cells #[.slice none 0 0, .int .i64 0] 27) := ⟨_, rfl⟩
 obtain ⟨W3, hW3⟩ : ∃ W, W = W2.alloc (.cells #[.string p] 9) := ⟨_, rfl⟩
 have hb1 : Below w.heap.size w W1 := by rw [hW1]; exact (Below.refl _ w).alloc (Nat.le_refl _) _
 have hb2 : Below w.heap.size w W2 := by rw [hW2]; exact hb1.alloc hb1.size _
 have hb3 : Below w.heap.size w W3 := by rw [hW3]; exact hb2.alloc hb2.size _
 have hs1 : W1.heap.size = w.heap.size + 1 := by rw [hW1]; exact Array.size_push _
 have hs2 : W2.heap.size = w.heap.size + 1 + 1 := by rw [hW2, ← hs1]; exact Array.size_push _
 have hBS : Box W2 w.heap.size 27 #[.slice a s.1.length c, .int .i64 s.2] := by
   have : Box W1 w.heap.size 27 #[.slice a s.1.length c, .int .i64 s.2] := by rw [hW1]; exact Box.new _ _ _
   rw [hW2]; exact this.alloc _
 have hBR : Box W3 (w.heap.size + 1) 27 #[.slice none 0 0, .int .i64 0] := by rw [hW3, hW2, ← hs1]; exact (Box.new _ _ _).alloc _
 have hBT : Box W3 W2.heap.size 9 #[.string p] := by rw [hW3]; exact Box.new _ _ _
 have hX : ArgT w.heap.size W3 (.slice (some ⟨W2.heap.size, 0, none⟩) 1 1) [p] := argT_box (ps := [p]) hBT hb2.size (by simp [maxLen]) fun q hq => by rw [List.mem_singleton.1 hq]; exact hp
 have HC := change0_any 51 Tryz.call51 n0 w.heap.size a c s (some ⟨W2.heap.size, 0, none⟩) 1 [p] (by simp) W3 (ndsN.below hA hb3) hX (hg.below hb3 hg.lt) (mkE s (sval p)) (mkN s (hold s (sval p)) (lst (sval p)) false)
   (fun hok hps V v2 B S hbV hB hBS hL hM => (createDo_any B S s hok p (by rw [psE] at hps; split at hps <;> simp_all) v2 V hM hBS hL).mono fun e w' h => ⟨h.1, h.2.1, fun k => (h.2.2 k).ml⟩)
 rw [hs2] at HC
 have HCH : Hid (∀ e w', Changed s [p] (mkE s (sval p)) (mkN s (hold s (sval p)) (lst (sval p)) false) W3 e w' → ∃ a3 n3 c3 x3 k3, e = .returned (.tuple #[.agg #[.slice a3 n3 c3, .int .i64 x3], .int .i64 k3]) ∧ Below W3.heap.size W3 w' ∧ Changed s [p] (mkE s (sval p)) (mkN s (hold s (sval p)) (lst (sval p)) false) w (.returned (.tuple #[.agg #[.slice a3 n3 c3, .int .i64 x3], .int .i64 k3])) ((w'.setCell ⟨w.heap.size + 1, 0, none⟩ (.slice a3 n3 c3)).setCell ⟨w.heap.size + 1, 1, none⟩ (.int .i64 x3))) := fun e w' h => changed_up hb3 (by have : W3.heap.size = W2.heap.size + 1 := (by rw [hW3]; exact Array.size_push _); omega) h
 generalize mkE s (sval p) = K at HC HCH ⊢
 generalize mkN s (hold s (sval p)) (lst (sval p)) false = s' at HC HCH ⊢
 obtain ⟨post, hpost⟩ : ∃ post : Ending → World → Prop, post = Changed s [p] K s' w := ⟨_, rfl⟩
 rw [← hpost] at HCH ⊢
 obtain ⟨pre, hpre⟩ : ∃ post : Ending → World → Prop, post = Changed s [p] K s' W3 := ⟨_, rfl⟩
 rw [← hpre] at HCH HC
 have HB : Hid (Box W3 (w.heap.size + 1) 27 #[.slice none 0 0, .int .i64 0]) := hBR
 obtain ⟨g0, g1, -, -⟩ := hBS.two
 rw [hW2, hW1] at g0 g1
 obtain ⟨n, hn⟩ : ∃ n, n = s.1.length := ⟨_, rfl⟩
 obtain ⟨nx, hnx⟩ : ∃ n, n = s.2 := ⟨_, rfl⟩
 rw [← hn] at HC hW1 g0 g1 ⊢
 rw [← hnx] at HC hW1 g0 g1 ⊢
 clear hA hg hp hb1 hb2 hb3 hBR hBS hBT hX hn hnx hpost hpre hs1 hs2
 go_enter Tryz.func12, Tryz.ntmps12
 go_wp2_with fail
 rw [← hW1, ← hW2, ← hW3]
 clear hW1 hW2 hW3 g0 g1
 refine HC.mono ?_
 intro e4 w4 h4
 obtain ⟨a3, n3, c3, x3, k3, rfl, hb4, hP⟩ := HCH.out e4 w4 h4
 obtain ⟨d0, d1, e0, e1⟩ := (HB.out.below hb4 HB.out.lt).two
 have HP : Hid (post (.returned (.tuple #[.agg #[.slice a3 n3 c3, .int .i64 x3], .int .i64 k3])) ((w4.setCell ⟨w.heap.size + 1, 0, none⟩ (.slice a3 n3 c3)).setCell ⟨w.heap.size + 1, 1, none⟩ (.int .i64 x3))) := hP
 clear h4 hP hb4 HC HCH
 go_wp2
 refine bodyPost_ret (v := .tuple #[.agg #[.slice a3 n3 c3, .int .i64 x3], .int .i64 k3]) (by simp [results, Tryz.results12, go_sem, *]) rfl HP.out
theorem mkdirDo_any (n S : Nat) (s : St) (hOk : Ok s) (p : ByteArray) (hp : serr p = 0) (v2 : Value) (w : World) (hM : MS n w S s) (hnS : n ≤ S) (hL : StayL n w v2 [p]) :
   Calls Tryz.prog 54 #[.pointer (some ⟨S, 0, none⟩), v2] w fun e w' => (∃ E, e = .returned E ∧ EV (mkE s (sval p)) E) ∧ Below n w w' ∧ (mkE s (sval p) = 0 → MS n w' S (mkN s (hold s (sval p)) (lst (sval p)) true)) := by
 obtain ⟨b, o, av, cv, hix, hc, hX⟩ := hL 0 p rfl
 have hix : ∀ W, (Instr.indexAt 89 v2 (.int .i64 0)).run Tryz.prog W = .ok (.pointer (some ⟨b, o, none⟩)) W := hix
 have hc0 := hc w (Below.refl _ _)
 have hok : sval p ≠ [] → (lst (sval p)).data.toList ≠ [] := lst_name hp
 generalize sval p = xs at hok hc0 hX ⊢
 have HC := makeNode_any n S s hOk av cv xs hok true w hM hnS hX
 obtain ⟨post, hpost⟩ : ∃ post : Ending → World → Prop, post = fun e w' => (∃ E, e = .returned E ∧ EV (mkE s xs) E) ∧ Below n w w' ∧ (mkE s xs = 0 → MS n w' S (mkN s (hold s xs) (lst xs) true)) := ⟨_, rfl⟩
 rw [← hpost] at HC ⊢
 have HPo : Hid (∀ e w', post e w' → ∃ E, e = .returned E ∧ post (.returned E) w') := fun e w' h => by
   rw [hpost] at h ⊢
   obtain ⟨⟨E, rfl, h1⟩, h2⟩ := h
   exact ⟨E, rfl, ⟨E, rfl, h1⟩, h2⟩
 obtain ⟨m, hm⟩ : ∃ m, m = xs.length := ⟨_, rfl⟩
 rw [← hm] at hc0 HC
 clear hX hM hpost hm hok hc hL
 go_enter Tryz.func54, Tryz.ntmps54
 go_wp2_with fail
 refine HC.mono ?_
 intro e1 w1 h1
 obtain ⟨E, rfl, h2⟩ := HPo.out e1 w1 h1
 have H2 : Hid (post (.returned E) w1) := h2
 clear h1 h2 HC hc0 hix
 go_wp2
 exact H2.out
theorem Mkdir_any (n0 : Nat) (a : Option Addr) (c : Nat) (s : St) (p : ByteArray) (hp : p.size ≤ maxLen) (w : World) (hA : ndsN.lies n0 w [.slice a s.1.length c] s.1) (hg : Glob w) :
   Calls Tryz.prog 14 #[.agg #[.slice a s.1.length c, .int .i64 s.2], .string p] w (Changed s [p] (mkE s (sval p)) (mkN s (hold s (sval p)) (lst (sval p)) true) w) := by
 obtain ⟨W1, hW1⟩ : ∃ W, W = w.alloc (.cells #[.slice a s.1.length c, .int .i64 s.2] 27) := ⟨_, rfl⟩
 obtain ⟨W2, hW2⟩ : ∃ W, W = W1.alloc (.cells #[.slice none 0 0, .int .i64 0] 27) := ⟨_, rfl⟩
 obtain ⟨W3, hW3⟩ : ∃ W, W = W2.alloc (.cells #[.string p] 9) := ⟨_, rfl⟩
 have hb1 : Below w.heap.size w W1 := by rw [hW1]; exact (Below.refl _ w).alloc (Nat.le_refl _) _
 have hb2 : Below w.heap.size w W2 := by rw [hW2]; exact hb1.alloc hb1.size _
 have hb3 : Below w.heap.size w W3 := by rw [hW3]; exact hb2.alloc hb2.size _
 have hs1 : W1.heap.size = w.heap.size + 1 := by rw [hW1]; exact Array.size_push _
 have hs2 : W2.heap.size = w.heap.size + 1 + 1 := by rw [hW2, ← hs1]; exact Array.size_push _
 have hBS : Box W2 w.heap.size 27 #[.slice a s.1.length c, .int .i64 s.2] := by
   have : Box W1 w.heap.size 27 #[.slice a s.1.length c, .int .i64 s.2] := by rw [hW1]; exact Box.new _ _ _
   rw [hW2]; exact this.alloc _
 have hBR : Box W3 (w.heap.size + 1) 27 #[.slice none 0 0, .int .i64 0] := by rw [hW3, hW2, ← hs1]; exact (Box.new _ _ _).alloc _
 have hBT : Box W3 W2.heap.size 9 #[.string p] := by rw [hW3]; exact Box.new _ _ _
 have hX : ArgT w.heap.size W3 (.slice (some ⟨W2.heap.size, 0, none⟩) 1 1) [p] := argT_box (ps := [p]) hBT hb2.size (by simp [maxLen]) fun q hq => by rw [List.mem_singleton.1 hq]; exact hp
 have HC := change0_any 54 Tryz.call54 n0 w.heap.size a c s (some ⟨W2.heap.size, 0, none⟩) 1 [p] (by simp) W3 (ndsN.below hA hb3) hX (hg.below hb3 hg.lt) (mkE s (sval p)) (mkN s (hold s (sval p)) (lst (sval p)) true)
   (fun hok hps V v2 B S hbV hB hBS hL hM => (mkdirDo_any B S s hok p (by rw [psE] at hps; split at hps <;> simp_all) v2 V hM hBS hL).mono fun e w' h => ⟨h.1, h.2.1, fun k => (h.2.2 k).ml⟩)
 rw [hs2] at HC
 have HCH : Hid (∀ e w', Changed s [p] (mkE s (sval p)) (mkN s (hold s (sval p)) (lst (sval p)) true) W3 e w' → ∃ a3 n3 c3 x3 k3, e = .returned (.tuple #[.agg #[.slice a3 n3 c3, .int .i64 x3], .int .i64 k3]) ∧ Below W3.heap.size W3 w' ∧ Changed s [p] (mkE s (sval p)) (mkN s (hold s (sval p)) (lst (sval p)) true) w (.returned (.tuple #[.agg #[.slice a3 n3 c3, .int .i64 x3], .int .i64 k3])) ((w'.setCell ⟨w.heap.size + 1, 0, none⟩ (.slice a3 n3 c3)).setCell ⟨w.heap.size + 1, 1, none⟩ (.int .i64 x3))) := fun e w' h => changed_up hb3 (by have : W3.heap.size = W2.heap.size + 1 := (by rw [hW3]; exact Array.size_push _); omega) h
 generalize mkE s (sval p) = K at HC HCH ⊢
 generalize mkN s (hold s (sval p)) (lst (sval p)) true = s' at HC HCH ⊢
 obtain ⟨post, hpost⟩ : ∃ post : Ending → World → Prop, post = Changed s [p] K s' w := ⟨_, rfl⟩
 rw [← hpost] at HCH ⊢
 obtain ⟨pre, hpre⟩ : ∃ post : Ending → World → Prop, post = Changed s [p] K s' W3 := ⟨_, rfl⟩
 rw [← hpre] at HCH HC
 have HB : Hid (Box W3 (w.heap.size + 1) 27 #[.slice none 0 0, .int .i64 0]) := hBR
 obtain ⟨g0, g1, -, -⟩ := hBS.two
 rw [hW2, hW1] at g0 g1
 obtain ⟨n, hn⟩ : ∃ n, n = s.1.length := ⟨_, rfl⟩
 obtain ⟨nx, hnx⟩ : ∃ n, n = s.2 := ⟨_, rfl⟩
 rw [← hn] at HC hW1 g0 g1 ⊢
 rw [← hnx] at HC hW1 g0 g1 ⊢
 clear hA hg hp hb1 hb2 hb3 hBR hBS hBT hX hn hnx hpost hpre hs1 hs2
 go_enter Tryz.func14, Tryz.ntmps14
 go_wp2_with fail
 rw [← hW1, ← hW2, ← hW3]
 clear hW1 hW2 hW3 g0 g1
 refine HC.mono ?_
 intro e4 w4 h4
 obtain ⟨a3, n3, c3, x3, k3, rfl, hb4, hP⟩ := HCH.out e4 w4 h4
 obtain ⟨d0, d1, e0, e1⟩ := (HB.out.below hb4 HB.out.lt).two
 have HP : Hid (post (.returned (.tuple #[.agg #[.slice a3 n3 c3, .int .i64 x3], .int .i64 k3])) ((w4.setCell ⟨w.heap.size + 1, 0, none⟩ (.slice a3 n3 c3)).setCell ⟨w.heap.size + 1, 1, none⟩ (.int .i64 x3))) := hP
 clear h4 hP hb4 HC HCH
 go_wp2
 refine bodyPost_ret (v := .tuple #[.agg #[.slice a3 n3 c3, .int .i64 x3], .int .i64 k3]) (by simp [results, Tryz.results14, go_sem, *]) rfl HP.out
theorem unlinkDo_any (n S : Nat) (s : St) (hOk : Ok s) (p : ByteArray) (hp : serr p = 0) (v2 : Value) (w : World) (hM : MS n w S s) (hnS : n ≤ S) (hL : StayL n w v2 [p]) :
   Calls Tryz.prog 55 #[.pointer (some ⟨S, 0, none⟩), v2] w fun e w' => (∃ E, e = .returned E ∧ EV (filE s.1 (sval p)) E) ∧ Below n w w' ∧ (filE s.1 (sval p) = 0 → MS n w' S (dropN s (hold s (sval p)) (lst (sval p)) (tgt s (sval p)))) := by
 obtain ⟨b, o, av, cv, hix, hc, hX⟩ := hL 0 p rfl
 have hix : ∀ W, (Instr.indexAt 89 v2 (.int .i64 0)).run Tryz.prog W = .ok (.pointer (some ⟨b, o, none⟩)) W := hix
 have hc0 := hc w (Below.refl _ _)
 have hok : sval p ≠ [] → (lst (sval p)).data.toList ≠ [] := lst_name hp
 generalize sval p = xs at hok hc0 hX ⊢
 have HC := unlink_any n S s hOk av cv xs w hM hnS hX
 obtain ⟨post, hpost⟩ : ∃ post : Ending → World → Prop, post = fun e w' => (∃ E, e = .returned E ∧ EV (filE s.1 xs) E) ∧ Below n w w' ∧ (filE s.1 xs = 0 → MS n w' S (dropN s (hold s xs) (lst xs) (tgt s xs))) := ⟨_, rfl⟩
 rw [← hpost] at HC ⊢
 have HPo : Hid (∀ e w', post e w' → ∃ E, e = .returned E ∧ post (.returned E) w') := fun e w' h => by
   rw [hpost] at h ⊢
   obtain ⟨⟨E, rfl, h1⟩, h2⟩ := h
   exact ⟨E, rfl, ⟨E, rfl, h1⟩, h2⟩
 obtain ⟨m, hm⟩ : ∃ m, m = xs.length := ⟨_, rfl⟩
 rw [← hm] at hc0 HC
 clear hX hM hpost hm hok hc hL
 go_enter Tryz.func55, Tryz.ntmps55
 go_wp2_with fail
 refine HC.mono ?_
 intro e1 w1 h1
 obtain ⟨E, rfl, h2⟩ := HPo.out e1 w1 h1
 have H2 : Hid (post (.returned E) w1) := h2
 clear h1 h2 HC hc0 hix
 go_wp2
 exact H2.out
theorem Unlink_any (n0 : Nat) (a : Option Addr) (c : Nat) (s : St) (p : ByteArray) (hp : p.size ≤ maxLen) (w : World) (hA : ndsN.lies n0 w [.slice a s.1.length c] s.1) (hg : Glob w) :
   Calls Tryz.prog 16 #[.agg #[.slice a s.1.length c, .int .i64 s.2], .string p] w (Changed s [p] (filE s.1 (sval p)) (dropN s (hold s (sval p)) (lst (sval p)) (tgt s (sval p))) w) := by
 obtain ⟨W1, hW1⟩ : ∃ W, W = w.alloc (.cells #[.slice a s.1.length c, .int .i64 s.2] 27) := ⟨_, rfl⟩
 obtain ⟨W2, hW2⟩ : ∃ W, W = W1.alloc (.cells #[.slice none 0 0, .int .i64 0] 27) := ⟨_, rfl⟩
 obtain ⟨W3, hW3⟩ : ∃ W, W = W2.alloc (.cells #[.string p] 9) := ⟨_, rfl⟩
 have hb1 : Below w.heap.size w W1 := by rw [hW1]; exact (Below.refl _ w).alloc (Nat.le_refl _) _
 have hb2 : Below w.heap.size w W2 := by rw [hW2]; exact hb1.alloc hb1.size _
 have hb3 : Below w.heap.size w W3 := by rw [hW3]; exact hb2.alloc hb2.size _
 have hs1 : W1.heap.size = w.heap.size + 1 := by rw [hW1]; exact Array.size_push _
 have hs2 : W2.heap.size = w.heap.size + 1 + 1 := by rw [hW2, ← hs1]; exact Array.size_push _
 have hBS : Box W2 w.heap.size 27 #[.slice a s.1.length c, .int .i64 s.2] := by
   have : Box W1 w.heap.size 27 #[.slice a s.1.length c, .int .i64 s.2] := by rw [hW1]; exact Box.new _ _ _
   rw [hW2]; exact this.alloc _
 have hBR : Box W3 (w.heap.size + 1) 27 #[.slice none 0 0, .int .i64 0] := by rw [hW3, hW2, ← hs1]; exact (Box.new _ _ _).alloc _
 have hBT : Box W3 W2.heap.size 9 #[.string p] := by rw [hW3]; exact Box.new _ _ _
 have hX : ArgT w.heap.size W3 (.slice (some ⟨W2.heap.size, 0, none⟩) 1 1) [p] := argT_box (ps := [p]) hBT hb2.size (by simp [maxLen]) fun q hq => by rw [List.mem_singleton.1 hq]; exact hp
 have HC := change0_any 55 Tryz.call55 n0 w.heap.size a c s (some ⟨W2.heap.size, 0, none⟩) 1 [p] (by simp) W3 (ndsN.below hA hb3) hX (hg.below hb3 hg.lt) (filE s.1 (sval p)) (dropN s (hold s (sval p)) (lst (sval p)) (tgt s (sval p)))
   (fun hok hps V v2 B S hbV hB hBS hL hM => (unlinkDo_any B S s hok p (by rw [psE] at hps; split at hps <;> simp_all) v2 V hM hBS hL).mono fun e w' h => ⟨h.1, h.2.1, fun k => (h.2.2 k).ml⟩)
 rw [hs2] at HC
 have HCH : Hid (∀ e w', Changed s [p] (filE s.1 (sval p)) (dropN s (hold s (sval p)) (lst (sval p)) (tgt s (sval p))) W3 e w' → ∃ a3 n3 c3 x3 k3, e = .returned (.tuple #[.agg #[.slice a3 n3 c3, .int .i64 x3], .int .i64 k3]) ∧ Below W3.heap.size W3 w' ∧ Changed s [p] (filE s.1 (sval p)) (dropN s (hold s (sval p)) (lst (sval p)) (tgt s (sval p))) w (.returned (.tuple #[.agg #[.slice a3 n3 c3, .int .i64 x3], .int .i64 k3])) ((w'.setCell ⟨w.heap.size + 1, 0, none⟩ (.slice a3 n3 c3)).setCell ⟨w.heap.size + 1, 1, none⟩ (.int .i64 x3))) := fun e w' h => changed_up hb3 (by have : W3.heap.size = W2.heap.size + 1 := (by rw [hW3]; exact Array.size_push _); omega) h
 generalize filE s.1 (sval p) = K at HC HCH ⊢
 generalize dropN s (hold s (sval p)) (lst (sval p)) (tgt s (sval p)) = s' at HC HCH ⊢
 obtain ⟨post, hpost⟩ : ∃ post : Ending → World → Prop, post = Changed s [p] K s' w := ⟨_, rfl⟩
 rw [← hpost] at HCH ⊢
 obtain ⟨pre, hpre⟩ : ∃ post : Ending → World → Prop, post = Changed s [p] K s' W3 := ⟨_, rfl⟩
 rw [← hpre] at HCH HC
 have HB : Hid (Box W3 (w.heap.size + 1) 27 #[.slice none 0 0, .int .i64 0]) := hBR
 obtain ⟨g0, g1, -, -⟩ := hBS.two
 rw [hW2, hW1] at g0 g1
 obtain ⟨n, hn⟩ : ∃ n, n = s.1.length := ⟨_, rfl⟩
 obtain ⟨nx, hnx⟩ : ∃ n, n = s.2 := ⟨_, rfl⟩
 rw [← hn] at HC hW1 g0 g1 ⊢
 rw [← hnx] at HC hW1 g0 g1 ⊢
 clear hA hg hp hb1 hb2 hb3 hBR hBS hBT hX hn hnx hpost hpre hs1 hs2
 go_enter Tryz.func16, Tryz.ntmps16
 go_wp2_with fail
 rw [← hW1, ← hW2, ← hW3]
 clear hW1 hW2 hW3 g0 g1
 refine HC.mono ?_
 intro e4 w4 h4
 obtain ⟨a3, n3, c3, x3, k3, rfl, hb4, hP⟩ := HCH.out e4 w4 h4
 obtain ⟨d0, d1, e0, e1⟩ := (HB.out.below hb4 HB.out.lt).two
 have HP : Hid (post (.returned (.tuple #[.agg #[.slice a3 n3 c3, .int .i64 x3], .int .i64 k3])) ((w4.setCell ⟨w.heap.size + 1, 0, none⟩ (.slice a3 n3 c3)).setCell ⟨w.heap.size + 1, 1, none⟩ (.int .i64 x3))) := hP
 clear h4 hP hb4 HC HCH
 go_wp2
 refine bodyPost_ret (v := .tuple #[.agg #[.slice a3 n3 c3, .int .i64 x3], .int .i64 k3]) (by simp [results, Tryz.results16, go_sem, *]) rfl HP.out
theorem rmdirDo_any (n S : Nat) (s : St) (hOk : Ok s) (p : ByteArray) (hp : serr p = 0) (v2 : Value) (w : World) (hM : MS n w S s) (hnS : n ≤ S) (hL : StayL n w v2 [p]) :
   Calls Tryz.prog 58 #[.pointer (some ⟨S, 0, none⟩), v2] w fun e w' => (∃ E, e = .returned E ∧ EV (rmE s (sval p)) E) ∧ Below n w w' ∧ (rmE s (sval p) = 0 → MS n w' S (dropN s (hold s (sval p)) (lst (sval p)) (tgt s (sval p)))) := by
 obtain ⟨b, o, av, cv, hix, hc, hX⟩ := hL 0 p rfl
 have hix : ∀ W, (Instr.indexAt 89 v2 (.int .i64 0)).run Tryz.prog W = .ok (.pointer (some ⟨b, o, none⟩)) W := hix
 have hc0 := hc w (Below.refl _ _)
 have hok : sval p ≠ [] → (lst (sval p)).data.toList ≠ [] := lst_name hp
 generalize sval p = xs at hok hc0 hX ⊢
 have HC := rmdir_any n S s hOk av cv xs w hM hnS hX
 obtain ⟨post, hpost⟩ : ∃ post : Ending → World → Prop, post = fun e w' => (∃ E, e = .returned E ∧ EV (rmE s xs) E) ∧ Below n w w' ∧ (rmE s xs = 0 → MS n w' S (dropN s (hold s xs) (lst xs) (tgt s xs))) := ⟨_, rfl⟩
 rw [← hpost] at HC ⊢
 have HPo : Hid (∀ e w', post e w' → ∃ E, e = .returned E ∧ post (.returned E) w') := fun e w' h => by
   rw [hpost] at h ⊢
   obtain ⟨⟨E, rfl, h1⟩, h2⟩ := h
   exact ⟨E, rfl, ⟨E, rfl, h1⟩, h2⟩
 obtain ⟨m, hm⟩ : ∃ m, m = xs.length := ⟨_, rfl⟩
 rw [← hm] at hc0 HC
 clear hX hM hpost hm hok hc hL
 go_enter Tryz.func58, Tryz.ntmps58
 go_wp2_with fail
 refine HC.mono ?_
 intro e1 w1 h1
 obtain ⟨E, rfl, h2⟩ := HPo.out e1 w1 h1
 have H2 : Hid (post (.returned E) w1) := h2
 clear h1 h2 HC hc0 hix
 go_wp2
 exact H2.out
theorem Rmdir_any (n0 : Nat) (a : Option Addr) (c : Nat) (s : St) (p : ByteArray) (hp : p.size ≤ maxLen) (w : World) (hA : ndsN.lies n0 w [.slice a s.1.length c] s.1) (hg : Glob w) :
   Calls Tryz.prog 18 #[.agg #[.slice a s.1.length c, .int .i64 s.2], .string p] w (Changed s [p] (rmE s (sval p)) (dropN s (hold s (sval p)) (lst (sval p)) (tgt s (sval p))) w) := by
 obtain ⟨W1, hW1⟩ : ∃ W, W = w.alloc (.cells #[.slice a s.1.length c, .int .i64 s.2] 27) := ⟨_, rfl⟩
 obtain ⟨W2, hW2⟩ : ∃ W, W = W1.alloc (.cells #[.slice none 0 0, .int .i64 0] 27) := ⟨_, rfl⟩
 obtain ⟨W3, hW3⟩ : ∃ W, W = W2.alloc (.cells #[.string p] 9) := ⟨_, rfl⟩
 have hb1 : Below w.heap.size w W1 := by rw [hW1]; exact (Below.refl _ w).alloc (Nat.le_refl _) _
 have hb2 : Below w.heap.size w W2 := by rw [hW2]; exact hb1.alloc hb1.size _
 have hb3 : Below w.heap.size w W3 := by rw [hW3]; exact hb2.alloc hb2.size _
 have hs1 : W1.heap.size = w.heap.size + 1 := by rw [hW1]; exact Array.size_push _
 have hs2 : W2.heap.size = w.heap.size + 1 + 1 := by rw [hW2, ← hs1]; exact Array.size_push _
 have hBS : Box W2 w.heap.size 27 #[.slice a s.1.length c, .int .i64 s.2] := by
   have : Box W1 w.heap.size 27 #[.slice a s.1.length c, .int .i64 s.2] := by rw [hW1]; exact Box.new _ _ _
   rw [hW2]; exact this.alloc _
 have hBR : Box W3 (w.heap.size + 1) 27 #[.slice none 0 0, .int .i64 0] := by rw [hW3, hW2, ← hs1]; exact (Box.new _ _ _).alloc _
 have hBT : Box W3 W2.heap.size 9 #[.string p] := by rw [hW3]; exact Box.new _ _ _
 have hX : ArgT w.heap.size W3 (.slice (some ⟨W2.heap.size, 0, none⟩) 1 1) [p] := argT_box (ps := [p]) hBT hb2.size (by simp [maxLen]) fun q hq => by rw [List.mem_singleton.1 hq]; exact hp
 have HC := change0_any 58 Tryz.call58 n0 w.heap.size a c s (some ⟨W2.heap.size, 0, none⟩) 1 [p] (by simp) W3 (ndsN.below hA hb3) hX (hg.below hb3 hg.lt) (rmE s (sval p)) (dropN s (hold s (sval p)) (lst (sval p)) (tgt s (sval p)))
   (fun hok hps V v2 B S hbV hB hBS hL hM => (rmdirDo_any B S s hok p (by rw [psE] at hps; split at hps <;> simp_all) v2 V hM hBS hL).mono fun e w' h => ⟨h.1, h.2.1, fun k => (h.2.2 k).ml⟩)
 rw [hs2] at HC
 have HCH : Hid (∀ e w', Changed s [p] (rmE s (sval p)) (dropN s (hold s (sval p)) (lst (sval p)) (tgt s (sval p))) W3 e w' → ∃ a3 n3 c3 x3 k3, e = .returned (.tuple #[.agg #[.slice a3 n3 c3, .int .i64 x3], .int .i64 k3]) ∧ Below W3.heap.size W3 w' ∧ Changed s [p] (rmE s (sval p)) (dropN s (hold s (sval p)) (lst (sval p)) (tgt s (sval p))) w (.returned (.tuple #[.agg #[.slice a3 n3 c3, .int .i64 x3], .int .i64 k3])) ((w'.setCell ⟨w.heap.size + 1, 0, none⟩ (.slice a3 n3 c3)).setCell ⟨w.heap.size + 1, 1, none⟩ (.int .i64 x3))) := fun e w' h => changed_up hb3 (by have : W3.heap.size = W2.heap.size + 1 := (by rw [hW3]; exact Array.size_push _); omega) h
 generalize rmE s (sval p) = K at HC HCH ⊢
 generalize dropN s (hold s (sval p)) (lst (sval p)) (tgt s (sval p)) = s' at HC HCH ⊢
 obtain ⟨post, hpost⟩ : ∃ post : Ending → World → Prop, post = Changed s [p] K s' w := ⟨_, rfl⟩
 rw [← hpost] at HCH ⊢
 obtain ⟨pre, hpre⟩ : ∃ post : Ending → World → Prop, post = Changed s [p] K s' W3 := ⟨_, rfl⟩
 rw [← hpre] at HCH HC
 have HB : Hid (Box W3 (w.heap.size + 1) 27 #[.slice none 0 0, .int .i64 0]) := hBR
 obtain ⟨g0, g1, -, -⟩ := hBS.two
 rw [hW2, hW1] at g0 g1
 obtain ⟨n, hn⟩ : ∃ n, n = s.1.length := ⟨_, rfl⟩
 obtain ⟨nx, hnx⟩ : ∃ n, n = s.2 := ⟨_, rfl⟩
 rw [← hn] at HC hW1 g0 g1 ⊢
 rw [← hnx] at HC hW1 g0 g1 ⊢
 clear hA hg hp hb1 hb2 hb3 hBR hBS hBT hX hn hnx hpost hpre hs1 hs2
 go_enter Tryz.func18, Tryz.ntmps18
 go_wp2_with fail
 rw [← hW1, ← hW2, ← hW3]
 clear hW1 hW2 hW3 g0 g1
 refine HC.mono ?_
 intro e4 w4 h4
 obtain ⟨a3, n3, c3, x3, k3, rfl, hb4, hP⟩ := HCH.out e4 w4 h4
 obtain ⟨d0, d1, e0, e1⟩ := (HB.out.below hb4 HB.out.lt).two
 have HP : Hid (post (.returned (.tuple #[.agg #[.slice a3 n3 c3, .int .i64 x3], .int .i64 k3])) ((w4.setCell ⟨w.heap.size + 1, 0, none⟩ (.slice a3 n3 c3)).setCell ⟨w.heap.size + 1, 1, none⟩ (.int .i64 x3))) := hP
 clear h4 hP hb4 HC HCH
 go_wp2
 refine bodyPost_ret (v := .tuple #[.agg #[.slice a3 n3 c3, .int .i64 x3], .int .i64 k3]) (by simp [results, Tryz.results18, go_sem, *]) rfl HP.out
end Go.Proofs.YtkcnephbaffmbaaGreatDoor
namespace Go.Proofs.YtkcnephbaffmbaaGreatDoor
open Go.RowKit
open D (there ins del aerr)
open P (ArgT serr sval)
theorem ch_comm {l : List Nd} {i j : Int} {f g : Nd → Nd} (hij : i ≠ j) (hf : ∀ n, (f n).1 = n.1) (hg : ∀ n, (g n).1 = n.1) : ch (ch l i f) j g = ch (ch l j g) i f := by
 unfold ch
 rw [List.map_map, List.map_map]
 apply List.map_congr_left
 intro n _
 simp only [Function.comp]
 by_cases h1 : n.1 = i
 · have h2 : n.1 ≠ j := by omega
   have h3 : (f n).1 ≠ j := by rw [hf]; exact h2
   simp only [h1, if_true, if_neg h3, if_neg hij]
 · by_cases h2 : n.1 = j
   · have h3 : (g n).1 ≠ i := by rw [hg]; exact h1
     simp [h2, h3, Ne.symm hij]
   · simp [h1, h2]
theorem ch_at {l : List Nd} {i : Int} {f : Nd → Nd} (hf : ∀ n, (f n).1 = n.1) {k : Nat} {p : Nd} (h : l[k]? = some p) : ∃ p', (ch l i f)[k]? = some p' ∧ p'.1 = p.1 := by
 refine ⟨if p.1 = i then f p else p, by unfold ch; rw [List.getElem?_map, h]; rfl, ?_⟩
 split
 · exact hf p
 · rfl
def lnE (s : St) (xs ys : List ByteArray) : Int := if filE s.1 xs ≠ 0 then filE s.1 xs else if vacE s.1 ys ≠ 0 then vacE s.1 ys else if lk (tgt s xs) = 16 then 110 else aerr (en (hold s ys)) (lst ys, (tgt s xs).1)
theorem link_any (n S : Nat) (s : St) (hOk : Ok s) (av bv : Option Addr) (cv dv : Nat) (xs ys : List ByteArray) (hok : ys ≠ [] → (lst ys).data.toList ≠ []) (w : World) (hM : MS n w S s) (hnS : n ≤ S) (hX : Stay n w (.slice av xs.length cv) xs) (hY : Stay n w (.slice bv ys.length dv) ys) :
   Calls Tryz.prog 79 #[.pointer (some ⟨S, 0, none⟩), .slice av xs.length cv, .slice bv ys.length dv] w fun e w' => (∃ E, e = .returned E ∧ EV (lnE s xs ys) E) ∧ Below n w w' ∧ (lnE s xs ys = 0 → MS n w' S (lnkN s (hold s ys) (lst ys) (tgt s xs))) := by
 obtain ⟨v, hB, hO⟩ := hM
 obtain ⟨a, c, rfl⟩ := own_len hO
 have hnw : n ≤ w.heap.size := by have := hB.lt; omega
 have HFF := findFile_any n 0 a c s hOk.wk av cv xs w (ndsN.olies hO) hX.at
 have HVA : Hid (∀ W, Below w.heap.size w W → Calls Tryz.prog 108 #[.agg #[.slice a s.1.length c, .int .i64 s.2], .slice bv ys.length dv] W fun e w' => (∃ i E, e = .returned (.tuple #[.int .i64 i, E]) ∧ EV (vacE s.1 ys) E ∧ (vacE s.1 ys = 0 → i = stdI s.1 ys)) ∧ Below W.heap.size W w') := fun W hW => vacant_any n 0 a c s hOk.wk bv dv ys hok W (ndsN.olies (ndsN.obelow hO hW)) (hY.below (hW.mono hnw)).at
 have HTG : Hid (filE s.1 xs = 0 → (wlk s.1 1 xs).1 = (tgt s xs).1 ∧ (∀ p ∈ s.1, p.1 = (tgt s xs).1 → p = tgt s xs) ∧ 1 ≤ lk (tgt s xs) ∧ lk (tgt s xs) ≤ 16 ∧ I64 (tgt s xs).1) := fun h0 => by
   have hl := hOk.wk.lead (fil_zero h0).1
   have hk := ok_lks hOk (hOk.wk.file_ne (fil_zero h0).2) (fil_zero h0).1
   have hlow := hOk.wk.low _ hl.1
   have hnx := hOk.wk.nx
   refine ⟨hl.2.1, fun p hp he => ?_, hk.1, hk.2, ⟨by omega, by omega⟩⟩
   have h1 := gt_of hOk.wk.up hp
   have h2 := gt_of hOk.wk.up hl.1
   rw [← h1, he, h2]
 have HEN : Hid (filE s.1 xs = 0 → vacE s.1 ys = 0 → ∀ W v, Below n w W → ndsN.owns n W [v] (ch s.1 (tgt s xs).1 (wL (lk (tgt s xs) + 1))) → Calls Tryz.prog 109 #[.agg #[v, .int .i64 s.2], .int .i64 (stdI s.1 ys), .slice bv ys.length dv, .int .i64 (tgt s xs).1] W fun e w' => (∃ E, e = .returned E ∧ EV (aerr (en (hold s ys)) (lst ys, (tgt s xs).1)) E) ∧ W.grownBy w' v.ownBlock ∧ (aerr (en (hold s ys)) (lst ys, (tgt s xs).1) = 0 → ndsN.owns n w' [v] (lnkN s (hold s ys) (lst ys) (tgt s xs)).1) ∧ (aerr (en (hold s ys)) (lst ys, (tgt s xs).1) ≠ 0 → Below W.heap.size W w')) := fun h0 h1 W v hbW hOW => by
   obtain ⟨z1, z2, z3, z4, z5, z6⟩ := vac_zero hOk.wk h1
   have hl := hOk.wk.lead (fil_zero h0).1
   have hne : (tgt s xs).1 ≠ (hold s ys).1 := fun e => by
     have h1 := gt_of hOk.wk.up z3
     have h2 := gt_of hOk.wk.up hl.1
     rw [← e, h2] at h1
     rw [← h1, (fil_zero h0).2] at z5
     cases z5
   obtain ⟨k, hk⟩ := List.getElem?_of_mem z3
   have hU := ups_ch (i := (tgt s xs).1) (f := wL (lk (tgt s xs) + 1)) (fun _ => rfl) hOk.wk.up
   have hk' : (ch s.1 (tgt s xs).1 (wL (lk (tgt s xs) + 1)))[k]? = some (hold s ys) := by
     unfold ch
     rw [List.getElem?_map, hk]
     simp only [Option.map_some]
     rw [if_neg (Ne.symm hne)]
   have := enlist_any n 0 v _ s.2 hU (by rw [ch_length]; have := hOk.wk.len; omega) k (hold s ys) hk' bv dv ys z1 (tgt s xs).1 (HTG.out h0).2.2.2.2 W hOW (hY.below hbW).at
   rw [← z4] at this
   refine this.mono fun e w' h => ⟨h.1, h.2.1, fun h2 => ?_, h.2.2.2⟩
   have h3 := h.2.2.1 h2
   rw [z4, ch_comm (f := wL _) (g := wE _) hne (fun _ => rfl) (fun _ => rfl)] at h3
   exact h3
 have HS : Hid (Box w S 27 #[.slice a s.1.length c, .int .i64 s.2] ∧ ndsN.owns n w [.slice a s.1.length c] s.1 ∧ n ≤ w.heap.size ∧ n ≤ S ∧ Ups s.1) := ⟨hB, hO, hnw, hnS, hOk.wk.up⟩
 have HRE : Hid (lnE s xs ys = (if filE s.1 xs ≠ 0 then filE s.1 xs else if vacE s.1 ys ≠ 0 then vacE s.1 ys else if lk (tgt s xs) = 16 then 110 else aerr (en (hold s ys)) (lst ys, (tgt s xs).1)) ∧ (lnkN s (hold s ys) (lst ys) (tgt s xs)).2 = s.2) := ⟨rfl, rfl⟩
 obtain ⟨post, hpost⟩ : ∃ post : Ending → World → Prop, post = fun e w' => (∃ E, e = .returned E ∧ EV (lnE s xs ys) E) ∧ Below n w w' ∧ (lnE s xs ys = 0 → MS n w' S (lnkN s (hold s ys) (lst ys) (tgt s xs))) := ⟨_, rfl⟩
 have HPo : Hid (∀ E w', EV (lnE s xs ys) E → Below n w w' → (lnE s xs ys = 0 → MS n w' S (lnkN s (hold s ys) (lst ys) (tgt s xs))) → post (.returned E) w') := fun E w' h1 h2 h3 => by rw [hpost]; exact ⟨⟨E, rfl, h1⟩, h2, h3⟩
 rw [← hpost]
 have HSK : Hid (∀ (k : Nat) (p : Nd), s.1[k]? = some p → ∃ p' : Nd, (lnkN s (hold s ys) (lst ys) (tgt s xs)).1[k]? = some p' ∧ p'.1 = p.1) := fun k p h => by
   obtain ⟨p1, h1, h2⟩ := ch_at (i := (hold s ys).1) (f := wE (ins (en (hold s ys)) (lst ys, (tgt s xs).1))) (fun _ => rfl) h
   obtain ⟨p2, h3, h4⟩ := ch_at (i := (tgt s xs).1) (f := wL (lk (tgt s xs) + 1)) (fun _ => rfl) h1
   exact ⟨p2, h3, h4.trans h2⟩
 generalize lnE s xs ys = re at HRE HPo
 obtain ⟨l, nx⟩ := s
 simp only at HFF HVA HS hB HTG HPo HEN HRE HSK
 obtain ⟨g0, g1, -, -⟩ := hB.two
 obtain ⟨L, hL⟩ : ∃ L, L = l.length := ⟨_, rfl⟩
 obtain ⟨m, hm⟩ : ∃ m, m = xs.length := ⟨_, rfl⟩
 obtain ⟨m2, hm2⟩ : ∃ m, m = ys.length := ⟨_, rfl⟩
 rw [← hL] at HFF HVA HS g0
 rw [← hm] at HFF ⊢
 rw [← hm2] at HVA HEN ⊢
 generalize lnkN (l, nx) (hold (l, nx) ys) (lst ys) (tgt (l, nx) xs) = s' at HRE HPo HEN HSK
 generalize tgt (l, nx) xs = T at HRE HEN HTG
 generalize aerr (en (hold (l, nx) ys)) (lst ys, T.1) = ae at HRE HEN
 generalize stdI l ys = si at HVA HEN
 generalize vacE l ys = ve at HVA HRE HEN
 generalize (wlk l 1 xs).1 = wi at HFF HTG
 generalize filE l xs = fe at HFF HTG HRE HEN
 clear hB hO hX hY hL hm hm2 hpost hOk hok
 go_enter Tryz.func79, Tryz.ntmps79
 go_wp2_with fail
 refine HFF.mono ?_
 rintro e1 w1 ⟨hr, hb1⟩
 have HB1 : Hid (Below w.heap.size w w1) := hb1
 rcases hr with ⟨hne, E, rfl, hE⟩ | ⟨h0, k, p, b, o, hk, hpw, hix, rfl⟩
 · obtain ⟨a2, l2, c2, s2, rfl⟩ : ∃ a2 l2 c2 s2, E = refV (.slice a2 l2 c2) fe s2 := by
     rcases hE with ⟨h, _⟩ | ⟨_, a2, l2, c2, s2, h⟩
     · exact absurd h hne
     · exact ⟨a2, l2, c2, s2, h⟩
   have HN : Hid (fe ≠ 0 ∧ re = fe) := ⟨hne, by rw [HRE.out.1, if_pos hne]⟩
   clear hne hE hb1 HFF g0 g1
   go_wp2
   exact HPo.out _ _ (by rw [HN.out.2]; exact ev_ref HN.out.1 _ _ _ _) (HB1.out.mono HS.out.2.2.1) (fun h => absurd (HN.out.2.symm.trans h) HN.out.1)
 subst h0
 obtain ⟨e', f', rfl, hnb, hbw, hob, hPu⟩ := found_is HS.out.2.1 hk hix
 have hpT : p = T := (HTG.out rfl).2.1 p (List.mem_of_getElem? hk) (hpw.trans (HTG.out rfl).1)
 subst hpT
 have HPU : Hid (∀ W, Below w.heap.size w W → Puts n (.slice a L c) l k p b e' f' W) := hPu
 have HK : Hid (l[k]? = some p ∧ 1 ≤ lk p ∧ lk p ≤ 16 ∧ (Value.slice a L c).ownBlock = some b) := ⟨hk, (HTG.out rfl).2.2.1, (HTG.out rfl).2.2.2.1, hob⟩
 have HCV := HVA.out w1 hb1
 have HBX1 : Hid (Box w1 S 27 #[.slice a L c, .int .i64 nx]) := HS.out.1.below hb1 HS.out.1.lt
 obtain ⟨c0, c1, -, -⟩ := HBX1.out.two
 clear hPu hk hpw hix hb1 HFF g0 g1 hnb hbw hob HVA
 go_wp2_with fail
 refine HCV.mono ?_
 rintro e2 w2 ⟨⟨i2, E, rfl, hE, hi2⟩, hb2⟩
 have HB2 : Hid (Below w.heap.size w w2) := below_any HB1.out hb2
 have HBX2 : Hid (Box w2 S 27 #[.slice a L c, .int .i64 nx]) := HBX1.out.below hb2 HBX1.out.lt
 clear hb2 HCV c0 c1
 by_cases hv : ve = 0
 case neg =>
   obtain ⟨a2, l2, c2, s2, rfl⟩ : ∃ a2 l2 c2 s2, E = refV (.slice a2 l2 c2) ve s2 := by
     rcases hE with ⟨h, _⟩ | ⟨_, a2, l2, c2, s2, h⟩
     · exact absurd h hv
     · exact ⟨a2, l2, c2, s2, h⟩
   have HN : Hid (ve ≠ 0 ∧ re = ve) := ⟨hv, by rw [HRE.out.1, if_neg (by decide), if_pos hv]⟩
   clear hv hE hi2
   go_wp2
   exact HPo.out _ _ (by rw [HN.out.2]; exact ev_ref HN.out.1 _ _ _ _) (HB2.out.mono HS.out.2.2.1) (fun h => absurd (HN.out.2.symm.trans h) HN.out.1)
 subst hv
 obtain rfl : E = .nilIface := by
   rcases hE with ⟨_, h⟩ | ⟨h, _⟩
   · exact h
   · exact absurd rfl h
 obtain rfl := hi2 rfl
 clear hE hi2
 have hP := HPU.out w2 HB2.out
 obtain ⟨-, -, c2, -, -, -⟩ := nv_cells hP.1
 have hfz := hP.2.1 (k * 6 + 2)
 have HR2 : Hid (re = if lk p = 16 then 110 else ae) := by
   have := HRE.out.1
   rw [if_neg (by decide), if_neg (by decide)] at this
   exact this
 have hlk : 1 ≤ lk p ∧ lk p ≤ 16 := ⟨HK.out.2.1, HK.out.2.2.1⟩
 obtain ⟨pk, hpk⟩ : ∃ y, y = lk p := ⟨_, rfl⟩
 have HPK : Hid (pk = lk p) := hpk
 rw [← hpk] at c2 HR2 hlk HEN
 clear hpk
 by_cases h16 : pk = 16
 · have hre : re = 110 := by rw [HR2.out, if_pos h16]
   subst hre
   subst h16
   have hr := refuse_bad 110 (by decide) av m cv w2
   clear hP HEN
   go_wp2_with fail
   refine hr.mono ?_
   rintro e3 w3 ⟨rfl, rfl⟩
   go_wp2
   exact HPo.out _ _ (ev_ref (by decide) _ _ _ _) (HB2.out.mono HS.out.2.2.1) (fun h => by omega)
 have hre : re = ae := by rw [HR2.out, if_neg h16]
 subst hre
 have hst := hP.2.2.2 2 (.int .i64 (pk + 1)) (wL (pk + 1) p) e' f' (by omega) rfl ⟨hP.2.2.1.1, hP.2.2.1.2.1, hP.2.2.1.2.2.1, (show I64 (pk + 1) from ⟨by omega, by omega⟩), hP.2.2.1.2.2.2.2⟩
 obtain ⟨W3, hW3⟩ : ∃ W, W = w2.setCell ⟨b, k * 6 + 2, none⟩ (.int .i64 (pk + 1)) := ⟨_, rfl⟩
 rw [← hW3] at hst
 have hO2 := ndsN.obelow HS.out.2.1 HB2.out
 have hB3 : Box W3 S 27 #[.slice a L c, .int .i64 nx] := HBX2.out.grown hst.2.2 (own_apart HBX2.out hO2)
 have hb3 : Below n w W3 := (HB2.out.mono HS.out.2.2.1).trans (row_below hO2 (Nat.le_trans HS.out.2.2.1 HB2.out.size) hst.2.2)
 have hO3 := hst.1
 rw [set_ch HS.out.2.2.2.2 HK.out.1] at hO3
 have H3 : Hid (Box W3 S 27 #[.slice a L c, .int .i64 nx] ∧ Below n w W3 ∧ ndsN.owns n W3 [.slice a L c] (ch l p.1 (wL (pk + 1))) ∧ n ≤ W3.heap.size) := ⟨hB3, hb3, hO3, by have := hB3.lt; have := HS.out.2.2.2.1; omega⟩
 have hcell : ∀ W (l' : List Nd) (p' : Nd), ndsN.owns n W [.slice a L c] l' → l'[k]? = some p' → p'.1 = p.1 → W.cell? ⟨b, k * 6, none⟩ = some (.int .i64 p.1) := fun W l' p' h1 h2 h3 => by
   obtain ⟨g', cap', e2, f2, hv, _, _, _, hPu'⟩ := nds_own_at h1 k p' h2
   have hgg : b = g' := by
     have := HK.out.2.2.2
     rw [hv] at this
     exact (Option.some.inj this).symm
   subst hgg
   rw [← h3]
   exact (hPu' W (Below.refl _ _)).1 0 _ rfl
 have HCL : Hid (∀ W (l' : List Nd) (p' : Nd), ndsN.owns n W [.slice a L c] l' → l'[k]? = some p' → p'.1 = p.1 → W.cell? ⟨b, k * 6, none⟩ = some (.int .i64 p.1)) := hcell
 have hk3 : (ch l p.1 (wL (pk + 1)))[k]? = some (wL (pk + 1) p) := by
   unfold ch
   rw [List.getElem?_map, HK.out.1]
   simp
 have d2 := hcell W3 _ _ hO3 hk3 rfl
 have HCE := HEN.out (by simp) (by simp) W3.drew _ hb3.drew (by exact hO3)
 obtain ⟨d0, d1, -, -⟩ := hB3.two
 obtain ⟨pi, hpi⟩ : ∃ y, y = p.1 := ⟨_, rfl⟩
 rw [← hpi] at d2 HCE HCL
 have HPI : Hid (pi = p.1) := hpi
 have HS0 : W3.drew.cell? ⟨S, 0, none⟩ = some (.slice a L c) ∧ W3.drew.cell? ⟨S, 1, none⟩ = some (.int .i64 nx) ∧ W3.drew.cell? ⟨b, k * 6, none⟩ = some (.int .i64 pi) := ⟨d0, d1, d2⟩
 clear hst hO2 hB3 hb3 hO3 hcell d0 d1 d2 hP HEN hpi
 go_wp2
 rw [← hW3]
 clear hW3 c2 hfz
 have HP7 : Hid (∀ w7, (re = 0 → ndsN.owns n w7 [.slice a L c] s'.1) → (re ≠ 0 → Below W3.drew.heap.size W3.drew w7) → w7.cell? ⟨b, k * 6, none⟩ = some (.int .i64 pi)) := fun w7 hO7 hb7 => by
   by_cases hz : re = 0
   · obtain ⟨p', h1, h2⟩ := HSK.out k p HK.out.1
     exact HCL.out w7 _ p' (hO7 hz) h1 (h2.trans HPI.out.symm)
   · rw [(hb7 hz).cell (p := ⟨b, k * 6, none⟩) (cell_lt HS0.2.2)]
     exact HS0.2.2
 go_region_held3 (fun U => U.cell? ⟨S, 0, none⟩ = some (.slice a L c) ∧ U.cell? ⟨S, 1, none⟩ = some (.int .i64 nx) ∧ U.cell? ⟨b, k * 6, none⟩ = some (.int .i64 pi))
   (first | with_reducible exact HS1 | with_reducible exact HS0)
   ((first | (go_at_call 109; refine HCE.mono ?_; rintro e7 w7 ⟨⟨E, rfl, hE⟩, hg7, hO7, hb7⟩; have hx7 : Box w7 S 27 #[.slice a L c, .int .i64 nx] := H3.out.1.drew.grown hg7 (own_apart H3.out.1 H3.out.2.2.1); have hp7 := HP7.out w7 hO7 hb7; have HS1 : w7.cell? ⟨S, 0, none⟩ = some (.slice a L c) ∧ w7.cell? ⟨S, 1, none⟩ = some (.int .i64 nx) ∧ w7.cell? ⟨b, k * 6, none⟩ = some (.int .i64 pi) := ⟨hx7.two.1, hx7.two.2.1, hp7⟩)))
 have HF : Hid (EV re E ∧ Below n w w7 ∧ (re = 0 → MS n w7 S s')) := by
   refine ⟨hE, H3.out.2.1.trans ((Below.refl _ W3).drew.grown hg7 (by exact H3.out.2.2.2) (own_base H3.out.2.2.1)), fun h0 => ⟨.slice a L c, ?_, hO7 h0⟩⟩
   rw [HRE.out.2]
   exact hx7
 clear hE hg7 hO7 hx7 hb7 hp7 HS1 HS0 HCE
 go_wp2
 exact HPo.out _ _ HF.out.1 HF.out.2.1 HF.out.2.2
end Go.Proofs.YtkcnephbaffmbaaGreatDoor
namespace Go.Proofs.YtkcnephbaffmbaaGreatDoor
open Go.RowKit
open P (ArgT serr sval)
theorem linkDo_any (n S : Nat) (s : St) (hOk : Ok s) (p q : ByteArray) (hq : serr q = 0) (v2 : Value) (w : World) (hM : MS n w S s) (hnS : n ≤ S) (hL : StayL n w v2 [p, q]) :
   Calls Tryz.prog 78 #[.pointer (some ⟨S, 0, none⟩), v2] w fun e w' => (∃ E, e = .returned E ∧ EV (lnE s (sval p) (sval q)) E) ∧ Below n w w' ∧ (lnE s (sval p) (sval q) = 0 → MS n w' S (lnkN s (hold s (sval q)) (lst (sval q)) (tgt s (sval p)))) := by
 obtain ⟨b, o, av, cv, hix, hc, hX⟩ := hL 0 p rfl
 obtain ⟨b2, o2, bv, dv, hix2, hc2, hY⟩ := hL 1 q rfl
 have hix : ∀ W, (Instr.indexAt 89 v2 (.int .i64 0)).run Tryz.prog W = .ok (.pointer (some ⟨b, o, none⟩)) W := hix
 have hix2 : ∀ W, (Instr.indexAt 89 v2 (.int .i64 1)).run Tryz.prog W = .ok (.pointer (some ⟨b2, o2, none⟩)) W := hix2
 have HC := link_any n S s hOk av bv cv dv (sval p) (sval q) (lst_name hq) w.drew (by exact hM) hnS (hX.below (Below.refl _ w).drew) (hY.below (Below.refl _ w).drew)
 obtain ⟨post, hpost⟩ : ∃ post : Ending → World → Prop, post = fun e w' => (∃ E, e = .returned E ∧ EV (lnE s (sval p) (sval q)) E) ∧ Below n w w' ∧ (lnE s (sval p) (sval q) = 0 → MS n w' S (lnkN s (hold s (sval q)) (lst (sval q)) (tgt s (sval p)))) := ⟨_, rfl⟩
 have HC' := HC.mono (R' := fun e w' => post e w' ∧ (∃ E, e = .returned E ∧ post (.returned E) w') ∧ Below n w w') fun e w' h => by
   have hb : Below n w w' := (Below.refl _ w).drew.trans h.2.1
   obtain ⟨⟨E, rfl, h1⟩, h2, h3⟩ := h
   have hh : post (.returned E) w' := by rw [hpost]; exact ⟨⟨E, rfl, h1⟩, hb, h3⟩
   exact ⟨hh, ⟨E, rfl, hh⟩, hb⟩
 rw [← hpost]
 have HCC : Hid (∀ w', Below n w w' → w'.cell? ⟨b, o, none⟩ = some (.slice av (sval p).length cv) ∧ w'.cell? ⟨b2, o2, none⟩ = some (.slice bv (sval q).length dv)) := fun w' hb => ⟨hc w' hb, hc2 w' hb⟩
 obtain ⟨m, hm⟩ : ∃ m, m = (sval p).length := ⟨_, rfl⟩
 obtain ⟨m2, hm2⟩ : ∃ m, m = (sval q).length := ⟨_, rfl⟩
 rw [← hm, ← hm2] at HC' HCC
 have HS0 : w.drew.cell? ⟨b, o, none⟩ = some (.slice av m cv) ∧ w.drew.cell? ⟨b2, o2, none⟩ = some (.slice bv m2 dv) := HCC.out w (Below.refl _ _)
 clear hX hY hM hpost hm hm2 hc hc2 hL HC
 go_enter Tryz.func78, Tryz.ntmps78
 go_wp2
 go_region_held3 (fun U => U.cell? ⟨b, o, none⟩ = some (.slice av m cv) ∧ U.cell? ⟨b2, o2, none⟩ = some (.slice bv m2 dv))
   (first | with_reducible exact HS1 | with_reducible exact HS0)
   ((first | (go_at_call 79; refine HC'.mono ?_; rintro e1 w1 ⟨-, ⟨E, rfl, h2⟩, hb1⟩; have HS1 : w1.cell? ⟨b, o, none⟩ = some (.slice av m cv) ∧ w1.cell? ⟨b2, o2, none⟩ = some (.slice bv m2 dv) := HCC.out w1 hb1)))
 have H2 : Hid (post (.returned E) w1) := h2
 clear h2 HC' hb1 HS0 HS1 hix hix2
 go_wp2
 exact H2.out
theorem Link_any (n0 : Nat) (a : Option Addr) (c : Nat) (s : St) (p q : ByteArray) (hp : p.size ≤ maxLen) (hq : q.size ≤ maxLen) (w : World) (hA : ndsN.lies n0 w [.slice a s.1.length c] s.1) (hg : Glob w) :
   Calls Tryz.prog 27 #[.agg #[.slice a s.1.length c, .int .i64 s.2], .string p, .string q] w (Changed s [p, q] (lnE s (sval p) (sval q)) (lnkN s (hold s (sval q)) (lst (sval q)) (tgt s (sval p))) w) := by
 obtain ⟨W1, hW1⟩ : ∃ W, W = w.alloc (.cells #[.slice a s.1.length c, .int .i64 s.2] 27) := ⟨_, rfl⟩
 obtain ⟨W2, hW2⟩ : ∃ W, W = W1.alloc (.cells #[.slice none 0 0, .int .i64 0] 27) := ⟨_, rfl⟩
 obtain ⟨W3, hW3⟩ : ∃ W, W = W2.alloc (.cells #[.string p, .string q] 9) := ⟨_, rfl⟩
 have hb1 : Below w.heap.size w W1 := by rw [hW1]; exact (Below.refl _ w).alloc (Nat.le_refl _) _
 have hb2 : Below w.heap.size w W2 := by rw [hW2]; exact hb1.alloc hb1.size _
 have hb3 : Below w.heap.size w W3 := by rw [hW3]; exact hb2.alloc hb2.size _
 have hs1 : W1.heap.size = w.heap.size + 1 := by rw [hW1]; exact Array.size_push _
 have hs2 : W2.heap.size = w.heap.size + 1 + 1 := by rw [hW2, ← hs1]; exact Array.size_push _
 have hBS : Box W2 w.heap.size 27 #[.slice a s.1.length c, .int .i64 s.2] := by
   have : Box W1 w.heap.size 27 #[.slice a s.1.length c, .int .i64 s.2] := by rw [hW1]; exact Box.new _ _ _
   rw [hW2]; exact this.alloc _
 have hBR : Box W3 (w.heap.size + 1) 27 #[.slice none 0 0, .int .i64 0] := by rw [hW3, hW2, ← hs1]; exact (Box.new _ _ _).alloc _
 have hBT : Box W3 W2.heap.size 9 #[.string p, .string q] := by rw [hW3]; exact Box.new _ _ _
 have hX : ArgT w.heap.size W3 (.slice (some ⟨W2.heap.size, 0, none⟩) 2 2) [p, q] := argT_box (ps := [p, q]) hBT hb2.size (by simp [maxLen]) fun r hr => by
   rcases List.mem_cons.1 hr with rfl | hr
   · exact hp
   · rw [List.mem_singleton.1 hr]; exact hq
 have HC := change0_any 78 Tryz.call78 n0 w.heap.size a c s (some ⟨W2.heap.size, 0, none⟩) 2 [p, q] (by simp) W3 (ndsN.below hA hb3) hX (hg.below hb3 hg.lt) (lnE s (sval p) (sval q)) (lnkN s (hold s (sval q)) (lst (sval q)) (tgt s (sval p)))
   (fun hok hps V v2 B S hbV hB hBS hL hM => (linkDo_any B S s hok p q (psE_zero hps q (by simp)) v2 V hM hBS hL).mono fun e w' h => ⟨h.1, h.2.1, fun k => (h.2.2 k).ml⟩)
 rw [hs2] at HC
 have HCH : Hid (∀ e w', Changed s [p, q] (lnE s (sval p) (sval q)) (lnkN s (hold s (sval q)) (lst (sval q)) (tgt s (sval p))) W3 e w' → ∃ a3 n3 c3 x3 k3, e = .returned (.tuple #[.agg #[.slice a3 n3 c3, .int .i64 x3], .int .i64 k3]) ∧ Below W3.heap.size W3 w' ∧ Changed s [p, q] (lnE s (sval p) (sval q)) (lnkN s (hold s (sval q)) (lst (sval q)) (tgt s (sval p))) w (.returned (.tuple #[.agg #[.slice a3 n3 c3, .int .i64 x3], .int .i64 k3])) ((w'.setCell ⟨w.heap.size + 1, 0, none⟩ (.slice a3 n3 c3)).setCell ⟨w.heap.size + 1, 1, none⟩ (.int .i64 x3))) := fun e w' h => changed_up hb3 (by have : W3.heap.size = W2.heap.size + 1 := (by rw [hW3]; exact Array.size_push _); omega) h
 generalize lnE s (sval p) (sval q) = K at HC HCH ⊢
 generalize lnkN s (hold s (sval q)) (lst (sval q)) (tgt s (sval p)) = s' at HC HCH ⊢
 obtain ⟨post, hpost⟩ : ∃ post : Ending → World → Prop, post = Changed s [p, q] K s' w := ⟨_, rfl⟩
 rw [← hpost] at HCH ⊢
 obtain ⟨pre, hpre⟩ : ∃ post : Ending → World → Prop, post = Changed s [p, q] K s' W3 := ⟨_, rfl⟩
 rw [← hpre] at HCH HC
 have HB : Hid (Box W3 (w.heap.size + 1) 27 #[.slice none 0 0, .int .i64 0]) := hBR
 obtain ⟨g0, g1, -, -⟩ := hBS.two
 rw [hW2, hW1] at g0 g1
 obtain ⟨n, hn⟩ : ∃ n, n = s.1.length := ⟨_, rfl⟩
 obtain ⟨nx, hnx⟩ : ∃ n, n = s.2 := ⟨_, rfl⟩
 rw [← hn] at HC hW1 g0 g1 ⊢
 rw [← hnx] at HC hW1 g0 g1 ⊢
 clear hA hg hp hq hb1 hb2 hb3 hBR hBS hBT hX hn hnx hpost hpre hs1 hs2
 go_enter Tryz.func27, Tryz.ntmps27
 go_wp2_with fail
 rw [← hW1, ← hW2, ← hW3]
 clear hW1 hW2 hW3 g0 g1
 refine HC.mono ?_
 intro e4 w4 h4
 obtain ⟨a3, n3, c3, x3, k3, rfl, hb4, hP⟩ := HCH.out e4 w4 h4
 obtain ⟨d0, d1, e0, e1⟩ := (HB.out.below hb4 HB.out.lt).two
 have HP : Hid (post (.returned (.tuple #[.agg #[.slice a3 n3 c3, .int .i64 x3], .int .i64 k3])) ((w4.setCell ⟨w.heap.size + 1, 0, none⟩ (.slice a3 n3 c3)).setCell ⟨w.heap.size + 1, 1, none⟩ (.int .i64 x3))) := hP
 clear h4 hP hb4 HC HCH
 go_wp2
 refine bodyPost_ret (v := .tuple #[.agg #[.slice a3 n3 c3, .int .i64 x3], .int .i64 k3]) (by simp [results, Tryz.results27, go_sem, *]) rfl HP.out
end Go.Proofs.YtkcnephbaffmbaaGreatDoor
