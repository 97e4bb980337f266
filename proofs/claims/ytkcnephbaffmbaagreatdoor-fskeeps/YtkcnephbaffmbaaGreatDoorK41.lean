/-
  fs.Write: what it answers.
  Plain mathematics: the state that each op makes may be.
  What fs.look answers at an op that is known.
  fs.Read: what it answers.
  Plain mathematics: the page's example.
-/
import Derived.Test.YtkcnephbaffmbaaGreatDoorK10
import Derived.Test.YtkcnephbaffmbaaGreatDoorK36
import Derived.Test.YtkcnephbaffmbaaGreatDoorK38
import Derived.Test.YtkcnephbaffmbaaGreatDoorK39
import Derived.Test.YtkcnephbaffmbaaGreatDoorK40
import Derived.Deep.RegionHeld3
set_option maxRecDepth 100000
set_option maxHeartbeats 8000000
namespace Go.Proofs.YtkcnephbaffmbaaGreatDoor
open Go.RowKit
open F (Fl flN bksN)
open P (ArgT serr sval)
def Wrote (s : St) (ps : List ByteArray) (K : Int) (s' : St) (dl : Nat) (w : World) (e : Ending) (w' : World) : Prop :=
 ((∃ k, e = .returned (.tuple #[.agg #[.slice none 0 0, .int .i64 0], .int .i64 0, .int .i64 k]) ∧ ((¬ Ok s ∧ k = 9) ∨ (Ok s ∧ psE ps ≠ 0 ∧ k = psE ps) ∨ (Ok s ∧ psE ps = 0 ∧ K ≠ 0 ∧ k = K))) ∨
  (∃ v, e = .returned (.tuple #[.agg #[v, .int .i64 s'.2], .int .i64 dl, .int .i64 0]) ∧ Ok s ∧ psE ps = 0 ∧ K = 0 ∧ ndsN.lies w.heap.size w' [v] s'.1)) ∧ Below w.heap.size w w'
theorem Write_any (n0 : Nat) (a : Option Addr) (c : Nat) (s : St) (p : ByteArray) (hp : p.size ≤ maxLen) (off : Int) (ho : I64 off) (da : Option Addr) (dc : Nat) (d : List Int) (n1 : Nat) (w : World) (hv : Arg n1 w (.slice da d.length dc) d) (hA : ndsN.lies n0 w [.slice a s.1.length c] s.1) (hg : Glob w) :
   Calls Tryz.prog 30 #[.agg #[.slice a s.1.length c, .int .i64 s.2], .string p, .int .i64 off, .slice da d.length dc] w (Wrote s [p] (rwE s (sval p) (F.wrE (fi (tgt s (sval p))) off d)) (filN s (tgt s (sval p)) (F.wrF (fi (tgt s (sval p))) off d)) d.length w) := by
 obtain ⟨W1, hW1⟩ : ∃ W, W = w.alloc (.cells #[.slice a s.1.length c, .int .i64 s.2] 27) := ⟨_, rfl⟩
 obtain ⟨V1, hV1⟩ : ∃ W, W = W1.alloc (.cells #[.int .i64 off] 3) := ⟨_, rfl⟩
 obtain ⟨V2, hV2⟩ : ∃ W, W = V1.alloc (.cells #[.slice da d.length dc] 47) := ⟨_, rfl⟩
 obtain ⟨W2, hW2⟩ : ∃ W, W = V2.alloc (.cells #[.slice none 0 0, .int .i64 0] 27) := ⟨_, rfl⟩
 obtain ⟨W3, hW3⟩ : ∃ W, W = W2.alloc (.cells #[.string p] 9) := ⟨_, rfl⟩
 have hb1 : Below w.heap.size w W1 := by rw [hW1]; exact (Below.refl _ w).alloc (Nat.le_refl _) _
 have hbv : Below w.heap.size w V1 := by rw [hV1]; exact hb1.alloc hb1.size _
 have hbv2 : Below w.heap.size w V2 := by rw [hV2]; exact hbv.alloc hbv.size _
 have hb2 : Below w.heap.size w W2 := by rw [hW2]; exact hbv2.alloc hbv2.size _
 have hb3 : Below w.heap.size w W3 := by rw [hW3]; exact hb2.alloc hb2.size _
 have hs1 : W1.heap.size = w.heap.size + 1 := by rw [hW1]; exact Array.size_push _
 have hsv : V1.heap.size = w.heap.size + 1 + 1 := by rw [hV1, ← hs1]; exact Array.size_push _
 have hsv2 : V2.heap.size = w.heap.size + 1 + 1 + 1 := by rw [hV2, ← hsv]; exact Array.size_push _
 have hs2 : W2.heap.size = w.heap.size + 1 + 1 + 1 + 1 := by rw [hW2, ← hsv2]; exact Array.size_push _
 have hs3 : W3.heap.size = w.heap.size + 1 + 1 + 1 + 1 + 1 := by rw [hW3, ← hs2]; exact Array.size_push _
 have hBS : Box W2 w.heap.size 27 #[.slice a s.1.length c, .int .i64 s.2] := by
   have : Box W1 w.heap.size 27 #[.slice a s.1.length c, .int .i64 s.2] := by rw [hW1]; exact Box.new _ _ _
   rw [hW2, hV2, hV1]; exact ((this.alloc _).alloc _).alloc _
 have hBQ : Box W3 (w.heap.size + 1) 3 #[.int .i64 off] := by rw [hW3, hW2, hV2, hV1, ← hs1]; exact (((Box.new _ _ _).alloc _).alloc _).alloc _
 have hBD : Box W3 (w.heap.size + 1 + 1) 47 #[.slice da d.length dc] := by rw [hW3, hW2, hV2, ← hsv]; exact ((Box.new _ _ _).alloc _).alloc _
 have hBR : Box W3 (w.heap.size + 1 + 1 + 1) 27 #[.slice none 0 0, .int .i64 0] := by rw [hW3, hW2, ← hsv2]; exact (Box.new _ _ _).alloc _
 have hBT : Box W3 W2.heap.size 9 #[.string p] := by rw [hW3]; exact Box.new _ _ _
 have hX : ArgT w.heap.size W3 (.slice (some ⟨W2.heap.size, 0, none⟩) 1 1) [p] := argT_box (ps := [p]) hBT hb2.size (by simp [maxLen]) fun q hq => by rw [List.mem_singleton.1 hq]; exact hp
 have HC := change2_any 81 Tryz.call81 (.pointer (some ⟨w.heap.size + 1, 0, none⟩)) (.pointer (some ⟨w.heap.size + 1 + 1, 0, none⟩)) n0 w.heap.size a c s (some ⟨W2.heap.size, 0, none⟩) 1 [p] (by simp) W3 (ndsN.below hA hb3) hX (hg.below hb3 hg.lt) (rwE s (sval p) (F.wrE (fi (tgt s (sval p))) off d)) (filN s (tgt s (sval p)) (F.wrF (fi (tgt s (sval p))) off d))
   (fun hok _ V v2 B S hbV hB hBS hL hM => writeDo_any (w.heap.size + 1) (w.heap.size + 1 + 1) off da d.length dc d B S s hok p v2 V hM hBS hL n1 ho (fun U hU => hv.below (below_any hb3 (hbV.trans (hU.mono hB)))) (fun U hU => ⟨(hBQ.below hbV hBQ.lt).kept (hU.block _ (by have := hs3; omega)), (hBD.below hbV hBD.lt).kept (hU.block _ (by have := hs3; omega))⟩))
 rw [hs2] at HC
 generalize rwE s (sval p) (F.wrE (fi (tgt s (sval p))) off d) = K at HC ⊢
 generalize filN s (tgt s (sval p)) (F.wrF (fi (tgt s (sval p))) off d) = s' at HC ⊢
 obtain ⟨post, hpost⟩ : ∃ post : Ending → World → Prop, post = Wrote s [p] K s' d.length w := ⟨_, rfl⟩
 have HPo : Hid ((∀ k w', ((¬ Ok s ∧ k = 9) ∨ (Ok s ∧ psE [p] ≠ 0 ∧ k = psE [p]) ∨ (Ok s ∧ psE [p] = 0 ∧ K ≠ 0 ∧ k = K)) → Below w.heap.size w w' → post (.returned (.tuple #[.agg #[.slice none 0 0, .int .i64 0], .int .i64 0, .int .i64 k])) w') ∧ (∀ v w', Ok s → psE [p] = 0 → K = 0 → ndsN.lies w.heap.size w' [v] s'.1 → Below w.heap.size w w' → post (.returned (.tuple #[.agg #[v, .int .i64 s'.2], .int .i64 d.length, .int .i64 0])) w')) :=
   ⟨fun k w' h1 h2 => by rw [hpost]; exact ⟨.inl ⟨k, rfl, h1⟩, h2⟩, fun v w' h1 h2 h3 h4 h5 => by rw [hpost]; exact ⟨.inr ⟨v, rfl, h1, h2, h3, h4⟩, h5⟩⟩
 rw [← hpost]
 have HB : Hid (Box W3 (w.heap.size + 1 + 1 + 1) 27 #[.slice none 0 0, .int .i64 0] ∧ Box W3 (w.heap.size + 1 + 1) 47 #[.slice da d.length dc] ∧ Below w.heap.size w W3 ∧ W3.heap.size = w.heap.size + 1 + 1 + 1 + 1 + 1) := ⟨hBR, hBD, hb3, hs3⟩
 obtain ⟨g0, g1, -, -⟩ := hBS.two
 rw [hW2, hV2, hV1, hW1] at g0 g1
 obtain ⟨n, hn⟩ : ∃ n, n = s.1.length := ⟨_, rfl⟩
 obtain ⟨nx, hnx⟩ : ∃ n, n = s.2 := ⟨_, rfl⟩
 obtain ⟨dl, hdl⟩ : ∃ n, n = d.length := ⟨_, rfl⟩
 have hlen := run_len Tryz.underlying47 da dl dc
 rw [← hdl] at hV2 g0 g1 HPo HB ⊢
 rw [← hn] at HC hW1 g0 g1 ⊢
 rw [← hnx] at HC hW1 g0 g1 ⊢
 clear hA hg hp hb1 hbv hbv2 hb2 hb3 hBR hBS hBT hBQ hBD hX hn hnx hpost hs1 hsv hsv2 hs2 hs3 ho hdl hv
 go_enter Tryz.func30, Tryz.ntmps30
 go_wp2_with fail
 rw [← hW1, ← hV1, ← hV2, ← hW2, ← hW3]
 clear hW1 hV1 hV2 hW2 hW3 g0 g1
 refine HC.mono ?_
 rintro e4 w4 ⟨⟨k, rfl, hk⟩ | ⟨v, rfl, h1, h2, h3, h4⟩, hb4⟩
 · have hk0 : k ≠ 0 := by
     rcases hk with ⟨_, h⟩ | ⟨_, h, h'⟩ | ⟨_, _, h, h'⟩
     · omega
     · rw [h']; exact h
     · rw [h']; exact h
   have HK : Hid ((¬ Ok s ∧ k = 9) ∨ (Ok s ∧ psE [p] ≠ 0 ∧ k = psE [p]) ∨ (Ok s ∧ psE [p] = 0 ∧ K ≠ 0 ∧ k = K)) := hk
   obtain ⟨W5, hW5⟩ : ∃ W, W = w4.alloc (.cells #[.slice none 0 0, .int .i64 0] 27) := ⟨_, rfl⟩
   have hb5 : Below W3.heap.size W3 W5 := by rw [hW5]; exact hb4.alloc hb4.size _
   have H5 : Hid (Below w.heap.size w W5) := below_any HB.out.2.2.1 hb5
   obtain ⟨d0, d1, e0, e1⟩ := (HB.out.1.below hb5 HB.out.1.lt).two
   rw [hW5] at d0 d1 e0 e1
   clear hk hb4 hb5 HC
   go_wp2
   refine bodyPost_ret (v := .tuple #[.agg #[.slice none 0 0, .int .i64 0], .int .i64 0, .int .i64 k]) (by simp [results, Tryz.results30, go_sem, *]) rfl (HPo.out.1 k _ HK.out ?_)
   rw [← hW5]
   exact below_set2 H5.out (by omega) _ _
 · obtain ⟨a3, c3, hve, -, -⟩ := Shape.list_len (S := ndN) (ht := Tryz.underlying25) (hc := cells25) h4
   obtain rfl : v = _ := by simpa using hve
   obtain ⟨W5, hW5⟩ : ∃ W, W = w4.alloc (.cells #[.slice a3 s'.1.length c3, .int .i64 s'.2] 27) := ⟨_, rfl⟩
   have hb5 : Below W3.heap.size W3 W5 := by rw [hW5]; exact hb4.alloc hb4.size _
   have hBN : Box W5 w4.heap.size 27 #[.slice a3 s'.1.length c3, .int .i64 s'.2] := by rw [hW5]; exact Box.new _ _ _
   have H5 : Hid (Below w.heap.size w W5 ∧ ndsN.lies W3.heap.size W5 [.slice a3 s'.1.length c3] s'.1 ∧ Ok s ∧ psE [p] = 0 ∧ K = 0) := ⟨below_any HB.out.2.2.1 hb5, by rw [hW5]; exact ndsN.keep h4 (.alloc _ _ _), h1, h2, h3⟩
   obtain ⟨d0, d1, e0, e1⟩ := (HB.out.1.below hb5 HB.out.1.lt).two
   have q0 := (HB.out.2.1.below hb5 HB.out.2.1.lt).cell 0 rfl
   obtain ⟨x0, x1, -, -⟩ := hBN.two
   obtain ⟨n', hn'⟩ : ∃ n, n = s'.1.length := ⟨_, rfl⟩
   obtain ⟨nx', hnx'⟩ : ∃ n, n = s'.2 := ⟨_, rfl⟩
   rw [← hn'] at x0 hW5 H5 ⊢
   rw [← hnx'] at x1 hW5 HPo ⊢
   rw [← hn', ← hnx'] at hBN
   have hne : w4.heap.size ≠ w.heap.size + 1 + 1 + 1 := by have := hb4.size; have := HB.out.2.2.2; omega
   have hBN2 := (hBN.other (i := 0) (x := .slice a3 n' c3) hne).other (i := 1) (x := .int .i64 nx') hne
   obtain ⟨z0, z1, -, -⟩ := hBN2.two
   have z2 := (((HB.out.2.1.below hb5 HB.out.2.1.lt).other (B' := w.heap.size + 1 + 1 + 1) (i := 0) (x := .slice a3 n' c3) (by omega)).other (B' := w.heap.size + 1 + 1 + 1) (i := 1) (x := .int .i64 nx') (by omega)).cell 0 rfl
   have HZ : Hid (W3.heap.size = w.heap.size + 1 + 1 + 1 + 1 + 1) := HB.out.2.2.2
   clear hve h1 h2 h3 h4 hb4 hb5 HC hBN hBN2 hn' hnx' hne
   go_wp2
   rw [← hW5]
   clear hW5
   go_region_held3 (fun U => U.cell? ⟨w4.heap.size, 0, none⟩ = some (.slice a3 n' c3) ∧ U.cell? ⟨w4.heap.size, 1, none⟩ = some (.int .i64 nx') ∧ U.cell? ⟨w.heap.size + 1 + 1, 0, none⟩ = some (.slice da dl dc)) (first | exact ⟨x0, x1, q0⟩ | exact ⟨z0, z1, z2⟩ | go_keep) (fail)
   go_wp2
   refine bodyPost_ret (v := .tuple #[.agg #[.slice a3 n' c3, .int .i64 nx'], .int .i64 dl, .int .i64 0]) (by simp [results, Tryz.results30, go_sem, *]) rfl (HPo.out.2 _ _ H5.out.2.2.1 H5.out.2.2.2.1 H5.out.2.2.2.2 ?_ ?_)
   · exact ndsN.weaken (n := W3.heap.size) (ndsN.keep H5.out.2.1 (.set2 (by have := HZ.out; omega))) (by have := HZ.out; omega)
   · exact below_set2 (B := w.heap.size + 1 + 1 + 1) (W := W5.drew) H5.out.1.drew (by omega) _ _
end Go.Proofs.YtkcnephbaffmbaaGreatDoor
namespace Go.Proofs.YtkcnephbaffmbaaGreatDoor
open D (En nameOk inoOk Good Chk there fnd ins del aerr)
open F (Fl chk)
open P (serr sval)
theorem aerr_zero {l : List En} {e : En} (h : aerr l e = 0) : Chk l ∧ nameOk e.1 = true ∧ inoOk e.2 = true ∧ there l e.1 = false ∧ l.length < 63 := by
 unfold aerr at h
 split at h
 case isFalse => omega
 rename_i hck
 split at h
 case isFalse => omega
 rename_i a1
 split at h
 case isFalse => omega
 rename_i a2
 split at h
 case isTrue => omega
 rename_i a3
 split at h
 case isTrue => omega
 rename_i a4
 exact ⟨hck, a1, a2, by simpa using a3, by have := hck.1; omega⟩
theorem ahd_len {xs : List ByteArray} (h : xs ≠ []) : (ahd xs).length + 1 = xs.length := by
 have := List.length_pos_iff.2 h
 simp [ahd]; omega
theorem hold_wlk {s : St} (hK : Wk s) {xs : List ByteArray} (h : (wlk s.1 1 (ahd xs)).2 = 0) : hold s xs ∈ s.1 ∧ Wlk s.1 1 (ahd xs) (hold s xs).1 := ⟨(hK.lead h).1, (hK.lead h).2.2⟩
theorem mk_zero {s : St} (h : Ok s) {xs : List ByteArray} (he : mkE s xs = 0) : vacE s.1 xs = 0 ∧ s.1.length < 128 ∧ s.2 < 2147483647 ∧ aerr (en (hold s xs)) (lst xs, s.2) = 0 := by
 unfold mkE at he
 split at he
 · rename_i c; exact absurd he c
 rename_i c
 split at he
 · omega
 rename_i d
 have h1 := h.wk.len
 have h2 := h.wk.nx
 exact ⟨by omega, by omega, by omega, he⟩
theorem mk_ok {s : St} (h : Ok s) {xs : List ByteArray} (hl : xs.length ≤ 8) (he : mkE s xs = 0) (b : Bool) : Ok (mkN s (hold s xs) (lst xs) b) := by
 obtain ⟨h1, h2, h3, h4⟩ := mk_zero h he
 obtain ⟨v1, v2, v3, v4, v5, v6⟩ := vac_zero h.wk h1
 obtain ⟨a1, a2, a3, a4, a5⟩ := aerr_zero h4
 have hw := wlk_way h.wk.up (hold_wlk h.wk v2).2
 have := ahd_len v1
 exact ok_make h v3 v5 a2 a4 a5 h2 h3 hw (by omega) b F.chk_nil ⟨by simp, D.fine_nil⟩
theorem drop_ok {s : St} (h : Ok s) {xs : List ByteArray} (hne : xs ≠ []) (hw : (wlk s.1 1 xs).2 = 0) (he : en (tgt s xs) = []) : Ok (dropN s (hold s xs) (lst xs) (tgt s xs)) := by
 obtain ⟨q1, q2, q3, q4, q5⟩ := h.wk.stands hne hw
 exact ok_drop h q1 (h.wk.lead hw).1 q4 he
theorem fil_ok {s : St} (h : Ok s) {xs : List ByteArray} (he : filE s.1 xs = 0) : xs ≠ [] ∧ (wlk s.1 1 xs).2 = 0 ∧ en (tgt s xs) = [] ∧ isD (tgt s xs) = false ∧ chk (fi (tgt s xs)) = true ∧ tgt s xs ∈ s.1 := by
 obtain ⟨h1, h2⟩ := fil_zero he
 have h3 := h.wk.files _ (h.wk.lead h1).1 h2
 exact ⟨h.wk.file_ne h2, h1, h3.1, h2, h3.2, (h.wk.lead h1).1⟩
theorem unlink_ok {s : St} (h : Ok s) {xs : List ByteArray} (he : filE s.1 xs = 0) : Ok (dropN s (hold s xs) (lst xs) (tgt s xs)) := by
 obtain ⟨h1, h2, h3, _⟩ := fil_ok h he
 exact drop_ok h h1 h2 h3
theorem ln_zero {s : St} (h : Ok s) {xs ys : List ByteArray} (he : lnE s xs ys = 0) : filE s.1 xs = 0 ∧ vacE s.1 ys = 0 ∧ lk (tgt s xs) < 16 ∧ aerr (en (hold s ys)) (lst ys, (tgt s xs).1) = 0 := by
 unfold lnE at he
 split at he
 · rename_i c; exact absurd he c
 rename_i c
 split at he
 · rename_i d; exact absurd he d
 rename_i d
 split at he
 · omega
 rename_i e
 have c' : filE s.1 xs = 0 := by omega
 obtain ⟨f1, f2, f3, f4, f5, f6⟩ := fil_ok h c'
 have := ok_lks h f1 f2
 exact ⟨c', by omega, by omega, he⟩
theorem link_ok {s : St} (h : Ok s) {xs ys : List ByteArray} (hl : ys.length ≤ 8) (he : lnE s xs ys = 0) : Ok (lnkN s (hold s ys) (lst ys) (tgt s xs)) := by
 obtain ⟨h1, h2, h3, h4⟩ := ln_zero h he
 obtain ⟨f1, f2, f3, f4, f5, f6⟩ := fil_ok h h1
 obtain ⟨v1, v2, v3, v4, v5, v6⟩ := vac_zero h.wk h2
 obtain ⟨a1, a2, a3, a4, a5⟩ := aerr_zero h4
 have hw := wlk_way h.wk.up (hold_wlk h.wk v2).2
 have := ahd_len v1
 exact ok_link h v3 v5 f6 f4 a2 a4 a5 h3 hw (by omega)
theorem chk_bounds {f : Fl} (h : chk f = true) : 0 ≤ f.1 ∧ f.1 ≤ 2432 := (F.chk_iff.1 h).1
theorem wr_zero {f : Fl} {off : Int} {d : List Int} (h : F.wrE f off d = 0) : chk f = true ∧ 0 ≤ off ∧ (d.length = 0 ∨ off + d.length ≤ 2432) ∧ F.wrF f off d = F.mk (F.wrT (F.txt f) off.toNat d) ∧ (F.wrT (F.txt f) off.toNat d).length ≤ 2432 := by
 have h0 := h
 unfold F.wrE at h
 split at h
 · omega
 rename_i c
 have c' : chk f = true := by simpa using c
 have hb := chk_bounds c'
 split at h
 · omega
 rename_i d1
 refine ⟨c', by omega, ?_, ?_, ?_⟩
 · split at h
   · rename_i e; exact .inl e
   · split at h
     · omega
     · rename_i e; exact .inr (by omega)
 · unfold F.wrF; rw [if_pos h0]
 · split at h
   · rename_i e
     rw [F.wrT_none _ e, F.txt_length]; omega
   · rename_i e
     split at h
     · omega
     · rw [F.wrT_length e, F.txt_length]; omega
theorem wrF_chk {f : Fl} {off : Int} {d : List Int} (h : F.wrE f off d = 0) : chk (F.wrF f off d) = true := by
 obtain ⟨_, _, _, h4, h5⟩ := wr_zero h
 rw [h4]; exact F.chk_mk h5
theorem rw_zero {s : St} {xs : List ByteArray} {k : Int} (h : rwE s xs k = 0) : filE s.1 xs = 0 ∧ k = 0 := by
 unfold rwE at h
 split at h
 · rename_i c; exact absurd h c
 · rename_i c; exact ⟨by omega, h⟩
theorem write_ok {s : St} (h : Ok s) {xs : List ByteArray} {off : Int} {d : List Int} (he : rwE s xs (F.wrE (fi (tgt s xs)) off d) = 0) : Ok (filN s (tgt s xs) (F.wrF (fi (tgt s xs)) off d)) := by
 obtain ⟨h1, h2⟩ := rw_zero he
 obtain ⟨_, _, _, f4, _, f6⟩ := fil_ok h h1
 exact ok_file h f6 f4 (wrF_chk h2)
theorem way_sub {l l' : List Nd} (h : ∀ j, ∀ e ∈ kid l' j, e ∈ kid l j) : ∀ {k : Nat} {i x : Int}, Way l' k i x → Way l k i x
 | 0, _, _, hw => hw
 | _ + 1, i, _, ⟨e, he, hw⟩ => ⟨e, h i e he, way_sub h hw⟩
theorem dpt_sub {l l' : List Nd} (h : ∀ j, ∀ e ∈ kid l' j, e ∈ kid l j) : ∀ (k : Nat) (i : Int), dpt l' k i ≤ dpt l k i
 | 0, _ => Nat.le_refl _
 | k + 1, i => by
   rw [dpt, foldmax_le]
   refine ⟨Nat.zero_le _, fun e he => ?_⟩
   have h1 := dpt_sub h k e.2
   have h2 := ((foldmax_le (fun e : En => 1 + dpt l k e.2) (dpt l (k + 1) i) (kid l i) 0).1 (Nat.le_refl _)).2 e (h i e he)
   omega
theorem ren_zero {s : St} {xs ys : List ByteArray} (h : renE s xs ys = 0) : xs ≠ [] ∧ ys ≠ [] ∧ (wlk s.1 1 xs).2 = 0 ∧ stdE s.1 ys = 0 ∧ (isD (tgt s xs) = true → isB xs ys = false) ∧
   (stdT s.1 ys ≠ (tgt s xs).1 → (stdT s.1 ys ≠ 0 → cwE s xs ys = 0) ∧ aerr (en (gt (ren2 s xs ys) (stdI s.1 ys))) (lst ys, (tgt s xs).1) = 0 ∧ ys.length + dpt s.1 8 (tgt s xs).1 ≤ 8) := by
 unfold renE at h
 split at h
 · omega
 rename_i c1
 split at h
 · rename_i c; exact absurd h c
 rename_i c2
 split at h
 · rename_i c; exact absurd h c
 rename_i c3
 split at h
 · omega
 rename_i c4
 refine ⟨fun e => c1 (.inl e), fun e => c1 (.inr e), by omega, by omega, fun hd => ?_, fun hne => ?_⟩
 · cases hB : isB xs ys
   · rfl
   · exact absurd ⟨hd, hB⟩ c4
 rw [if_neg hne] at h
 split at h
 · rename_i c; exact absurd h c.2
 rename_i c5
 split at h
 · rename_i c; exact absurd h c
 rename_i c6
 split at h
 · omega
 rename_i c7
 refine ⟨fun h0 => ?_, by omega, by omega⟩
 apply Classical.byContradiction
 intro h1
 exact c5 ⟨h0, h1⟩
theorem ren_move {s : St} (h : Ok s) {xs ys : List ByteArray} (he : renE s xs ys = 0) (hst : stdT s.1 ys ≠ (tgt s xs).1) :
   Ok (ren1 s ys) ∧ wlk (ren1 s ys).1 1 xs = ((tgt s xs).1, 0) ∧ ∃ q ∈ (ren1 s ys).1, q.1 = (hold s ys).1 ∧ isD q = true ∧ Wlk (ren1 s ys).1 1 (ahd ys) q.1 ∧ (ren1 s ys).2 = s.2 ∧
     renS s xs ys = movN (ren1 s ys) (hold (ren1 s ys) xs) (lst xs) q (lst ys) (tgt s xs).1 ∧ aerr (qeN (hold (ren1 s ys) xs) (lst xs) q) (lst ys, (tgt s xs).1) = 0 ∧ (∀ j, ∀ e ∈ kid (ren1 s ys).1 j, e ∈ kid s.1 j) := by
 obtain ⟨hx0, hy0, hx, hs, hnb, hrest⟩ := ren_zero he
 obtain ⟨hcw, hae, hlong⟩ := hrest hst
 obtain ⟨c1, c2, c3, c4, c5, m, hm, hm1, hm2⟩ := ren_clear h hx0 hy0 hx hs hst hcw
 obtain ⟨d1, d2, d3, d4, -, d6⟩ := ren_struck h hx0 hy0 hx hs hst hcw
 obtain ⟨y1, y2, y3, y4, y5⟩ := std_zero h.wk hs
 obtain ⟨b1, b2, b3, b4, b5⟩ := c1.wk.stands hx0 (by rw [c2])
 have hq : en (gt (ren2 s xs ys) (stdI s.1 ys)) = qeN (hold (ren1 s ys) xs) (lst xs) m := by
   have hmem := (mem_ch' c1.wk.up b1 (f := wE (del (en (hold (ren1 s ys) xs)) (lst xs)))).1 d2
   unfold qeN
   rcases hmem with ⟨k1, k2⟩ | k1
   · rw [d3, ← hm1] at k2
     rw [if_neg k2, ups_eq c1.wk.up k1 hm (by rw [d3, hm1])]
   · have k2 : m.1 = (hold (ren1 s ys) xs).1 := by rw [hm1, ← d3, k1]; rfl
     rw [if_pos k2, k1]; rfl
 have hkid : ∀ j, ∀ e ∈ kid (ren1 s ys).1 j, e ∈ kid s.1 j := fun j e hj => by
   by_cases hh : j = (hold s ys).1
   · unfold ren1 at hj
     split at hj
     · exact hj
     · rename_i h0
       obtain ⟨w1, w2⟩ := cw_zero h.wk (hcw h0)
       obtain ⟨z1, z2, z3⟩ := h.wk.lead w1
       obtain ⟨q1, q2, q3, q4, q5⟩ := h.wk.stands hy0 w1
       rw [kid_dropped h.wk q1 z1 q4 w2, if_pos hh] at hj
       rw [hh, kid_of h.wk.up q1]
       exact (D.mem_del (h.wk.dirs _ q1 q3).1 hj).1
   · rw [c5 j hh] at hj; exact hj
 refine ⟨c1, c2, m, hm, hm1.trans y3, hm2, ?_, c3, ?_, ?_, hkid⟩
 · rw [hm1, y3]
   have hW := (hold_wlk h.wk y1).2
   unfold ren1
   split
   · exact hW
   · rename_i h0
     obtain ⟨w1, w2⟩ := cw_zero h.wk (hcw h0)
     obtain ⟨z1, z2, z3⟩ := h.wk.lead w1
     obtain ⟨q1, q2, q3, q4, q5⟩ := h.wk.stands hy0 w1
     refine wlk_dropped h.wk q1 z1 q4 w2 hW fun e => ?_
     rw [ups_eq h.wk.up q1 z1 e, w2] at q4
     cases q4
 · unfold renS
   rw [if_neg hst]
   unfold movN ren3
   rw [c3, hq, hm1]
   rfl
 · rw [← hq]; exact hae
theorem rename_ok {s : St} (h : Ok s) {xs ys : List ByteArray} (hl : ys.length ≤ 8) (he : renE s xs ys = 0) : Ok (renS s xs ys) := by
 by_cases hst : stdT s.1 ys = (tgt s xs).1
 · unfold renS; rw [if_pos hst]; exact h
 obtain ⟨c1, c2, q, hq, hq1, hq2, hw, c3, hS, hae, hkid⟩ := ren_move h he hst
 obtain ⟨hx0, hy0, hx, hs, hnb, hrest⟩ := ren_zero he
 obtain ⟨hcw, _, hlong⟩ := hrest hst
 obtain ⟨y1, y2, y3, y4, y5⟩ := std_zero h.wk hs
 obtain ⟨b1, b2, b3, b4, b5⟩ := c1.wk.stands hx0 (by rw [c2])
 have hN := c1.wk.lead (xs := xs) (by rw [c2])
 have hN1 : (tgt (ren1 s ys) xs).1 = (tgt s xs).1 := by rw [← hN.2.1, c2]
 obtain ⟨a1, a2, a3, a4, a5⟩ := aerr_zero hae
 rw [hS, ← hN1]
 have hal := ahd_len hy0
 have hdd : isD (tgt (ren1 s ys) xs) = true → isD (tgt s xs) = true := fun hd => by
   unfold ren1 at hd hN1 hN c2
   split at hd
   · exact hd
   · rename_i h0
     rw [if_neg h0] at hN1 hN
     obtain ⟨w1, w2⟩ := cw_zero h.wk (hcw h0)
     obtain ⟨z1, z2, z3⟩ := h.wk.lead w1
     obtain ⟨q1, q2, q3, q4, q5⟩ := h.wk.stands hy0 w1
     have hL := h.wk.lead hx
     have hnz : (tgt s xs).1 ≠ (tgt s ys).1 := fun e => hst (by
       rw [y5]
       unfold entC
       rw [if_neg (by rw [y4]; decide), if_neg (by rw [q5]; decide), e]
       exact D.fnd_mem (h.wk.dirs _ q1 q3).1 q4)
     have hmm := mem_dropped h.wk q1 hL.1 hnz (lst ys)
     have := ups_eq (Ok.wk (by have := c1; unfold ren1 at this; rw [if_neg h0] at this; exact this)).up hN.1 hmm (by
       rw [hN1]
       by_cases hc : (tgt s xs).1 = (hold s ys).1
       · rw [if_pos hc]; exact hc
       · rw [if_neg hc])
     rw [this] at hd
     by_cases hc : (tgt s xs).1 = (hold s ys).1
     · rw [ups_eq h.wk.up hL.1 q1 hc]; exact q3
     · rw [if_neg hc] at hd; exact hd
 refine ok_move c1 b1 hq hq2 hN.1 b4 a2 (by rw [hN1] at *; exact a4) a5 (wlk_way c1.wk.up hw) (by omega) (fun hd j hj => ?_) (fun hd => ?_)
 · rw [hN1, hq1] at hj
   exact not_below h hy0 hx y1 y4 (hnb (hdd hd)) j (way_sub hkid hj)
 · have := dpt_sub hkid 8 (tgt s xs).1
   rw [hN1]; omega
end Go.Proofs.YtkcnephbaffmbaaGreatDoor
namespace Go.Proofs.YtkcnephbaffmbaaGreatDoor
open Go.RowKit
open P (ArgT OwnT tv serr sval)
theorem look1_any (G : Nat) (hG : ∀ args w, (callFunc G args).run Tryz.prog w = .ok (.enter G args) w) (c1 : Value) (n0 n1 : Nat) (a : Option Addr) (c : Nat) (s : St) (av : Option Addr) (cv : Nat) (ps : List ByteArray) (hps : ps.length ≤ 2) (w : World) (hA : ndsN.lies n0 w [.slice a s.1.length c] s.1) (hX : ArgT n1 w (.slice av ps.length cv) ps) (hg : Glob w) (R : Option Nat) (k : Int) (Post : World → Prop) (hst : ∀ V V', Post V → Below V.heap.size V V' → Post V')
   (hR : ∀ r, R = some r → 0 < r)
   (hdo : Ok s → psE ps = 0 → ∀ V v2 B, Below w.heap.size w V → Box V B 27 #[.slice a s.1.length c, .int .i64 s.2] → w.heap.size ≤ B → OwnL w.heap.size V v2 ps → Calls Tryz.prog G #[.pointer (some ⟨B, 0, none⟩), v2, c1] V fun e w' => (∃ E, e = .returned E ∧ EV k E) ∧ V.grownBy w' R ∧ Post w') :
   Calls Tryz.prog 45 #[.agg #[.slice a s.1.length c, .int .i64 s.2], .func (.func G) #[] #[c1], .slice av ps.length cv] w fun e w' => ∃ r, e = .returned (.int .i64 r) ∧ ((¬ Ok s ∧ r = 9 ∧ Below w.heap.size w w') ∨ (Ok s ∧ psE ps ≠ 0 ∧ r = psE ps ∧ Below w.heap.size w w') ∨ (Ok s ∧ psE ps = 0 ∧ r = k ∧ w.grownBy w' R ∧ Post w')) := by
 obtain ⟨l, nx⟩ := s
 simp only at hA hdo ⊢
 obtain ⟨W, hW⟩ : ∃ W, W = w.alloc (.cells #[.slice a l.length c, .int .i64 nx] 27) := ⟨_, rfl⟩
 have hbW : Below w.heap.size w W := by rw [hW]; exact (Below.refl _ w).alloc (Nat.le_refl _) _
 have HW : Hid (Below w.heap.size w W ∧ Box W w.heap.size 27 #[.slice a l.length c, .int .i64 nx]) := ⟨hbW, by rw [hW]; exact Box.new _ _ _⟩
 have HC := prepare_any n0 n1 a c (l, nx) av cv ps hps W (ndsN.below hA hbW) (hX.below hbW)
 simp only at HC
 have HG : Hid (Glob w) := hg
 have HDO : Hid (Ok (l, nx) → psE ps = 0 → ∀ V v2 B, Below w.heap.size w V → Box V B 27 #[.slice a l.length c, .int .i64 nx] → w.heap.size ≤ B → OwnL w.heap.size V v2 ps → Calls Tryz.prog G #[.pointer (some ⟨B, 0, none⟩), v2, c1] V fun e w' => (∃ E, e = .returned E ∧ EV k E) ∧ V.grownBy w' R ∧ Post w') := hdo
 have HST : Hid ((∀ V V', Post V → Below V.heap.size V V' → Post V') ∧ ∀ r, R = some r → 0 < r) := ⟨hst, hR⟩
 obtain ⟨post, hpost⟩ : ∃ post : Ending → World → Prop, post = fun e w' => ∃ r, e = .returned (.int .i64 r) ∧ ((¬ Ok (l, nx) ∧ r = 9 ∧ Below w.heap.size w w') ∨ (Ok (l, nx) ∧ psE ps ≠ 0 ∧ r = psE ps ∧ Below w.heap.size w w') ∨ (Ok (l, nx) ∧ psE ps = 0 ∧ r = k ∧ w.grownBy w' R ∧ Post w')) := ⟨_, rfl⟩
 have HPo : Hid ((∀ w', ¬ Ok (l, nx) → Below w.heap.size w w' → post (.returned (.int .i64 9)) w') ∧ (∀ w', Ok (l, nx) → psE ps ≠ 0 → Below w.heap.size w w' → post (.returned (.int .i64 (psE ps))) w') ∧ (∀ w', Ok (l, nx) → psE ps = 0 → w.grownBy w' R → Post w' → post (.returned (.int .i64 k)) w')) :=
   ⟨fun w' h1 h2 => by rw [hpost]; exact ⟨9, rfl, .inl ⟨h1, rfl, h2⟩⟩, fun w' h1 h2 h3 => by rw [hpost]; exact ⟨_, rfl, .inr (.inl ⟨h1, h2, rfl, h3⟩)⟩, fun w' h1 h2 h3 h4 => by rw [hpost]; exact ⟨_, rfl, .inr (.inr ⟨h1, h2, rfl, h3, h4⟩)⟩⟩
 suffices HH : Calls Tryz.prog 45 #[.agg #[.slice a l.length c, .int .i64 nx], .func (.func G) #[] #[c1], .slice av ps.length cv] w fun e w' => post e w' by
   rw [hpost] at HH; exact HH
 obtain ⟨n, hn⟩ : ∃ n, n = l.length := ⟨_, rfl⟩
 rw [← hn] at HC HW HDO hW ⊢
 obtain ⟨m, hm⟩ : ∃ m, m = ps.length := ⟨_, rfl⟩
 rw [← hm] at HC ⊢
 obtain ⟨g0, g1, -, -⟩ := HW.out.2.two
 rw [hW] at g0 g1
 clear hA hbW hX hg hst hR hdo hn hm hpost hps
 go_enter Tryz.func45, Tryz.ntmps45
 go_wp2_with fail
 rw [← hW]
 clear hW g0 g1
 refine HC.mono ?_
 rintro e w1 ⟨⟨v, E, rfl, hr⟩, hb1⟩
 have HB1 : Hid (Below w.heap.size w w1 ∧ Box w1 w.heap.size 27 #[.slice a n c, .int .i64 nx]) := ⟨below_any HW.out.1 hb1, HW.out.2.below hb1 HW.out.2.lt⟩
 have HGW : Hid (Glob w1) := HG.out.below HB1.out.1 HG.out.lt
 rcases hr with ⟨ho, hE⟩ | ⟨ho, hp, hE⟩ | ⟨ho, hp, rfl, hL⟩
 · have HO : Hid (¬ Ok (l, nx)) := ho
   rcases hE with ⟨h0, _⟩ | ⟨_, a2, l2, c2, s2, rfl⟩
   · omega
   have hnn := numberOf_ref a2 l2 c2 9 s2 w1 HGW.out
   clear hb1 ho HC
   go_wp2_with fail
   refine hnn.mono ?_
   rintro e w2 ⟨rfl, hb2⟩
   go_wp2
   exact HPo.out.1 _ HO.out (below_any HB1.out.1 hb2)
 · have HO : Hid (Ok (l, nx) ∧ psE ps ≠ 0) := ⟨ho, hp⟩
   generalize psE ps = pe at HPo HO hE HDO
   rcases hE with ⟨h0, _⟩ | ⟨_, a2, l2, c2, s2, rfl⟩
   · exact absurd h0 HO.out.2
   have hnn := numberOf_ref a2 l2 c2 pe s2 w1 HGW.out
   clear hb1 ho hp HC
   go_wp2_with fail
   refine hnn.mono ?_
   rintro e w2 ⟨rfl, hb2⟩
   go_wp2
   exact HPo.out.2.1 _ HO.out.1 HO.out.2 (below_any HB1.out.1 hb2)
 · have HO : Hid (Ok (l, nx) ∧ psE ps = 0) := ⟨ho, hp⟩
   have hL1 : OwnL w.heap.size w1 v ps := by
     obtain ⟨us, h1, h2⟩ := hL
     exact ⟨us, own_weaken h1 HW.out.1.size, h2.mono fun _ _ h => h.weaken HW.out.1.size⟩
   have HCD := HDO.out ho hp w1 v w.heap.size HB1.out.1 HB1.out.2 (Nat.le_refl _) hL1
   clear hb1 ho hp hL hL1 HC
   go_wp2_with fail
   refine HCD.mono ?_
   rintro e w2 ⟨⟨E, rfl, hE⟩, hg2, hP2⟩
   have hgg : w.grownBy w2 R := (⟨HB1.out.1.os, HB1.out.1.tape, HB1.out.1.output, HB1.out.1.size, fun j hj _ => HB1.out.1.block j hj⟩ : w.grownBy w1 R).trans hg2
   have H2 : Hid (w.grownBy w2 R ∧ Post w2) := ⟨hgg, hP2⟩
   have HG2 : Hid (Glob w2) := by
     have h0 := HG.out.lt
     show w2.cell? _ = _
     rw [World.cell?_of_block (a := ⟨0, 0, none⟩) (hgg.block 0 h0 (fun e => by have := HST.out.2 0 e.symm; omega))]
     exact HG.out
   clear hg2 hP2 hgg HCD
   rcases hE with ⟨rfl, rfl⟩ | ⟨hk, a2, l2, c2, s2, rfl⟩
   · have hnn := numberOf_nil w2
     go_wp2_with fail
     refine hnn.mono ?_
     rintro e w3 ⟨rfl, hb3⟩
     go_wp2
     exact HPo.out.2.2 _ HO.out.1 HO.out.2 (H2.out.1.trans ⟨hb3.os, hb3.tape, hb3.output, hb3.size, fun j hj _ => hb3.block j hj⟩) (HST.out.1 _ _ H2.out.2 hb3)
   · have hnn := numberOf_ref a2 l2 c2 k s2 w2 HG2.out
     clear hk
     go_wp2_with fail
     refine hnn.mono ?_
     rintro e w3 ⟨rfl, hb3⟩
     go_wp2
     exact HPo.out.2.2 _ HO.out.1 HO.out.2 (H2.out.1.trans ⟨hb3.os, hb3.tape, hb3.output, hb3.size, fun j hj _ => hb3.block j hj⟩) (HST.out.1 _ _ H2.out.2 hb3)
theorem look3_any (G : Nat) (hG : ∀ args w, (callFunc G args).run Tryz.prog w = .ok (.enter G args) w) (c1 : Value) (c2 : Value) (c3 : Value) (n0 n1 : Nat) (a : Option Addr) (c : Nat) (s : St) (av : Option Addr) (cv : Nat) (ps : List ByteArray) (hps : ps.length ≤ 2) (w : World) (hA : ndsN.lies n0 w [.slice a s.1.length c] s.1) (hX : ArgT n1 w (.slice av ps.length cv) ps) (hg : Glob w) (R : Option Nat) (k : Int) (Post : World → Prop) (hst : ∀ V V', Post V → Below V.heap.size V V' → Post V')
   (hR : ∀ r, R = some r → 0 < r)
   (hdo : Ok s → psE ps = 0 → ∀ V v2 B, Below w.heap.size w V → Box V B 27 #[.slice a s.1.length c, .int .i64 s.2] → w.heap.size ≤ B → OwnL w.heap.size V v2 ps → Calls Tryz.prog G #[.pointer (some ⟨B, 0, none⟩), v2, c1, c2, c3] V fun e w' => (∃ E, e = .returned E ∧ EV k E) ∧ V.grownBy w' R ∧ Post w') :
   Calls Tryz.prog 45 #[.agg #[.slice a s.1.length c, .int .i64 s.2], .func (.func G) #[] #[c1, c2, c3], .slice av ps.length cv] w fun e w' => ∃ r, e = .returned (.int .i64 r) ∧ ((¬ Ok s ∧ r = 9 ∧ Below w.heap.size w w') ∨ (Ok s ∧ psE ps ≠ 0 ∧ r = psE ps ∧ Below w.heap.size w w') ∨ (Ok s ∧ psE ps = 0 ∧ r = k ∧ w.grownBy w' R ∧ Post w')) := by
 obtain ⟨l, nx⟩ := s
 simp only at hA hdo ⊢
 obtain ⟨W, hW⟩ : ∃ W, W = w.alloc (.cells #[.slice a l.length c, .int .i64 nx] 27) := ⟨_, rfl⟩
 have hbW : Below w.heap.size w W := by rw [hW]; exact (Below.refl _ w).alloc (Nat.le_refl _) _
 have HW : Hid (Below w.heap.size w W ∧ Box W w.heap.size 27 #[.slice a l.length c, .int .i64 nx]) := ⟨hbW, by rw [hW]; exact Box.new _ _ _⟩
 have HC := prepare_any n0 n1 a c (l, nx) av cv ps hps W (ndsN.below hA hbW) (hX.below hbW)
 simp only at HC
 have HG : Hid (Glob w) := hg
 have HDO : Hid (Ok (l, nx) → psE ps = 0 → ∀ V v2 B, Below w.heap.size w V → Box V B 27 #[.slice a l.length c, .int .i64 nx] → w.heap.size ≤ B → OwnL w.heap.size V v2 ps → Calls Tryz.prog G #[.pointer (some ⟨B, 0, none⟩), v2, c1, c2, c3] V fun e w' => (∃ E, e = .returned E ∧ EV k E) ∧ V.grownBy w' R ∧ Post w') := hdo
 have HST : Hid ((∀ V V', Post V → Below V.heap.size V V' → Post V') ∧ ∀ r, R = some r → 0 < r) := ⟨hst, hR⟩
 obtain ⟨post, hpost⟩ : ∃ post : Ending → World → Prop, post = fun e w' => ∃ r, e = .returned (.int .i64 r) ∧ ((¬ Ok (l, nx) ∧ r = 9 ∧ Below w.heap.size w w') ∨ (Ok (l, nx) ∧ psE ps ≠ 0 ∧ r = psE ps ∧ Below w.heap.size w w') ∨ (Ok (l, nx) ∧ psE ps = 0 ∧ r = k ∧ w.grownBy w' R ∧ Post w')) := ⟨_, rfl⟩
 have HPo : Hid ((∀ w', ¬ Ok (l, nx) → Below w.heap.size w w' → post (.returned (.int .i64 9)) w') ∧ (∀ w', Ok (l, nx) → psE ps ≠ 0 → Below w.heap.size w w' → post (.returned (.int .i64 (psE ps))) w') ∧ (∀ w', Ok (l, nx) → psE ps = 0 → w.grownBy w' R → Post w' → post (.returned (.int .i64 k)) w')) :=
   ⟨fun w' h1 h2 => by rw [hpost]; exact ⟨9, rfl, .inl ⟨h1, rfl, h2⟩⟩, fun w' h1 h2 h3 => by rw [hpost]; exact ⟨_, rfl, .inr (.inl ⟨h1, h2, rfl, h3⟩)⟩, fun w' h1 h2 h3 h4 => by rw [hpost]; exact ⟨_, rfl, .inr (.inr ⟨h1, h2, rfl, h3, h4⟩)⟩⟩
 suffices HH : Calls Tryz.prog 45 #[.agg #[.slice a l.length c, .int .i64 nx], .func (.func G) #[] #[c1, c2, c3], .slice av ps.length cv] w fun e w' => post e w' by
   rw [hpost] at HH; exact HH
 obtain ⟨n, hn⟩ : ∃ n, n = l.length := ⟨_, rfl⟩
 rw [← hn] at HC HW HDO hW ⊢
 obtain ⟨m, hm⟩ : ∃ m, m = ps.length := ⟨_, rfl⟩
 rw [← hm] at HC ⊢
 obtain ⟨g0, g1, -, -⟩ := HW.out.2.two
 rw [hW] at g0 g1
 clear hA hbW hX hg hst hR hdo hn hm hpost hps
 go_enter Tryz.func45, Tryz.ntmps45
 go_wp2_with fail
 rw [← hW]
 clear hW g0 g1
 refine HC.mono ?_
 rintro e w1 ⟨⟨v, E, rfl, hr⟩, hb1⟩
 have HB1 : Hid (Below w.heap.size w w1 ∧ Box w1 w.heap.size 27 #[.slice a n c, .int .i64 nx]) := ⟨below_any HW.out.1 hb1, HW.out.2.below hb1 HW.out.2.lt⟩
 have HGW : Hid (Glob w1) := HG.out.below HB1.out.1 HG.out.lt
 rcases hr with ⟨ho, hE⟩ | ⟨ho, hp, hE⟩ | ⟨ho, hp, rfl, hL⟩
 · have HO : Hid (¬ Ok (l, nx)) := ho
   rcases hE with ⟨h0, _⟩ | ⟨_, a2, l2, c2, s2, rfl⟩
   · omega
   have hnn := numberOf_ref a2 l2 c2 9 s2 w1 HGW.out
   clear hb1 ho HC
   go_wp2_with fail
   refine hnn.mono ?_
   rintro e w2 ⟨rfl, hb2⟩
   go_wp2
   exact HPo.out.1 _ HO.out (below_any HB1.out.1 hb2)
 · have HO : Hid (Ok (l, nx) ∧ psE ps ≠ 0) := ⟨ho, hp⟩
   generalize psE ps = pe at HPo HO hE HDO
   rcases hE with ⟨h0, _⟩ | ⟨_, a2, l2, c2, s2, rfl⟩
   · exact absurd h0 HO.out.2
   have hnn := numberOf_ref a2 l2 c2 pe s2 w1 HGW.out
   clear hb1 ho hp HC
   go_wp2_with fail
   refine hnn.mono ?_
   rintro e w2 ⟨rfl, hb2⟩
   go_wp2
   exact HPo.out.2.1 _ HO.out.1 HO.out.2 (below_any HB1.out.1 hb2)
 · have HO : Hid (Ok (l, nx) ∧ psE ps = 0) := ⟨ho, hp⟩
   have hL1 : OwnL w.heap.size w1 v ps := by
     obtain ⟨us, h1, h2⟩ := hL
     exact ⟨us, own_weaken h1 HW.out.1.size, h2.mono fun _ _ h => h.weaken HW.out.1.size⟩
   have HCD := HDO.out ho hp w1 v w.heap.size HB1.out.1 HB1.out.2 (Nat.le_refl _) hL1
   clear hb1 ho hp hL hL1 HC
   go_wp2_with fail
   refine HCD.mono ?_
   rintro e w2 ⟨⟨E, rfl, hE⟩, hg2, hP2⟩
   have hgg : w.grownBy w2 R := (⟨HB1.out.1.os, HB1.out.1.tape, HB1.out.1.output, HB1.out.1.size, fun j hj _ => HB1.out.1.block j hj⟩ : w.grownBy w1 R).trans hg2
   have H2 : Hid (w.grownBy w2 R ∧ Post w2) := ⟨hgg, hP2⟩
   have HG2 : Hid (Glob w2) := by
     have h0 := HG.out.lt
     show w2.cell? _ = _
     rw [World.cell?_of_block (a := ⟨0, 0, none⟩) (hgg.block 0 h0 (fun e => by have := HST.out.2 0 e.symm; omega))]
     exact HG.out
   clear hg2 hP2 hgg HCD
   rcases hE with ⟨rfl, rfl⟩ | ⟨hk, a2, l2, c2, s2, rfl⟩
   · have hnn := numberOf_nil w2
     go_wp2_with fail
     refine hnn.mono ?_
     rintro e w3 ⟨rfl, hb3⟩
     go_wp2
     exact HPo.out.2.2 _ HO.out.1 HO.out.2 (H2.out.1.trans ⟨hb3.os, hb3.tape, hb3.output, hb3.size, fun j hj _ => hb3.block j hj⟩) (HST.out.1 _ _ H2.out.2 hb3)
   · have hnn := numberOf_ref a2 l2 c2 k s2 w2 HG2.out
     clear hk
     go_wp2_with fail
     refine hnn.mono ?_
     rintro e w3 ⟨rfl, hb3⟩
     go_wp2
     exact HPo.out.2.2 _ HO.out.1 HO.out.2 (H2.out.1.trans ⟨hb3.os, hb3.tape, hb3.output, hb3.size, fun j hj _ => hb3.block j hj⟩) (HST.out.1 _ _ H2.out.2 hb3)
end Go.Proofs.YtkcnephbaffmbaaGreatDoor
namespace Go.Proofs.YtkcnephbaffmbaaGreatDoor
open Go.RowKit
open F (Fl flN bksN rdE rdO)
open P (ArgT OwnT tv serr sval)
def frE (s : St) (xs : List ByteArray) (off n : Int) : Int := if filE s.1 xs ≠ 0 then filE s.1 xs else rdE (fi (tgt s xs)) off n
def frO (s : St) (xs : List ByteArray) (off n : Int) : List Int := if filE s.1 xs ≠ 0 then [] else rdO (fi (tgt s xs)) off n
def HoldsO (base : Nat) (O : List Int) (Q : Nat) (w : World) : Prop := ∃ a c, Box w Q 47 #[.slice a O.length c] ∧ Arg base w (.slice a O.length c) O
theorem HoldsO.below {base : Nat} {O : List Int} {Q : Nat} {w w' : World} (h : HoldsO base O Q w) (hb : Below w.heap.size w w') : HoldsO base O Q w' := by
 obtain ⟨a, c, h1, h2⟩ := h
 exact ⟨a, c, h1.below hb h1.lt, h2.below hb⟩
theorem HoldsO.nil {base : Nat} {w : World} {Q : Nat} (h : Box w Q 47 #[.slice none 0 0]) : HoldsO base [] Q w := ⟨none, 0, h, .mk ⟨rfl, .inl ⟨rfl, rfl⟩⟩ (fun _ h => by cases h)⟩
theorem OwnL.at2 {base : Nat} {w : World} {v : Value} {ps : List ByteArray} (h : OwnL base w v ps) (i : Nat) (p : ByteArray) (hp : ps[i]? = some p) :
   ∃ b o a c, (∀ W, (Instr.indexAt 89 v (.int .i64 i)).run Tryz.prog W = .ok (.pointer (some ⟨b, o, none⟩)) W) ∧ w.cell? ⟨b, o, none⟩ = some (.slice a (sval p).length c) ∧ ArgT base w (.slice a (sval p).length c) (sval p) ∧ base ≤ b := by
 obtain ⟨us, h1, h2⟩ := h
 obtain ⟨u, hu, hT⟩ := h2.get hp
 obtain ⟨a, c, rfl⟩ := hT.shape
 obtain ⟨i0, hi0, _, hz, _⟩ := info_parts Tryz.info59
 have hC : Cells base w 1 v ps.length us := .own h1
 obtain ⟨b, o, hix, hb, hc⟩ := hC.index (by omega) Tryz.underlying89 hi0 hz i (List.getElem?_eq_some_iff.1 hp).1
 exact ⟨b, o, a, c, hix, hc 0 _ (by simpa using hu), hT.arg, hb⟩
theorem read_split {fe wi : Int} {l : List Nd} {v : Value} {e : Ending} (h : (fe ≠ 0 ∧ (∃ E, e = .returned (.tuple #[.pointer none, E]) ∧ EV fe E)) ∨ (fe = 0 ∧ ∃ k p b o, l[k]? = some p ∧ p.1 = wi ∧ (∀ W, (Instr.indexAt 25 v (.int .i64 (k : Nat))).run Tryz.prog W = .ok (.pointer (some ⟨b, o, none⟩)) W) ∧ e = .returned (.tuple #[.pointer (some ⟨b, o, none⟩), .nilIface]))) :
   ∃ R1 R2, e = .returned (.tuple #[R1, R2]) ∧ ((fe ≠ 0 ∧ R1 = .pointer none ∧ EV fe R2) ∨ (fe = 0 ∧ R2 = .nilIface ∧ ∃ k q b o, l[k]? = some q ∧ q.1 = wi ∧ (∀ W, (Instr.indexAt 25 v (.int .i64 (k : Nat))).run Tryz.prog W = .ok (.pointer (some ⟨b, o, none⟩)) W) ∧ R1 = .pointer (some ⟨b, o, none⟩))) := by
 rcases h with ⟨h0, E, rfl, h⟩ | ⟨h0, k, p, b, o, h1, h2, h3, rfl⟩
 · exact ⟨_, _, rfl, .inl ⟨h0, rfl, h⟩⟩
 · exact ⟨_, _, rfl, .inr ⟨h0, rfl, k, p, b, o, h1, h2, h3, rfl⟩⟩
theorem readDo_any (n0 : Nat) (a : Option Addr) (c : Nat) (s : St) (hK : Wk s) (p : ByteArray) (off nn : Int) (ho : I64 off) (hn : I64 nn) (B Q1 Q2 Q : Nat) (v2 : Value) (w0 V : World) (hA : ndsN.lies n0 w0 [.slice a s.1.length c] s.1) (hb : Below w0.heap.size w0 V) (hB : Box V B 27 #[.slice a s.1.length c, .int .i64 s.2]) (hL : OwnL w0.heap.size V v2 [p]) (hQ1 : Box V Q1 3 #[.int .i64 off]) (hQ2 : Box V Q2 3 #[.int .i64 nn]) (hQ : Box V Q 47 #[.slice none 0 0]) (hQw : Q < w0.heap.size) :
   Calls Tryz.prog 91 #[.pointer (some ⟨B, 0, none⟩), v2, .pointer (some ⟨Q1, 0, none⟩), .pointer (some ⟨Q2, 0, none⟩), .pointer (some ⟨Q, 0, none⟩)] V fun e w' => (∃ E, e = .returned E ∧ EV (frE s (sval p) off nn) E) ∧ V.grownBy w' (some Q) ∧ HoldsO w0.heap.size (frO s (sval p) off nn) Q w' := by
 obtain ⟨pb, po, pa, pc, hix, hpc, hT, hpb⟩ := hL.at2 0 p rfl
 have HPB : Hid (w0.heap.size ≤ pb) := hpb
 have hix : ∀ W, (Instr.indexAt 89 v2 (.int .i64 0)).run Tryz.prog W = .ok (.pointer (some ⟨pb, po, none⟩)) W := hix
 have HC := findFile_any n0 _ a c s hK pa pc (sval p) V.drew (ndsN.below hA (below_any hb (Below.refl _ V).drew)) (hT.below (Below.refl _ V).drew)
 obtain ⟨g0, g1, -, -⟩ := hB.two
 have HQ : Hid (Box V Q 47 #[.slice none 0 0] ∧ Box V Q1 3 #[.int .i64 off] ∧ Box V Q2 3 #[.int .i64 nn] ∧ Q < w0.heap.size ∧ w0.heap.size ≤ V.heap.size ∧ V.cell? ⟨pb, po, none⟩ = some (.slice pa (sval p).length pc)) := ⟨hQ, hQ1, hQ2, hQw, hb.size, hpc⟩
 have HNN : Hid (filE s.1 (sval p) = 0 → (wlk s.1 1 (sval p)).1 = (tgt s (sval p)).1 ∧ ∀ q ∈ s.1, q.1 = (tgt s (sval p)).1 → q = tgt s (sval p)) := fun h0 => by
   have hl := hK.lead (fil_zero h0).1
   refine ⟨hl.2.1, fun q hq he => ?_⟩
   have h1 := gt_of hK.up hq
   have h2 := gt_of hK.up hl.1
   rw [← h1, he, h2]
 have HAV : Hid (∀ W, Below V.heap.size V W → ndsN.lies n0 W [.slice a s.1.length c] s.1) := fun W hW => ndsN.below hA (below_any hb hW)
 have HRE : Hid (frE s (sval p) off nn = (if filE s.1 (sval p) ≠ 0 then filE s.1 (sval p) else rdE (fi (tgt s (sval p))) off nn) ∧ frO s (sval p) off nn = (if filE s.1 (sval p) ≠ 0 then [] else rdO (fi (tgt s (sval p))) off nn) ∧ I64 off ∧ I64 nn) := ⟨rfl, rfl, ho, hn⟩
 generalize frE s (sval p) off nn = re at HRE ⊢
 generalize frO s (sval p) off nn = ro at HRE ⊢
 generalize tgt s (sval p) = T at HNN HRE
 generalize (wlk s.1 1 (sval p)).1 = wi at HC HNN
 generalize filE s.1 (sval p) = fe at HC HNN HRE
 obtain ⟨n, hn'⟩ : ∃ n, n = s.1.length := ⟨_, rfl⟩
 obtain ⟨nx, hnx⟩ : ∃ n, n = s.2 := ⟨_, rfl⟩
 obtain ⟨m, hm⟩ : ∃ m, m = (sval p).length := ⟨_, rfl⟩
 obtain ⟨l, hl⟩ : ∃ l, l = s.1 := ⟨_, rfl⟩
 rw [← hn', ← hnx, ← hm, ← hl] at HC
 rw [← hn', ← hl] at HAV
 rw [← hl] at HNN
 rw [← hm] at HQ hpc
 rw [← hn'] at g0
 rw [← hnx] at g1
 have HS0 : V.drew.cell? ⟨B, 0, none⟩ = some (.slice a n c) ∧ V.drew.cell? ⟨B, 1, none⟩ = some (.int .i64 nx) ∧ V.drew.cell? ⟨pb, po, none⟩ = some (.slice pa m pc) := ⟨g0, g1, hpc⟩
 obtain ⟨post, hpost⟩ : ∃ post : Ending → World → Prop, post = fun e w' => (∃ E, e = .returned E ∧ EV re E) ∧ V.grownBy w' (some Q) ∧ HoldsO w0.heap.size ro Q w' := ⟨_, rfl⟩
 have HPo : Hid (∀ E w', EV re E → V.grownBy w' (some Q) → HoldsO w0.heap.size ro Q w' → post (.returned E) w') := fun E w' h1 h2 h3 => by rw [hpost]; exact ⟨⟨_, rfl, h1⟩, h2, h3⟩
 rw [← hpost]
 clear hA hb hB hL hQ hQ1 hQ2 hT hpb hn' hnx hm hl hK hpost ho hn hQw
 go_enter Tryz.func91, Tryz.ntmps91
 go_wp2
 go_region_held3 (fun U => U.cell? ⟨B, 0, none⟩ = some (.slice a n c) ∧ U.cell? ⟨B, 1, none⟩ = some (.int .i64 nx) ∧ U.cell? ⟨pb, po, none⟩ = some (.slice pa m pc))
   (first | with_reducible exact HS1 | with_reducible exact HS0)
   ((first | (go_at_call 92; refine HC.mono ?_; rintro e w1 ⟨hr, hb1⟩; have HS1 : w1.cell? ⟨B, 0, none⟩ = some (.slice a n c) ∧ w1.cell? ⟨B, 1, none⟩ = some (.int .i64 nx) ∧ w1.cell? ⟨pb, po, none⟩ = some (.slice pa m pc) := ⟨by rw [hb1.cell (p := ⟨B, 0, none⟩) (cell_lt HS0.1)]; exact HS0.1, by rw [hb1.cell (p := ⟨B, 1, none⟩) (cell_lt HS0.2.1)]; exact HS0.2.1, by rw [hb1.cell (p := ⟨pb, po, none⟩) (cell_lt HS0.2.2)]; exact HS0.2.2⟩; obtain ⟨R1, R2, rfl, hr2⟩ : ∃ R1 R2, e = .returned (.tuple #[R1, R2]) ∧ ((fe ≠ 0 ∧ R1 = .pointer none ∧ EV fe R2) ∨ (fe = 0 ∧ R2 = .nilIface ∧ ∃ k q b o, l[k]? = some q ∧ q.1 = wi ∧ (∀ W, (Instr.indexAt 25 (.slice a n c) (.int .i64 (k : Nat))).run Tryz.prog W = .ok (.pointer (some ⟨b, o, none⟩)) W) ∧ R1 = .pointer (some ⟨b, o, none⟩))) := read_split hr)))
 have HBL : Hid (Below V.heap.size V w1) := below_any (Below.refl _ V).drew hb1
 have HPC : Hid (w1.cell? ⟨pb, po, none⟩ = some (.slice pa m pc)) := HS1.2.2
 clear hb1 HS0 HS1 g0 g1 HC hpc hr
 rcases hr2 with ⟨hne, rfl, hE⟩ | ⟨h0, rfl, k, q, b, o, hk, hqw, hixq, rfl⟩
 · have hre : re = fe := by rw [HRE.out.1, if_pos hne]
   have hro : ro = [] := by rw [HRE.out.2.1, if_pos hne]
   have HE : Hid (EV re R2 ∧ HoldsO w0.heap.size ro Q w1) := ⟨by rw [hre]; exact hE, by rw [hro]; exact HoldsO.nil (HQ.out.1.below HBL.out HQ.out.1.lt)⟩
   obtain ⟨a2, l2, c2, s2, rfl⟩ : ∃ a2 l2 c2 s2, R2 = refV (.slice a2 l2 c2) fe s2 := by
     rcases hE with ⟨h, _⟩ | ⟨_, a2, l2, c2, s2, h⟩
     · exact absurd h hne
     · exact ⟨a2, l2, c2, s2, h⟩
   clear hE hne hre hro
   go_wp2
   exact HPo.out _ _ HE.out.1 (grown_below HBL.out _) HE.out.2
 subst h0
 have hqT : q = T := (HNN.out rfl).2 q (List.mem_of_getElem? hk) (hqw.trans (HNN.out rfl).1)
 subst hqT
 obtain ⟨b', o', e', f', hix', -, hcs, hLN⟩ := nds_atN (HAV.out w1 HBL.out) k q hk
 have hbo := (hix' w1).symm.trans (hixq w1)
 simp only [Result.ok.injEq, Value.pointer.injEq, Option.some.injEq, Addr.mk.injEq, and_true] at hbo
 obtain ⟨rfl, rfl⟩ := hbo
 obtain ⟨fa, fc, hfe, -, -⟩ := Shape.list_len (S := F.bkN) (ht := Tryz.underlying81) (hc := F.cells81) hLN.2.1
 obtain rfl : f' = _ := by simpa using hfe
 obtain ⟨-, -, -, -, c4, c5⟩ := nv_cells hcs
 have HCR := F.read_any n0 _ (fi q) off nn w1.drew (flN.below hLN.file (Below.refl _ w1).drew) HRE.out.2.2.1 HRE.out.2.2.2
 have HR2 : Hid (re = rdE (fi q) off nn ∧ ro = rdO (fi q) off nn) := by
   have h1 := HRE.out.1
   have h2 := HRE.out.2.1
   rw [if_neg (by decide)] at h1 h2
   exact ⟨h1, h2⟩
 have q1 := (HQ.out.2.1.below HBL.out HQ.out.2.1.lt).cell 0 rfl
 have q2 := (HQ.out.2.2.1.below HBL.out HQ.out.2.2.1.lt).cell 0 rfl
 generalize (fi q).1 = z0 at c4 HCR
 generalize (fi q).2.length = l0 at c5 HCR
 generalize rdE (fi q) off nn = rke at HCR HR2
 generalize rdO (fi q) off nn = rko at HCR HR2
 have HS0 : w1.drew.cell? ⟨b', o' + 4, none⟩ = some (.int .i64 z0) ∧ w1.drew.cell? ⟨b', o' + 4 + 1, none⟩ = some (.slice fa l0 fc) ∧ w1.drew.cell? ⟨Q1, 0, none⟩ = some (.int .i64 off) ∧ w1.drew.cell? ⟨Q2, 0, none⟩ = some (.int .i64 nn) := ⟨c4, c5, q1, q2⟩
 clear hcs hLN hfe hix' hixq hqw hk c4 c5 q1 q2
 go_wp2
 go_region_held3 (fun U => U.cell? ⟨b', o' + 4, none⟩ = some (.int .i64 z0) ∧ U.cell? ⟨b', o' + 4 + 1, none⟩ = some (.slice fa l0 fc) ∧ U.cell? ⟨Q1, 0, none⟩ = some (.int .i64 off) ∧ U.cell? ⟨Q2, 0, none⟩ = some (.int .i64 nn))
   (first | with_reducible exact HS1 | with_reducible exact HS0)
   ((first | (go_at_call 93; refine HCR.mono ?_; rintro e2 w2 ⟨⟨v3, rfl, hv3⟩, hb2⟩; have HS1 : w2.cell? ⟨b', o' + 4, none⟩ = some (.int .i64 z0) ∧ w2.cell? ⟨b', o' + 4 + 1, none⟩ = some (.slice fa l0 fc) ∧ w2.cell? ⟨Q1, 0, none⟩ = some (.int .i64 off) ∧ w2.cell? ⟨Q2, 0, none⟩ = some (.int .i64 nn) := ⟨by rw [hb2.cell (cell_lt HS0.1)]; exact HS0.1, by rw [hb2.cell (cell_lt HS0.2.1)]; exact HS0.2.1, by rw [hb2.cell (cell_lt HS0.2.2.1)]; exact HS0.2.2.1, by rw [hb2.cell (cell_lt HS0.2.2.2)]; exact HS0.2.2.2⟩)))
 obtain ⟨ra, rc, rfl, -, -, -⟩ := hv3.shape
 have HB2 : Hid (Below V.heap.size V w2) := below_any HBL.out (below_any (Below.refl _ w1).drew hb2)
 have hQ2 := HQ.out.1.below HB2.out HQ.out.1.lt
 have HF : Hid (HoldsO w0.heap.size ro Q (w2.setCell ⟨Q, 0, none⟩ (.slice ra rko.length rc)) ∧ V.grownBy (w2.setCell ⟨Q, 0, none⟩ (.slice ra rko.length rc)) (some Q)) := by
   refine ⟨?_, (grown_below HB2.out _).trans (grown_set _ _ _ _)⟩
   rw [HR2.out.2]
   refine ⟨ra, rc, hQ2.set 0 _, ?_⟩
   have h1 : Arg w1.heap.size w2 (.slice ra rko.length rc) rko := hv3
   exact (h1.keep (.set (by have := HQ.out.2.2.2; have := HBL.out.size; omega))).weaken (by have := HQ.out.2.2.2; have := HBL.out.size; omega)
 have y0 := hQ2.cell 0 rfl
 have f0 := hQ2.frozen 0
 have pc0 : (w2.setCell ⟨Q, 0, none⟩ (.slice ra rko.length rc)).cell? ⟨pb, po, none⟩ = some (.slice pa m pc) := by
   have h1 : w2.cell? ⟨pb, po, none⟩ = some (.slice pa m pc) := by
     have h0 : w1.drew.cell? ⟨pb, po, none⟩ = some (.slice pa m pc) := HPC.out
     rw [hb2.cell (cell_lt h0)]; exact h0
   exact (Same.set (n := w0.heap.size) HQ.out.2.2.2.1).cell HPB.out h1
 generalize rko.length = rl at HF pc0 ⊢
 clear hv3 hb2 hQ2 HS0 HS1 HCR
 by_cases hz : rke = 0
 · have hre : re = 0 := HR2.out.1.trans hz
   subst hz
   have HRZ : Hid (re = 0) := hre
   have hrf := refuse_ok (.slice pa m pc) (w2.setCell ⟨Q, 0, none⟩ (.slice ra rl rc))
   clear hre
   go_wp2_with fail
   refine hrf.mono ?_
   rintro e5 w5 ⟨rfl, rfl⟩
   go_wp2
   exact HPo.out _ _ (by rw [HRZ.out]; exact ev_nil) HF.out.2 HF.out.1
 · have HRZ : Hid (re = rke ∧ rke ≠ 0) := ⟨HR2.out.1, hz⟩
   have hrf := refuse_bad rke hz pa m pc (w2.setCell ⟨Q, 0, none⟩ (.slice ra rl rc))
   go_wp2_with fail
   refine hrf.mono ?_
   rintro e5 w5 ⟨rfl, rfl⟩
   go_wp2
   exact HPo.out _ _ (by rw [HRZ.out.1]; exact ev_ref HRZ.out.2 _ _ _ _) HF.out.2 HF.out.1
theorem Read_any (n0 : Nat) (a : Option Addr) (c : Nat) (s : St) (p : ByteArray) (hp : p.size ≤ maxLen) (off nn : Int) (ho : I64 off) (hn : I64 nn) (w : World) (hA : ndsN.lies n0 w [.slice a s.1.length c] s.1) (hg : Glob w) :
   Calls Tryz.prog 34 #[.agg #[.slice a s.1.length c, .int .i64 s.2], .string p, .int .i64 off, .int .i64 nn] w fun e w' => (∃ v O k, e = .returned (.tuple #[v, .int .i64 k]) ∧ Arg w.heap.size w' v O ∧ ((¬ Ok s ∧ O = [] ∧ k = 9) ∨ (Ok s ∧ serr p ≠ 0 ∧ O = [] ∧ k = serr p) ∨ (Ok s ∧ serr p = 0 ∧ O = frO s (sval p) off nn ∧ k = frE s (sval p) off nn))) ∧ Below w.heap.size w w' := by
 obtain ⟨W1, hW1⟩ : ∃ W, W = w.alloc (.cells #[.slice a s.1.length c, .int .i64 s.2] 27) := ⟨_, rfl⟩
 obtain ⟨V1, hV1⟩ : ∃ W, W = W1.alloc (.cells #[.int .i64 off] 3) := ⟨_, rfl⟩
 obtain ⟨V2, hV2⟩ : ∃ W, W = V1.alloc (.cells #[.int .i64 nn] 3) := ⟨_, rfl⟩
 obtain ⟨W2, hW2⟩ : ∃ W, W = V2.alloc (.cells #[.slice none 0 0] 47) := ⟨_, rfl⟩
 obtain ⟨W3, hW3⟩ : ∃ W, W = W2.alloc (.cells #[.string p] 9) := ⟨_, rfl⟩
 have hb1 : Below w.heap.size w W1 := by rw [hW1]; exact (Below.refl _ w).alloc (Nat.le_refl _) _
 have hbv : Below w.heap.size w V1 := by rw [hV1]; exact hb1.alloc hb1.size _
 have hbv2 : Below w.heap.size w V2 := by rw [hV2]; exact hbv.alloc hbv.size _
 have hb2 : Below w.heap.size w W2 := by rw [hW2]; exact hbv2.alloc hbv2.size _
 have hb3 : Below w.heap.size w W3 := by rw [hW3]; exact hb2.alloc hb2.size _
 have hs1 : W1.heap.size = w.heap.size + 1 := by rw [hW1]; exact Array.size_push _
 have hsv : V1.heap.size = w.heap.size + 1 + 1 := by rw [hV1, ← hs1]; exact Array.size_push _
 have hsv2 : V2.heap.size = w.heap.size + 1 + 1 + 1 := by rw [hV2, ← hsv]; exact Array.size_push _
 have hs2 : W2.heap.size = w.heap.size + 1 + 1 + 1 + 1 := by rw [hW2, ← hsv2]; exact Array.size_push _
 have hs3 : W3.heap.size = w.heap.size + 1 + 1 + 1 + 1 + 1 := by rw [hW3, ← hs2]; exact Array.size_push _
 have hBS : Box W2 w.heap.size 27 #[.slice a s.1.length c, .int .i64 s.2] := by
   have : Box W1 w.heap.size 27 #[.slice a s.1.length c, .int .i64 s.2] := by rw [hW1]; exact Box.new _ _ _
   rw [hW2, hV2, hV1]; exact ((this.alloc _).alloc _).alloc _
 have hBQ1 : Box W3 (w.heap.size + 1) 3 #[.int .i64 off] := by rw [hW3, hW2, hV2, hV1, ← hs1]; exact (((Box.new _ _ _).alloc _).alloc _).alloc _
 have hBQ2 : Box W3 (w.heap.size + 1 + 1) 3 #[.int .i64 nn] := by rw [hW3, hW2, hV2, ← hsv]; exact ((Box.new _ _ _).alloc _).alloc _
 have hBQ : Box W3 (w.heap.size + 1 + 1 + 1) 47 #[.slice none 0 0] := by rw [hW3, hW2, ← hsv2]; exact (Box.new _ _ _).alloc _
 have hBT : Box W3 W2.heap.size 9 #[.string p] := by rw [hW3]; exact Box.new _ _ _
 have hX : ArgT w.heap.size W3 (.slice (some ⟨W2.heap.size, 0, none⟩) 1 1) [p] := argT_box (ps := [p]) hBT hb2.size (by simp [maxLen]) fun q hq => by rw [List.mem_singleton.1 hq]; exact hp
 have HC := look3_any 91 Tryz.call91 (.pointer (some ⟨w.heap.size + 1, 0, none⟩)) (.pointer (some ⟨w.heap.size + 1 + 1, 0, none⟩)) (.pointer (some ⟨w.heap.size + 1 + 1 + 1, 0, none⟩)) n0 w.heap.size a c s (some ⟨W2.heap.size, 0, none⟩) 1 [p] (by simp) W3 (ndsN.below hA hb3) hX (hg.below hb3 hg.lt) (some (w.heap.size + 1 + 1 + 1)) (frE s (sval p) off nn) (HoldsO W3.heap.size (frO s (sval p) off nn) (w.heap.size + 1 + 1 + 1)) (fun V V' h hb => h.below hb)
   (fun r hr => by cases hr; omega)
   (fun hok _ V v2 B hbV hB hBl hL => readDo_any n0 a c s hok.wk p off nn ho hn B (w.heap.size + 1) (w.heap.size + 1 + 1) (w.heap.size + 1 + 1 + 1) v2 W3 V (ndsN.below hA hb3) hbV hB hL (hBQ1.below hbV hBQ1.lt) (hBQ2.below hbV hBQ2.lt) (hBQ.below hbV hBQ.lt) (by omega))
 rw [hs2] at HC
 have hps : psE [p] = serr p := by rw [psE]; split <;> simp_all [psE]
 rw [hps] at HC
 obtain ⟨post, hpost⟩ : ∃ post : Ending → World → Prop, post = fun e w' => (∃ v O k, e = .returned (.tuple #[v, .int .i64 k]) ∧ Arg w.heap.size w' v O ∧ ((¬ Ok s ∧ O = [] ∧ k = 9) ∨ (Ok s ∧ serr p ≠ 0 ∧ O = [] ∧ k = serr p) ∨ (Ok s ∧ serr p = 0 ∧ O = frO s (sval p) off nn ∧ k = frE s (sval p) off nn))) ∧ Below w.heap.size w w' := ⟨_, rfl⟩
 have HPo : Hid (∀ v O k w', Arg w.heap.size w' v O → ((¬ Ok s ∧ O = [] ∧ k = 9) ∨ (Ok s ∧ serr p ≠ 0 ∧ O = [] ∧ k = serr p) ∨ (Ok s ∧ serr p = 0 ∧ O = frO s (sval p) off nn ∧ k = frE s (sval p) off nn)) → Below w.heap.size w w' → post (.returned (.tuple #[v, .int .i64 k])) w') := fun v O k w' h1 h2 h3 => by rw [hpost]; exact ⟨⟨v, O, k, rfl, h1, h2⟩, h3⟩
 rw [← hpost]
 have HB : Hid (Box W3 (w.heap.size + 1 + 1 + 1) 47 #[.slice none 0 0] ∧ Below w.heap.size w W3) := ⟨hBQ, hb3⟩
 generalize frE s (sval p) off nn = fe at HC HPo
 generalize frO s (sval p) off nn = fo at HC HPo
 generalize serr p = pe at HC HPo
 obtain ⟨g0, g1, -, -⟩ := hBS.two
 rw [hW2, hV2, hV1, hW1] at g0 g1
 obtain ⟨n, hn'⟩ : ∃ n, n = s.1.length := ⟨_, rfl⟩
 obtain ⟨nx, hnx⟩ : ∃ n, n = s.2 := ⟨_, rfl⟩
 rw [← hn'] at HC hW1 g0 g1 ⊢
 rw [← hnx] at HC hW1 g0 g1 ⊢
 clear hA hg hp hb1 hbv hbv2 hb2 hb3 hBQ hBQ1 hBQ2 hBS hBT hX hn' hnx hpost hs1 hsv hsv2 hs2 hs3 ho hn hps
 go_enter Tryz.func34, Tryz.ntmps34
 go_wp2_with fail
 rw [← hW1, ← hV1, ← hV2, ← hW2, ← hW3]
 clear hW1 hV1 hV2 hW2 hW3 g0 g1
 refine HC.mono ?_
 rintro e w4 ⟨r, rfl, hr⟩
 have hq : ∃ O, HoldsO w.heap.size O (w.heap.size + 1 + 1 + 1) w4 ∧ Below w.heap.size w w4 ∧ ((¬ Ok s ∧ O = [] ∧ r = 9) ∨ (Ok s ∧ pe ≠ 0 ∧ O = [] ∧ r = pe) ∨ (Ok s ∧ pe = 0 ∧ O = fo ∧ r = fe)) := by
   rcases hr with ⟨h1, h2, h3⟩ | ⟨h1, h2, h3, h4⟩ | ⟨h1, h2, h3, h4, h5⟩
   · exact ⟨[], HoldsO.nil (HB.out.1.below h3 HB.out.1.lt), below_any HB.out.2 h3, .inl ⟨h1, rfl, h2⟩⟩
   · exact ⟨[], HoldsO.nil (HB.out.1.below h4 HB.out.1.lt), below_any HB.out.2 h4, .inr (.inl ⟨h1, h2, rfl, h3⟩)⟩
   · obtain ⟨oa, oc, o1, o2⟩ := h5
     exact ⟨_, ⟨oa, oc, o1, o2.weaken HB.out.2.size⟩, HB.out.2.grown h4 HB.out.2.size (fun k hk => by cases hk; omega), .inr (.inr ⟨h1, h2, rfl, h3⟩)⟩
 obtain ⟨O, ⟨oa, oc, hz, hAo⟩, hbz, hrz⟩ := hq
 have q0 := hz.cell 0 rfl
 have HF : Hid (post (.returned (.tuple #[.slice oa O.length oc, .int .i64 r])) w4) := HPo.out _ _ _ _ hAo hrz hbz
 generalize O.length = ol at q0 HF
 clear hz hbz hrz hr HC hAo
 go_wp2
 exact HF.out
end Go.Proofs.YtkcnephbaffmbaaGreatDoor
namespace Go.Proofs.YtkcnephbaffmbaaGreatDoor
open D (En nameOk inoOk Good Chk there fnd ins del aerr)
open F (Fl chk rdE rdO wrE wrF)
open P (serr sval)
theorem ok_new : Ok ([rootN], 2) := by
 have hm : ∀ n ∈ [rootN], n = rootN := fun n hn => List.mem_singleton.1 hn
 refine ⟨⟨by decide, by decide, List.pairwise_singleton _ _, fun n hn => ?_, ⟨rootN, List.mem_singleton.2 rfl, rfl, rfl⟩, fun n hn _ => ?_, fun n hn hd => ?_, fun n hn e he => ?_, fun n hn => ?_, fun n hn _ => ?_, fun n hn h1 => ?_, fun n hn h1 => ?_⟩, fun _ => 0, rfl, fun n hn _ e he => ?_⟩
 · rw [hm n hn]; decide
 · rw [hm n hn]; exact ⟨⟨by decide, D.fine_nil⟩, rfl⟩
 · rw [hm n hn] at hd; cases hd
 · rw [hm n hn] at he; cases he
 · rw [hm n hn]; rfl
 · rw [hm n hn]; rfl
 · rw [hm n hn] at h1; exact absurd rfl h1
 · rw [hm n hn] at h1; exact absurd rfl h1
 · rw [hm n hn] at he; cases he
def exA : ByteArray := ⟨#[97]⟩
def exF : ByteArray := ⟨#[102]⟩
def exB : List Int := [104, 105, 0, 0, 0, 0, 0, 0, 0, 0, 0, 0, 0, 0, 0, 0, 0, 0, 0, 0, 0, 0, 0, 0, 0, 0, 0, 0, 0, 0, 0, 0]
def ex1 : St := ([(1, true, 0, [(exA, 2)], (0, [])), (2, true, 1, [], (0, []))], 3)
def ex2 : St := ([(1, true, 0, [(exA, 2)], (0, [])), (2, true, 1, [(exF, 3)], (0, [])), (3, false, 1, [], (0, []))], 4)
def ex3 : St := ([(1, true, 0, [(exA, 2)], (0, [])), (2, true, 1, [(exF, 3)], (0, [])), (3, false, 1, [], (2, [(0, exB)]))], 4)
theorem ex_p : serr ⟨#[47, 97]⟩ = 0 ∧ sval ⟨#[47, 97]⟩ = [exA] := by decide +kernel
theorem ex_q : serr ⟨#[47, 97, 47, 102]⟩ = 0 ∧ sval ⟨#[47, 97, 47, 102]⟩ = [exA, exF] := by decide +kernel
theorem ex_1 : mkE ([rootN], 2) [exA] = 0 ∧ mkN ([rootN], 2) (hold ([rootN], 2) [exA]) (lst [exA]) true = ex1 := ⟨by decide +kernel, by kernel_rfl⟩
theorem ex_2 : mkE ex1 [exA, exF] = 0 ∧ mkN ex1 (hold ex1 [exA, exF]) (lst [exA, exF]) false = ex2 := ⟨by decide +kernel, by kernel_rfl⟩
theorem ex_3 : rwE ex2 [exA, exF] (wrE (fi (tgt ex2 [exA, exF])) 0 [104, 105]) = 0 ∧ filN ex2 (tgt ex2 [exA, exF]) (wrF (fi (tgt ex2 [exA, exF])) 0 [104, 105]) = ex3 := ⟨by decide +kernel, by kernel_rfl⟩
theorem ex_4 : frE ex3 [exA, exF] 0 9 = 0 ∧ frO ex3 [exA, exF] 0 9 = [104, 105] := by decide +kernel
theorem ex_5 : filE ex3.1 [exA] = 104 ∧ rmE ex3 [exA] = 105 := by decide +kernel
theorem ex_ok1 : Ok ex1 := by rw [← ex_1.2]; exact mk_ok ok_new (by decide) ex_1.1 true
theorem ex_ok2 : Ok ex2 := by rw [← ex_2.2]; exact mk_ok ex_ok1 (by decide) ex_2.1 false
theorem ex_ok3 : Ok ex3 := by rw [← ex_3.2]; exact write_ok ex_ok2 ex_3.1
end Go.Proofs.YtkcnephbaffmbaaGreatDoor
