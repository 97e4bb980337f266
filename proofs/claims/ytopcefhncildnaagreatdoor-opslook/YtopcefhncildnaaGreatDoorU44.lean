/-
  fs.Truncate: what it answers.
  fs.New, fs.clearWay, fs.isBelow.
  What moves keeps all that lies below it.
  What is taken away bars no way to anything else.
  Renaming, as plain mathematics: the list behind each step, and what lies below what moves.
  Renaming: what each step finds.
  fs.rename.
  fs.Rename: what it answers.
  What each op tells, in one word for all its answers: its error's number and the state.
  What fs.look answers at an op that is known.
  fs.Stat: what it answers.
  fs.Read: what it answers.
-/
import Derived.Test.YtopcefhncildnaaGreatDoorU43
set_option maxRecDepth 100000
set_option maxHeartbeats 16000000
namespace Go.Proofs.YtopcefhncildnaaGreatDoor
open Go.RowKit
open F (Fl flN bksN)
open P (ArgT serr sval)
theorem changed_at {s : St} {ps : List ByteArray} {K : Int} {s' : St} {w W3 : World} (hb : Below w.heap.size w W3) (R : Nat) (hR : w.heap.size ≤ R) (hs : R < W3.heap.size) {e : Ending} {w' : World} (h : Changed s ps K s' W3 e w') :
   ∃ a3 n3 c3 x3 k3, e = .returned (.tuple #[.agg #[.slice a3 n3 c3, .int .i64 x3], .int .i64 k3]) ∧ Below W3.heap.size W3 w' ∧ Changed s ps K s' w (.returned (.tuple #[.agg #[.slice a3 n3 c3, .int .i64 x3], .int .i64 k3])) ((w'.setCell ⟨R, 0, none⟩ (.slice a3 n3 c3)).setCell ⟨R, 1, none⟩ (.int .i64 x3)) := by
 obtain ⟨⟨k, rfl, hk⟩ | ⟨v, rfl, h1, h2, h3, h4⟩, hbw⟩ := h
 · exact ⟨none, 0, 0, 0, k, rfl, hbw, .inl ⟨k, rfl, hk⟩, below_set2 (below_any hb hbw) hR _ _⟩
 · obtain ⟨a, c, hv, -, -⟩ := Shape.list_len (S := ndN) (ht := Tryz.underlying27) (hc := cells27) h4
   obtain rfl : v = _ := by simpa using hv
   exact ⟨a, _, c, s'.2, 0, rfl, hbw, .inr ⟨_, rfl, h1, h2, h3, ndsN.weaken (n := W3.heap.size) (ndsN.keep h4 (.set2 hs)) (by omega)⟩, below_set2 (below_any hb hbw) hR _ _⟩
theorem Truncate_any (n0 : Nat) (a : Option Addr) (c : Nat) (s : St) (p : ByteArray) (hp : p.size ≤ maxLen) (sz : Int) (ho : I64 sz) (w : World) (hA : ndsN.lies n0 w [.slice a s.1.length c] s.1) (hg : Glob w) :
   Calls Tryz.prog 187 #[.agg #[.slice a s.1.length c, .int .i64 s.2], .string p, .int .i64 sz] w (Changed s [p] (rwE s (sval p) (F.trE (fi (tgt s (sval p))) sz)) (filN s (tgt s (sval p)) (F.trF (fi (tgt s (sval p))) sz)) w) := by
 obtain ⟨W1, hW1⟩ := exa (w.alloc (.cells #[.slice a s.1.length c, .int .i64 s.2] 29))
 obtain ⟨V1, hV1⟩ := exa (W1.alloc (.cells #[.int .i64 sz] 3))
 obtain ⟨W2, hW2⟩ := exa (V1.alloc (.cells #[.slice none 0 0, .int .i64 0] 29))
 obtain ⟨W3, hW3⟩ := exa (W2.alloc (.cells #[.string p] 9))
 have hb1 : Below w.heap.size w W1 := by rw [hW1]; exact (Below.refl _ w).alloc (Nat.le_refl _) _
 have hbv : Below w.heap.size w V1 := by rw [hV1]; exact hb1.alloc hb1.size _
 have hb2 : Below w.heap.size w W2 := by rw [hW2]; exact hbv.alloc hbv.size _
 have hb3 : Below w.heap.size w W3 := by rw [hW3]; exact hb2.alloc hb2.size _
 have hs1 : W1.heap.size = w.heap.size + 1 := by rw [hW1]; exact Array.size_push _
 have hsv : V1.heap.size = w.heap.size + 1 + 1 := by rw [hV1, ← hs1]; exact Array.size_push _
 have hs2 : W2.heap.size = w.heap.size + 1 + 1 + 1 := by rw [hW2, ← hsv]; exact Array.size_push _
 have hs3 : W3.heap.size = w.heap.size + 1 + 1 + 1 + 1 := by rw [hW3, ← hs2]; exact Array.size_push _
 have hBS : Box W2 w.heap.size 29 #[.slice a s.1.length c, .int .i64 s.2] := by
   have : Box W1 w.heap.size 29 #[.slice a s.1.length c, .int .i64 s.2] := by rw [hW1]; exact Box.new _ _ _
   rw [hW2, hV1]; exact (this.alloc _).alloc _
 have hBQ : Box W3 (w.heap.size + 1) 3 #[.int .i64 sz] := by rw [hW3, hW2, hV1, ← hs1]; exact ((Box.new _ _ _).alloc _).alloc _
 have hBR : Box W3 (w.heap.size + 1 + 1) 29 #[.slice none 0 0, .int .i64 0] := by rw [hW3, hW2, ← hsv]; exact (Box.new _ _ _).alloc _
 have hBT : Box W3 W2.heap.size 9 #[.string p] := by rw [hW3]; exact Box.new _ _ _
 have hX : ArgT w.heap.size W3 (.slice (some ⟨W2.heap.size, 0, none⟩) 1 1) [p] := argT_box (ps := [p]) hBT hb2.size (by simp [maxLen]) fun q hq => by rw [List.mem_singleton.1 hq]; exact hp
 have HC := change1_any 251 Tryz.call251 (.pointer (some ⟨w.heap.size + 1, 0, none⟩)) n0 w.heap.size a c s (some ⟨W2.heap.size, 0, none⟩) 1 [p] (by simp) W3 (ndsN.below hA hb3) hX (hg.below hb3 hg.lt) (rwE s (sval p) (F.trE (fi (tgt s (sval p))) sz)) (filN s (tgt s (sval p)) (F.trF (fi (tgt s (sval p))) sz))
   (fun hok _ V v2 B S hbV hB hBS hL hM => truncateDo_any (w.heap.size + 1) sz B S s hok p v2 V hM hBS hL ho (fun U hU => (hBQ.below hbV hBQ.lt).kept (hU.block _ (by have := hs3; omega))))
 rw [hs2] at HC
 have HCH : Hid (∀ e w', Changed s [p] (rwE s (sval p) (F.trE (fi (tgt s (sval p))) sz)) (filN s (tgt s (sval p)) (F.trF (fi (tgt s (sval p))) sz)) W3 e w' → ∃ a3 n3 c3 x3 k3, e = .returned (.tuple #[.agg #[.slice a3 n3 c3, .int .i64 x3], .int .i64 k3]) ∧ Below W3.heap.size W3 w' ∧ Changed s [p] (rwE s (sval p) (F.trE (fi (tgt s (sval p))) sz)) (filN s (tgt s (sval p)) (F.trF (fi (tgt s (sval p))) sz)) w (.returned (.tuple #[.agg #[.slice a3 n3 c3, .int .i64 x3], .int .i64 k3])) ((w'.setCell ⟨w.heap.size + 1 + 1, 0, none⟩ (.slice a3 n3 c3)).setCell ⟨w.heap.size + 1 + 1, 1, none⟩ (.int .i64 x3))) := fun e w' h => changed_at hb3 (w.heap.size + 1 + 1) (by omega) (by omega) h
 generalize rwE s (sval p) (F.trE (fi (tgt s (sval p))) sz) = K at HC HCH ⊢
 generalize filN s (tgt s (sval p)) (F.trF (fi (tgt s (sval p))) sz) = s' at HC HCH ⊢
 obtain ⟨post, hpost⟩ : ∃ post : Ending → World → Prop, post = Changed s [p] K s' w := ⟨_, rfl⟩
 rw [← hpost] at HCH ⊢
 obtain ⟨pre, hpre⟩ : ∃ post : Ending → World → Prop, post = Changed s [p] K s' W3 := ⟨_, rfl⟩
 rw [← hpre] at HCH HC
 have HB : Hid (Box W3 (w.heap.size + 1 + 1) 29 #[.slice none 0 0, .int .i64 0]) := hBR
 obtain ⟨g0, g1, -, -⟩ := hBS.two
 rw [hW2, hV1, hW1] at g0 g1
 obtain ⟨n, hn⟩ := exa (s.1.length)
 obtain ⟨nx, hnx⟩ := exa (s.2)
 rw [← hn] at HC hW1 g0 g1 ⊢
 rw [← hnx] at HC hW1 g0 g1 ⊢
 clear hA hg hp hb1 hbv hb2 hb3 hBR hBS hBT hBQ hX hn hnx hpost hpre hs1 hsv hs2 hs3 ho
 go_enter Tryz.func187, Tryz.ntmps187
 go_wp2_with fail
 rw [← hW1, ← hV1, ← hW2, ← hW3]
 clear hW1 hV1 hW2 hW3 g0 g1
 refine HC.mono ?_
 intro e4 w4 h4
 obtain ⟨a3, n3, c3, x3, k3, rfl, hb4, hP⟩ := HCH.out e4 w4 h4
 obtain ⟨d0, d1, e0, e1⟩ := (HB.out.below hb4 HB.out.lt).two
 have HP : Hid (post (.returned (.tuple #[.agg #[.slice a3 n3 c3, .int .i64 x3], .int .i64 k3])) ((w4.setCell ⟨w.heap.size + 1 + 1, 0, none⟩ (.slice a3 n3 c3)).setCell ⟨w.heap.size + 1 + 1, 1, none⟩ (.int .i64 x3))) := hP
 clear h4 hP hb4 HC HCH
 go_wp2
 refine bodyPost_ret (v := .tuple #[.agg #[.slice a3 n3 c3, .int .i64 x3], .int .i64 k3]) (by simp [results, Tryz.results187, go_sem, *]) rfl HP.out
end Go.Proofs.YtopcefhncildnaaGreatDoor
namespace Go.Proofs.YtopcefhncildnaaGreatDoor
open Go.RowKit
open P (ArgT)
def rootN : Nd := (1, true, 0, [], (0, []))
theorem New_any (w : World) : Calls Tryz.prog 38 #[] w fun e w' => (∃ v, e = .returned (.agg #[v, .int .i64 2]) ∧ ndsN.owns w.heap.size w' [v] [rootN]) ∧ Below w.heap.size w w' := by
 obtain ⟨W1, hW1⟩ := exa (w.alloc (.cells #[.slice (some ⟨w.heap.size + 1, 0, none⟩) 1 1, .int .i64 2] 29))
 obtain ⟨W2, hW2⟩ := exa (W1.alloc (.cells #[.int .i64 1, .bool true, .int .i64 0, .slice none 0 0, .int .i64 0, .slice none 0 0] 47))
 have hb1 : Below w.heap.size w W1 := by rw [hW1]; exact (Below.refl _ w).alloc (Nat.le_refl _) _
 have hb2 : Below w.heap.size w W2 := by rw [hW2]; exact hb1.alloc hb1.size _
 have hs1 : W1.heap.size = w.heap.size + 1 := by rw [hW1]; exact Array.size_push _
 have hBR : Box W2 w.heap.size 29 #[.slice (some ⟨w.heap.size + 1, 0, none⟩) 1 1, .int .i64 2] := by
   have : Box W1 w.heap.size 29 #[.slice (some ⟨w.heap.size + 1, 0, none⟩) 1 1, .int .i64 2] := by rw [hW1]; exact Box.new _ _ _
   rw [hW2]; exact this.alloc _
 have hO : ndsN.owns (w.heap.size + 1) W2 [.slice (some ⟨w.heap.size + 1, 0, none⟩) 1 1] [rootN] := by (
 refine ⟨_, [nv rootN (.slice none 0 0) (.slice none 0 0)], rfl, ?_, nd_omk (p := rootN) ⟨D.OwnE.nil _ _ _, Shape.list_nil F.bkN 43 Tryz.underlying43 F.cells43 _ _, (show I64 1 from ⟨by omega, by omega⟩), (show I64 0 from ⟨by omega, by omega⟩), (show I64 0 from ⟨by omega, by omega⟩)⟩, trivial⟩
 have := World.ownsRow_lit (base := w.heap.size + 1) (e := 47) (size := 6) W1 #[.int .i64 1, .bool true, .int .i64 0, .slice none 0 0, .int .i64 0, .slice none 0 0] 1 (by omega) (by simp [maxLen]) rfl
 rw [hs1, ← hW2] at this
 exact this)
 have HF : Hid (Box W2 w.heap.size 29 #[.slice (some ⟨w.heap.size + 1, 0, none⟩) 1 1, .int .i64 2] ∧ ndsN.owns (w.heap.size + 1) W2 [.slice (some ⟨w.heap.size + 1, 0, none⟩) 1 1] [rootN] ∧ Below w.heap.size w W2) := ⟨hBR, hO, hb2⟩
 obtain ⟨d0, d1, -, -⟩ := hBR.two
 clear hb1 hb2 hs1 hBR hO
 go_enter Tryz.func38, Tryz.ntmps38
 go_wp2
 rw [← hW1, ← hW2]
 clear hW1 hW2
 refine bodyPost_ret (v := .agg #[.slice (some ⟨w.heap.size + 1, 0, none⟩) 1 1, .int .i64 2]) (by simp [results, Tryz.results38, go_sem, *]) rfl ⟨⟨_, rfl, ?_⟩, HF.out.2.2⟩
 exact ndsN.oweaken (n := w.heap.size + 1) HF.out.2.1 (by omega)
theorem clearWay_any (n S : Nat) (s : St) (hOk : Ok s) (d : Bool) (av : Option Addr) (cv : Nat) (xs : List ByteArray) (w : World) (hM : MS n w S s) (hnS : n ≤ S) (hX : Stay n w (.slice av xs.length cv) xs) :
   Calls Tryz.prog 299 #[.pointer (some ⟨S, 0, none⟩), .bool d, .slice av xs.length cv] w fun e w' => (∃ E, e = .returned E ∧ EV (if d = true then rmE s xs else filE s.1 xs) E) ∧ Below n w w' ∧ ((if d = true then rmE s xs else filE s.1 xs) = 0 → MS n w' S (dropN s (hold s xs) (lst xs) (tgt s xs))) := by
 cases d
 · have HC := unlink_any n S s hOk av cv xs w hM hnS hX
   simp only [Bool.false_eq_true, if_false]
   obtain ⟨post, hpost⟩ : ∃ post : Ending → World → Prop, post = fun e w' => (∃ E, e = .returned E ∧ EV (filE s.1 xs) E) ∧ Below n w w' ∧ (filE s.1 xs = 0 → MS n w' S (dropN s (hold s xs) (lst xs) (tgt s xs))) := ⟨_, rfl⟩
   rw [← hpost] at HC ⊢
   have HPo : Hid (∀ e w', post e w' → ∃ E, e = .returned E ∧ post (.returned E) w') := fun e w' h => by (
 rw [hpost] at h ⊢
 obtain ⟨⟨E, rfl, h1⟩, h2⟩ := h
 exact ⟨E, rfl, ⟨E, rfl, h1⟩, h2⟩)
   obtain ⟨m, hm⟩ := exa (xs.length)
   rw [← hm] at HC ⊢
   clear hX hM hpost hm
   go_enter Tryz.func299, Tryz.ntmps299
   go_wp2_with fail
   refine HC.mono ?_
   intro e1 w1 h1
   obtain ⟨E, rfl, h2⟩ := HPo.out e1 w1 h1
   have H2 : Hid (post (.returned E) w1) := h2
   clear h1 h2 HC
   go_wp2
   exact H2.out
 · have HC := rmdir_any n S s hOk av cv xs w hM hnS hX
   simp only [if_true]
   obtain ⟨post, hpost⟩ : ∃ post : Ending → World → Prop, post = fun e w' => (∃ E, e = .returned E ∧ EV (rmE s xs) E) ∧ Below n w w' ∧ (rmE s xs = 0 → MS n w' S (dropN s (hold s xs) (lst xs) (tgt s xs))) := ⟨_, rfl⟩
   rw [← hpost] at HC ⊢
   have HPo : Hid (∀ e w', post e w' → ∃ E, e = .returned E ∧ post (.returned E) w') := fun e w' h => by (
 rw [hpost] at h ⊢
 obtain ⟨⟨E, rfl, h1⟩, h2⟩ := h
 exact ⟨E, rfl, ⟨E, rfl, h1⟩, h2⟩)
   obtain ⟨m, hm⟩ := exa (xs.length)
   rw [← hm] at HC ⊢
   clear hX hM hpost hm
   go_enter Tryz.func299, Tryz.ntmps299
   go_wp2_with fail
   refine HC.mono ?_
   intro e1 w1 h1
   obtain ⟨E, rfl, h2⟩ := HPo.out e1 w1 h1
   have H2 : Hid (post (.returned E) w1) := h2
   clear h1 h2 HC
   go_wp2
   exact H2.out
def isB (xs ys : List ByteArray) : Bool := decide (xs.length < ys.length) && decide (xs = ys.take xs.length)
theorem isBelow_any (n1 n2 : Nat) (av bv : Option Addr) (cv dv : Nat) (xs ys : List ByteArray) (w : World) (hX : ArgT n1 w (.slice av xs.length cv) xs) (hY : ArgT n2 w (.slice bv ys.length dv) ys) :
   Calls Tryz.prog 298 #[.slice av xs.length cv, .slice bv ys.length dv] w fun e w' => e = .returned (.bool (isB xs ys)) ∧ Below w.heap.size w w' := by
 have hl1 := run_len Tryz.underlying57 av xs.length cv
 have hl2 := run_len Tryz.underlying57 bv ys.length dv
 by_cases hlt : xs.length < ys.length
 · obtain ⟨a, n, c, hn, hA, hsl⟩ := argT_ahead hY xs.length (by omega)
   have HC := (P.equal_any n1 n2 _ _ xs (ys.take xs.length) w hX hA).mono (R' := fun e w' => e = .returned (.bool (isB xs ys)) ∧ Below w.heap.size w w') fun e w' h => by (
 obtain ⟨rfl, q, rfl⟩ := h
 exact ⟨by unfold isB; simp [hlt], below_drewN (Below.refl _ _) q⟩)
   subst hn
   obtain ⟨m, hm⟩ := exa (xs.length)
   obtain ⟨m2, hm2⟩ := exa (ys.length)
   rw [← hm] at HC hl1 hlt hsl ⊢
   rw [← hm2] at hl2 hlt hsl ⊢
   have hli : (m : Int) < (m2 : Int) := by omega
   generalize isB xs ys = r at HC ⊢
   clear hX hY hA hm hm2 hlt
   go_enter Tryz.func298, Tryz.ntmps298
   go_wp2_with fail
   refine HC.mono ?_
   rintro e1 w1 ⟨rfl, hb⟩
   have HB : Hid (Below w.heap.size w w1) := hb
   clear hb HC
   go_wp2
   go_ret
   exact ⟨rfl, HB.out⟩
 · have hr : isB xs ys = false := by unfold isB; simp; omega
   rw [hr]
   obtain ⟨m, hm⟩ := exa (xs.length)
   obtain ⟨m2, hm2⟩ := exa (ys.length)
   rw [← hm] at hl1 hlt ⊢
   rw [← hm2] at hl2 hlt ⊢
   have hli : ¬ (m : Int) < (m2 : Int) := by omega
   clear hX hY hm hm2 hlt hr
   go_enter Tryz.func298, Tryz.ntmps298
   go_wp2
   go_ret
   exact ⟨rfl, Below.refl _ _⟩
end Go.Proofs.YtopcefhncildnaaGreatDoor
namespace Go.Proofs.YtopcefhncildnaaGreatDoor
open D (En ins del there)
theorem sub_same {l l' : List Nd} : ∀ (k : Nat) {i : Int}, (∀ n j, Way l n i j → kid l' j = kid l j) → dpt l' k i = dpt l k i ∧ (Bd l k i → Bd l' k i)
 | 0, i, h => ⟨rfl, fun hb => by rw [Bd, h 0 i rfl]; exact hb⟩
 | k + 1, i, h => by (
 have h0 := h 0 i rfl
 have hs : ∀ e ∈ kid l i, ∀ n j, Way l n e.2 j → kid l' j = kid l j := fun e he n j hw => h (n + 1) j ⟨e, he, hw⟩
 refine ⟨?_, fun hb => ?_⟩
 · rw [dpt, dpt, h0]
   exact foldmax_congr fun e he => by rw [(sub_same k (hs e he)).1]
 · rw [Bd, h0]
   exact fun e he => (sub_same k (hs e he)).2 (hb e he))
theorem kid_ch {l : List Nd} (hU : Ups l) {p : Nd} (hp : p ∈ l) (es : List En) (j : Int) : kid (ch l p.1 (wE es)) j = if j = p.1 then es else kid l j := by
 have hU' := ups_ch (i := p.1) (f := wE es) (fun _ => rfl) hU
 by_cases hj : j = p.1
 · rw [if_pos hj, hj]
   exact kid_of hU' (n := wE es p) ((mem_ch' hU hp).2 (.inr rfl))
 · rw [if_neg hj]
   cases hf : fd l j with
   | some n => (
 obtain ⟨h1, h2⟩ := fd_mem hf
 have h3 : n ∈ ch l p.1 (wE es) := (mem_ch' hU hp).2 (.inl ⟨h1, by rw [h2]; exact hj⟩)
 have h4 := kid_of hU' h3
 have h5 := kid_of hU h1
 rw [h2] at h4 h5
 rw [h4, h5])
   | none => (
 cases hf' : fd (ch l p.1 (wE es)) j with
 | none => unfold kid; rw [hf, hf']
 | some m => (
 obtain ⟨h1, h2⟩ := fd_mem hf'
 rcases (mem_ch' hU hp).1 h1 with ⟨h3, _⟩ | h3
 · have := fd_of hU h3
   rw [h2, hf] at this
   cases this
 · rw [h3] at h2
   exact absurd h2.symm hj))
theorem not_below {s : St} (h : Ok s) {xs ys : List ByteArray} (hne : ys ≠ []) (hx : (wlk s.1 1 xs).2 = 0) (hy : (wlk s.1 1 (ahd ys)).2 = 0) (hd : isD (hold s ys) = true) (hB : isB xs ys = false) : ∀ j, ¬ Way s.1 j (tgt s xs).1 (hold s ys).1 := fun j hw => by
 obtain ⟨x1, x2, x3⟩ := h.wk.lead hx
 obtain ⟨n, hn, e1, e2, e3⟩ := wlk_in h.wk hy
 have hh : hold s ys = n := e2
 rw [hh] at hw hd
 obtain ⟨zs, -, hz⟩ := way_wlk h.wk hw
 have h1 : Wlk s.1 1 (xs ++ zs) n.1 := wlk_append.2 ⟨_, x3, hz⟩
 have h2 := h.path hn hd h1 e3
 have h3 : xs = ys.take xs.length := by
   have : ys.take xs.length = (ahd ys ++ [lst ys]).take xs.length := by rw [← ahd_lst hne]
   rw [this, ← h2, List.append_assoc, List.take_left]
 have h4 : xs.length < ys.length := by (
 have : ys.length = (ahd ys).length + 1 := by conv => lhs; rw [ahd_lst hne]; simp
 rw [this, ← h2, List.length_append]
 omega)
 unfold isB at hB
 simp [h4, ← h3] at hB
theorem not_round {s : St} (h : Ok s) {xs : List ByteArray} (hne : xs ≠ []) (hx : (wlk s.1 1 xs).2 = 0) : ∀ j, ¬ Way s.1 j (tgt s xs).1 (hold s xs).1 := fun j hw => by
 obtain ⟨x1, x2, x3⟩ := h.wk.lead hx
 obtain ⟨q1, q2, q3, q4, q5⟩ := h.wk.stands hne hx
 have w1 := wlk_way h.wk.up x3
 have w2 : Way s.1 (j + 1) (tgt s xs).1 (tgt s xs).1 := way_snoc.2 ⟨_, hw, _, by rw [kid_of h.wk.up q1]; exact q4, rfl⟩
 obtain ⟨zs, hz, hzs⟩ := way_wlk h.wk w2
 have h1 : Wlk s.1 1 (xs ++ zs) (tgt s xs).1 := wlk_append.2 ⟨_, x3, hzs⟩
 by_cases hd : isD (tgt s xs) = true
 · have h2 := h.path x1 hd h1 x3
   have h3 := congrArg List.length h2
   rw [List.length_append, hz] at h3
   omega
 · obtain ⟨e, he, _⟩ : ∃ e ∈ kid s.1 (tgt s xs).1, Way s.1 j e.2 (tgt s xs).1 := w2
   rw [kid_of h.wk.up x1] at he
   exact hd (h.wk.dir x1 he)
end Go.Proofs.YtopcefhncildnaaGreatDoor
namespace Go.Proofs.YtopcefhncildnaaGreatDoor
open D (En ins del there Chk)
theorem mem_dropped {s : St} (hW : Wk s) {q z n : Nd} (hq : q ∈ s.1) (hn : n ∈ s.1) (hz : n.1 ≠ z.1) (y : ByteArray) : (if n.1 = q.1 then wE (del (en q) y) q else n) ∈ (dropN s q y z).1 := by
 have h1 : (if n.1 = q.1 then wE (del (en q) y) q else n) ∈ ch s.1 q.1 (wE (del (en q) y)) := by (
 by_cases h : n.1 = q.1
 · rw [if_pos h]; exact (mem_ch' hW.up hq).2 (.inr rfl)
 · rw [if_neg h]; exact (mem_ch' hW.up hq).2 (.inl ⟨hn, h⟩))
 have h2 : (if n.1 = q.1 then wE (del (en q) y) q else n).1 ≠ z.1 := by (
 by_cases h : n.1 = q.1
 · rw [if_pos h]; show q.1 ≠ z.1; rw [← h]; exact hz
 · rw [if_neg h]; exact hz)
 show _ ∈ (if lk z = 1 then rm (ch s.1 q.1 (wE (del (en q) y))) z.1 else ch (ch s.1 q.1 (wE (del (en q) y))) z.1 (wL (lk z - 1)))
 split
 · exact mem_rm.2 ⟨h1, h2⟩
 · exact mem_ch.2 (.inl ⟨h1, h2⟩)
theorem wlk_dropped {s : St} (hW : Wk s) {q z : Nd} (hq : q ∈ s.1) (hz : z ∈ s.1) {y : ByteArray} (hy : (y, z.1) ∈ en q) (he : en z = []) : ∀ {xs : List ByteArray} {i c : Int}, Wlk s.1 i xs c → c ≠ z.1 → Wlk (dropN s q y z).1 i xs c
 | [], _, _, h, _ => h
 | x :: r, i, c, ⟨n, hn, hi, hd, d, hxd, hr⟩, hc => by (
 have hnz : n.1 ≠ z.1 := fun e => by
   rw [ups_eq hW.up hn hz e, he] at hxd
   cases hxd
 have hm := mem_dropped hW hq hn hnz y
 have ih := wlk_dropped hW hq hz hy he hr hc
 by_cases hnq : n.1 = q.1
 · obtain rfl := ups_eq hW.up hn hq hnq
   rw [if_pos rfl] at hm
   have hck := (hW.dirs n hn hd).1
   have hxy : x ≠ y := fun e => by (
 subst e
 have hdz : d = z.1 := by (
 have h1 := D.fnd_mem hck hxd
 have h2 := D.fnd_mem hck hy
 rw [← h1, ← h2])
 subst hdz
 cases r with
 | nil => exact hc (show z.1 = c from hr).symm
 | cons x' r' => (
 obtain ⟨m, hm', hmz, _, d', hd', _⟩ := hr
 rw [ups_eq hW.up hm' hz hmz, he] at hd'
 cases hd'))
   have hin : (x, d) ∈ del (en n) y := by (
 have := ((D.del_perm hck hy).mem_iff (a := (x, d))).1 hxd
 rcases List.mem_cons.1 this with h | h
 · exact absurd (Prod.ext_iff.1 h).1 hxy
 · exact h)
   exact ⟨_, hm, hi, hd, d, hin, ih⟩
 · rw [if_neg hnq] at hm
   exact ⟨n, hm, hi, hd, d, hxd, ih⟩)
theorem ren_walk {s : St} (h : Ok s) {xs : List ByteArray} (hx : (wlk s.1 1 xs).2 = 0) {q z : Nd} (hq : q ∈ s.1) (hz : z ∈ s.1) {y : ByteArray} (hy : (y, z.1) ∈ en q) (he : en z = []) (hne : (tgt s xs).1 ≠ z.1) :
   Ok (dropN s q y z) ∧ wlk (dropN s q y z).1 1 xs = ((tgt s xs).1, 0) := by
 have hO := ok_drop h hq hz hy he
 refine ⟨hO, ?_⟩
 have h1 := wlk_dropped h.wk hq hz hy he (h.wk.lead hx).2.2 hne
 have h2 := (wlk_root hO.wk).2 h1
 exact Prod.ext h2.2 h2.1
end Go.Proofs.YtopcefhncildnaaGreatDoor
namespace Go.Proofs.YtopcefhncildnaaGreatDoor
open D (En ins del there Chk aerr)
theorem kid_map {l : List Nd} (hU : Ups l) {i : Int} {f : Nd → Nd} (h1 : ∀ n, (f n).1 = n.1) (h2 : ∀ n, en (f n) = en n) (j : Int) : kid (ch l i f) j = kid l j := by
 have hU' := ups_ch (i := i) (f := f) h1 hU
 cases hf : fd l j with
 | some n => (
 obtain ⟨hn, hj⟩ := fd_mem hf
 have h5 := kid_of hU hn
 by_cases hni : n.1 = i
 · have h3 : f n ∈ ch l i f := mem_ch.2 (.inr ⟨n, hn, hni, rfl⟩)
   have h4 := kid_of hU' h3
   rw [h1, h2, hj] at h4
   rw [hj] at h5
   rw [h4, h5]
 · have h3 : n ∈ ch l i f := mem_ch.2 (.inl ⟨hn, hni⟩)
   have h4 := kid_of hU' h3
   rw [hj] at h4 h5
   rw [h4, h5])
 | none => (
 cases hf' : fd (ch l i f) j with
 | none => unfold kid; rw [hf, hf']
 | some m => (
 obtain ⟨hm, hj⟩ := fd_mem hf'
 rcases mem_ch.1 hm with ⟨h3, _⟩ | ⟨m', h3, _, h4⟩
 · have := fd_of hU h3
   rw [hj, hf] at this
   cases this
 · have := fd_of hU h3
   rw [← h1 m', ← h4, hj, hf] at this
   cases this))
theorem kid_rm {l : List Nd} (hU : Ups l) (i j : Int) : kid (rm l i) j = if j = i then [] else kid l j := by
 have hU' : Ups (rm l i) := ups_rm hU
 by_cases hj : j = i
 · rw [if_pos hj]
   cases hf : fd (rm l i) j with
   | none => unfold kid; rw [hf]
   | some m => (
 obtain ⟨hm, he⟩ := fd_mem hf
 exact absurd (he.trans hj) (mem_rm.1 hm).2)
 · rw [if_neg hj]
   cases hf : fd l j with
   | some n => (
 obtain ⟨hn, he⟩ := fd_mem hf
 have h3 : n ∈ rm l i := mem_rm.2 ⟨hn, by rw [he]; exact hj⟩
 have h4 := kid_of hU' h3
 have h5 := kid_of hU hn
 rw [he] at h4 h5
 rw [h4, h5])
   | none => (
 cases hf' : fd (rm l i) j with
 | none => unfold kid; rw [hf, hf']
 | some m => (
 obtain ⟨hm, he⟩ := fd_mem hf'
 have := fd_of hU (mem_rm.1 hm).1
 rw [he, hf] at this
 cases this))
theorem kid_dropped {s : St} (hW : Wk s) {q z : Nd} (hq : q ∈ s.1) (hz : z ∈ s.1) {y : ByteArray} (hy : (y, z.1) ∈ en q) (he : en z = []) (j : Int) : kid (dropN s q y z).1 j = if j = q.1 then del (en q) y else kid s.1 j := by
 have hU1 := ups_ch (i := q.1) (f := wE (del (en q) y)) (fun _ => rfl) hW.up
 have hzq : z.1 ≠ q.1 := fun e => by
   rw [← ups_eq hW.up hz hq e, he] at hy
   cases hy
 show kid (if lk z = 1 then rm (ch s.1 q.1 (wE (del (en q) y))) z.1 else ch (ch s.1 q.1 (wE (del (en q) y))) z.1 (wL (lk z - 1))) j = _
 split
 · rw [kid_rm hU1, kid_ch hW.up hq]
   by_cases hj : j = z.1
   · rw [if_pos hj, if_neg (by rw [hj]; exact hzq), hj, kid_of hW.up hz, he]
   · rw [if_neg hj]
 · rw [kid_map (f := wL (lk z - 1)) hU1 (fun _ => rfl) (fun _ => rfl), kid_ch hW.up hq]
theorem ren_hold {s : St} (h : Ok s) {xs : List ByteArray} (hne : xs ≠ []) (hx : (wlk s.1 1 xs).2 = 0) {q z : Nd} (hq : q ∈ s.1) (hz : z ∈ s.1) {y : ByteArray} (hy : (y, z.1) ∈ en q) (he : en z = []) (hnz : (tgt s xs).1 ≠ z.1) : (hold (dropN s q y z) xs).1 = (hold s xs).1 := by
 obtain ⟨hO, hw⟩ := ren_walk h hx hq hz hy he hnz
 obtain ⟨a1, a2, a3, a4, a5⟩ := h.wk.stands hne hx
 obtain ⟨b1, b2, b3, b4, b5⟩ := hO.wk.stands hne (by rw [hw])
 have hz2 : (hold s xs).1 ≠ z.1 := fun e => by
   rw [ups_eq h.wk.up a1 hz e, he] at a4
   cases a4
 have h1 : Wlk s.1 1 (ahd xs) (hold s xs).1 := (wlk_root h.wk).1 ⟨by rw [a2], by rw [a2]⟩
 have h2 := (wlk_root hO.wk).2 (wlk_dropped h.wk hq hz hy he h1 hz2)
 rw [b2] at h2
 exact h2.2
theorem ok_bd {s : St} (h : Ok s) {n : Nd} (hn : n ∈ s.1) : Bd s.1 8 n.1 := by
 obtain ⟨h1, h2⟩ := h.1.deep.1 h.2
 obtain ⟨j, _, hj⟩ := vis_way.1 (h2 n hn)
 refine bd_way.2 fun x hw => ?_
 have hall : ∀ (a b : Nat) (i k x : Int), Way s.1 a i k → Way s.1 b k x → Way s.1 (a + b) i x := by (
 intro a
 induction a with
 | zero => intro b i k x ha hb; rw [Nat.zero_add]; have e : i = k := ha; rw [e]; exact hb
 | succ a ih => (
 intro b i k x ha hb
 obtain ⟨e, he, ha⟩ := ha
 rw [show a + 1 + b = (a + b) + 1 by omega]
 exact ⟨e, he, ih b _ _ _ ha hb⟩))
 have := way_cut h1 (hall _ _ _ _ _ hj hw)
 omega
def cwE (s : St) (xs ys : List ByteArray) : Int := if isD (tgt s xs) = true then rmE s ys else filE s.1 ys
def ren1 (s : St) (ys : List ByteArray) : St := if stdT s.1 ys = 0 then s else dropN s (hold s ys) (lst ys) (tgt s ys)
def ren2 (s : St) (xs ys : List ByteArray) : List Nd := ch (ren1 s ys).1 (hold (ren1 s ys) xs).1 (wE (del (en (hold (ren1 s ys) xs)) (lst xs)))
def ren3 (s : St) (xs ys : List ByteArray) : List Nd := ch (ren2 s xs ys) (stdI s.1 ys) (wE (ins (en (gt (ren2 s xs ys) (stdI s.1 ys))) (lst ys, (tgt s xs).1)))
def renE (s : St) (xs ys : List ByteArray) : Int :=
 if xs = [] ∨ ys = [] then 108 else if (wlk s.1 1 xs).2 ≠ 0 then (wlk s.1 1 xs).2 else if stdE s.1 ys ≠ 0 then stdE s.1 ys else if isD (tgt s xs) = true ∧ isB xs ys = true then 108 else
 if stdT s.1 ys = (tgt s xs).1 then 0 else if stdT s.1 ys ≠ 0 ∧ cwE s xs ys ≠ 0 then cwE s xs ys else
 if aerr (en (gt (ren2 s xs ys) (stdI s.1 ys))) (lst ys, (tgt s xs).1) ≠ 0 then aerr (en (gt (ren2 s xs ys) (stdI s.1 ys))) (lst ys, (tgt s xs).1) else
 if 8 < ys.length + dpt s.1 8 (tgt s xs).1 then 5 else 0
def renS (s : St) (xs ys : List ByteArray) : St := if stdT s.1 ys = (tgt s xs).1 then s else (ren3 s xs ys, s.2)
end Go.Proofs.YtopcefhncildnaaGreatDoor
namespace Go.Proofs.YtopcefhncildnaaGreatDoor
open D (En ins del there Chk aerr)
theorem std_zero {s : St} (hK : Wk s) {ys : List ByteArray} (hE : stdE s.1 ys = 0) : (wlk s.1 1 (ahd ys)).2 = 0 ∧ hold s ys ∈ s.1 ∧ stdI s.1 ys = (hold s ys).1 ∧ isD (hold s ys) = true ∧ stdT s.1 ys = entC (hold s ys) (lst ys) := by
 have hE0 := hE
 unfold stdE at hE
 split at hE
 case isFalse h3 => exact absurd hE h3
 rename_i h3
 split at hE
 case isFalse => omega
 rename_i h4
 obtain ⟨n, hn, e1, e2, e3⟩ := wlk_in hK h3
 have hh : hold s ys = n := e2
 refine ⟨h3, by rw [hh]; exact hn, ?_, h4, ?_⟩
 · unfold stdI; rw [if_pos hE0, hh]; exact e1.symm
 · unfold stdT; rw [if_pos hE0]; rfl
theorem rm_zero {s : St} {ys : List ByteArray} (h : rmE s ys = 0) : ys ≠ [] ∧ dirE s.1 ys = 0 ∧ (en (tgt s ys)).length = 0 := by
 unfold rmE at h
 split at h
 · omega
 rename_i h1
 split at h
 · rename_i h2; exact absurd h h2
 rename_i h2
 split at h
 · rename_i h3; exact ⟨h1, Decidable.not_not.1 h2, h3⟩
 · omega
theorem cw_zero {s : St} (hK : Wk s) {xs ys : List ByteArray} (h : cwE s xs ys = 0) : (wlk s.1 1 ys).2 = 0 ∧ en (tgt s ys) = [] := by
 unfold cwE at h
 split at h
 · obtain ⟨_, h1, h2⟩ := rm_zero h
   exact ⟨(dir_zero h1).1, List.eq_nil_of_length_eq_zero h2⟩
 · obtain ⟨h1, h2⟩ := fil_zero h
   exact ⟨h1, (hK.files _ (hK.lead h1).1 h2).1⟩
theorem ren_clear {s : St} (h : Ok s) {xs ys : List ByteArray} (hx0 : xs ≠ []) (hy0 : ys ≠ []) (hx : (wlk s.1 1 xs).2 = 0) (hs : stdE s.1 ys = 0) (hst : stdT s.1 ys ≠ (tgt s xs).1) (hcw : stdT s.1 ys ≠ 0 → cwE s xs ys = 0) :
   Ok (ren1 s ys) ∧ wlk (ren1 s ys).1 1 xs = ((tgt s xs).1, 0) ∧ (ren1 s ys).2 = s.2 ∧ (hold (ren1 s ys) xs).1 = (hold s xs).1 ∧ (∀ j, j ≠ (hold s ys).1 → kid (ren1 s ys).1 j = kid s.1 j) ∧ ∃ m ∈ (ren1 s ys).1, m.1 = stdI s.1 ys ∧ isD m = true := by
 obtain ⟨y1, y2, y3, y4, y5⟩ := std_zero h.wk hs
 unfold ren1
 split
 · rename_i h0
   exact ⟨h, Prod.ext (h.wk.lead hx).2.1 hx, rfl, rfl, fun _ _ => rfl, _, y2, y3.symm, y4⟩
 · rename_i h0
   obtain ⟨w1, w2⟩ := cw_zero h.wk (hcw h0)
   obtain ⟨z1, z2, z3⟩ := h.wk.lead w1
   obtain ⟨q1, q2, q3, q4, q5⟩ := h.wk.stands hy0 w1
   have hck := (h.wk.dirs _ q1 q3).1
   have hT : stdT s.1 ys = (tgt s ys).1 := by (
 rw [y5]
 unfold entC
 rw [if_neg (by rw [q3]; decide), if_neg (by rw [q5]; decide)]
 exact D.fnd_mem hck q4)
   have hnz : (tgt s xs).1 ≠ (tgt s ys).1 := by rw [← hT]; exact Ne.symm hst
   obtain ⟨r1, r2⟩ := ren_walk h hx q1 z1 q4 w2 hnz
   refine ⟨r1, r2, rfl, ren_hold h hx0 hx q1 z1 q4 w2 hnz, fun j hj => ?_, ?_⟩
   · rw [kid_dropped h.wk q1 z1 q4 w2, if_neg hj]
   · have hqz : (hold s ys).1 ≠ (tgt s ys).1 := fun e => by
       rw [ups_eq h.wk.up q1 z1 e, w2] at q4
       cases q4
     have := mem_dropped h.wk q1 q1 hqz (lst ys)
     rw [if_pos rfl] at this
     exact ⟨_, this, y3.symm, q3⟩
theorem ren_struck {s : St} (h : Ok s) {xs ys : List ByteArray} (hx0 : xs ≠ []) (hy0 : ys ≠ []) (hx : (wlk s.1 1 xs).2 = 0) (hs : stdE s.1 ys = 0) (hst : stdT s.1 ys ≠ (tgt s xs).1) (hcw : stdT s.1 ys ≠ 0 → cwE s xs ys = 0) :
   Wk (ren2 s xs ys, s.2) ∧ gt (ren2 s xs ys) (stdI s.1 ys) ∈ ren2 s xs ys ∧ (gt (ren2 s xs ys) (stdI s.1 ys)).1 = stdI s.1 ys ∧ isD (gt (ren2 s xs ys) (stdI s.1 ys)) = true ∧ (∃ m ∈ ren2 s xs ys, m.1 = (tgt s xs).1) ∧ ∀ j, j ≠ (hold s ys).1 → j ≠ (hold s xs).1 → kid (ren2 s xs ys) j = kid s.1 j := by
 obtain ⟨c1, c2, c3, c4, c5, m, hm, hm1, hm2⟩ := ren_clear h hx0 hy0 hx hs hst hcw
 obtain ⟨b1, b2, b3, b4, b5⟩ := c1.wk.stands hx0 (by rw [c2])
 have hW := c1.wk.dele b1 b3 (lst xs)
 rw [c3] at hW
 have hin : ∀ m ∈ (ren1 s ys).1, ∃ m' ∈ ren2 s xs ys, m'.1 = m.1 ∧ isD m' = isD m := fun m hm => by (
 by_cases hb : m.1 = (hold (ren1 s ys) xs).1
 · exact ⟨_, (mem_ch' c1.wk.up b1).2 (.inr rfl), hb.symm, by rw [ups_eq c1.wk.up hm b1 hb]; rfl⟩
 · exact ⟨m, (mem_ch' c1.wk.up b1).2 (.inl ⟨hm, hb⟩), rfl, rfl⟩)
 obtain ⟨m', h1, h2, h3⟩ := hin m hm
 have hg : gt (ren2 s xs ys) (stdI s.1 ys) = m' := by rw [← hm1, ← h2]; exact gt_of hW.up h1
 rw [hg]
 have hN := c1.wk.lead (xs := xs) (by rw [c2])
 obtain ⟨n', n1, n2, _⟩ := hin _ hN.1
 refine ⟨hW, h1, h2.trans hm1, h3.trans hm2, ⟨n', n1, ?_⟩, fun j j1 j2 => ?_⟩
 · rw [n2, ← hN.2.1, c2]
 · have := kid_ch c1.wk.up b1 (del (en (hold (ren1 s ys) xs)) (lst xs)) j
   rw [if_neg (by rw [c4]; exact j2)] at this
   exact this.trans (c5 j j1)
theorem ren_named {s : St} (h : Ok s) {xs ys : List ByteArray} (hx0 : xs ≠ []) (hy0 : ys ≠ []) (hx : (wlk s.1 1 xs).2 = 0) (hs : stdE s.1 ys = 0) (hnb : isD (tgt s xs) = true → isB xs ys = false) (hst : stdT s.1 ys ≠ (tgt s xs).1) (hcw : stdT s.1 ys ≠ 0 → cwE s xs ys = 0) (hae : aerr (en (gt (ren2 s xs ys) (stdI s.1 ys))) (lst ys, (tgt s xs).1) = 0) :
   Wk (ren3 s xs ys, s.2) ∧ (∃ m ∈ ren3 s xs ys, m.1 = (tgt s xs).1) ∧ Bd (ren3 s xs ys) 8 (tgt s xs).1 ∧ dpt (ren3 s xs ys) 8 (tgt s xs).1 = dpt s.1 8 (tgt s xs).1 := by
 obtain ⟨d1, d2, d3, d4, ⟨n', n1, n2⟩, d6⟩ := ren_struck h hx0 hy0 hx hs hst hcw
 obtain ⟨y1, y2, y3, y4, y5⟩ := std_zero h.wk hs
 unfold aerr at hae
 have hck := (d1.dirs _ d2 d4).1
 rw [if_pos hck] at hae
 split at hae
 case isFalse => omega
 rename_i a1
 split at hae
 case isFalse => omega
 rename_i a2
 split at hae
 case isTrue => omega
 rename_i a3
 split at hae
 case isTrue => omega
 rename_i a4
 have hW := d1.inse d2 d4 (e := (lst ys, (tgt s xs).1)) ⟨a1, a2⟩ (by simpa using a3) (by have := hck.1; omega) ⟨n', n1, n2⟩
 have h3 : ren3 s xs ys = ch (ren2 s xs ys) (gt (ren2 s xs ys) (stdI s.1 ys)).1 (wE (ins (en (gt (ren2 s xs ys) (stdI s.1 ys))) (lst ys, (tgt s xs).1))) := by unfold ren3; rw [d3]
 rw [h3]
 have hsub : ∀ n j, Way s.1 n (tgt s xs).1 j → kid (ch (ren2 s xs ys) (gt (ren2 s xs ys) (stdI s.1 ys)).1 (wE (ins (en (gt (ren2 s xs ys) (stdI s.1 ys))) (lst ys, (tgt s xs).1)))) j = kid s.1 j := fun n j hw => by (
 have j2 : j ≠ (hold s xs).1 := fun e => not_round h hx0 hx n (by rw [← e]; exact hw)
 have j1 : j ≠ (hold s ys).1 := fun e => by (
 rw [e] at hw
 by_cases hd : isD (tgt s xs) = true
 · exact not_below h hy0 hx y1 y4 (hnb hd) n hw
 · cases n with
   | zero => (
 have e2 : (tgt s xs).1 = (hold s ys).1 := hw
 rw [ups_eq h.wk.up (h.wk.lead hx).1 y2 e2] at hd
 exact hd y4)
   | succ n => (
 obtain ⟨e, he, _⟩ := hw
 rw [kid_of h.wk.up (h.wk.lead hx).1] at he
 exact hd (h.wk.dir (h.wk.lead hx).1 he)))
 rw [kid_ch d1.up d2, if_neg (by rw [d3, y3]; exact j1), d6 j j1 j2])
 have hss := sub_same 8 hsub
 refine ⟨hW, ?_, hss.2 (ok_bd h (h.wk.lead hx).1), hss.1⟩
 by_cases hb : n'.1 = (gt (ren2 s xs ys) (stdI s.1 ys)).1
 · exact ⟨_, (mem_ch' d1.up d2).2 (.inr rfl), hb.symm.trans n2⟩
 · exact ⟨n', (mem_ch' d1.up d2).2 (.inl ⟨n1, hb⟩), n2⟩
end Go.Proofs.YtopcefhncildnaaGreatDoor
namespace Go.Proofs.YtopcefhncildnaaGreatDoor
open Go.RowKit
open D (En ins del there Chk aerr)
open P (ArgT)
theorem hid_mk {p : Prop} (h : p) : Hid p := h
def RenOk (s : St) (xs ys : List ByteArray) : Prop := (isD (tgt s xs) = true → isB xs ys = false) ∧ stdT s.1 ys ≠ (tgt s xs).1 ∧ (stdT s.1 ys ≠ 0 → cwE s xs ys = 0)
theorem rename_any (n S : Nat) (s : St) (hOk : Ok s) (av bv : Option Addr) (cv dv : Nat) (xs ys : List ByteArray) (hok : ys ≠ [] → (lst ys).data.toList ≠ []) (hy8 : ys.length ≤ 8) (w : World) (hM : MS n w S s) (hnS : n ≤ S) (hX : Stay n w (.slice av xs.length cv) xs) (hY : Stay n w (.slice bv ys.length dv) ys) :
   Calls Tryz.prog 248 #[.pointer (some ⟨S, 0, none⟩), .slice av xs.length cv, .slice bv ys.length dv] w fun e w' => (∃ E, e = .returned E ∧ EV (renE s xs ys) E) ∧ Below n w w' ∧ (renE s xs ys = 0 → MS n w' S (renS s xs ys)) := by
 obtain ⟨v, hB, hO⟩ := hM
 obtain ⟨a, c, rfl⟩ := own_len hO
 have hnw : n ≤ w.heap.size := by have := hB.lt; omega
 have hl1 := run_len Tryz.underlying57 av xs.length cv
 have hl2 := run_len Tryz.underlying57 bv ys.length dv
 obtain ⟨post, hpost⟩ : ∃ post : Ending → World → Prop, post = fun e w' => (∃ E, e = .returned E ∧ EV (renE s xs ys) E) ∧ Below n w w' ∧ (renE s xs ys = 0 → MS n w' S (renS s xs ys)) := ⟨_, rfl⟩
 have HPo : Hid (∀ E w', EV (renE s xs ys) E → Below n w w' → (renE s xs ys = 0 → MS n w' S (renS s xs ys)) → post (.returned E) w') := fun E w' h1 h2 h3 => by rw [hpost]; exact ⟨⟨E, rfl, h1⟩, h2, h3⟩
 rw [← hpost]
 by_cases hemp : xs = [] ∨ ys = []
 · have hK : renE s xs ys = 108 := by unfold renE; rw [if_pos hemp]
   rw [hK] at HPo
   have hr := refuse_bad 108 (by decide) none 0 0 w
   have hle : xs.length = 0 ∨ ys.length = 0 := hemp.imp (fun h => by rw [h]; rfl) (fun h => by rw [h]; rfl)
   generalize xs.length = m at hl1 hle ⊢
   generalize ys.length = m2 at hl2 hle ⊢
   clear hB hO hX hY hpost hok hK hemp hy8
   by_cases hm : m = 0
   · subst hm
     go_enter Tryz.func248, Tryz.ntmps248
     go_wp2_with (go_at_call 90; refine hr.mono ?_; rintro e1 w1 ⟨rfl, rfl⟩)
     exact HPo.out _ _ (ev_ref (by decide) _ _ _ _) (Below.refl _ _) (fun h => by omega)
   · have hm2 : m2 = 0 := by omega
     subst hm2
     have e1 : (((m : Nat) : Int) == 0) = false := by simp; omega
     clear hle
     go_enter Tryz.func248, Tryz.ntmps248
     go_wp2_with (go_at_call 90; refine hr.mono ?_; rintro e1 w1 ⟨rfl, rfl⟩)
     exact HPo.out _ _ (ev_ref (by decide) _ _ _ _) (Below.refl _ _) (fun h => by omega)
 have hx0 : xs ≠ [] := fun h => hemp (.inl h)
 have hy0 : ys ≠ [] := fun h => hemp (.inr h)
 have e1 : (((xs.length : Nat) : Int) == 0) = false := by have := List.length_pos_iff.2 hx0; simp; omega
 have e2 : (((ys.length : Nat) : Int) == 0) = false := by have := List.length_pos_iff.2 hy0; simp; omega
 have HWK := walk_any n 0 a c s hOk.wk av cv xs w (ndsN.olies hO) hX.at
 have HSD : Hid (∀ W, Below w.heap.size w W → Calls Tryz.prog 174 #[.agg #[.slice a s.1.length c, .int .i64 s.2], .slice bv ys.length dv] W fun e w' => (∃ E, e = .returned (.tuple #[.int .i64 (stdI s.1 ys), .int .i64 (stdT s.1 ys), E]) ∧ EV (stdE s.1 ys) E) ∧ Below W.heap.size W w') := fun W hW => stand_any n 0 a c s hOk.wk bv dv ys hy0 (hok hy0) W (ndsN.olies (ndsN.obelow hO hW)) (hY.below (hW.mono hnw)).at
 have HRI : Hid ((wlk s.1 1 xs).2 = 0 → (wlk s.1 1 xs).1 = (tgt s xs).1) := fun h => (hOk.wk.lead h).2.1
 have HND0 : Hid ((wlk s.1 1 xs).2 = 0 → ∀ W, Below w.heap.size w W → ∃ b o, W.cell? ⟨b, o + 1, none⟩ = some (.bool (isD (tgt s xs))) ∧ Calls Tryz.prog 159 #[.agg #[.slice a s.1.length c, .int .i64 s.2], .int .i64 (tgt s xs).1] W fun e w' => e = .returned (.pointer (some ⟨b, o, none⟩)) ∧ Below W.heap.size W w') := fun h0 W hW => by (
 obtain ⟨h1, h2, _⟩ := hOk.wk.lead h0
 obtain ⟨k, hk⟩ := List.getElem?_of_mem h1
 obtain ⟨g, cap, e, f, hv, -, -, hix, hPu⟩ := nds_own_at hO k _ hk
 exact ⟨g, k * 6, (hPu W hW).1 1 _ rfl, node_any n _ s.2 s.1 hOk.wk.up k _ hk g (k * 6) W (ndsN.olies (ndsN.obelow hO hW)) (by have := hOk.wk.len; omega) hix⟩)
 have HIB : Hid (∀ W, Below n w W → Calls Tryz.prog 298 #[.slice av xs.length cv, .slice bv ys.length dv] W fun e w' => e = .returned (.bool (isB xs ys)) ∧ Below W.heap.size W w') := fun W hW => isBelow_any 0 0 av bv cv dv xs ys W (hX.below hW).at (hY.below hW).at
 have HCW0 : Hid (∀ W, Below w.heap.size w W → Calls Tryz.prog 299 #[.pointer (some ⟨S, 0, none⟩), .bool (isD (tgt s xs)), .slice bv ys.length dv] W fun e w' => (∃ E, e = .returned E ∧ EV (cwE s xs ys) E) ∧ Below n W w' ∧ (cwE s xs ys = 0 → MS n w' S (dropN s (hold s ys) (lst ys) (tgt s ys)))) := fun W hW => clearWay_any n S s hOk (isD (tgt s xs)) bv dv ys W ⟨_, hB.below hW hB.lt, ndsN.obelow hO hW⟩ hnS (hY.below (hW.mono hnw))
 have HSK0 : Hid ((wlk s.1 1 xs).2 = 0 → stdE s.1 ys = 0 → RenOk s xs ys → ∀ W v1, Below n w W → ndsN.owns n W [v1] (ren1 s ys).1 → Calls Tryz.prog 223 #[.agg #[v1, .int .i64 s.2], .slice av xs.length cv] W fun e w' => e = .returned (.tuple #[]) ∧ W.grownBy w' v1.ownBlock ∧ ndsN.owns n w' [v1] (ren2 s xs ys)) := fun h1 h2 h3 W v1 hW hOW => by (
 obtain ⟨c1, c2, c3, c4, c5, _⟩ := ren_clear hOk hx0 hy0 h1 h2 h3.2.1 h3.2.2
 obtain ⟨b1, b2, b3, b4, b5⟩ := c1.wk.stands hx0 (by rw [c2])
 obtain ⟨k, hk⟩ := List.getElem?_of_mem b1
 have := strike_any n 0 v1 (ren1 s ys) c1.wk k _ hk av cv xs hx0 b2 b3 b5 W hOW (hX.below hW).at
 rw [c3] at this
 exact this)
 have HEN0 : Hid ((wlk s.1 1 xs).2 = 0 → stdE s.1 ys = 0 → RenOk s xs ys → ∀ W v1, Below n w W → ndsN.owns n W [v1] (ren2 s xs ys) → Calls Tryz.prog 110 #[.agg #[v1, .int .i64 s.2], .int .i64 (stdI s.1 ys), .slice bv ys.length dv, .int .i64 (tgt s xs).1] W fun e w' => (∃ E, e = .returned E ∧ EV (aerr (en (gt (ren2 s xs ys) (stdI s.1 ys))) (lst ys, (tgt s xs).1)) E) ∧ W.grownBy w' v1.ownBlock ∧ (aerr (en (gt (ren2 s xs ys) (stdI s.1 ys))) (lst ys, (tgt s xs).1) = 0 → ndsN.owns n w' [v1] (ren3 s xs ys)) ∧ (aerr (en (gt (ren2 s xs ys) (stdI s.1 ys))) (lst ys, (tgt s xs).1) ≠ 0 → Below W.heap.size W w')) := fun h1 h2 h3 W v1 hW hOW => by (
 obtain ⟨d1, d2, d3, d4, _, _⟩ := ren_struck hOk hx0 hy0 h1 h2 h3.2.1 h3.2.2
 obtain ⟨k, hk⟩ := List.getElem?_of_mem d2
 have hlow := hOk.wk.low _ (hOk.wk.lead h1).1
 have hnx := hOk.wk.nx
 have := enlist_any n 0 v1 (ren2 s xs ys) s.2 d1.up (by have := d1.len; simp only at this; omega) k _ hk bv dv ys hy0 (tgt s xs).1 ⟨by omega, by omega⟩ W hOW (hY.below hW).at
 rw [d3] at this
 exact this)
 have HBE0 : Hid ((wlk s.1 1 xs).2 = 0 → stdE s.1 ys = 0 → RenOk s xs ys → aerr (en (gt (ren2 s xs ys) (stdI s.1 ys))) (lst ys, (tgt s xs).1) = 0 → ∀ W a1 L1 c1, ndsN.owns n W [.slice a1 L1 c1] (ren3 s xs ys) → Calls Tryz.prog 207 #[.agg #[.slice a1 L1 c1, .int .i64 s.2], .int .i64 (tgt s xs).1] W fun e w' => e = .returned (.int .i64 (dpt s.1 8 (tgt s xs).1)) ∧ Below W.heap.size W w') := fun h1 h2 h3 h4 W a1 L1 c1 hOW => by (
 obtain ⟨r1, ⟨m, m1, m2⟩, r3, r4⟩ := ren_named hOk hx0 hy0 h1 h2 h3.1 h3.2.1 h3.2.2 h4
 obtain ⟨a', c', hv⟩ := own_len hOW
 simp only [Value.slice.injEq] at hv
 obtain ⟨-, rfl, -⟩ := hv
 have h63 : ∀ p ∈ ren3 s xs ys, (en p).length ≤ 63 := fun p hp => by (
 cases hd : isD p
 · rw [(r1.files p hp hd).1]; simp
 · exact (r1.dirs p hp hd).1.1)
 have := deep_any n a1 c1 (ren3 s xs ys) s.2 r1.up (by have := r1.len; exact this) h63 r1.names 8 m m1 (by rw [m2]; exact r3) (by omega) W (ndsN.olies hOW)
 rw [m2, r4] at this
 exact this)
 have HA1 : (wlk s.1 1 xs).2 ≠ 0 → renE s xs ys = (wlk s.1 1 xs).2 := fun h1 => by unfold renE; rw [if_neg hemp, if_pos h1]
 have HA2 : (wlk s.1 1 xs).2 = 0 → stdE s.1 ys ≠ 0 → renE s xs ys = stdE s.1 ys := fun h1 h2 => by unfold renE; rw [if_neg hemp, if_neg (by rw [h1]; decide), if_pos h2]
 have HA3 : (wlk s.1 1 xs).2 = 0 → stdE s.1 ys = 0 → isD (tgt s xs) = true → isB xs ys = true → renE s xs ys = 108 := fun h1 h2 h3 h4 => by unfold renE; rw [if_neg hemp, if_neg (by rw [h1]; decide), if_neg (by rw [h2]; decide), if_pos ⟨h3, h4⟩]
 have HA4 : (wlk s.1 1 xs).2 = 0 → stdE s.1 ys = 0 → (isD (tgt s xs) = true → isB xs ys = false) → (stdT s.1 ys = (tgt s xs).1 → renE s xs ys = 0 ∧ renS s xs ys = (s.1, s.2)) ∧ (stdT s.1 ys ≠ (tgt s xs).1 → stdT s.1 ys ≠ 0 → cwE s xs ys ≠ 0 → renE s xs ys = cwE s xs ys) ∧ (stdT s.1 ys ≠ (tgt s xs).1 → (stdT s.1 ys ≠ 0 → cwE s xs ys = 0) → RenOk s xs ys) ∧
     (RenOk s xs ys → aerr (en (gt (ren2 s xs ys) (stdI s.1 ys))) (lst ys, (tgt s xs).1) ≠ 0 → renE s xs ys = aerr (en (gt (ren2 s xs ys) (stdI s.1 ys))) (lst ys, (tgt s xs).1)) ∧ (RenOk s xs ys → aerr (en (gt (ren2 s xs ys) (stdI s.1 ys))) (lst ys, (tgt s xs).1) = 0 → 8 < ys.length + dpt s.1 8 (tgt s xs).1 → renE s xs ys = 5) ∧
     (RenOk s xs ys → aerr (en (gt (ren2 s xs ys) (stdI s.1 ys))) (lst ys, (tgt s xs).1) = 0 → ¬ 8 < ys.length + dpt s.1 8 (tgt s xs).1 → renE s xs ys = 0 ∧ renS s xs ys = (ren3 s xs ys, s.2)) := fun h1 h2 h3 => by
   have h4 : ¬ (isD (tgt s xs) = true ∧ isB xs ys = true) := fun h => by have := h3 h.1; rw [h.2] at this; cases this
   have hg : renE s xs ys = (if stdT s.1 ys = (tgt s xs).1 then 0 else if stdT s.1 ys ≠ 0 ∧ cwE s xs ys ≠ 0 then cwE s xs ys else if aerr (en (gt (ren2 s xs ys) (stdI s.1 ys))) (lst ys, (tgt s xs).1) ≠ 0 then aerr (en (gt (ren2 s xs ys) (stdI s.1 ys))) (lst ys, (tgt s xs).1) else if 8 < ys.length + dpt s.1 8 (tgt s xs).1 then 5 else 0) := by (
 unfold renE
 rw [if_neg hemp, if_neg (by rw [h1]; decide), if_neg (by rw [h2]; decide), if_neg h4])
   have hn : RenOk s xs ys → ¬ (stdT s.1 ys ≠ 0 ∧ cwE s xs ys ≠ 0) := fun h hh => hh.2 (h.2.2 hh.1)
   refine ⟨fun h => ⟨by rw [hg, if_pos h], by unfold renS; rw [if_pos h]⟩, fun h5 h6 h7 => by rw [hg, if_neg h5, if_pos ⟨h6, h7⟩], fun h5 h6 => ⟨h3, h5, h6⟩, fun h5 h6 => by rw [hg, if_neg h5.2.1, if_neg (hn h5), if_pos h6], fun h5 h6 h7 => by rw [hg, if_neg h5.2.1, if_neg (hn h5), if_neg (by rw [h6]; decide), if_pos h7], fun h5 h6 h7 => ⟨by rw [hg, if_neg h5.2.1, if_neg (hn h5), if_neg (by rw [h6]; decide), if_neg h7], by unfold renS; rw [if_neg h5.2.1]⟩⟩
 have HA5 : (stdT s.1 ys = 0 → (ren1 s ys).1 = s.1) ∧ (stdT s.1 ys ≠ 0 → (dropN s (hold s ys) (lst ys) (tgt s ys)).1 = (ren1 s ys).1) := ⟨fun h => by unfold ren1; rw [if_pos h], fun h => by unfold ren1; rw [if_neg h]⟩
 have HCW1 : Hid (∀ W, Below w.heap.size w W → Calls Tryz.prog 299 #[.pointer (some ⟨S, 0, none⟩), .bool (isD (tgt s xs)), .slice bv ys.length dv] W fun e w' => (∃ E, e = .returned E ∧ EV (cwE s xs ys) E) ∧ Below n W w' ∧ (cwE s xs ys = 0 → MS n w' S ((dropN s (hold s ys) (lst ys) (tgt s ys)).1, s.2))) := HCW0.out
 have hdp : dpt s.1 8 (tgt s xs).1 ≤ 8 := dpt_le 8 _
 have HAL : Hid (((wlk s.1 1 xs).2 ≠ 0 → renE s xs ys = (wlk s.1 1 xs).2) ∧ ((wlk s.1 1 xs).2 = 0 → stdE s.1 ys ≠ 0 → renE s xs ys = stdE s.1 ys) ∧ ((wlk s.1 1 xs).2 = 0 → stdE s.1 ys = 0 → isD (tgt s xs) = true → isB xs ys = true → renE s xs ys = 108)) := ⟨HA1, HA2, HA3⟩
 have HAM : Hid ((wlk s.1 1 xs).2 = 0 → stdE s.1 ys = 0 → (isD (tgt s xs) = true → isB xs ys = false) → (stdT s.1 ys = (tgt s xs).1 → renE s xs ys = 0 ∧ renS s xs ys = (s.1, s.2)) ∧ (stdT s.1 ys ≠ (tgt s xs).1 → stdT s.1 ys ≠ 0 → cwE s xs ys ≠ 0 → renE s xs ys = cwE s xs ys) ∧ (stdT s.1 ys ≠ (tgt s xs).1 → (stdT s.1 ys ≠ 0 → cwE s xs ys = 0) → RenOk s xs ys) ∧
     (RenOk s xs ys → aerr (en (gt (ren2 s xs ys) (stdI s.1 ys))) (lst ys, (tgt s xs).1) ≠ 0 → renE s xs ys = aerr (en (gt (ren2 s xs ys) (stdI s.1 ys))) (lst ys, (tgt s xs).1)) ∧ (RenOk s xs ys → aerr (en (gt (ren2 s xs ys) (stdI s.1 ys))) (lst ys, (tgt s xs).1) = 0 → 8 < ys.length + dpt s.1 8 (tgt s xs).1 → renE s xs ys = 5) ∧
     (RenOk s xs ys → aerr (en (gt (ren2 s xs ys) (stdI s.1 ys))) (lst ys, (tgt s xs).1) = 0 → ¬ 8 < ys.length + dpt s.1 8 (tgt s xs).1 → renE s xs ys = 0 ∧ renS s xs ys = (ren3 s xs ys, s.2))) := HA4
 have HS1 : Hid ((stdT s.1 ys = 0 → (ren1 s ys).1 = s.1) ∧ (stdT s.1 ys ≠ 0 → (dropN s (hold s ys) (lst ys) (tgt s ys)).1 = (ren1 s ys).1)) := HA5
 have HS : Hid (Box w S 29 #[.slice a s.1.length c, .int .i64 s.2] ∧ ndsN.owns n w [.slice a s.1.length c] s.1 ∧ n ≤ w.heap.size ∧ n ≤ S) := ⟨hB, hO, hnw, hnS⟩
 obtain ⟨g0, g1, -, -⟩ := hB.two
 clear HA1 HA2 HA3 HA4 HA5 HCW0 hB hO hX hY hok hpost hOk hemp hx0 hy0
 generalize renE s xs ys = K at HPo HAL HAM
 generalize renS s xs ys = S' at HPo HAM
 generalize aerr (en (gt (ren2 s xs ys) (stdI s.1 ys))) (lst ys, (tgt s xs).1) = ae at HAM HEN0 HBE0
 generalize RenOk s xs ys = Cond at HAM HSK0 HEN0 HBE0
 generalize (dropN s (hold s ys) (lst ys) (tgt s ys)).1 = ld at HS1 HCW1
 generalize (ren1 s ys).1 = l1 at HS1 HSK0
 generalize ren2 s xs ys = l2 at HSK0 HEN0
 generalize ren3 s xs ys = l3 at HEN0 HBE0 HAM
 generalize cwE s xs ys = cw at HAM HCW1
 generalize dpt s.1 8 (tgt s xs).1 = dp at HAM HBE0 hdp
 generalize isB xs ys = ib at HAL HAM HIB
 generalize isD (tgt s xs) = d at HAL HAM HND0 HCW1
 generalize (tgt s xs).1 = ri at HRI HND0 HEN0 HBE0 HAM
 generalize stdT s.1 ys = st at HSD HAM HS1
 generalize stdI s.1 ys = si at HSD HEN0
 generalize stdE s.1 ys = se at HSD HAL HAM HSK0 HEN0 HBE0
 generalize (wlk s.1 1 xs).1 = wi at HWK HRI
 generalize (wlk s.1 1 xs).2 = re at HWK HRI HAL HAM HND0 HSK0 HEN0 HBE0
 obtain ⟨l, nx⟩ := s
 simp only at HWK HSD HND0 HCW1 HSK0 HEN0 HBE0 HAM HS1 HS g0 g1
 generalize hLL : l.length = L at HWK HSD HND0 HS g0
 generalize xs.length = m at HWK HIB hl1 e1 HSK0 ⊢
 generalize ys.length = m2 at HSD HIB hl2 e2 HCW1 HEN0 HAM hy8 ⊢
 clear hLL hnw hnS
 go_enter Tryz.func248, Tryz.ntmps248
 go_wp2_with fail
 refine HWK.mono ?_
 rintro e3 w1 ⟨⟨E, rfl, hE⟩, hb1⟩
 have HB1 : Hid (Below w.heap.size w w1) := hb1
 clear hb1 HWK g0 g1
 by_cases hre : re = 0
 case neg => (
 have HK : Hid (K = re ∧ re ≠ 0) := ⟨HAL.out.1 hre, hre⟩
 obtain ⟨a2, l2', c2, s2, rfl⟩ : ∃ a2 l2 c2 s2, E = refV (.slice a2 l2 c2) re s2 := by (
 rcases hE with ⟨h, _⟩ | ⟨_, a2, l2, c2, s2, h⟩
 · exact absurd h hre
 · exact ⟨a2, l2, c2, s2, h⟩)
 clear hE hre
 go_wp2
 exact HPo.out _ _ (by rw [HK.out.1]; exact ev_ref HK.out.2 _ _ _ _) (HB1.out.mono HS.out.2.2.1) (fun h => absurd (HK.out.1.symm.trans h) HK.out.2))
 have hwi := HRI.out hre
 obtain rfl : E = .nilIface := by (
 rcases hE with ⟨_, h⟩ | ⟨h, _⟩
 · exact h
 · exact absurd hre h)
 subst hwi
 have HND : Hid (∀ W, Below w.heap.size w W → ∃ b o, W.cell? ⟨b, o + 1, none⟩ = some (.bool d) ∧ Calls Tryz.prog 159 #[.agg #[.slice a L c, .int .i64 nx], .int .i64 wi] W fun e w' => e = .returned (.pointer (some ⟨b, o, none⟩)) ∧ Below W.heap.size W w') := HND0.out hre
 have HRE0 : Hid (re = 0) := hre
 have HCS1 := HSD.out w1 HB1.out
 obtain ⟨t0, t1, -, -⟩ := (HS.out.1.below HB1.out HS.out.1.lt).two
 clear hE hre HND0
 go_wp2_with fail
 refine HCS1.mono ?_
 rintro e4 w2 ⟨⟨E, rfl, hE⟩, hb2⟩
 have HB2 : Hid (Below w.heap.size w w2) := below_any HB1.out hb2
 clear hb2 HCS1 t0 t1
 by_cases hse : se = 0
 case neg => (
 have HK : Hid (K = se ∧ se ≠ 0) := ⟨HAL.out.2.1 HRE0.out hse, hse⟩
 obtain ⟨a2, l2', c2, s2, rfl⟩ : ∃ a2 l2 c2 s2, E = refV (.slice a2 l2 c2) se s2 := by (
 rcases hE with ⟨h, _⟩ | ⟨_, a2, l2, c2, s2, h⟩
 · exact absurd h hse
 · exact ⟨a2, l2, c2, s2, h⟩)
 clear hE hse
 go_wp2
 exact HPo.out _ _ (by rw [HK.out.1]; exact ev_ref HK.out.2 _ _ _ _) (HB2.out.mono HS.out.2.2.1) (fun h => absurd (HK.out.1.symm.trans h) HK.out.2))
 obtain rfl : E = .nilIface := by (
 rcases hE with ⟨_, h⟩ | ⟨h, _⟩
 · exact h
 · exact absurd hse h)
 have HSE0 : Hid (se = 0) := hse
 obtain ⟨b3, o3, hc3, HCN⟩ := HND.out w2 HB2.out
 obtain ⟨t0, t1, -, -⟩ := (HS.out.1.below HB2.out HS.out.1.lt).two
 clear hE hse
 go_wp2_with fail
 refine HCN.mono ?_
 rintro e5 w3 ⟨rfl, hb3⟩
 have hc3' : w3.cell? ⟨b3, o3 + 1, none⟩ = some (.bool d) := by rw [hb3.cell (cell_lt hc3)]; exact hc3
 have HB3 : Hid (Below w.heap.size w w3) := below_any HB2.out hb3
 clear hb3 hc3 HCN t0 t1
 cases d
 case true => (
 have HCI := HIB.out w3 (HB3.out.mono HS.out.2.2.1)
 go_wp2_with fail
 refine HCI.mono ?_
 rintro e6 w4 ⟨rfl, hb4⟩
 have HBW0 : Hid (Below w.heap.size w w4) := below_any HB3.out hb4
 clear hb4 HCI hc3'
 cases ib
 case true => (
 have HK : Hid (K = 108) := HAL.out.2.2 HRE0.out HSE0.out (by simp) (by simp)
 have hr := refuse_bad 108 (by decide) bv m2 dv w4
 go_wp2_with fail
 refine hr.mono ?_
 rintro e7 w5 ⟨rfl, rfl⟩
 go_wp2
 exact HPo.out _ _ (by rw [HK.out]; exact ev_ref (by decide) _ _ _ _) (HBW0.out.mono HS.out.2.2.1) (fun h => by rw [HK.out] at h; omega))
 case false => (
 have HG := HAM.out HRE0.out HSE0.out (fun _ => rfl)
 have HKS := hid_mk HG.1
 have HKC := hid_mk HG.2.1
 have HCO := hid_mk HG.2.2.1
 have HKK := hid_mk (And.intro trivial HG.2.2.2)
 have HSK := hid_mk (HSK0.out HRE0.out HSE0.out)
 have HEN := hid_mk (HEN0.out HRE0.out HSE0.out)
 have HBE := hid_mk (fun h => HBE0.out HRE0.out HSE0.out h)
 have HCW := HCW1
 clear HG HAM HSK0 HEN0 HBE0 HCW1 HSD HAL hl1 e1 e2
 have HBk : Hid (Below w.heap.size w w4 ∧ Box w4 S 29 #[.slice a L c, .int .i64 nx] ∧ ndsN.owns n w4 [.slice a L c] l) := ⟨HBW0.out, HS.out.1.below HBW0.out HS.out.1.lt, ndsN.obelow HS.out.2.1 HBW0.out⟩
 by_cases hsr : st = wi
 · have HK : Hid (K = 0 ∧ S' = (l, nx)) := HKS.out hsr
   subst hsr
   go_wp2
   exact HPo.out _ _ (by rw [HK.out.1]; exact ev_nil) (HBk.out.1.mono HS.out.2.2.1) (fun _ => by rw [HK.out.2]; exact ⟨_, HBk.out.2.1, HBk.out.2.2⟩)
 have hsr' : (st == wi) = false := by simpa using hsr
 have HSR : Hid (st ≠ wi) := hsr
 clear hsr
 by_cases hs0 : st = 0
 · have hC1 : Cond := HCO.out HSR.out (fun h => absurd hs0 h)
   have hs1 := HS1.out.1 hs0
   have HBW : Hid (Below n w w4 ∧ Box w4 S 29 #[.slice a L c, .int .i64 nx] ∧ ndsN.owns n w4 [.slice a L c] l1) := ⟨HBk.out.1.mono HS.out.2.2.1, HBk.out.2.1, by rw [hs1]; exact HBk.out.2.2⟩
   subst hs0
   clear hs1
   have HCS := HSK.out hC1 w4 _ HBW.out.1 HBW.out.2.2
   obtain ⟨t0, t1, -, -⟩ := HBW.out.2.1.two
   go_wp2_with fail
   refine HCS.mono ?_
   rintro e7 w7 ⟨rfl, hg7, hO7⟩
   have hB7 := HBW.out.2.1.grown hg7 (own_apart HBW.out.2.1 HBW.out.2.2)
   have HB7 : Hid (Below n w w7 ∧ Box w7 S 29 #[.slice a L c, .int .i64 nx] ∧ ndsN.owns n w7 [.slice a L c] l2) := ⟨HBW.out.1.trans (row_below HBW.out.2.2 (by have := HBW.out.2.1.lt; have := HS.out.2.2.2; omega) hg7), hB7, hO7⟩
   have HCE := HEN.out hC1 w7 _ HB7.out.1 HB7.out.2.2
   clear t0 t1 hg7 hO7 hB7 HCS
   obtain ⟨t0, t1, -, -⟩ := HB7.out.2.1.two
   go_wp2_with fail
   refine HCE.mono ?_
   rintro e8 w8 ⟨⟨E8, rfl, hE8⟩, hg8, hO8, -⟩
   have hB8 := HB7.out.2.1.grown hg8 (own_apart HB7.out.2.1 HB7.out.2.2)
   have HB8 : Hid (Below n w w8 ∧ Box w8 S 29 #[.slice a L c, .int .i64 nx] ∧ (ae = 0 → ndsN.owns n w8 [.slice a L c] l3)) := ⟨HB7.out.1.trans (row_below HB7.out.2.2 (by have := HB7.out.2.1.lt; have := HS.out.2.2.2; omega) hg8), hB8, hO8⟩
   clear t0 t1 hg8 hO8 hB8 HCE
   by_cases hae : ae = 0
   case neg => (
 have HK : Hid (K = ae ∧ ae ≠ 0) := ⟨HKK.out.2.1 hC1 hae, hae⟩
 obtain ⟨a2, l2', c2, s2, rfl⟩ : ∃ a2 l2 c2 s2, E8 = refV (.slice a2 l2 c2) ae s2 := by (
 rcases hE8 with ⟨h, _⟩ | ⟨_, a2, l2, c2, s2, h⟩
 · exact absurd h hae
 · exact ⟨a2, l2, c2, s2, h⟩)
 clear hE8 hae
 go_wp2
 exact HPo.out _ _ (by rw [HK.out.1]; exact ev_ref HK.out.2 _ _ _ _) HB8.out.1 (fun h => absurd (HK.out.1.symm.trans h) HK.out.2))
   subst hae
   obtain rfl : E8 = .nilIface := by (
 rcases hE8 with ⟨_, h⟩ | ⟨h, _⟩
 · exact h
 · exact absurd rfl h)
   have HCB := HBE.out hC1 (by simp) w8 a L c (HB8.out.2.2 (by simp))
   obtain ⟨t0, t1, -, -⟩ := HB8.out.2.1.two
   clear hE8
   go_wp2_with fail
   refine HCB.mono ?_
   rintro e9 w9 ⟨rfl, hb9⟩
   have HB9 : Hid (Below n w w9 ∧ MS n w9 S (l3, nx)) := ⟨HB8.out.1.trans (hb9.mono (by have := HB8.out.2.1.lt; have := HS.out.2.2.2; omega)), ⟨_, HB8.out.2.1.below hb9 HB8.out.2.1.lt, ndsN.obelow (HB8.out.2.2 (by simp)) hb9⟩⟩
   clear hb9 HCB t0 t1
   by_cases h8 : 8 < m2 + dp
   · have HK : Hid (K = 5) := HKK.out.2.2.1 hC1 (by simp) h8
     have h8i : (8 : Int) < (m2 : Int) + (dp : Int) := by omega
     have hr := refuse_bad 5 (by decide) bv m2 dv w9
     clear h8
     go_wp2_with fail
     refine hr.mono ?_
     rintro e10 w10 ⟨rfl, rfl⟩
     go_wp2
     exact HPo.out _ _ (by rw [HK.out]; exact ev_ref (by decide) _ _ _ _) HB9.out.1 (fun h => by rw [HK.out] at h; omega)
   · have HK : Hid (K = 0 ∧ S' = (l3, nx)) := HKK.out.2.2.2 hC1 (by simp) h8
     have h8i : ¬ (8 : Int) < (m2 : Int) + (dp : Int) := by omega
     clear h8
     go_wp2
     exact HPo.out _ _ (by rw [HK.out.1]; exact ev_nil) HB9.out.1 (fun _ => by rw [HK.out.2]; exact HB9.out.2)
 have hs0' : (st == 0) = false := by simpa using hs0
 have HS0 : Hid (st ≠ 0) := hs0
 obtain ⟨b5, o5, hc5, HCN5⟩ := HND.out w4 HBk.out.1
 obtain ⟨t0, t1, -, -⟩ := HBk.out.2.1.two
 go_wp2_with fail
 refine HCN5.mono ?_
 rintro e5 w5 ⟨rfl, hb5⟩
 have hc5' : w5.cell? ⟨b5, o5 + 1, none⟩ = some (.bool true) := by rw [hb5.cell (cell_lt hc5)]; exact hc5
 have HB5 : Hid (Below w.heap.size w w5) := below_any HBk.out.1 hb5
 have HCC := HCW.out w5 HB5.out
 clear t0 t1 hb5 hc5 HCN5
 go_wp2_with fail
 refine HCC.mono ?_
 rintro e6 w6 ⟨⟨E6, rfl, hE6⟩, hb6, hM6⟩
 have HB6 : Hid (Below n w w6) := (HB5.out.mono HS.out.2.2.1).trans hb6
 by_cases hcw : cw = 0
 case neg => (
 have HK : Hid (K = cw ∧ cw ≠ 0) := ⟨HKC.out HSR.out HS0.out hcw, hcw⟩
 obtain ⟨a2, l2', c2, s2, rfl⟩ : ∃ a2 l2 c2 s2, E6 = refV (.slice a2 l2 c2) cw s2 := by (
 rcases hE6 with ⟨h, _⟩ | ⟨_, a2, l2, c2, s2, h⟩
 · exact absurd h hcw
 · exact ⟨a2, l2, c2, s2, h⟩)
 clear hE6 hcw hb6 hM6 HCC
 go_wp2
 exact HPo.out _ _ (by rw [HK.out.1]; exact ev_ref HK.out.2 _ _ _ _) HB6.out (fun h => absurd (HK.out.1.symm.trans h) HK.out.2))
 have hC1 : Cond := HCO.out HSR.out (fun _ => hcw)
 obtain ⟨v6, hB6, hO6⟩ := hM6 hcw
 rw [HS1.out.2 HS0.out] at hO6
 obtain ⟨a1, c1, hv6⟩ := own_len hO6
 obtain ⟨L1, hL1⟩ := exa (l1.length)
 rw [← hL1] at hv6
 subst hv6
 have HBW : Hid (Below n w w6 ∧ Box w6 S 29 #[.slice a1 L1 c1, .int .i64 nx] ∧ ndsN.owns n w6 [.slice a1 L1 c1] l1) := ⟨HB6.out, hB6, hO6⟩
 obtain rfl : E6 = .nilIface := by (
 rcases hE6 with ⟨_, h⟩ | ⟨h, _⟩
 · exact h
 · exact absurd hcw h)
 clear hE6 hcw hb6 hM6 HCC hB6 hO6 hL1 hc5'
 have HCS := HSK.out hC1 w6 _ HBW.out.1 HBW.out.2.2
 obtain ⟨t0, t1, -, -⟩ := HBW.out.2.1.two
 go_wp2_with fail
 refine HCS.mono ?_
 rintro e7 w7 ⟨rfl, hg7, hO7⟩
 have hB7 := HBW.out.2.1.grown hg7 (own_apart HBW.out.2.1 HBW.out.2.2)
 have HB7 : Hid (Below n w w7 ∧ Box w7 S 29 #[.slice a1 L1 c1, .int .i64 nx] ∧ ndsN.owns n w7 [.slice a1 L1 c1] l2) := ⟨HBW.out.1.trans (row_below HBW.out.2.2 (by have := HBW.out.2.1.lt; have := HS.out.2.2.2; omega) hg7), hB7, hO7⟩
 have HCE := HEN.out hC1 w7 _ HB7.out.1 HB7.out.2.2
 clear t0 t1 hg7 hO7 hB7 HCS
 obtain ⟨t0, t1, -, -⟩ := HB7.out.2.1.two
 go_wp2_with fail
 refine HCE.mono ?_
 rintro e8 w8 ⟨⟨E8, rfl, hE8⟩, hg8, hO8, -⟩
 have hB8 := HB7.out.2.1.grown hg8 (own_apart HB7.out.2.1 HB7.out.2.2)
 have HB8 : Hid (Below n w w8 ∧ Box w8 S 29 #[.slice a1 L1 c1, .int .i64 nx] ∧ (ae = 0 → ndsN.owns n w8 [.slice a1 L1 c1] l3)) := ⟨HB7.out.1.trans (row_below HB7.out.2.2 (by have := HB7.out.2.1.lt; have := HS.out.2.2.2; omega) hg8), hB8, hO8⟩
 clear t0 t1 hg8 hO8 hB8 HCE
 by_cases hae : ae = 0
 case neg => (
 have HK : Hid (K = ae ∧ ae ≠ 0) := ⟨HKK.out.2.1 hC1 hae, hae⟩
 obtain ⟨a2, l2', c2, s2, rfl⟩ : ∃ a2 l2 c2 s2, E8 = refV (.slice a2 l2 c2) ae s2 := by (
 rcases hE8 with ⟨h, _⟩ | ⟨_, a2, l2, c2, s2, h⟩
 · exact absurd h hae
 · exact ⟨a2, l2, c2, s2, h⟩)
 clear hE8 hae
 go_wp2
 exact HPo.out _ _ (by rw [HK.out.1]; exact ev_ref HK.out.2 _ _ _ _) HB8.out.1 (fun h => absurd (HK.out.1.symm.trans h) HK.out.2))
 subst hae
 obtain rfl : E8 = .nilIface := by (
 rcases hE8 with ⟨_, h⟩ | ⟨h, _⟩
 · exact h
 · exact absurd rfl h)
 have HCB := HBE.out hC1 (by simp) w8 a1 L1 c1 (HB8.out.2.2 (by simp))
 obtain ⟨t0, t1, -, -⟩ := HB8.out.2.1.two
 clear hE8
 go_wp2_with fail
 refine HCB.mono ?_
 rintro e9 w9 ⟨rfl, hb9⟩
 have HB9 : Hid (Below n w w9 ∧ MS n w9 S (l3, nx)) := ⟨HB8.out.1.trans (hb9.mono (by have := HB8.out.2.1.lt; have := HS.out.2.2.2; omega)), ⟨_, HB8.out.2.1.below hb9 HB8.out.2.1.lt, ndsN.obelow (HB8.out.2.2 (by simp)) hb9⟩⟩
 clear hb9 HCB t0 t1
 by_cases h8 : 8 < m2 + dp
 · have HK : Hid (K = 5) := HKK.out.2.2.1 hC1 (by simp) h8
   have h8i : (8 : Int) < (m2 : Int) + (dp : Int) := by omega
   have hr := refuse_bad 5 (by decide) bv m2 dv w9
   clear h8
   go_wp2_with fail
   refine hr.mono ?_
   rintro e10 w10 ⟨rfl, rfl⟩
   go_wp2
   exact HPo.out _ _ (by rw [HK.out]; exact ev_ref (by decide) _ _ _ _) HB9.out.1 (fun h => by rw [HK.out] at h; omega)
 · have HK : Hid (K = 0 ∧ S' = (l3, nx)) := HKK.out.2.2.2 hC1 (by simp) h8
   have h8i : ¬ (8 : Int) < (m2 : Int) + (dp : Int) := by omega
   clear h8
   go_wp2
   exact HPo.out _ _ (by rw [HK.out.1]; exact ev_nil) HB9.out.1 (fun _ => by rw [HK.out.2]; exact HB9.out.2)))
 case false => (
 have HBW0 : Hid (Below w.heap.size w w3) := HB3.out
 have HG := HAM.out HRE0.out HSE0.out (fun h => by cases h)
 have HKS := hid_mk HG.1
 have HKC := hid_mk HG.2.1
 have HCO := hid_mk HG.2.2.1
 have HKK := hid_mk (And.intro trivial HG.2.2.2)
 have HSK := hid_mk (HSK0.out HRE0.out HSE0.out)
 have HEN := hid_mk (HEN0.out HRE0.out HSE0.out)
 have HBE := hid_mk (fun h => HBE0.out HRE0.out HSE0.out h)
 have HCW := HCW1
 clear HG HAM HSK0 HEN0 HBE0 HCW1 HSD HAL hl1 e1 e2
 have HBk : Hid (Below w.heap.size w w3 ∧ Box w3 S 29 #[.slice a L c, .int .i64 nx] ∧ ndsN.owns n w3 [.slice a L c] l) := ⟨HBW0.out, HS.out.1.below HBW0.out HS.out.1.lt, ndsN.obelow HS.out.2.1 HBW0.out⟩
 by_cases hsr : st = wi
 · have HK : Hid (K = 0 ∧ S' = (l, nx)) := HKS.out hsr
   subst hsr
   go_wp2
   exact HPo.out _ _ (by rw [HK.out.1]; exact ev_nil) (HBk.out.1.mono HS.out.2.2.1) (fun _ => by rw [HK.out.2]; exact ⟨_, HBk.out.2.1, HBk.out.2.2⟩)
 have hsr' : (st == wi) = false := by simpa using hsr
 have HSR : Hid (st ≠ wi) := hsr
 clear hsr
 by_cases hs0 : st = 0
 · have hC1 : Cond := HCO.out HSR.out (fun h => absurd hs0 h)
   have hs1 := HS1.out.1 hs0
   have HBW : Hid (Below n w w3 ∧ Box w3 S 29 #[.slice a L c, .int .i64 nx] ∧ ndsN.owns n w3 [.slice a L c] l1) := ⟨HBk.out.1.mono HS.out.2.2.1, HBk.out.2.1, by rw [hs1]; exact HBk.out.2.2⟩
   subst hs0
   clear hs1
   have HCS := HSK.out hC1 w3 _ HBW.out.1 HBW.out.2.2
   obtain ⟨t0, t1, -, -⟩ := HBW.out.2.1.two
   go_wp2_with fail
   refine HCS.mono ?_
   rintro e7 w7 ⟨rfl, hg7, hO7⟩
   have hB7 := HBW.out.2.1.grown hg7 (own_apart HBW.out.2.1 HBW.out.2.2)
   have HB7 : Hid (Below n w w7 ∧ Box w7 S 29 #[.slice a L c, .int .i64 nx] ∧ ndsN.owns n w7 [.slice a L c] l2) := ⟨HBW.out.1.trans (row_below HBW.out.2.2 (by have := HBW.out.2.1.lt; have := HS.out.2.2.2; omega) hg7), hB7, hO7⟩
   have HCE := HEN.out hC1 w7 _ HB7.out.1 HB7.out.2.2
   clear t0 t1 hg7 hO7 hB7 HCS
   obtain ⟨t0, t1, -, -⟩ := HB7.out.2.1.two
   go_wp2_with fail
   refine HCE.mono ?_
   rintro e8 w8 ⟨⟨E8, rfl, hE8⟩, hg8, hO8, -⟩
   have hB8 := HB7.out.2.1.grown hg8 (own_apart HB7.out.2.1 HB7.out.2.2)
   have HB8 : Hid (Below n w w8 ∧ Box w8 S 29 #[.slice a L c, .int .i64 nx] ∧ (ae = 0 → ndsN.owns n w8 [.slice a L c] l3)) := ⟨HB7.out.1.trans (row_below HB7.out.2.2 (by have := HB7.out.2.1.lt; have := HS.out.2.2.2; omega) hg8), hB8, hO8⟩
   clear t0 t1 hg8 hO8 hB8 HCE
   by_cases hae : ae = 0
   case neg => (
 have HK : Hid (K = ae ∧ ae ≠ 0) := ⟨HKK.out.2.1 hC1 hae, hae⟩
 obtain ⟨a2, l2', c2, s2, rfl⟩ : ∃ a2 l2 c2 s2, E8 = refV (.slice a2 l2 c2) ae s2 := by (
 rcases hE8 with ⟨h, _⟩ | ⟨_, a2, l2, c2, s2, h⟩
 · exact absurd h hae
 · exact ⟨a2, l2, c2, s2, h⟩)
 clear hE8 hae
 go_wp2
 exact HPo.out _ _ (by rw [HK.out.1]; exact ev_ref HK.out.2 _ _ _ _) HB8.out.1 (fun h => absurd (HK.out.1.symm.trans h) HK.out.2))
   subst hae
   obtain rfl : E8 = .nilIface := by (
 rcases hE8 with ⟨_, h⟩ | ⟨h, _⟩
 · exact h
 · exact absurd rfl h)
   have HCB := HBE.out hC1 (by simp) w8 a L c (HB8.out.2.2 (by simp))
   obtain ⟨t0, t1, -, -⟩ := HB8.out.2.1.two
   clear hE8
   go_wp2_with fail
   refine HCB.mono ?_
   rintro e9 w9 ⟨rfl, hb9⟩
   have HB9 : Hid (Below n w w9 ∧ MS n w9 S (l3, nx)) := ⟨HB8.out.1.trans (hb9.mono (by have := HB8.out.2.1.lt; have := HS.out.2.2.2; omega)), ⟨_, HB8.out.2.1.below hb9 HB8.out.2.1.lt, ndsN.obelow (HB8.out.2.2 (by simp)) hb9⟩⟩
   clear hb9 HCB t0 t1
   by_cases h8 : 8 < m2 + dp
   · have HK : Hid (K = 5) := HKK.out.2.2.1 hC1 (by simp) h8
     have h8i : (8 : Int) < (m2 : Int) + (dp : Int) := by omega
     have hr := refuse_bad 5 (by decide) bv m2 dv w9
     clear h8
     go_wp2_with fail
     refine hr.mono ?_
     rintro e10 w10 ⟨rfl, rfl⟩
     go_wp2
     exact HPo.out _ _ (by rw [HK.out]; exact ev_ref (by decide) _ _ _ _) HB9.out.1 (fun h => by rw [HK.out] at h; omega)
   · have HK : Hid (K = 0 ∧ S' = (l3, nx)) := HKK.out.2.2.2 hC1 (by simp) h8
     have h8i : ¬ (8 : Int) < (m2 : Int) + (dp : Int) := by omega
     clear h8
     go_wp2
     exact HPo.out _ _ (by rw [HK.out.1]; exact ev_nil) HB9.out.1 (fun _ => by rw [HK.out.2]; exact HB9.out.2)
 have hs0' : (st == 0) = false := by simpa using hs0
 have HS0 : Hid (st ≠ 0) := hs0
 obtain ⟨b5, o5, hc5, HCN5⟩ := HND.out w3 HBk.out.1
 obtain ⟨t0, t1, -, -⟩ := HBk.out.2.1.two
 go_wp2_with fail
 refine HCN5.mono ?_
 rintro e5 w5 ⟨rfl, hb5⟩
 have hc5' : w5.cell? ⟨b5, o5 + 1, none⟩ = some (.bool false) := by rw [hb5.cell (cell_lt hc5)]; exact hc5
 have HB5 : Hid (Below w.heap.size w w5) := below_any HBk.out.1 hb5
 have HCC := HCW.out w5 HB5.out
 clear t0 t1 hb5 hc5 HCN5
 go_wp2_with fail
 refine HCC.mono ?_
 rintro e6 w6 ⟨⟨E6, rfl, hE6⟩, hb6, hM6⟩
 have HB6 : Hid (Below n w w6) := (HB5.out.mono HS.out.2.2.1).trans hb6
 by_cases hcw : cw = 0
 case neg => (
 have HK : Hid (K = cw ∧ cw ≠ 0) := ⟨HKC.out HSR.out HS0.out hcw, hcw⟩
 obtain ⟨a2, l2', c2, s2, rfl⟩ : ∃ a2 l2 c2 s2, E6 = refV (.slice a2 l2 c2) cw s2 := by (
 rcases hE6 with ⟨h, _⟩ | ⟨_, a2, l2, c2, s2, h⟩
 · exact absurd h hcw
 · exact ⟨a2, l2, c2, s2, h⟩)
 clear hE6 hcw hb6 hM6 HCC
 go_wp2
 exact HPo.out _ _ (by rw [HK.out.1]; exact ev_ref HK.out.2 _ _ _ _) HB6.out (fun h => absurd (HK.out.1.symm.trans h) HK.out.2))
 have hC1 : Cond := HCO.out HSR.out (fun _ => hcw)
 obtain ⟨v6, hB6, hO6⟩ := hM6 hcw
 rw [HS1.out.2 HS0.out] at hO6
 obtain ⟨a1, c1, hv6⟩ := own_len hO6
 obtain ⟨L1, hL1⟩ := exa (l1.length)
 rw [← hL1] at hv6
 subst hv6
 have HBW : Hid (Below n w w6 ∧ Box w6 S 29 #[.slice a1 L1 c1, .int .i64 nx] ∧ ndsN.owns n w6 [.slice a1 L1 c1] l1) := ⟨HB6.out, hB6, hO6⟩
 obtain rfl : E6 = .nilIface := by (
 rcases hE6 with ⟨_, h⟩ | ⟨h, _⟩
 · exact h
 · exact absurd hcw h)
 clear hE6 hcw hb6 hM6 HCC hB6 hO6 hL1 hc5'
 have HCS := HSK.out hC1 w6 _ HBW.out.1 HBW.out.2.2
 obtain ⟨t0, t1, -, -⟩ := HBW.out.2.1.two
 go_wp2_with fail
 refine HCS.mono ?_
 rintro e7 w7 ⟨rfl, hg7, hO7⟩
 have hB7 := HBW.out.2.1.grown hg7 (own_apart HBW.out.2.1 HBW.out.2.2)
 have HB7 : Hid (Below n w w7 ∧ Box w7 S 29 #[.slice a1 L1 c1, .int .i64 nx] ∧ ndsN.owns n w7 [.slice a1 L1 c1] l2) := ⟨HBW.out.1.trans (row_below HBW.out.2.2 (by have := HBW.out.2.1.lt; have := HS.out.2.2.2; omega) hg7), hB7, hO7⟩
 have HCE := HEN.out hC1 w7 _ HB7.out.1 HB7.out.2.2
 clear t0 t1 hg7 hO7 hB7 HCS
 obtain ⟨t0, t1, -, -⟩ := HB7.out.2.1.two
 go_wp2_with fail
 refine HCE.mono ?_
 rintro e8 w8 ⟨⟨E8, rfl, hE8⟩, hg8, hO8, -⟩
 have hB8 := HB7.out.2.1.grown hg8 (own_apart HB7.out.2.1 HB7.out.2.2)
 have HB8 : Hid (Below n w w8 ∧ Box w8 S 29 #[.slice a1 L1 c1, .int .i64 nx] ∧ (ae = 0 → ndsN.owns n w8 [.slice a1 L1 c1] l3)) := ⟨HB7.out.1.trans (row_below HB7.out.2.2 (by have := HB7.out.2.1.lt; have := HS.out.2.2.2; omega) hg8), hB8, hO8⟩
 clear t0 t1 hg8 hO8 hB8 HCE
 by_cases hae : ae = 0
 case neg => (
 have HK : Hid (K = ae ∧ ae ≠ 0) := ⟨HKK.out.2.1 hC1 hae, hae⟩
 obtain ⟨a2, l2', c2, s2, rfl⟩ : ∃ a2 l2 c2 s2, E8 = refV (.slice a2 l2 c2) ae s2 := by (
 rcases hE8 with ⟨h, _⟩ | ⟨_, a2, l2, c2, s2, h⟩
 · exact absurd h hae
 · exact ⟨a2, l2, c2, s2, h⟩)
 clear hE8 hae
 go_wp2
 exact HPo.out _ _ (by rw [HK.out.1]; exact ev_ref HK.out.2 _ _ _ _) HB8.out.1 (fun h => absurd (HK.out.1.symm.trans h) HK.out.2))
 subst hae
 obtain rfl : E8 = .nilIface := by (
 rcases hE8 with ⟨_, h⟩ | ⟨h, _⟩
 · exact h
 · exact absurd rfl h)
 have HCB := HBE.out hC1 (by simp) w8 a1 L1 c1 (HB8.out.2.2 (by simp))
 obtain ⟨t0, t1, -, -⟩ := HB8.out.2.1.two
 clear hE8
 go_wp2_with fail
 refine HCB.mono ?_
 rintro e9 w9 ⟨rfl, hb9⟩
 have HB9 : Hid (Below n w w9 ∧ MS n w9 S (l3, nx)) := ⟨HB8.out.1.trans (hb9.mono (by have := HB8.out.2.1.lt; have := HS.out.2.2.2; omega)), ⟨_, HB8.out.2.1.below hb9 HB8.out.2.1.lt, ndsN.obelow (HB8.out.2.2 (by simp)) hb9⟩⟩
 clear hb9 HCB t0 t1
 by_cases h8 : 8 < m2 + dp
 · have HK : Hid (K = 5) := HKK.out.2.2.1 hC1 (by simp) h8
   have h8i : (8 : Int) < (m2 : Int) + (dp : Int) := by omega
   have hr := refuse_bad 5 (by decide) bv m2 dv w9
   clear h8
   go_wp2_with fail
   refine hr.mono ?_
   rintro e10 w10 ⟨rfl, rfl⟩
   go_wp2
   exact HPo.out _ _ (by rw [HK.out]; exact ev_ref (by decide) _ _ _ _) HB9.out.1 (fun h => by rw [HK.out] at h; omega)
 · have HK : Hid (K = 0 ∧ S' = (l3, nx)) := HKK.out.2.2.2 hC1 (by simp) h8
   have h8i : ¬ (8 : Int) < (m2 : Int) + (dp : Int) := by omega
   clear h8
   go_wp2
   exact HPo.out _ _ (by rw [HK.out.1]; exact ev_nil) HB9.out.1 (fun _ => by rw [HK.out.2]; exact HB9.out.2))
end Go.Proofs.YtopcefhncildnaaGreatDoor
namespace Go.Proofs.YtopcefhncildnaaGreatDoor
open Go.RowKit
open P (ArgT serr sval)
theorem sval_len {p : ByteArray} (h : serr p = 0) : (sval p).length ≤ 8 := by
 rw [P.sval_zero h]
 exact (P.serr_zero.1 h).2.2.2
theorem renameDo_any (n S : Nat) (s : St) (hOk : Ok s) (p q : ByteArray) (hq : serr q = 0) (v2 : Value) (w : World) (hM : MS n w S s) (hnS : n ≤ S) (hL : StayL n w v2 [p, q]) :
   Calls Tryz.prog 247 #[.pointer (some ⟨S, 0, none⟩), v2] w fun e w' => (∃ E, e = .returned E ∧ EV (renE s (sval p) (sval q)) E) ∧ Below n w w' ∧ (renE s (sval p) (sval q) = 0 → MS n w' S (renS s (sval p) (sval q))) := by
 obtain ⟨b, o, av, cv, hix, hc, hX⟩ := hL 0 p rfl
 obtain ⟨b2, o2, bv, dv, hix2, hc2, hY⟩ := hL 1 q rfl
 have hix : ∀ W, (Instr.indexAt 106 v2 (.int .i64 0)).run Tryz.prog W = .ok (.pointer (some ⟨b, o, none⟩)) W := hix
 have hix2 : ∀ W, (Instr.indexAt 106 v2 (.int .i64 1)).run Tryz.prog W = .ok (.pointer (some ⟨b2, o2, none⟩)) W := hix2
 have HC := rename_any n S s hOk av bv cv dv (sval p) (sval q) (lst_name hq) (sval_len hq) w.drew (by exact hM) hnS (hX.below (Below.refl _ w).drew) (hY.below (Below.refl _ w).drew)
 obtain ⟨post, hpost⟩ : ∃ post : Ending → World → Prop, post = fun e w' => (∃ E, e = .returned E ∧ EV (renE s (sval p) (sval q)) E) ∧ Below n w w' ∧ (renE s (sval p) (sval q) = 0 → MS n w' S (renS s (sval p) (sval q))) := ⟨_, rfl⟩
 have HC' := HC.mono (R' := fun e w' => post e w' ∧ (∃ E, e = .returned E ∧ post (.returned E) w') ∧ Below n w w') fun e w' h => by (
 have hb : Below n w w' := (Below.refl _ w).drew.trans h.2.1
 obtain ⟨⟨E, rfl, h1⟩, h2, h3⟩ := h
 have hh : post (.returned E) w' := by rw [hpost]; exact ⟨⟨E, rfl, h1⟩, hb, h3⟩
 exact ⟨hh, ⟨E, rfl, hh⟩, hb⟩)
 rw [← hpost]
 have HCC : Hid (∀ w', Below n w w' → w'.cell? ⟨b, o, none⟩ = some (.slice av (sval p).length cv) ∧ w'.cell? ⟨b2, o2, none⟩ = some (.slice bv (sval q).length dv)) := fun w' hb => ⟨hc w' hb, hc2 w' hb⟩
 obtain ⟨m, hm⟩ := exa ((sval p).length)
 obtain ⟨m2, hm2⟩ := exa ((sval q).length)
 rw [← hm, ← hm2] at HC' HCC
 have HS0 : w.drew.cell? ⟨b, o, none⟩ = some (.slice av m cv) ∧ w.drew.cell? ⟨b2, o2, none⟩ = some (.slice bv m2 dv) := HCC.out w (Below.refl _ _)
 clear hX hY hM hpost hm hm2 hc hc2 hL HC
 go_enter Tryz.func247, Tryz.ntmps247
 go_wp2
 go_region_held3 (fun U => U.cell? ⟨b, o, none⟩ = some (.slice av m cv) ∧ U.cell? ⟨b2, o2, none⟩ = some (.slice bv m2 dv))
   (first | with_reducible exact HS1 | with_reducible exact HS0)
   ((first | (go_at_call 248; refine HC'.mono ?_; rintro e1 w1 ⟨-, ⟨E, rfl, h2⟩, hb1⟩; have HS1 : w1.cell? ⟨b, o, none⟩ = some (.slice av m cv) ∧ w1.cell? ⟨b2, o2, none⟩ = some (.slice bv m2 dv) := HCC.out w1 hb1)))
 have H2 : Hid (post (.returned E) w1) := h2
 clear h2 HC' hb1 HS0 HS1 hix hix2
 go_wp2
 exact H2.out
theorem Rename_any (n0 : Nat) (a : Option Addr) (c : Nat) (s : St) (p q : ByteArray) (hp : p.size ≤ maxLen) (hq : q.size ≤ maxLen) (w : World) (hA : ndsN.lies n0 w [.slice a s.1.length c] s.1) (hg : Glob w) :
   Calls Tryz.prog 185 #[.agg #[.slice a s.1.length c, .int .i64 s.2], .string p, .string q] w (Changed s [p, q] (renE s (sval p) (sval q)) (renS s (sval p) (sval q)) w) := by
 obtain ⟨W1, hW1⟩ := exa (w.alloc (.cells #[.slice a s.1.length c, .int .i64 s.2] 29))
 obtain ⟨W2, hW2⟩ := exa (W1.alloc (.cells #[.slice none 0 0, .int .i64 0] 29))
 obtain ⟨W3, hW3⟩ := exa (W2.alloc (.cells #[.string p, .string q] 9))
 have hb1 : Below w.heap.size w W1 := by rw [hW1]; exact (Below.refl _ w).alloc (Nat.le_refl _) _
 have hb2 : Below w.heap.size w W2 := by rw [hW2]; exact hb1.alloc hb1.size _
 have hb3 : Below w.heap.size w W3 := by rw [hW3]; exact hb2.alloc hb2.size _
 have hs1 : W1.heap.size = w.heap.size + 1 := by rw [hW1]; exact Array.size_push _
 have hs2 : W2.heap.size = w.heap.size + 1 + 1 := by rw [hW2, ← hs1]; exact Array.size_push _
 have hBS : Box W2 w.heap.size 29 #[.slice a s.1.length c, .int .i64 s.2] := by
   have : Box W1 w.heap.size 29 #[.slice a s.1.length c, .int .i64 s.2] := by rw [hW1]; exact Box.new _ _ _
   rw [hW2]; exact this.alloc _
 have hBR : Box W3 (w.heap.size + 1) 29 #[.slice none 0 0, .int .i64 0] := by rw [hW3, hW2, ← hs1]; exact (Box.new _ _ _).alloc _
 have hBT : Box W3 W2.heap.size 9 #[.string p, .string q] := by rw [hW3]; exact Box.new _ _ _
 have hX : ArgT w.heap.size W3 (.slice (some ⟨W2.heap.size, 0, none⟩) 2 2) [p, q] := argT_box (ps := [p, q]) hBT hb2.size (by simp [maxLen]) fun r hr => by (
 rcases List.mem_cons.1 hr with rfl | hr
 · exact hp
 · rw [List.mem_singleton.1 hr]; exact hq)
 have HC := change0_any 247 Tryz.call247 n0 w.heap.size a c s (some ⟨W2.heap.size, 0, none⟩) 2 [p, q] (by simp) W3 (ndsN.below hA hb3) hX (hg.below hb3 hg.lt) (renE s (sval p) (sval q)) (renS s (sval p) (sval q))
   (fun hok hps V v2 B S hbV hB hBS hL hM => (renameDo_any B S s hok p q (psE_zero hps q (by simp)) v2 V hM hBS hL).mono fun e w' h => ⟨h.1, h.2.1, fun k => (h.2.2 k).ml⟩)
 rw [hs2] at HC
 have HCH : Hid (∀ e w', Changed s [p, q] (renE s (sval p) (sval q)) (renS s (sval p) (sval q)) W3 e w' → ∃ a3 n3 c3 x3 k3, e = .returned (.tuple #[.agg #[.slice a3 n3 c3, .int .i64 x3], .int .i64 k3]) ∧ Below W3.heap.size W3 w' ∧ Changed s [p, q] (renE s (sval p) (sval q)) (renS s (sval p) (sval q)) w (.returned (.tuple #[.agg #[.slice a3 n3 c3, .int .i64 x3], .int .i64 k3])) ((w'.setCell ⟨w.heap.size + 1, 0, none⟩ (.slice a3 n3 c3)).setCell ⟨w.heap.size + 1, 1, none⟩ (.int .i64 x3))) := fun e w' h => changed_up hb3 (by have : W3.heap.size = W2.heap.size + 1 := (by rw [hW3]; exact Array.size_push _); omega) h
 generalize renE s (sval p) (sval q) = K at HC HCH ⊢
 generalize renS s (sval p) (sval q) = s' at HC HCH ⊢
 obtain ⟨post, hpost⟩ : ∃ post : Ending → World → Prop, post = Changed s [p, q] K s' w := ⟨_, rfl⟩
 rw [← hpost] at HCH ⊢
 obtain ⟨pre, hpre⟩ : ∃ post : Ending → World → Prop, post = Changed s [p, q] K s' W3 := ⟨_, rfl⟩
 rw [← hpre] at HCH HC
 have HB : Hid (Box W3 (w.heap.size + 1) 29 #[.slice none 0 0, .int .i64 0]) := hBR
 obtain ⟨g0, g1, -, -⟩ := hBS.two
 rw [hW2, hW1] at g0 g1
 obtain ⟨n, hn⟩ := exa (s.1.length)
 obtain ⟨nx, hnx⟩ := exa (s.2)
 rw [← hn] at HC hW1 g0 g1 ⊢
 rw [← hnx] at HC hW1 g0 g1 ⊢
 clear hA hg hp hq hb1 hb2 hb3 hBR hBS hBT hX hn hnx hpost hpre hs1 hs2
 go_enter Tryz.func185, Tryz.ntmps185
 go_wp2_with fail
 rw [← hW1, ← hW2, ← hW3]
 clear hW1 hW2 hW3 g0 g1
 refine HC.mono ?_
 intro e4 w4 h4
 obtain ⟨a3, n3, c3, x3, k3, rfl, hb4, hP⟩ := HCH.out e4 w4 h4
 obtain ⟨d0, d1, e0, e1⟩ := (HB.out.below hb4 HB.out.lt).two
 have HP : Hid (post (.returned (.tuple #[.agg #[.slice a3 n3 c3, .int .i64 x3], .int .i64 k3])) ((w4.setCell ⟨w.heap.size + 1, 0, none⟩ (.slice a3 n3 c3)).setCell ⟨w.heap.size + 1, 1, none⟩ (.int .i64 x3))) := hP
 clear h4 hP hb4 HC HCH
 go_wp2
 refine bodyPost_ret (v := .tuple #[.agg #[.slice a3 n3 c3, .int .i64 x3], .int .i64 k3]) (by simp [results, Tryz.results185, go_sem, *]) rfl HP.out
end Go.Proofs.YtopcefhncildnaaGreatDoor
namespace Go.Proofs.YtopcefhncildnaaGreatDoor
open Go.RowKit
open P (serr sval)
def Told (s : St) (ps : List ByteArray) (K : Int) (s' : St) (k : Int) (S : St) : Prop :=
 (¬ Ok s ∧ k = 9 ∧ S = ([], 0)) ∨ (Ok s ∧ psE ps ≠ 0 ∧ k = psE ps ∧ S = ([], 0)) ∨ (Ok s ∧ psE ps = 0 ∧ K ≠ 0 ∧ k = K ∧ S = ([], 0)) ∨ (Ok s ∧ psE ps = 0 ∧ K = 0 ∧ k = 0 ∧ S = s')
theorem Told.one {s : St} {ps : List ByteArray} {K : Int} {s' : St} {k k2 : Int} {S S2 : St} (h : Told s ps K s' k S) (h2 : Told s ps K s' k2 S2) : k = k2 ∧ S = S2 := by
 rcases h with ⟨a, b, c⟩ | ⟨a, b, c, d⟩ | ⟨a, b, c, d, e⟩ | ⟨a, b, c, d, e⟩ <;> rcases h2 with ⟨a2, b2, c2⟩ | ⟨a2, b2, c2, d2⟩ | ⟨a2, b2, c2, d2, e2⟩ | ⟨a2, b2, c2, d2, e2⟩ <;>
   first
     | (exfalso; contradiction)
     | (subst_vars; exact ⟨rfl, rfl⟩)
     | (exfalso; omega)
theorem Told.ok {s : St} {ps : List ByteArray} {K : Int} {s' : St} {S : St} (h : Told s ps K s' 0 S) : Ok s ∧ psE ps = 0 ∧ K = 0 ∧ S = s' := by
 rcases h with ⟨_, b, _⟩ | ⟨_, b, c, _⟩ | ⟨_, _, c, d, _⟩ | ⟨a, b, c, _, e⟩
 · omega
 · omega
 · omega
 · exact ⟨a, b, c, e⟩
theorem Told.same {s : St} {ps : List ByteArray} {K : Int} {s' s2 : St} {k k2 : Int} {S S2 : St} (h : Told s ps K s' k S) (h2 : Told s ps K s2 k2 S2) : k = k2 := by
 rcases h with ⟨a, b, c⟩ | ⟨a, b, c, d⟩ | ⟨a, b, c, d, e⟩ | ⟨a, b, c, d, e⟩ <;> rcases h2 with ⟨a2, b2, c2⟩ | ⟨a2, b2, c2, d2⟩ | ⟨a2, b2, c2, d2, e2⟩ | ⟨a2, b2, c2, d2, e2⟩ <;>
   first
     | (exfalso; contradiction)
     | (subst_vars; rfl)
     | (exfalso; omega)
theorem nds_nil (n : Nat) (w : World) : ndsN.lies n w [.slice none 0 0] [] := ndsN.olies (Shape.list_nil ndN 27 Tryz.underlying27 cells27 n w)
theorem nds_shape {n : Nat} {w : World} {v : Value} {l : List Nd} (h : ndsN.lies n w [v] l) : ∃ a c, v = .slice a l.length c := by
 obtain ⟨a, cap, he, _⟩ := Shape.list_len (S := ndN) (ht := Tryz.underlying27) (hc := cells27) h
 exact ⟨a, cap, by simpa using he⟩
def Tells (s : St) (ps : List ByteArray) (K : Int) (s' : St) (w : World) (e : Ending) (w' : World) : Prop :=
 (∃ k S a c, e = .returned (.tuple #[.agg #[.slice a S.1.length c, .int .i64 S.2], .int .i64 k]) ∧ ndsN.lies w.heap.size w' [.slice a S.1.length c] S.1 ∧ Told s ps K s' k S) ∧ Below w.heap.size w w'
theorem Changed.tells {s : St} {ps : List ByteArray} {K : Int} {s' : St} {w : World} {e : Ending} {w' : World} (h : Changed s ps K s' w e w') : Tells s ps K s' w e w' := by
 refine ⟨?_, h.2⟩
 rcases h.1 with ⟨k, he, hk⟩ | ⟨v, he, h1, h2, h3, hl⟩
 · refine ⟨k, ([], 0), none, 0, he, nds_nil _ _, ?_⟩
   rcases hk with ⟨a, b⟩ | ⟨a, b, c⟩ | ⟨a, b, c, d⟩
   · exact .inl ⟨a, b, rfl⟩
   · exact .inr (.inl ⟨a, b, c, rfl⟩)
   · exact .inr (.inr (.inl ⟨a, b, c, d, rfl⟩))
 · obtain ⟨a, c, rfl⟩ := nds_shape hl
   exact ⟨0, s', a, c, he, hl, .inr (.inr (.inr ⟨h1, h2, h3, rfl, rfl⟩))⟩
end Go.Proofs.YtopcefhncildnaaGreatDoor
namespace Go.Proofs.YtopcefhncildnaaGreatDoor
open Go.RowKit
open P (ArgT OwnT tv serr sval)
theorem look1_any (G : Nat) (hG : ∀ args w, (callFunc G args).run Tryz.prog w = .ok (.enter G args) w) (c1 : Value) (n0 n1 : Nat) (a : Option Addr) (c : Nat) (s : St) (av : Option Addr) (cv : Nat) (ps : List ByteArray) (hps : ps.length ≤ 2) (w : World) (hA : ndsN.lies n0 w [.slice a s.1.length c] s.1) (hX : ArgT n1 w (.slice av ps.length cv) ps) (hg : Glob w) (R : Option Nat) (k : Int) (Post : World → Prop) (hst : ∀ V V', Post V → Below V.heap.size V V' → Post V')
   (hR : ∀ r, R = some r → 0 < r)
   (hdo : Ok s → psE ps = 0 → ∀ V v2 B, Below w.heap.size w V → Box V B 29 #[.slice a s.1.length c, .int .i64 s.2] → w.heap.size ≤ B → OwnL w.heap.size V v2 ps → Calls Tryz.prog G #[.pointer (some ⟨B, 0, none⟩), v2, c1] V fun e w' => (∃ E, e = .returned E ∧ EV k E) ∧ V.grownBy w' R ∧ Post w') :
   Calls Tryz.prog 86 #[.agg #[.slice a s.1.length c, .int .i64 s.2], .func (.func G) #[] #[c1], .slice av ps.length cv] w fun e w' => ∃ r, e = .returned (.int .i64 r) ∧ ((¬ Ok s ∧ r = 9 ∧ Below w.heap.size w w') ∨ (Ok s ∧ psE ps ≠ 0 ∧ r = psE ps ∧ Below w.heap.size w w') ∨ (Ok s ∧ psE ps = 0 ∧ r = k ∧ w.grownBy w' R ∧ Post w')) := by
 obtain ⟨l, nx⟩ := s
 simp only at hA hdo ⊢
 obtain ⟨W, hW⟩ := exa (w.alloc (.cells #[.slice a l.length c, .int .i64 nx] 29))
 have hbW : Below w.heap.size w W := by rw [hW]; exact (Below.refl _ w).alloc (Nat.le_refl _) _
 have HW : Hid (Below w.heap.size w W ∧ Box W w.heap.size 29 #[.slice a l.length c, .int .i64 nx]) := ⟨hbW, by rw [hW]; exact Box.new _ _ _⟩
 have HC := prepare_any n0 n1 a c (l, nx) av cv ps hps W (ndsN.below hA hbW) (hX.below hbW)
 simp only at HC
 have HG : Hid (Glob w) := hg
 have HDO : Hid (Ok (l, nx) → psE ps = 0 → ∀ V v2 B, Below w.heap.size w V → Box V B 29 #[.slice a l.length c, .int .i64 nx] → w.heap.size ≤ B → OwnL w.heap.size V v2 ps → Calls Tryz.prog G #[.pointer (some ⟨B, 0, none⟩), v2, c1] V fun e w' => (∃ E, e = .returned E ∧ EV k E) ∧ V.grownBy w' R ∧ Post w') := hdo
 have HST : Hid ((∀ V V', Post V → Below V.heap.size V V' → Post V') ∧ ∀ r, R = some r → 0 < r) := ⟨hst, hR⟩
 obtain ⟨post, hpost⟩ : ∃ post : Ending → World → Prop, post = fun e w' => ∃ r, e = .returned (.int .i64 r) ∧ ((¬ Ok (l, nx) ∧ r = 9 ∧ Below w.heap.size w w') ∨ (Ok (l, nx) ∧ psE ps ≠ 0 ∧ r = psE ps ∧ Below w.heap.size w w') ∨ (Ok (l, nx) ∧ psE ps = 0 ∧ r = k ∧ w.grownBy w' R ∧ Post w')) := ⟨_, rfl⟩
 have HPo : Hid ((∀ w', ¬ Ok (l, nx) → Below w.heap.size w w' → post (.returned (.int .i64 9)) w') ∧ (∀ w', Ok (l, nx) → psE ps ≠ 0 → Below w.heap.size w w' → post (.returned (.int .i64 (psE ps))) w') ∧ (∀ w', Ok (l, nx) → psE ps = 0 → w.grownBy w' R → Post w' → post (.returned (.int .i64 k)) w')) :=
   ⟨fun w' h1 h2 => by rw [hpost]; exact ⟨9, rfl, .inl ⟨h1, rfl, h2⟩⟩, fun w' h1 h2 h3 => by rw [hpost]; exact ⟨_, rfl, .inr (.inl ⟨h1, h2, rfl, h3⟩)⟩, fun w' h1 h2 h3 h4 => by rw [hpost]; exact ⟨_, rfl, .inr (.inr ⟨h1, h2, rfl, h3, h4⟩)⟩⟩
 suffices HH : Calls Tryz.prog 86 #[.agg #[.slice a l.length c, .int .i64 nx], .func (.func G) #[] #[c1], .slice av ps.length cv] w fun e w' => post e w' by
   rw [hpost] at HH; exact HH
 obtain ⟨n, hn⟩ := exa (l.length)
 rw [← hn] at HC HW HDO hW ⊢
 obtain ⟨m, hm⟩ := exa (ps.length)
 rw [← hm] at HC ⊢
 obtain ⟨g0, g1, -, -⟩ := HW.out.2.two
 rw [hW] at g0 g1
 clear hA hbW hX hg hst hR hdo hn hm hpost hps
 go_enter Tryz.func86, Tryz.ntmps86
 go_wp2_with fail
 rw [← hW]
 clear hW g0 g1
 refine HC.mono ?_
 rintro e w1 ⟨⟨v, E, rfl, hr⟩, hb1⟩
 have HB1 : Hid (Below w.heap.size w w1 ∧ Box w1 w.heap.size 29 #[.slice a n c, .int .i64 nx]) := ⟨below_any HW.out.1 hb1, HW.out.2.below hb1 HW.out.2.lt⟩
 have HGW : Hid (Glob w1) := HG.out.below HB1.out.1 HG.out.lt
 rcases hr with ⟨ho, hE⟩ | ⟨ho, hp, hE⟩ | ⟨ho, hp, rfl, hL⟩
 · have HO : Hid (¬ Ok (l, nx)) := ho
   rcases hE with ⟨h0, _⟩ | ⟨_, a2, l2, c2, s2, rfl⟩
   · omega
   have hnn := numberOf_ref a2 l2 c2 9 s2 w1 HGW.out
   clear hb1 ho HC
   go_wp2_with fail
   refine hnn.mono ?_
   rintro e w2 ⟨rfl, hb2⟩
   go_wp2
   exact HPo.out.1 _ HO.out (below_any HB1.out.1 hb2)
 · have HO : Hid (Ok (l, nx) ∧ psE ps ≠ 0) := ⟨ho, hp⟩
   generalize psE ps = pe at HPo HO hE HDO
   rcases hE with ⟨h0, _⟩ | ⟨_, a2, l2, c2, s2, rfl⟩
   · exact absurd h0 HO.out.2
   have hnn := numberOf_ref a2 l2 c2 pe s2 w1 HGW.out
   clear hb1 ho hp HC
   go_wp2_with fail
   refine hnn.mono ?_
   rintro e w2 ⟨rfl, hb2⟩
   go_wp2
   exact HPo.out.2.1 _ HO.out.1 HO.out.2 (below_any HB1.out.1 hb2)
 · have HO : Hid (Ok (l, nx) ∧ psE ps = 0) := ⟨ho, hp⟩
   have hL1 : OwnL w.heap.size w1 v ps := by (
 obtain ⟨us, h1, h2⟩ := hL
 exact ⟨us, own_weaken h1 HW.out.1.size, h2.mono fun _ _ h => h.weaken HW.out.1.size⟩)
   have HCD := HDO.out ho hp w1 v w.heap.size HB1.out.1 HB1.out.2 (Nat.le_refl _) hL1
   clear hb1 ho hp hL hL1 HC
   go_wp2_with fail
   refine HCD.mono ?_
   rintro e w2 ⟨⟨E, rfl, hE⟩, hg2, hP2⟩
   have hgg : w.grownBy w2 R := (⟨HB1.out.1.os, HB1.out.1.tape, HB1.out.1.output, HB1.out.1.size, fun j hj _ => HB1.out.1.block j hj⟩ : w.grownBy w1 R).trans hg2
   have H2 : Hid (w.grownBy w2 R ∧ Post w2) := ⟨hgg, hP2⟩
   have HG2 : Hid (Glob w2) := by (
 have h0 := HG.out.lt
 show w2.cell? _ = _
 rw [World.cell?_of_block (a := ⟨0, 0, none⟩) (hgg.block 0 h0 (fun e => by have := HST.out.2 0 e.symm; omega))]
 exact HG.out)
   clear hg2 hP2 hgg HCD
   rcases hE with ⟨rfl, rfl⟩ | ⟨hk, a2, l2, c2, s2, rfl⟩
   · have hnn := numberOf_nil w2
     go_wp2_with fail
     refine hnn.mono ?_
     rintro e w3 ⟨rfl, hb3⟩
     go_wp2
     exact HPo.out.2.2 _ HO.out.1 HO.out.2 (H2.out.1.trans ⟨hb3.os, hb3.tape, hb3.output, hb3.size, fun j hj _ => hb3.block j hj⟩) (HST.out.1 _ _ H2.out.2 hb3)
   · have hnn := numberOf_ref a2 l2 c2 k s2 w2 HG2.out
     clear hk
     go_wp2_with fail
     refine hnn.mono ?_
     rintro e w3 ⟨rfl, hb3⟩
     go_wp2
     exact HPo.out.2.2 _ HO.out.1 HO.out.2 (H2.out.1.trans ⟨hb3.os, hb3.tape, hb3.output, hb3.size, fun j hj _ => hb3.block j hj⟩) (HST.out.1 _ _ H2.out.2 hb3)
theorem look3_any (G : Nat) (hG : ∀ args w, (callFunc G args).run Tryz.prog w = .ok (.enter G args) w) (c1 : Value) (c2 : Value) (c3 : Value) (n0 n1 : Nat) (a : Option Addr) (c : Nat) (s : St) (av : Option Addr) (cv : Nat) (ps : List ByteArray) (hps : ps.length ≤ 2) (w : World) (hA : ndsN.lies n0 w [.slice a s.1.length c] s.1) (hX : ArgT n1 w (.slice av ps.length cv) ps) (hg : Glob w) (R : Option Nat) (k : Int) (Post : World → Prop) (hst : ∀ V V', Post V → Below V.heap.size V V' → Post V')
   (hR : ∀ r, R = some r → 0 < r)
   (hdo : Ok s → psE ps = 0 → ∀ V v2 B, Below w.heap.size w V → Box V B 29 #[.slice a s.1.length c, .int .i64 s.2] → w.heap.size ≤ B → OwnL w.heap.size V v2 ps → Calls Tryz.prog G #[.pointer (some ⟨B, 0, none⟩), v2, c1, c2, c3] V fun e w' => (∃ E, e = .returned E ∧ EV k E) ∧ V.grownBy w' R ∧ Post w') :
   Calls Tryz.prog 86 #[.agg #[.slice a s.1.length c, .int .i64 s.2], .func (.func G) #[] #[c1, c2, c3], .slice av ps.length cv] w fun e w' => ∃ r, e = .returned (.int .i64 r) ∧ ((¬ Ok s ∧ r = 9 ∧ Below w.heap.size w w') ∨ (Ok s ∧ psE ps ≠ 0 ∧ r = psE ps ∧ Below w.heap.size w w') ∨ (Ok s ∧ psE ps = 0 ∧ r = k ∧ w.grownBy w' R ∧ Post w')) := by
 obtain ⟨l, nx⟩ := s
 simp only at hA hdo ⊢
 obtain ⟨W, hW⟩ := exa (w.alloc (.cells #[.slice a l.length c, .int .i64 nx] 29))
 have hbW : Below w.heap.size w W := by rw [hW]; exact (Below.refl _ w).alloc (Nat.le_refl _) _
 have HW : Hid (Below w.heap.size w W ∧ Box W w.heap.size 29 #[.slice a l.length c, .int .i64 nx]) := ⟨hbW, by rw [hW]; exact Box.new _ _ _⟩
 have HC := prepare_any n0 n1 a c (l, nx) av cv ps hps W (ndsN.below hA hbW) (hX.below hbW)
 simp only at HC
 have HG : Hid (Glob w) := hg
 have HDO : Hid (Ok (l, nx) → psE ps = 0 → ∀ V v2 B, Below w.heap.size w V → Box V B 29 #[.slice a l.length c, .int .i64 nx] → w.heap.size ≤ B → OwnL w.heap.size V v2 ps → Calls Tryz.prog G #[.pointer (some ⟨B, 0, none⟩), v2, c1, c2, c3] V fun e w' => (∃ E, e = .returned E ∧ EV k E) ∧ V.grownBy w' R ∧ Post w') := hdo
 have HST : Hid ((∀ V V', Post V → Below V.heap.size V V' → Post V') ∧ ∀ r, R = some r → 0 < r) := ⟨hst, hR⟩
 obtain ⟨post, hpost⟩ : ∃ post : Ending → World → Prop, post = fun e w' => ∃ r, e = .returned (.int .i64 r) ∧ ((¬ Ok (l, nx) ∧ r = 9 ∧ Below w.heap.size w w') ∨ (Ok (l, nx) ∧ psE ps ≠ 0 ∧ r = psE ps ∧ Below w.heap.size w w') ∨ (Ok (l, nx) ∧ psE ps = 0 ∧ r = k ∧ w.grownBy w' R ∧ Post w')) := ⟨_, rfl⟩
 have HPo : Hid ((∀ w', ¬ Ok (l, nx) → Below w.heap.size w w' → post (.returned (.int .i64 9)) w') ∧ (∀ w', Ok (l, nx) → psE ps ≠ 0 → Below w.heap.size w w' → post (.returned (.int .i64 (psE ps))) w') ∧ (∀ w', Ok (l, nx) → psE ps = 0 → w.grownBy w' R → Post w' → post (.returned (.int .i64 k)) w')) :=
   ⟨fun w' h1 h2 => by rw [hpost]; exact ⟨9, rfl, .inl ⟨h1, rfl, h2⟩⟩, fun w' h1 h2 h3 => by rw [hpost]; exact ⟨_, rfl, .inr (.inl ⟨h1, h2, rfl, h3⟩)⟩, fun w' h1 h2 h3 h4 => by rw [hpost]; exact ⟨_, rfl, .inr (.inr ⟨h1, h2, rfl, h3, h4⟩)⟩⟩
 suffices HH : Calls Tryz.prog 86 #[.agg #[.slice a l.length c, .int .i64 nx], .func (.func G) #[] #[c1, c2, c3], .slice av ps.length cv] w fun e w' => post e w' by
   rw [hpost] at HH; exact HH
 obtain ⟨n, hn⟩ := exa (l.length)
 rw [← hn] at HC HW HDO hW ⊢
 obtain ⟨m, hm⟩ := exa (ps.length)
 rw [← hm] at HC ⊢
 obtain ⟨g0, g1, -, -⟩ := HW.out.2.two
 rw [hW] at g0 g1
 clear hA hbW hX hg hst hR hdo hn hm hpost hps
 go_enter Tryz.func86, Tryz.ntmps86
 go_wp2_with fail
 rw [← hW]
 clear hW g0 g1
 refine HC.mono ?_
 rintro e w1 ⟨⟨v, E, rfl, hr⟩, hb1⟩
 have HB1 : Hid (Below w.heap.size w w1 ∧ Box w1 w.heap.size 29 #[.slice a n c, .int .i64 nx]) := ⟨below_any HW.out.1 hb1, HW.out.2.below hb1 HW.out.2.lt⟩
 have HGW : Hid (Glob w1) := HG.out.below HB1.out.1 HG.out.lt
 rcases hr with ⟨ho, hE⟩ | ⟨ho, hp, hE⟩ | ⟨ho, hp, rfl, hL⟩
 · have HO : Hid (¬ Ok (l, nx)) := ho
   rcases hE with ⟨h0, _⟩ | ⟨_, a2, l2, c2, s2, rfl⟩
   · omega
   have hnn := numberOf_ref a2 l2 c2 9 s2 w1 HGW.out
   clear hb1 ho HC
   go_wp2_with fail
   refine hnn.mono ?_
   rintro e w2 ⟨rfl, hb2⟩
   go_wp2
   exact HPo.out.1 _ HO.out (below_any HB1.out.1 hb2)
 · have HO : Hid (Ok (l, nx) ∧ psE ps ≠ 0) := ⟨ho, hp⟩
   generalize psE ps = pe at HPo HO hE HDO
   rcases hE with ⟨h0, _⟩ | ⟨_, a2, l2, c2, s2, rfl⟩
   · exact absurd h0 HO.out.2
   have hnn := numberOf_ref a2 l2 c2 pe s2 w1 HGW.out
   clear hb1 ho hp HC
   go_wp2_with fail
   refine hnn.mono ?_
   rintro e w2 ⟨rfl, hb2⟩
   go_wp2
   exact HPo.out.2.1 _ HO.out.1 HO.out.2 (below_any HB1.out.1 hb2)
 · have HO : Hid (Ok (l, nx) ∧ psE ps = 0) := ⟨ho, hp⟩
   have hL1 : OwnL w.heap.size w1 v ps := by (
 obtain ⟨us, h1, h2⟩ := hL
 exact ⟨us, own_weaken h1 HW.out.1.size, h2.mono fun _ _ h => h.weaken HW.out.1.size⟩)
   have HCD := HDO.out ho hp w1 v w.heap.size HB1.out.1 HB1.out.2 (Nat.le_refl _) hL1
   clear hb1 ho hp hL hL1 HC
   go_wp2_with fail
   refine HCD.mono ?_
   rintro e w2 ⟨⟨E, rfl, hE⟩, hg2, hP2⟩
   have hgg : w.grownBy w2 R := (⟨HB1.out.1.os, HB1.out.1.tape, HB1.out.1.output, HB1.out.1.size, fun j hj _ => HB1.out.1.block j hj⟩ : w.grownBy w1 R).trans hg2
   have H2 : Hid (w.grownBy w2 R ∧ Post w2) := ⟨hgg, hP2⟩
   have HG2 : Hid (Glob w2) := by (
 have h0 := HG.out.lt
 show w2.cell? _ = _
 rw [World.cell?_of_block (a := ⟨0, 0, none⟩) (hgg.block 0 h0 (fun e => by have := HST.out.2 0 e.symm; omega))]
 exact HG.out)
   clear hg2 hP2 hgg HCD
   rcases hE with ⟨rfl, rfl⟩ | ⟨hk, a2, l2, c2, s2, rfl⟩
   · have hnn := numberOf_nil w2
     go_wp2_with fail
     refine hnn.mono ?_
     rintro e w3 ⟨rfl, hb3⟩
     go_wp2
     exact HPo.out.2.2 _ HO.out.1 HO.out.2 (H2.out.1.trans ⟨hb3.os, hb3.tape, hb3.output, hb3.size, fun j hj _ => hb3.block j hj⟩) (HST.out.1 _ _ H2.out.2 hb3)
   · have hnn := numberOf_ref a2 l2 c2 k s2 w2 HG2.out
     clear hk
     go_wp2_with fail
     refine hnn.mono ?_
     rintro e w3 ⟨rfl, hb3⟩
     go_wp2
     exact HPo.out.2.2 _ HO.out.1 HO.out.2 (H2.out.1.trans ⟨hb3.os, hb3.tape, hb3.output, hb3.size, fun j hj _ => hb3.block j hj⟩) (HST.out.1 _ _ H2.out.2 hb3)
end Go.Proofs.YtopcefhncildnaaGreatDoor
namespace Go.Proofs.YtopcefhncildnaaGreatDoor
open Go.RowKit
open P (ArgT OwnT tv serr sval)
def statN (s : St) (xs : List ByteArray) : Nd := if (wlk s.1 1 xs).2 = 0 then tgt s xs else nd0
def HoldsN (N : Nd) (Q : Nat) (w : World) : Prop := ∃ ea ec fa fc, Box w Q 47 #[.int .i64 N.1, .bool (isD N), .int .i64 (lk N), .slice ea (en N).length ec, .int .i64 (fi N).1, .slice fa (fi N).2.length fc]
theorem HoldsN.nil {w : World} {Q : Nat} (h : Box w Q 47 #[.int .i64 0, .bool false, .int .i64 0, .slice none 0 0, .int .i64 0, .slice none 0 0]) : HoldsN nd0 Q w := ⟨none, 0, none, 0, h⟩
theorem HoldsN.below {N : Nd} {Q : Nat} {w w' : World} (h : HoldsN N Q w) (hb : Below w.heap.size w w') : HoldsN N Q w' := by
 obtain ⟨ea, ec, fa, fc, h⟩ := h
 exact ⟨ea, ec, fa, fc, h.below hb h.lt⟩
theorem statDo_any (n0 : Nat) (a : Option Addr) (c : Nat) (s : St) (hK : Wk s) (p : ByteArray) (B Q : Nat) (v2 : Value) (w0 V : World) (hA : ndsN.lies n0 w0 [.slice a s.1.length c] s.1) (hb : Below w0.heap.size w0 V) (hB : Box V B 29 #[.slice a s.1.length c, .int .i64 s.2]) (hL : OwnL w0.heap.size V v2 [p]) (hQ : Box V Q 47 #[.int .i64 0, .bool false, .int .i64 0, .slice none 0 0, .int .i64 0, .slice none 0 0]) :
   Calls Tryz.prog 297 #[.pointer (some ⟨B, 0, none⟩), v2, .pointer (some ⟨Q, 0, none⟩)] V fun e w' => (∃ E, e = .returned E ∧ EV (wlk s.1 1 (sval p)).2 E) ∧ V.grownBy w' (some Q) ∧ HoldsN (statN s (sval p)) Q w' := by
 obtain ⟨pb, po, pa, pc, hix, hpc, hT⟩ := hL.at 0 p rfl
 have hix : ∀ W, (Instr.indexAt 106 v2 (.int .i64 0)).run Tryz.prog W = .ok (.pointer (some ⟨pb, po, none⟩)) W := hix
 have HC := walk_any n0 _ a c s hK pa pc (sval p) V.drew (ndsN.below hA (below_any hb (Below.refl _ V).drew)) (hT.below (Below.refl _ V).drew)
 obtain ⟨g0, g1, -, -⟩ := hB.two
 have HQ : Hid (Box V Q 47 #[.int .i64 0, .bool false, .int .i64 0, .slice none 0 0, .int .i64 0, .slice none 0 0] ∧ Box V B 29 #[.slice a s.1.length c, .int .i64 s.2]) := ⟨hQ, hB⟩
 have HND : Hid ((wlk s.1 1 (sval p)).2 = 0 → ∀ W, Below V.heap.size V W → ∃ b o ea ec fa fc, (W.cell? ⟨b, o, none⟩ = some (.int .i64 (tgt s (sval p)).1) ∧ W.cell? ⟨b, o + 1, none⟩ = some (.bool (isD (tgt s (sval p)))) ∧ W.cell? ⟨b, o + 2, none⟩ = some (.int .i64 (lk (tgt s (sval p)))) ∧ W.cell? ⟨b, o + 3, none⟩ = some (.slice ea (en (tgt s (sval p))).length ec) ∧ W.cell? ⟨b, o + 4, none⟩ = some (.int .i64 (fi (tgt s (sval p))).1) ∧ W.cell? ⟨b, o + 5, none⟩ = some (.slice fa (fi (tgt s (sval p))).2.length fc)) ∧ Calls Tryz.prog 159 #[.agg #[.slice a s.1.length c, .int .i64 s.2], .int .i64 (wlk s.1 1 (sval p)).1] W fun e w' => e = .returned (.pointer (some ⟨b, o, none⟩)) ∧ Below W.heap.size W w') := fun h0 W hW => by (
 obtain ⟨h1, h2, _⟩ := hK.lead h0
 obtain ⟨k, hk⟩ := List.getElem?_of_mem h1
 have hAW := ndsN.below hA (below_any hb hW)
 obtain ⟨b, o, e, f, hix, -, hcs, hLN⟩ := nds_atN hAW k _ hk
 obtain ⟨ea, ec, rfl, -, -⟩ := hLN.1.1.shape
 obtain ⟨fa, fc, hfe, -, -⟩ := Shape.list_len (S := F.bkN) (ht := Tryz.underlying43) (hc := F.cells43) hLN.2.1
 obtain rfl : f = _ := by simpa using hfe
 refine ⟨b, o, ea, ec, fa, fc, nv_cells hcs, ?_⟩
 rw [h2]
 exact node_any n0 _ s.2 s.1 hK.up k _ hk b o W hAW (by have := hK.len; omega) hix)
 have HSN : Hid (statN s (sval p) = if (wlk s.1 1 (sval p)).2 = 0 then tgt s (sval p) else nd0) := rfl
 generalize statN s (sval p) = N at HSN ⊢
 generalize tgt s (sval p) = T at HSN HND
 obtain ⟨ri, hri⟩ := exa ((wlk s.1 1 (sval p)).1)
 obtain ⟨re, hre⟩ := exa ((wlk s.1 1 (sval p)).2)
 rw [← hri, ← hre] at HC HND
 rw [← hre] at HSN ⊢
 obtain ⟨n, hn⟩ := exa (s.1.length)
 obtain ⟨nx, hnx⟩ := exa (s.2)
 obtain ⟨m, hm⟩ := exa ((sval p).length)
 rw [← hn, ← hnx] at HC HQ HND
 rw [← hm] at HC
 rw [← hn] at g0
 rw [← hnx] at g1
 rw [← hm] at hpc
 have HS0 : V.drew.cell? ⟨B, 0, none⟩ = some (.slice a n c) ∧ V.drew.cell? ⟨B, 1, none⟩ = some (.int .i64 nx) ∧ V.drew.cell? ⟨pb, po, none⟩ = some (.slice pa m pc) := ⟨g0, g1, hpc⟩
 obtain ⟨post, hpost⟩ : ∃ post : Ending → World → Prop, post = fun e w' => (∃ E, e = .returned E ∧ EV re E) ∧ V.grownBy w' (some Q) ∧ HoldsN N Q w' := ⟨_, rfl⟩
 have HPo : Hid (∀ E w', EV re E → V.grownBy w' (some Q) → HoldsN N Q w' → post (.returned E) w') := fun E w' h1 h2 h3 => by rw [hpost]; exact ⟨⟨_, rfl, h1⟩, h2, h3⟩
 rw [← hpost]
 clear hA hb hB hL hQ hT hri hre hn hnx hm hK hpost
 go_enter Tryz.func297, Tryz.ntmps297
 go_wp2
 go_region_held3 (fun U => U.cell? ⟨B, 0, none⟩ = some (.slice a n c) ∧ U.cell? ⟨B, 1, none⟩ = some (.int .i64 nx) ∧ U.cell? ⟨pb, po, none⟩ = some (.slice pa m pc))
   (first | with_reducible exact HS1 | with_reducible exact HS0)
   ((first | (go_at_call 158; refine HC.mono ?_; rintro e w1 ⟨⟨E, rfl, hE⟩, hb1⟩; have HS1 : w1.cell? ⟨B, 0, none⟩ = some (.slice a n c) ∧ w1.cell? ⟨B, 1, none⟩ = some (.int .i64 nx) ∧ w1.cell? ⟨pb, po, none⟩ = some (.slice pa m pc) := ⟨by rw [hb1.cell (p := ⟨B, 0, none⟩) (cell_lt HS0.1)]; exact HS0.1, by rw [hb1.cell (p := ⟨B, 1, none⟩) (cell_lt HS0.2.1)]; exact HS0.2.1, by rw [hb1.cell (p := ⟨pb, po, none⟩) (cell_lt HS0.2.2)]; exact HS0.2.2⟩)))
 have HBL : Hid (Below V.heap.size V w1) := below_any (Below.refl _ V).drew hb1
 clear hb1 HS0 g0 g1 HC hpc
 by_cases hz : re = 0
 · have hN : N = T := by rw [HSN.out, if_pos hz]
   subst hN
   subst hz
   obtain rfl : E = .nilIface := by (
 rcases hE with ⟨_, h⟩ | ⟨h, _⟩
 · exact h
 · exact absurd rfl h)
   obtain ⟨b, o, ea, ec, fa, fc, hcs, HCN⟩ := HND.out (by simp) w1 HBL.out
   obtain ⟨x0, x1, -⟩ := HS1
   have HCS : Hid (w1.cell? ⟨b, o, none⟩ = some (.int .i64 N.1) ∧ w1.cell? ⟨b, o + 1, none⟩ = some (.bool (isD N)) ∧ w1.cell? ⟨b, o + 2, none⟩ = some (.int .i64 (lk N)) ∧ w1.cell? ⟨b, o + 3, none⟩ = some (.slice ea (en N).length ec) ∧ w1.cell? ⟨b, o + 4, none⟩ = some (.int .i64 (fi N).1) ∧ w1.cell? ⟨b, o + 5, none⟩ = some (.slice fa (fi N).2.length fc)) := hcs
   clear hE hcs
   go_wp2_with fail
   refine HCN.mono ?_
   rintro e2 w2 ⟨rfl, hb2⟩
   have kc : ∀ {x : Addr} {u : Value}, w1.cell? x = some u → w2.cell? x = some u := fun h => by rw [hb2.cell (cell_lt h)]; exact h
   obtain ⟨y0, y1, y2, y3, y4, y5⟩ := HCS.out
   replace y0 := kc y0
   replace y1 := kc y1
   replace y2 := kc y2
   replace y3 := kc y3
   replace y4 := kc y4
   replace y5 := kc y5
   have hQ2 := HQ.out.1.below (below_any HBL.out hb2) HQ.out.1.lt
   have HQ2 : Hid (Box w2 Q 47 #[.int .i64 0, .bool false, .int .i64 0, .slice none 0 0, .int .i64 0, .slice none 0 0] ∧ Below V.heap.size V w2) := ⟨hQ2, below_any HBL.out hb2⟩
   obtain ⟨z0, z1, z2, z3, z4, z5⟩ := hQ2.six
   have f0 := hQ2.frozen 0
   have f1 := hQ2.frozen 1
   have f2 := hQ2.frozen 2
   have f3 := hQ2.frozen 3
   have f4 := hQ2.frozen 4
   have f5 := hQ2.frozen 5
   have HHN : Hid (∀ w', Box w' Q 47 #[.int .i64 N.1, .bool (isD N), .int .i64 (lk N), .slice ea (en N).length ec, .int .i64 (fi N).1, .slice fa (fi N).2.length fc] → HoldsN N Q w') := fun w' h => ⟨ea, ec, fa, fc, h⟩
   generalize N.1 = v0 at y0 HHN
   generalize isD N = v1 at y1 HHN
   generalize lk N = v2' at y2 HHN
   generalize (en N).length = v3 at y3 HHN
   generalize (fi N).1 = v4 at y4 HHN
   generalize (fi N).2.length = v5 at y5 HHN
   clear kc hQ2 hb2 HCN x0 x1 HCS HND HSN
   go_wp2
   refine HPo.out _ _ ev_nil ?_ (HHN.out _ ?_)
   · exact ((((((grown_below HQ2.out.2 _).trans (grown_set _ _ _ _)).trans (grown_set _ _ _ _)).trans (grown_set _ _ _ _)).trans (grown_set _ _ _ _)).trans (grown_set _ _ _ _)).trans (grown_set _ _ _ _)
   · exact (((((HQ2.out.1.set 0 _).set 1 _).set 2 _).set 3 _).set 4 _).set 5 _
 · have hN : N = nd0 := by rw [HSN.out, if_neg hz]
   have HN : Hid (HoldsN N Q w1) := by rw [hN]; exact HoldsN.nil (HQ.out.1.below HBL.out HQ.out.1.lt)
   have HE : Hid (EV re E) := hE
   obtain ⟨a2, l2, c2, s2, rfl⟩ : ∃ a2 l2 c2 s2, E = refV (.slice a2 l2 c2) re s2 := by (
 rcases hE with ⟨h, _⟩ | ⟨_, a2, l2, c2, s2, h⟩
 · exact absurd h hz
 · exact ⟨a2, l2, c2, s2, h⟩)
   clear hE hz hN HS1
   go_wp2
   exact HPo.out _ _ HE.out (grown_below HBL.out _) HN.out
theorem statN_small {s : St} (h : Ok s) (xs : List ByteArray) : 0 ≤ (fi (statN s xs)).1 ∧ (fi (statN s xs)).1 + ((en (statN s xs)).length : Int) ≤ 4096 := by
 unfold statN
 split
 · rename_i h0
   obtain ⟨h1, _, _⟩ := h.wk.lead h0
   cases hd : isD (tgt s xs)
   · obtain ⟨h2, h3⟩ := h.wk.files _ h1 hd
     have := (F.chk_iff.1 h3).1
     rw [h2]
     simp only [List.length_nil]
     omega
   · obtain ⟨h2, h3⟩ := h.wk.dirs _ h1 hd
     have := h2.1
     rw [h3]
     simp only
     omega
 · decide
theorem Stat_any (n0 : Nat) (a : Option Addr) (c : Nat) (s : St) (p : ByteArray) (hp : p.size ≤ maxLen) (w : World) (hA : ndsN.lies n0 w [.slice a s.1.length c] s.1) (hg : Glob w) :
   Calls Tryz.prog 246 #[.agg #[.slice a s.1.length c, .int .i64 s.2], .string p] w fun e w' => (∃ N k, e = .returned (.tuple #[.int .i64 N.1, .bool (isD N), .int .i64 ((fi N).1 + ((en N).length : Int)), .int .i64 (lk N), .int .i64 k]) ∧ ((¬ Ok s ∧ N = nd0 ∧ k = 9) ∨ (Ok s ∧ serr p ≠ 0 ∧ N = nd0 ∧ k = serr p) ∨ (Ok s ∧ serr p = 0 ∧ N = statN s (sval p) ∧ k = (wlk s.1 1 (sval p)).2))) ∧ Below w.heap.size w w' := by
 obtain ⟨l, nx⟩ := s
 simp only at hA ⊢
 obtain ⟨W1, hW1⟩ := exa (w.alloc (.cells #[.slice a l.length c, .int .i64 nx] 29))
 obtain ⟨W2, hW2⟩ := exa (W1.alloc (.cells #[.int .i64 0, .bool false, .int .i64 0, .slice none 0 0, .int .i64 0, .slice none 0 0] 47))
 obtain ⟨W3, hW3⟩ := exa (W2.alloc (.cells #[.string p] 9))
 have hb1 : Below w.heap.size w W1 := by rw [hW1]; exact (Below.refl _ w).alloc (Nat.le_refl _) _
 have hb2 : Below w.heap.size w W2 := by rw [hW2]; exact hb1.alloc hb1.size _
 have hb3 : Below w.heap.size w W3 := by rw [hW3]; exact hb2.alloc hb2.size _
 obtain ⟨Q, hQ⟩ := exa (W1.heap.size)
 have hBQ : Box W3 Q 47 #[.int .i64 0, .bool false, .int .i64 0, .slice none 0 0, .int .i64 0, .slice none 0 0] := by rw [hW3, hW2, hQ]; exact (Box.new _ _ _).alloc _
 have hBS : Box W1 w.heap.size 29 #[.slice a l.length c, .int .i64 nx] := by rw [hW1]; exact Box.new _ _ _
 have hBT : Box W3 W2.heap.size 9 #[.string p] := by rw [hW3]; exact Box.new _ _ _
 have hX : ArgT w.heap.size W3 (.slice (some ⟨W2.heap.size, 0, none⟩) 1 1) [p] := argT_box (ps := [p]) hBT hb2.size (by simp [maxLen]) fun q hq => by rw [List.mem_singleton.1 hq]; exact hp
 have HC := look1_any 297 Tryz.call297 (.pointer (some ⟨Q, 0, none⟩)) n0 w.heap.size a c (l, nx) (some ⟨W2.heap.size, 0, none⟩) 1 [p] (by simp) W3 (ndsN.below hA hb3) hX (hg.below hb3 hg.lt) (some Q) (wlk l 1 (sval p)).2 (HoldsN (statN (l, nx) (sval p)) Q) (fun V V' h hb => h.below hb)
   (fun r hr => by cases hr; have := hg.lt; have := hb1.size; omega)
   (fun hok _ V v2 B hbV hB hBl hL => statDo_any n0 a c (l, nx) hok.wk p B Q v2 W3 V (ndsN.below hA hb3) hbV hB hL (hBQ.below hbV hBQ.lt))
 simp only at HC
 have HSM : Hid (Ok (l, nx) → 0 ≤ (fi (statN (l, nx) (sval p))).1 ∧ (fi (statN (l, nx) (sval p))).1 + ((en (statN (l, nx) (sval p))).length : Int) ≤ 4096) := fun h => statN_small h (sval p)
 obtain ⟨post, hpost⟩ : ∃ post : Ending → World → Prop, post = fun e w' => (∃ N k, e = .returned (.tuple #[.int .i64 N.1, .bool (isD N), .int .i64 ((fi N).1 + ((en N).length : Int)), .int .i64 (lk N), .int .i64 k]) ∧ ((¬ Ok (l, nx) ∧ N = nd0 ∧ k = 9) ∨ (Ok (l, nx) ∧ serr p ≠ 0 ∧ N = nd0 ∧ k = serr p) ∨ (Ok (l, nx) ∧ serr p = 0 ∧ N = statN (l, nx) (sval p) ∧ k = (wlk l 1 (sval p)).2))) ∧ Below w.heap.size w w' := ⟨_, rfl⟩
 have HPo : Hid (∀ N k w', ((¬ Ok (l, nx) ∧ N = nd0 ∧ k = 9) ∨ (Ok (l, nx) ∧ serr p ≠ 0 ∧ N = nd0 ∧ k = serr p) ∨ (Ok (l, nx) ∧ serr p = 0 ∧ N = statN (l, nx) (sval p) ∧ k = (wlk l 1 (sval p)).2)) → Below w.heap.size w w' → post (.returned (.tuple #[.int .i64 N.1, .bool (isD N), .int .i64 ((fi N).1 + ((en N).length : Int)), .int .i64 (lk N), .int .i64 k])) w') := fun N k w' h1 h2 => by rw [hpost]; exact ⟨⟨N, k, rfl, h1⟩, h2⟩
 rw [← hpost]
 have hps : psE [p] = serr p := by rw [psE]; split <;> simp_all [psE]
 rw [hps] at HC
 have HB : Hid (Below w.heap.size w W3 ∧ Box W3 Q 47 #[.int .i64 0, .bool false, .int .i64 0, .slice none 0 0, .int .i64 0, .slice none 0 0] ∧ w.heap.size ≤ Q) := ⟨hb3, hBQ, by rw [hQ]; exact hb1.size⟩
 obtain ⟨n, hn⟩ := exa (l.length)
 rw [← hn] at HC hW1 hBS ⊢
 obtain ⟨g0, g1, -, -⟩ := hBS.two
 have g0' : W2.cell? ⟨w.heap.size, 0, none⟩ = some (.slice a n c) := by
   have : Box W2 w.heap.size 29 #[.slice a n c, .int .i64 nx] := by rw [hW2]; exact hBS.alloc _
   exact this.two.1
 have g1' : W2.cell? ⟨w.heap.size, 1, none⟩ = some (.int .i64 nx) := by
   have : Box W2 w.heap.size 29 #[.slice a n c, .int .i64 nx] := by rw [hW2]; exact hBS.alloc _
   exact this.two.2.1
 have hs1 : W1.heap.size = w.heap.size + 1 := by rw [hW1]; exact Array.size_push _
 have hs2 : W2.heap.size = w.heap.size + 1 + 1 := by rw [hW2, ← hs1]; exact Array.size_push _
 rw [hs1] at hQ
 rw [hs2] at HC
 subst hQ
 rw [hW2, hW1] at g0' g1'
 clear hA hg hp hb1 hb2 hb3 hBQ hBS hBT hX hps hn hpost g0 g1 hs1 hs2
 go_enter Tryz.func246, Tryz.ntmps246
 go_wp2_with fail
 rw [← hW1, ← hW2, ← hW3]
 clear hW1 hW2 hW3 g0' g1'
 generalize statN (l, nx) (sval p) = SN at HC HPo HSM
 generalize (wlk l 1 (sval p)).2 = wk at HC HPo
 generalize serr p = pe at HC HPo
 refine HC.mono ?_
 rintro e w4 ⟨r, rfl, hr⟩
 have hq : ∃ N, HoldsN N (w.heap.size + 1) w4 ∧ Below w.heap.size w w4 ∧ ((¬ Ok (l, nx) ∧ N = nd0 ∧ r = 9) ∨ (Ok (l, nx) ∧ pe ≠ 0 ∧ N = nd0 ∧ r = pe) ∨ (Ok (l, nx) ∧ pe = 0 ∧ N = SN ∧ r = wk)) ∧ 0 ≤ (fi N).1 ∧ (fi N).1 + ((en N).length : Int) ≤ 4096 := by (
 rcases hr with ⟨h1, h2, h3⟩ | ⟨h1, h2, h3, h4⟩ | ⟨h1, h2, h3, h4, h5⟩
 · exact ⟨nd0, HoldsN.nil (HB.out.2.1.below h3 HB.out.2.1.lt), below_any HB.out.1 h3, .inl ⟨h1, rfl, h2⟩, by decide, by decide⟩
 · exact ⟨nd0, HoldsN.nil (HB.out.2.1.below h4 HB.out.2.1.lt), below_any HB.out.1 h4, .inr (.inl ⟨h1, h2, rfl, h3⟩), by decide, by decide⟩
 · exact ⟨_, h5, HB.out.1.grown h4 HB.out.1.size (fun k hk => by cases hk; omega), .inr (.inr ⟨h1, h2, rfl, h3⟩), HSM.out h1⟩)
 obtain ⟨N, ⟨ea, ec, fa, fc, hz⟩, hbz, hrz, hs0, hs1⟩ := hq
 obtain ⟨q0, q1, q2, q3, q4, q5⟩ := hz.six
 have HF : Hid (Below w.heap.size w w4 ∧ ((¬ Ok (l, nx) ∧ N = nd0 ∧ r = 9) ∨ (Ok (l, nx) ∧ pe ≠ 0 ∧ N = nd0 ∧ r = pe) ∨ (Ok (l, nx) ∧ pe = 0 ∧ N = SN ∧ r = wk))) := ⟨hbz, hrz⟩
 have HP := HPo.out N r
 have hlen := run_len Tryz.underlying42 ea (en N).length ec
 have HP2 : Hid (∀ w', Below w.heap.size w w' → post (.returned (.tuple #[.int .i64 N.1, .bool (isD N), .int .i64 ((fi N).1 + ((en N).length : Int)), .int .i64 (lk N), .int .i64 r])) w') := fun w' h => HPo.out N r w' HF.out.2 h
 generalize N.1 = v0 at q0 HP2
 generalize isD N = v1 at q1 HP2
 generalize lk N = v2 at q2 HP2
 generalize (en N).length = v3 at q3 HP2 hs1 hlen
 generalize (fi N).1 = v4 at q4 HP2 hs0 hs1
 clear hz hbz hrz hr HC HP q5
 go_wp2
 go_quiet (fail)
 go_wp2
 refine bodyPost_ret (v := .tuple #[.int .i64 v0, .bool v1, .int .i64 (v4 + (v3 : Int)), .int .i64 v2, .int .i64 r]) (by simp [results, Tryz.results246, go_sem, *]) rfl (HP2.out _ (below_drewN HF.out.1 _))
end Go.Proofs.YtopcefhncildnaaGreatDoor
namespace Go.Proofs.YtopcefhncildnaaGreatDoor
open Go.RowKit
open F (Fl flN bksN rdE rdO)
open P (ArgT OwnT tv serr sval)
def frE (s : St) (xs : List ByteArray) (off n : Int) : Int := if filE s.1 xs ≠ 0 then filE s.1 xs else rdE (fi (tgt s xs)) off n
def frO (s : St) (xs : List ByteArray) (off n : Int) : List Int := if filE s.1 xs ≠ 0 then [] else rdO (fi (tgt s xs)) off n
def HoldsO (base : Nat) (O : List Int) (Q : Nat) (w : World) : Prop := ∃ a c, Box w Q 25 #[.slice a O.length c] ∧ Arg base w (.slice a O.length c) O
theorem HoldsO.below {base : Nat} {O : List Int} {Q : Nat} {w w' : World} (h : HoldsO base O Q w) (hb : Below w.heap.size w w') : HoldsO base O Q w' := by
 obtain ⟨a, c, h1, h2⟩ := h
 exact ⟨a, c, h1.below hb h1.lt, h2.below hb⟩
theorem HoldsO.nil {base : Nat} {w : World} {Q : Nat} (h : Box w Q 25 #[.slice none 0 0]) : HoldsO base [] Q w := ⟨none, 0, h, .mk ⟨rfl, .inl ⟨rfl, rfl⟩⟩ (fun _ h => by cases h)⟩
theorem OwnL.at2 {base : Nat} {w : World} {v : Value} {ps : List ByteArray} (h : OwnL base w v ps) (i : Nat) (p : ByteArray) (hp : ps[i]? = some p) :
   ∃ b o a c, (∀ W, (Instr.indexAt 106 v (.int .i64 i)).run Tryz.prog W = .ok (.pointer (some ⟨b, o, none⟩)) W) ∧ w.cell? ⟨b, o, none⟩ = some (.slice a (sval p).length c) ∧ ArgT base w (.slice a (sval p).length c) (sval p) ∧ base ≤ b := by
 obtain ⟨us, h1, h2⟩ := h
 obtain ⟨u, hu, hT⟩ := h2.get hp
 obtain ⟨a, c, rfl⟩ := hT.shape
 obtain ⟨i0, hi0, _, hz, _⟩ := info_parts Tryz.info57
 have hC : Cells base w 1 v ps.length us := .own h1
 obtain ⟨b, o, hix, hb, hc⟩ := hC.index (by omega) Tryz.underlying106 hi0 hz i (List.getElem?_eq_some_iff.1 hp).1
 exact ⟨b, o, a, c, hix, hc 0 _ (by simpa using hu), hT.arg, hb⟩
theorem read_split {fe wi : Int} {l : List Nd} {v : Value} {e : Ending} (h : (fe ≠ 0 ∧ (∃ E, e = .returned (.tuple #[.pointer none, E]) ∧ EV fe E)) ∨ (fe = 0 ∧ ∃ k p b o, l[k]? = some p ∧ p.1 = wi ∧ (∀ W, (Instr.indexAt 27 v (.int .i64 (k : Nat))).run Tryz.prog W = .ok (.pointer (some ⟨b, o, none⟩)) W) ∧ e = .returned (.tuple #[.pointer (some ⟨b, o, none⟩), .nilIface]))) :
   ∃ R1 R2, e = .returned (.tuple #[R1, R2]) ∧ ((fe ≠ 0 ∧ R1 = .pointer none ∧ EV fe R2) ∨ (fe = 0 ∧ R2 = .nilIface ∧ ∃ k q b o, l[k]? = some q ∧ q.1 = wi ∧ (∀ W, (Instr.indexAt 27 v (.int .i64 (k : Nat))).run Tryz.prog W = .ok (.pointer (some ⟨b, o, none⟩)) W) ∧ R1 = .pointer (some ⟨b, o, none⟩))) := by
 rcases h with ⟨h0, E, rfl, h⟩ | ⟨h0, k, p, b, o, h1, h2, h3, rfl⟩
 · exact ⟨_, _, rfl, .inl ⟨h0, rfl, h⟩⟩
 · exact ⟨_, _, rfl, .inr ⟨h0, rfl, k, p, b, o, h1, h2, h3, rfl⟩⟩
theorem readDo_any (n0 : Nat) (a : Option Addr) (c : Nat) (s : St) (hK : Wk s) (p : ByteArray) (off nn : Int) (ho : I64 off) (hn : I64 nn) (B Q1 Q2 Q : Nat) (v2 : Value) (w0 V : World) (hA : ndsN.lies n0 w0 [.slice a s.1.length c] s.1) (hb : Below w0.heap.size w0 V) (hB : Box V B 29 #[.slice a s.1.length c, .int .i64 s.2]) (hL : OwnL w0.heap.size V v2 [p]) (hQ1 : Box V Q1 3 #[.int .i64 off]) (hQ2 : Box V Q2 3 #[.int .i64 nn]) (hQ : Box V Q 25 #[.slice none 0 0]) (hQw : Q < w0.heap.size) :
   Calls Tryz.prog 87 #[.pointer (some ⟨B, 0, none⟩), v2, .pointer (some ⟨Q1, 0, none⟩), .pointer (some ⟨Q2, 0, none⟩), .pointer (some ⟨Q, 0, none⟩)] V fun e w' => (∃ E, e = .returned E ∧ EV (frE s (sval p) off nn) E) ∧ V.grownBy w' (some Q) ∧ HoldsO w0.heap.size (frO s (sval p) off nn) Q w' := by
 obtain ⟨pb, po, pa, pc, hix, hpc, hT, hpb⟩ := hL.at2 0 p rfl
 have HPB : Hid (w0.heap.size ≤ pb) := hpb
 have hix : ∀ W, (Instr.indexAt 106 v2 (.int .i64 0)).run Tryz.prog W = .ok (.pointer (some ⟨pb, po, none⟩)) W := hix
 have HC := findFile_any n0 _ a c s hK pa pc (sval p) V.drew (ndsN.below hA (below_any hb (Below.refl _ V).drew)) (hT.below (Below.refl _ V).drew)
 obtain ⟨g0, g1, -, -⟩ := hB.two
 have HQ : Hid (Box V Q 25 #[.slice none 0 0] ∧ Box V Q1 3 #[.int .i64 off] ∧ Box V Q2 3 #[.int .i64 nn] ∧ Q < w0.heap.size ∧ w0.heap.size ≤ V.heap.size ∧ V.cell? ⟨pb, po, none⟩ = some (.slice pa (sval p).length pc)) := ⟨hQ, hQ1, hQ2, hQw, hb.size, hpc⟩
 have HNN : Hid (filE s.1 (sval p) = 0 → (wlk s.1 1 (sval p)).1 = (tgt s (sval p)).1 ∧ ∀ q ∈ s.1, q.1 = (tgt s (sval p)).1 → q = tgt s (sval p)) := fun h0 => by (
 have hl := hK.lead (fil_zero h0).1
 refine ⟨hl.2.1, fun q hq he => ?_⟩
 have h1 := gt_of hK.up hq
 have h2 := gt_of hK.up hl.1
 rw [← h1, he, h2])
 have HAV : Hid (∀ W, Below V.heap.size V W → ndsN.lies n0 W [.slice a s.1.length c] s.1) := fun W hW => ndsN.below hA (below_any hb hW)
 have HRE : Hid (frE s (sval p) off nn = (if filE s.1 (sval p) ≠ 0 then filE s.1 (sval p) else rdE (fi (tgt s (sval p))) off nn) ∧ frO s (sval p) off nn = (if filE s.1 (sval p) ≠ 0 then [] else rdO (fi (tgt s (sval p))) off nn) ∧ I64 off ∧ I64 nn) := ⟨rfl, rfl, ho, hn⟩
 generalize frE s (sval p) off nn = re at HRE ⊢
 generalize frO s (sval p) off nn = ro at HRE ⊢
 generalize tgt s (sval p) = T at HNN HRE
 generalize (wlk s.1 1 (sval p)).1 = wi at HC HNN
 generalize filE s.1 (sval p) = fe at HC HNN HRE
 obtain ⟨n, hn'⟩ := exa (s.1.length)
 obtain ⟨nx, hnx⟩ := exa (s.2)
 obtain ⟨m, hm⟩ := exa ((sval p).length)
 obtain ⟨l, hl⟩ := exa (s.1)
 rw [← hn', ← hnx, ← hm, ← hl] at HC
 rw [← hn', ← hl] at HAV
 rw [← hl] at HNN
 rw [← hm] at HQ hpc
 rw [← hn'] at g0
 rw [← hnx] at g1
 have HS0 : V.drew.cell? ⟨B, 0, none⟩ = some (.slice a n c) ∧ V.drew.cell? ⟨B, 1, none⟩ = some (.int .i64 nx) ∧ V.drew.cell? ⟨pb, po, none⟩ = some (.slice pa m pc) := ⟨g0, g1, hpc⟩
 obtain ⟨post, hpost⟩ : ∃ post : Ending → World → Prop, post = fun e w' => (∃ E, e = .returned E ∧ EV re E) ∧ V.grownBy w' (some Q) ∧ HoldsO w0.heap.size ro Q w' := ⟨_, rfl⟩
 have HPo : Hid (∀ E w', EV re E → V.grownBy w' (some Q) → HoldsO w0.heap.size ro Q w' → post (.returned E) w') := fun E w' h1 h2 h3 => by rw [hpost]; exact ⟨⟨_, rfl, h1⟩, h2, h3⟩
 rw [← hpost]
 clear hA hb hB hL hQ hQ1 hQ2 hT hpb hn' hnx hm hl hK hpost ho hn hQw
 go_enter Tryz.func87, Tryz.ntmps87
 go_wp2
 go_region_held3 (fun U => U.cell? ⟨B, 0, none⟩ = some (.slice a n c) ∧ U.cell? ⟨B, 1, none⟩ = some (.int .i64 nx) ∧ U.cell? ⟨pb, po, none⟩ = some (.slice pa m pc))
   (first | with_reducible exact HS1 | with_reducible exact HS0)
   ((first | (go_at_call 88; refine HC.mono ?_; rintro e w1 ⟨hr, hb1⟩; have HS1 : w1.cell? ⟨B, 0, none⟩ = some (.slice a n c) ∧ w1.cell? ⟨B, 1, none⟩ = some (.int .i64 nx) ∧ w1.cell? ⟨pb, po, none⟩ = some (.slice pa m pc) := ⟨by rw [hb1.cell (p := ⟨B, 0, none⟩) (cell_lt HS0.1)]; exact HS0.1, by rw [hb1.cell (p := ⟨B, 1, none⟩) (cell_lt HS0.2.1)]; exact HS0.2.1, by rw [hb1.cell (p := ⟨pb, po, none⟩) (cell_lt HS0.2.2)]; exact HS0.2.2⟩; obtain ⟨R1, R2, rfl, hr2⟩ : ∃ R1 R2, e = .returned (.tuple #[R1, R2]) ∧ ((fe ≠ 0 ∧ R1 = .pointer none ∧ EV fe R2) ∨ (fe = 0 ∧ R2 = .nilIface ∧ ∃ k q b o, l[k]? = some q ∧ q.1 = wi ∧ (∀ W, (Instr.indexAt 27 (.slice a n c) (.int .i64 (k : Nat))).run Tryz.prog W = .ok (.pointer (some ⟨b, o, none⟩)) W) ∧ R1 = .pointer (some ⟨b, o, none⟩))) := read_split hr)))
 have HBL : Hid (Below V.heap.size V w1) := below_any (Below.refl _ V).drew hb1
 have HPC : Hid (w1.cell? ⟨pb, po, none⟩ = some (.slice pa m pc)) := HS1.2.2
 clear hb1 HS0 HS1 g0 g1 HC hpc hr
 rcases hr2 with ⟨hne, rfl, hE⟩ | ⟨h0, rfl, k, q, b, o, hk, hqw, hixq, rfl⟩
 · have hre : re = fe := by rw [HRE.out.1, if_pos hne]
   have hro : ro = [] := by rw [HRE.out.2.1, if_pos hne]
   have HE : Hid (EV re R2 ∧ HoldsO w0.heap.size ro Q w1) := ⟨by rw [hre]; exact hE, by rw [hro]; exact HoldsO.nil (HQ.out.1.below HBL.out HQ.out.1.lt)⟩
   obtain ⟨a2, l2, c2, s2, rfl⟩ : ∃ a2 l2 c2 s2, R2 = refV (.slice a2 l2 c2) fe s2 := by (
 rcases hE with ⟨h, _⟩ | ⟨_, a2, l2, c2, s2, h⟩
 · exact absurd h hne
 · exact ⟨a2, l2, c2, s2, h⟩)
   clear hE hne hre hro
   go_wp2
   exact HPo.out _ _ HE.out.1 (grown_below HBL.out _) HE.out.2
 subst h0
 have hqT : q = T := (HNN.out rfl).2 q (List.mem_of_getElem? hk) (hqw.trans (HNN.out rfl).1)
 subst hqT
 obtain ⟨b', o', e', f', hix', -, hcs, hLN⟩ := nds_atN (HAV.out w1 HBL.out) k q hk
 have hbo := (hix' w1).symm.trans (hixq w1)
 simp only [Result.ok.injEq, Value.pointer.injEq, Option.some.injEq, Addr.mk.injEq, and_true] at hbo
 obtain ⟨rfl, rfl⟩ := hbo
 obtain ⟨fa, fc, hfe, -, -⟩ := Shape.list_len (S := F.bkN) (ht := Tryz.underlying43) (hc := F.cells43) hLN.2.1
 obtain rfl : f' = _ := by simpa using hfe
 obtain ⟨-, -, -, -, c4, c5⟩ := nv_cells hcs
 have HCR := F.read_any n0 _ (fi q) off nn w1.drew (flN.below hLN.file (Below.refl _ w1).drew) HRE.out.2.2.1 HRE.out.2.2.2
 have HR2 : Hid (re = rdE (fi q) off nn ∧ ro = rdO (fi q) off nn) := by (
 have h1 := HRE.out.1
 have h2 := HRE.out.2.1
 rw [if_neg (by decide)] at h1 h2
 exact ⟨h1, h2⟩)
 have q1 := (HQ.out.2.1.below HBL.out HQ.out.2.1.lt).cell 0 rfl
 have q2 := (HQ.out.2.2.1.below HBL.out HQ.out.2.2.1.lt).cell 0 rfl
 generalize (fi q).1 = z0 at c4 HCR
 generalize (fi q).2.length = l0 at c5 HCR
 generalize rdE (fi q) off nn = rke at HCR HR2
 generalize rdO (fi q) off nn = rko at HCR HR2
 have HS0 : w1.drew.cell? ⟨b', o' + 4, none⟩ = some (.int .i64 z0) ∧ w1.drew.cell? ⟨b', o' + 4 + 1, none⟩ = some (.slice fa l0 fc) ∧ w1.drew.cell? ⟨Q1, 0, none⟩ = some (.int .i64 off) ∧ w1.drew.cell? ⟨Q2, 0, none⟩ = some (.int .i64 nn) := ⟨c4, c5, q1, q2⟩
 clear hcs hLN hfe hix' hixq hqw hk c4 c5 q1 q2
 go_wp2
 go_region_held3 (fun U => U.cell? ⟨b', o' + 4, none⟩ = some (.int .i64 z0) ∧ U.cell? ⟨b', o' + 4 + 1, none⟩ = some (.slice fa l0 fc) ∧ U.cell? ⟨Q1, 0, none⟩ = some (.int .i64 off) ∧ U.cell? ⟨Q2, 0, none⟩ = some (.int .i64 nn))
   (first | with_reducible exact HS1 | with_reducible exact HS0)
   ((first | (go_at_call 89; refine HCR.mono ?_; rintro e2 w2 ⟨⟨v3, rfl, hv3⟩, hb2⟩; have HS1 : w2.cell? ⟨b', o' + 4, none⟩ = some (.int .i64 z0) ∧ w2.cell? ⟨b', o' + 4 + 1, none⟩ = some (.slice fa l0 fc) ∧ w2.cell? ⟨Q1, 0, none⟩ = some (.int .i64 off) ∧ w2.cell? ⟨Q2, 0, none⟩ = some (.int .i64 nn) := ⟨by rw [hb2.cell (cell_lt HS0.1)]; exact HS0.1, by rw [hb2.cell (cell_lt HS0.2.1)]; exact HS0.2.1, by rw [hb2.cell (cell_lt HS0.2.2.1)]; exact HS0.2.2.1, by rw [hb2.cell (cell_lt HS0.2.2.2)]; exact HS0.2.2.2⟩)))
 obtain ⟨ra, rc, rfl, -, -, -⟩ := hv3.shape
 have HB2 : Hid (Below V.heap.size V w2) := below_any HBL.out (below_any (Below.refl _ w1).drew hb2)
 have hQ2 := HQ.out.1.below HB2.out HQ.out.1.lt
 have HF : Hid (HoldsO w0.heap.size ro Q (w2.setCell ⟨Q, 0, none⟩ (.slice ra rko.length rc)) ∧ V.grownBy (w2.setCell ⟨Q, 0, none⟩ (.slice ra rko.length rc)) (some Q)) := by (
 refine ⟨?_, (grown_below HB2.out _).trans (grown_set _ _ _ _)⟩
 rw [HR2.out.2]
 refine ⟨ra, rc, hQ2.set 0 _, ?_⟩
 have h1 : Arg w1.heap.size w2 (.slice ra rko.length rc) rko := hv3
 exact (h1.keep (.set (by have := HQ.out.2.2.2; have := HBL.out.size; omega))).weaken (by have := HQ.out.2.2.2; have := HBL.out.size; omega))
 have y0 := hQ2.cell 0 rfl
 have f0 := hQ2.frozen 0
 have pc0 : (w2.setCell ⟨Q, 0, none⟩ (.slice ra rko.length rc)).cell? ⟨pb, po, none⟩ = some (.slice pa m pc) := by (
 have h1 : w2.cell? ⟨pb, po, none⟩ = some (.slice pa m pc) := by
   have h0 : w1.drew.cell? ⟨pb, po, none⟩ = some (.slice pa m pc) := HPC.out
   rw [hb2.cell (cell_lt h0)]; exact h0
 exact (Same.set (n := w0.heap.size) HQ.out.2.2.2.1).cell HPB.out h1)
 generalize rko.length = rl at HF pc0 ⊢
 clear hv3 hb2 hQ2 HS0 HS1 HCR
 by_cases hz : rke = 0
 · have hre : re = 0 := HR2.out.1.trans hz
   subst hz
   have HRZ : Hid (re = 0) := hre
   have hrf := refuse_ok (.slice pa m pc) (w2.setCell ⟨Q, 0, none⟩ (.slice ra rl rc))
   clear hre
   go_wp2_with fail
   refine hrf.mono ?_
   rintro e5 w5 ⟨rfl, rfl⟩
   go_wp2
   exact HPo.out _ _ (by rw [HRZ.out]; exact ev_nil) HF.out.2 HF.out.1
 · have HRZ : Hid (re = rke ∧ rke ≠ 0) := ⟨HR2.out.1, hz⟩
   have hrf := refuse_bad rke hz pa m pc (w2.setCell ⟨Q, 0, none⟩ (.slice ra rl rc))
   go_wp2_with fail
   refine hrf.mono ?_
   rintro e5 w5 ⟨rfl, rfl⟩
   go_wp2
   exact HPo.out _ _ (by rw [HRZ.out.1]; exact ev_ref HRZ.out.2 _ _ _ _) HF.out.2 HF.out.1
theorem Read_any (n0 : Nat) (a : Option Addr) (c : Nat) (s : St) (p : ByteArray) (hp : p.size ≤ maxLen) (off nn : Int) (ho : I64 off) (hn : I64 nn) (w : World) (hA : ndsN.lies n0 w [.slice a s.1.length c] s.1) (hg : Glob w) :
   Calls Tryz.prog 43 #[.agg #[.slice a s.1.length c, .int .i64 s.2], .string p, .int .i64 off, .int .i64 nn] w fun e w' => (∃ v O k, e = .returned (.tuple #[v, .int .i64 k]) ∧ Arg w.heap.size w' v O ∧ ((¬ Ok s ∧ O = [] ∧ k = 9) ∨ (Ok s ∧ serr p ≠ 0 ∧ O = [] ∧ k = serr p) ∨ (Ok s ∧ serr p = 0 ∧ O = frO s (sval p) off nn ∧ k = frE s (sval p) off nn))) ∧ Below w.heap.size w w' := by
 obtain ⟨W1, hW1⟩ := exa (w.alloc (.cells #[.slice a s.1.length c, .int .i64 s.2] 29))
 obtain ⟨V1, hV1⟩ := exa (W1.alloc (.cells #[.int .i64 off] 3))
 obtain ⟨V2, hV2⟩ := exa (V1.alloc (.cells #[.int .i64 nn] 3))
 obtain ⟨W2, hW2⟩ := exa (V2.alloc (.cells #[.slice none 0 0] 25))
 obtain ⟨W3, hW3⟩ := exa (W2.alloc (.cells #[.string p] 9))
 have hb1 : Below w.heap.size w W1 := by rw [hW1]; exact (Below.refl _ w).alloc (Nat.le_refl _) _
 have hbv : Below w.heap.size w V1 := by rw [hV1]; exact hb1.alloc hb1.size _
 have hbv2 : Below w.heap.size w V2 := by rw [hV2]; exact hbv.alloc hbv.size _
 have hb2 : Below w.heap.size w W2 := by rw [hW2]; exact hbv2.alloc hbv2.size _
 have hb3 : Below w.heap.size w W3 := by rw [hW3]; exact hb2.alloc hb2.size _
 have hs1 : W1.heap.size = w.heap.size + 1 := by rw [hW1]; exact Array.size_push _
 have hsv : V1.heap.size = w.heap.size + 1 + 1 := by rw [hV1, ← hs1]; exact Array.size_push _
 have hsv2 : V2.heap.size = w.heap.size + 1 + 1 + 1 := by rw [hV2, ← hsv]; exact Array.size_push _
 have hs2 : W2.heap.size = w.heap.size + 1 + 1 + 1 + 1 := by rw [hW2, ← hsv2]; exact Array.size_push _
 have hs3 : W3.heap.size = w.heap.size + 1 + 1 + 1 + 1 + 1 := by rw [hW3, ← hs2]; exact Array.size_push _
 have hBS : Box W2 w.heap.size 29 #[.slice a s.1.length c, .int .i64 s.2] := by
   have : Box W1 w.heap.size 29 #[.slice a s.1.length c, .int .i64 s.2] := by rw [hW1]; exact Box.new _ _ _
   rw [hW2, hV2, hV1]; exact ((this.alloc _).alloc _).alloc _
 have hBQ1 : Box W3 (w.heap.size + 1) 3 #[.int .i64 off] := by rw [hW3, hW2, hV2, hV1, ← hs1]; exact (((Box.new _ _ _).alloc _).alloc _).alloc _
 have hBQ2 : Box W3 (w.heap.size + 1 + 1) 3 #[.int .i64 nn] := by rw [hW3, hW2, hV2, ← hsv]; exact ((Box.new _ _ _).alloc _).alloc _
 have hBQ : Box W3 (w.heap.size + 1 + 1 + 1) 25 #[.slice none 0 0] := by rw [hW3, hW2, ← hsv2]; exact (Box.new _ _ _).alloc _
 have hBT : Box W3 W2.heap.size 9 #[.string p] := by rw [hW3]; exact Box.new _ _ _
 have hX : ArgT w.heap.size W3 (.slice (some ⟨W2.heap.size, 0, none⟩) 1 1) [p] := argT_box (ps := [p]) hBT hb2.size (by simp [maxLen]) fun q hq => by rw [List.mem_singleton.1 hq]; exact hp
 have HC := look3_any 87 Tryz.call87 (.pointer (some ⟨w.heap.size + 1, 0, none⟩)) (.pointer (some ⟨w.heap.size + 1 + 1, 0, none⟩)) (.pointer (some ⟨w.heap.size + 1 + 1 + 1, 0, none⟩)) n0 w.heap.size a c s (some ⟨W2.heap.size, 0, none⟩) 1 [p] (by simp) W3 (ndsN.below hA hb3) hX (hg.below hb3 hg.lt) (some (w.heap.size + 1 + 1 + 1)) (frE s (sval p) off nn) (HoldsO W3.heap.size (frO s (sval p) off nn) (w.heap.size + 1 + 1 + 1)) (fun V V' h hb => h.below hb)
   (fun r hr => by cases hr; omega)
   (fun hok _ V v2 B hbV hB hBl hL => readDo_any n0 a c s hok.wk p off nn ho hn B (w.heap.size + 1) (w.heap.size + 1 + 1) (w.heap.size + 1 + 1 + 1) v2 W3 V (ndsN.below hA hb3) hbV hB hL (hBQ1.below hbV hBQ1.lt) (hBQ2.below hbV hBQ2.lt) (hBQ.below hbV hBQ.lt) (by omega))
 rw [hs2] at HC
 have hps : psE [p] = serr p := by rw [psE]; split <;> simp_all [psE]
 rw [hps] at HC
 obtain ⟨post, hpost⟩ : ∃ post : Ending → World → Prop, post = fun e w' => (∃ v O k, e = .returned (.tuple #[v, .int .i64 k]) ∧ Arg w.heap.size w' v O ∧ ((¬ Ok s ∧ O = [] ∧ k = 9) ∨ (Ok s ∧ serr p ≠ 0 ∧ O = [] ∧ k = serr p) ∨ (Ok s ∧ serr p = 0 ∧ O = frO s (sval p) off nn ∧ k = frE s (sval p) off nn))) ∧ Below w.heap.size w w' := ⟨_, rfl⟩
 have HPo : Hid (∀ v O k w', Arg w.heap.size w' v O → ((¬ Ok s ∧ O = [] ∧ k = 9) ∨ (Ok s ∧ serr p ≠ 0 ∧ O = [] ∧ k = serr p) ∨ (Ok s ∧ serr p = 0 ∧ O = frO s (sval p) off nn ∧ k = frE s (sval p) off nn)) → Below w.heap.size w w' → post (.returned (.tuple #[v, .int .i64 k])) w') := fun v O k w' h1 h2 h3 => by rw [hpost]; exact ⟨⟨v, O, k, rfl, h1, h2⟩, h3⟩
 rw [← hpost]
 have HB : Hid (Box W3 (w.heap.size + 1 + 1 + 1) 25 #[.slice none 0 0] ∧ Below w.heap.size w W3) := ⟨hBQ, hb3⟩
 generalize frE s (sval p) off nn = fe at HC HPo
 generalize frO s (sval p) off nn = fo at HC HPo
 generalize serr p = pe at HC HPo
 obtain ⟨g0, g1, -, -⟩ := hBS.two
 rw [hW2, hV2, hV1, hW1] at g0 g1
 obtain ⟨n, hn'⟩ := exa (s.1.length)
 obtain ⟨nx, hnx⟩ := exa (s.2)
 rw [← hn'] at HC hW1 g0 g1 ⊢
 rw [← hnx] at HC hW1 g0 g1 ⊢
 clear hA hg hp hb1 hbv hbv2 hb2 hb3 hBQ hBQ1 hBQ2 hBS hBT hX hn' hnx hpost hs1 hsv hsv2 hs2 hs3 ho hn hps
 go_enter Tryz.func43, Tryz.ntmps43
 go_wp2_with fail
 rw [← hW1, ← hV1, ← hV2, ← hW2, ← hW3]
 clear hW1 hV1 hV2 hW2 hW3 g0 g1
 refine HC.mono ?_
 rintro e w4 ⟨r, rfl, hr⟩
 have hq : ∃ O, HoldsO w.heap.size O (w.heap.size + 1 + 1 + 1) w4 ∧ Below w.heap.size w w4 ∧ ((¬ Ok s ∧ O = [] ∧ r = 9) ∨ (Ok s ∧ pe ≠ 0 ∧ O = [] ∧ r = pe) ∨ (Ok s ∧ pe = 0 ∧ O = fo ∧ r = fe)) := by (
 rcases hr with ⟨h1, h2, h3⟩ | ⟨h1, h2, h3, h4⟩ | ⟨h1, h2, h3, h4, h5⟩
 · exact ⟨[], HoldsO.nil (HB.out.1.below h3 HB.out.1.lt), below_any HB.out.2 h3, .inl ⟨h1, rfl, h2⟩⟩
 · exact ⟨[], HoldsO.nil (HB.out.1.below h4 HB.out.1.lt), below_any HB.out.2 h4, .inr (.inl ⟨h1, h2, rfl, h3⟩)⟩
 · obtain ⟨oa, oc, o1, o2⟩ := h5
   exact ⟨_, ⟨oa, oc, o1, o2.weaken HB.out.2.size⟩, HB.out.2.grown h4 HB.out.2.size (fun k hk => by cases hk; omega), .inr (.inr ⟨h1, h2, rfl, h3⟩)⟩)
 obtain ⟨O, ⟨oa, oc, hz, hAo⟩, hbz, hrz⟩ := hq
 have q0 := hz.cell 0 rfl
 have HF : Hid (post (.returned (.tuple #[.slice oa O.length oc, .int .i64 r])) w4) := HPo.out _ _ _ _ hAo hrz hbz
 generalize O.length = ol at q0 HF
 clear hz hbz hrz hr HC hAo
 go_wp2
 exact HF.out
end Go.Proofs.YtopcefhncildnaaGreatDoor
