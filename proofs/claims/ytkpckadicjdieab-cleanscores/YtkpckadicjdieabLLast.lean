/-
  What lastVersions answers: a map that tells the last version of each kind.
-/
import Derived.Test.YtkpckadicjdieabLVer
namespace Go.Proofs.Ytkpckadicjdieab
open Go.RowKit

theorem Ok.small {s : St} (h : Ok s) : ∀ p ∈ s.1, p.2.length ≤ 8 := fun p hp => by
  cases hf : freeB p
  · exact (h.each p hp hf).1.2.1.2
  · have := (free_iff.1 hf).2
    omega
theorem segv_length {l : List Sg} (h : ∀ p ∈ l, p.2.length ≤ 8) : (segv l).length ≤ 8 * l.length := by
  unfold segv
  induction l with
  | nil => simp
  | cons p l ih =>
    simp only [List.map_cons, List.flatten_cons, List.length_append, plc_length, List.length_cons]
    have h1 := h p (List.mem_cons_self ..)
    have h2 := ih fun q hq => h q (List.mem_cons_of_mem _ hq)
    omega

set_option maxRecDepth 100000 in
set_option maxHeartbeats 4000000 in
theorem last_any (n0 : Nat) (us : List Value) (s : St) (w : World) (h : stN.lies n0 w us s) (hok : Ok s) :
    Calls Try.prog 32 #[.agg us.toArray] w fun e w' => (∃ b, e = .returned (.map (some b)) ∧ LV w w' b (vers s) ∧ w.heap.size ≤ b) ∧ Below w.heap.size w w' := by
  obtain ⟨a, c, b, d, e, f, rfl, hS, hH, hO, hN, m1, m2, m3⟩ := st_viewN h
  have HOK : Hid (s.1.length ≤ 64 ∧ s.2.2.1.length ≤ 8 ∧ ∀ p ∈ s.1, p.2.length ≤ 8) := ⟨hok.slots.2, hok.few, hok.small⟩
  obtain ⟨l, hd, op, nx⟩ := s
  simp only at hS hH hO hN m1 m2 m3 HOK ⊢
  unfold maxLen at m1 m2 m3
  obtain ⟨post, hpost⟩ : ∃ post : Ending → World → Prop, post = fun e w' => (∃ b, e = .returned (.map (some b)) ∧ LV w w' b (vers (l, hd, op, nx)) ∧ w.heap.size ≤ b) ∧ Below w.heap.size w w' := ⟨_, rfl⟩
  have HPo : Hid (∀ b w', LV w w' b (vers (l, hd, op, nx)) → w.heap.size ≤ b → Below w.heap.size w w' → post (.returned (.map (some b))) w') := fun b w' h1 h2 h3 => by rw [hpost]; exact ⟨⟨b, rfl, h1, h2⟩, h3⟩
  rw [← hpost]
  clear hpost
  obtain ⟨n, hn⟩ : ∃ n, n = l.length := ⟨_, rfl⟩
  obtain ⟨nh, hnh⟩ : ∃ n, n = hd.length := ⟨_, rfl⟩
  obtain ⟨no, hno⟩ : ∃ n, n = op.length := ⟨_, rfl⟩
  have hl1 := run_len Try.underlying28 a n c
  rw [← hn] at hS m1 HOK ⊢
  rw [← hnh] at m2 ⊢
  rw [← hno] at hO m3 HOK ⊢
  have HN : Hid (n = l.length ∧ no = op.length ∧ I64 nx) := ⟨hn, hno, hN⟩
  have HA : Hid (sgsN.lies n0 w [.slice a n c] l ∧ bksN.lies n0 w [.slice e no f] op) := ⟨hS, hO⟩
  obtain ⟨W, hW⟩ : ∃ W, W = w.alloc (.cells #[.slice a n c, .slice b nh d, .slice e no f, .int .i64 nx] 31) := ⟨_, rfl⟩
  have hbW : Below w.heap.size w W := by rw [hW]; exact (Below.refl _ w).alloc (Nat.le_refl _) _
  have hB1 : Box W w.heap.size 31 #[.slice a n c, .slice b nh d, .slice e no f, .int .i64 nx] := by rw [hW]; exact Box.new _ _ _
  have hsz : W.heap.size = w.heap.size + 1 := by rw [hW]; simp
  obtain ⟨X, hX⟩ : ∃ X, X = (W.alloc (.map #[] 0)).alloc (.cells #[.map (some W.heap.size)] 77) := ⟨_, rfl⟩
  have hbX : Below W.heap.size W X := by rw [hX]; exact ((Below.refl _ _).alloc (Nat.le_refl _) _).alloc (by simp) _
  have hmX : Box X (W.heap.size + 1) 77 #[.map (some W.heap.size)] := by
    rw [hX]
    have := Box.new (W.alloc (.map #[] 0)) 77 #[.map (some W.heap.size)]
    rwa [World.size_alloc] at this
  have hLX : LV w X W.heap.size [] := by
    rw [hX]
    exact (LV.made w W).below ((Below.refl _ _).alloc (Nat.le_refl _) _)
  have HX : Hid (Below w.heap.size w X ∧ Box X (W.heap.size + 1) 77 #[.map (some W.heap.size)] ∧ LV w X W.heap.size [] ∧ Box X w.heap.size 31 #[.slice a n c, .slice b nh d, .slice e no f, .int .i64 nx] ∧ W.heap.size = w.heap.size + 1) := ⟨below_any hbW hbX, hmX, hLX, hB1.below hbX hB1.lt, hsz⟩
  obtain ⟨bm, hbm⟩ : ∃ m, m = W.heap.size := ⟨_, rfl⟩
  rw [← hbm] at HX hX
  have HBM : Hid (bm = W.heap.size) := hbm
  obtain ⟨z0, z1, z2, z3, -⟩ := HX.out.2.2.2.1.four
  have hmm := @run_makeMap Try.prog
  clear h hS hH hO hN hbW hB1 hsz hbX hmX hLX hn hnh hno hok
  go_enter Try.func32, Try.ntmps32
  go_upto_region 1 with fail
  rw [← hW]
  clear hW hbm
  go_upto_region 2 with fail
  rw [← HBM.out, ← hX]
  clear hX hmm
  go_wp2
  clear z0 z1 z2 z3
  go_loopw [12] (fun i wr => ∃ k : Nat, k ≤ n ∧ i = .int .i64 k ∧ Hid (LV w wr bm (segv (l.take k)) ∧ X.grownBy wr (some bm))) (fun i _ => n - (intOf i).toNat)
  case atStart => exact ⟨0, Nat.zero_le _, rfl, by simpa [segv] using HX.out.2.2.1, grown_below (Below.refl _ _) _⟩
  case round =>
    obtain ⟨k, hk, rfl, HJ⟩ := hrel
    by_cases hlt : k < n
    · obtain ⟨p, hp⟩ := get_lt (l := l) (k := k) (by rw [← HN.out.1]; exact hlt)
      obtain ⟨pb, po, x, cap, hix, c0, c1, hL, _⟩ := sgs_atN HA.out.1 k p hp
      have hki : (k : Int) < (n : Int) := by omega
      have hb0 : w.heap.size ≤ bm := by have := HX.out.2.2.2.2; have := HBM.out; omega
      have hbr := below_grow HX.out.1 HJ.out.2 hb0
      have g0 : wr.cell? ⟨pb, po, none⟩ = some (.int .i64 p.1) := by rw [hbr.cell (cell_lt c0)]; exact c0
      have g1 : wr.cell? ⟨pb, po + 1, none⟩ = some (.slice x p.2.length cap) := by rw [hbr.cell (cell_lt c1)]; exact c1
      obtain ⟨V, hV⟩ : ∃ V, V = wr.alloc (.cells #[.int .i64 p.1, .slice x p.2.length cap] 45) := ⟨_, rfl⟩
      have hbV : Below wr.heap.size wr V := by rw [hV]; exact (Below.refl _ _).alloc (Nat.le_refl _) _
      have hxV : Box V wr.heap.size 45 #[.int .i64 p.1, .slice x p.2.length cap] := by rw [hV]; exact Box.new _ _ _
      have hgV : X.grownBy V (some bm) := grown_trans HJ.out.2 (grown_below hbV _)
      obtain ⟨_, _, e0, hLb, hI, _⟩ := sg_viewN hL
      have HC := note_any n0 p.1 (.slice x p.2.length cap) p.2 bm (bm + 1) (segv (l.take k)) w V (by simp at e0; obtain ⟨rfl, rfl⟩ := e0; exact hLb) (below_grow HX.out.1 hgV hb0) hb0 (HJ.out.1.below hbV) (HX.out.2.1.grown hgV (by have := HBM.out; simp)) (by omega) hI (by
        have h1 := segv_length (l := l.take k) fun q hq => HOK.out.2.2 q (List.mem_of_mem_take hq)
        have h2 := HOK.out.2.2 p (List.mem_of_getElem? hp)
        have h3 := HOK.out.1
        rw [List.length_take] at h1
        omega)
      have HG : Hid (X.grownBy V (some bm)) := hgV
      have HSV : Hid (segv (l.take (k + 1)) = segv (l.take k) ++ plc p.1 p.2) := segv_take hp
      obtain ⟨v0, v1, -⟩ := hxV.two
      obtain ⟨m, hm⟩ : ∃ m, m = p.2.length := ⟨_, rfl⟩
      rw [← hm] at g1 HC hV v1
      clear hp hL c0 c1 hbr hm hbV hxV hgV hLb hI e0 hb0
      go_upto_region 6 with fail
      rw [← hV]
      clear hV hix g0 g1
      go_wp2_with fail
      refine HC.mono ?_
      rintro e2 w2 ⟨⟨u2, rfl⟩, hL2, hg2⟩
      have HJ2 : Hid (LV w w2 bm (segv (l.take (k + 1))) ∧ X.grownBy w2 (some bm)) := ⟨by rw [HSV.out]; exact hL2, grown_trans HG.out hg2⟩
      clear hL2 hg2 HC v0 v1
      go_wp2
      go_roundw
      case rel => exact ⟨k + 1, by omega, by go_num, HJ2.out⟩
      case measure => simp [intOf]; omega
    · obtain rfl : k = n := by omega
      have hb0 : w.heap.size ≤ bm := by have := HX.out.2.2.2.2; have := HBM.out; omega
      have hxr := HX.out.2.2.2.1.grown HJ.out.2 (by have := HX.out.2.2.2.2; have := HBM.out; simp; omega)
      have hmr : Box wr (bm + 1) 77 #[.map (some bm)] := HX.out.2.1.grown HJ.out.2 (by have := HBM.out; simp)
      have HC := note_any n0 nx (.slice e no f) op bm (bm + 1) (segv l) w wr HA.out.2 (below_grow HX.out.1 HJ.out.2 hb0) hb0 (by have := HJ.out.1; rwa [HN.out.1, List.take_length] at this) hmr (by omega) HN.out.2.2 (by
        have h1 := segv_length (l := l) fun q hq => HOK.out.2.2 q hq
        have h2 := HOK.out.2.1
        have h3 := HOK.out.1
        have := HN.out
        omega)
      have HMR : Hid (Box wr (bm + 1) 77 #[.map (some bm)] ∧ Below w.heap.size w wr ∧ w.heap.size ≤ bm) := ⟨hmr, below_grow HX.out.1 HJ.out.2 hb0, hb0⟩
      obtain ⟨z0, z1, z2, z3, -⟩ := hxr.four
      clear hxr hmr hb0
      go_wp2_with fail
      refine HC.mono ?_
      rintro e2 w2 ⟨⟨u2, rfl⟩, hL2, hg2⟩
      have hm2 := (HMR.out.1.grown hg2 (by simp)).cell 0 rfl
      have HE : Hid (post (.returned (.map (some bm))) w2) := HPo.out _ _ hL2 HMR.out.2.2 (below_grow HMR.out.2.1 hg2 HMR.out.2.2)
      clear hL2 hg2
      go_wp2
      exact HE.out

end Go.Proofs.Ytkpckadicjdieab
