/-
  What dir.readEntry answers, for every octets.
-/
import Derived.Test.YthppbmbhoedphaaREncode
namespace Go.Proofs.Ythppbmbhoedphaa
open Go.RowKit

def Small (n : Nat) : Prop := n < 4294967296
theorem below_two {w W : World} (h : Below w.heap.size w W) (x y : Value) : Below w.heap.size w ((W.setCell ⟨w.heap.size, 0, none⟩ x).setCell ⟨w.heap.size, 1, none⟩ y) :=
  (h.setCell (p := ⟨w.heap.size, 0, none⟩) (Nat.le_refl _) _).setCell (p := ⟨w.heap.size, 1, none⟩) (Nat.le_refl _) _

theorem get4 {n0 : Nat} {w : World} {v : Value} {l : List Int} (h : Arg n0 w v l) (hl : l.length = 4) : Calls Try.prog 41 #[v] w fun e w' => e = .returned (.tuple #[.int .u64 (O.nv l : Nat), .int .i64 0]) ∧ w = w' := by
  rcases h.split with ⟨rfl, _⟩ | ⟨b, off, cap, rfl, h1, h2, _, h4⟩
  · simp at hl
  · have hdz : (O.dz l).length ≤ 4 := by
      unfold O.dz
      have := (List.dropWhile_sublist (p := fun x : Int => x == 0) (l := l)).length_le
      omega
    have := O.get_some b off l.length cap l rfl w h2 h1 h4 (fun x hx => u8_bounds (h.oct x hx))
    rw [show O.gval l = (O.nv l : Int) from if_neg (by omega), show O.gerr l = 0 from if_neg (by omega)] at this
    exact this

set_option maxRecDepth 100000 in
set_option maxHeartbeats 2000000 in
theorem read_short (n0 : Nat) (v : Value) (n : Int) (r : List Int) (w : World) (h : Arg n0 w v (n :: r)) (hs : r.length < n.toNat + 4) :
    Calls Try.prog 35 #[v] w fun e w' => e = .returned (.tuple #[.agg #[.string ⟨#[]⟩, .int .i64 0], .slice none 0 0, .int .i64 8]) ∧ Below w.heap.size w w' := by
  obtain ⟨W, hW⟩ : ∃ W, W = w.alloc (.cells #[.string ⟨#[]⟩, .int .i64 0] 34) := ⟨_, rfl⟩
  have hbW : Below w.heap.size w W := by rw [hW]; exact (Below.refl _ w).alloc (Nat.le_refl _) _
  have hBx : Box W w.heap.size 34 #[.string ⟨#[]⟩, .int .i64 0] := by rw [hW]; exact Box.new _ _ _
  have hb8 := u8_bounds (h.oct n (List.mem_cons_self ..))
  obtain ⟨bb, bo, hix, _, hc, _⟩ := (h.below hbW).at 0 n rfl
  have hix0 : ∀ W, (Instr.indexAt 47 v (.int .i64 0)).run Try.prog W = .ok (.pointer (some ⟨bb, bo, none⟩)) W := hix
  obtain ⟨v1, hA1, hsl1⟩ := h.behind 1 (by simp)
  have hsl1' : ∀ W, (Instr.slice 47 v (some (.int .i64 1)) none none).run Try.prog W = .ok v1 W := hsl1
  have hA1' : Arg n0 w v1 r := by simpa using hA1
  have hln1 := hA1'.len
  have hrl : r.length ≤ 9223372036854775807 := by
    obtain ⟨_, _, _, _, hm, _⟩ := hA1'.shape
    unfold maxLen at hm
    omega
  obtain ⟨m, rfl⟩ : ∃ m : Nat, n = (m : Int) := ⟨n.toNat, by omega⟩
  rw [Int.toNat_natCast] at hs
  obtain ⟨L, hL⟩ : ∃ L, L = r.length := ⟨_, rfl⟩
  rw [← hL] at hln1 hrl hs
  have hlt : (L : Int) < (m : Int) + 4 := by omega
  have HB : Hid (Box W w.heap.size 34 #[.string ⟨#[]⟩, .int .i64 0] ∧ Below w.heap.size w W) := ⟨hBx, hbW⟩
  clear h hix hsl1 hA1 hA1' hbW hBx hL
  go_enter Try.func35, Try.ntmps35
  go_wp2
  rw [← hW]
  clear hW
  go_quiet (fail)
  obtain ⟨W2, hW2⟩ : ∃ W2, W2 = W.drewN nq := ⟨_, rfl⟩
  have HB2 : Hid (Box W2 w.heap.size 34 #[.string ⟨#[]⟩, .int .i64 0] ∧ Below w.heap.size w W2) := by rw [hW2]; exact ⟨HB.out.1.below (below_drewN (Below.refl _ _) _) HB.out.1.lt, below_drewN HB.out.2 _⟩
  rw [← hW2]
  clear hW2
  obtain ⟨g0, g1, g2, g3⟩ := HB2.out.1.two
  go_wp2
  refine bodyPost_ret (v := .tuple #[.agg #[.string ⟨#[]⟩, .int .i64 0], .slice none 0 0, .int .i64 8]) (by simp [results, Try.results35, go_sem, *]) rfl ⟨rfl, ?_⟩
  first | exact below_two HB2.out.2 _ _ | exact HB2.out.2

set_option maxRecDepth 100000 in
set_option maxHeartbeats 2000000 in
theorem read_ok (n0 : Nat) (v : Value) (n : Int) (r : List Int) (w0 w : World) (h0 : Arg n0 w0 v (n :: r)) (hb0 : Below w0.heap.size w0 w) (hs : ¬ r.length < n.toNat + 4) :
    Calls Try.prog 35 #[v] w fun e w' => (∃ v', e = .returned (.tuple #[.agg #[.string (strOfNums (r.take n.toNat)), .int .i64 (O.nv ((r.drop n.toNat).take 4) : Nat)], v', .int .i64 0]) ∧ Arg n0 w0 v' (r.drop (n.toNat + 4))) ∧ Below w.heap.size w w' := by
  have h := h0.below hb0
  obtain ⟨W, hW⟩ : ∃ W, W = w.alloc (.cells #[.string ⟨#[]⟩, .int .i64 0] 34) := ⟨_, rfl⟩
  have hbW : Below w.heap.size w W := by rw [hW]; exact (Below.refl _ w).alloc (Nat.le_refl _) _
  have hBx : Box W w.heap.size 34 #[.string ⟨#[]⟩, .int .i64 0] := by rw [hW]; exact Box.new _ _ _
  have hb8 := u8_bounds (h.oct n (List.mem_cons_self ..))
  obtain ⟨bb, bo, hix, _, hc, _⟩ := (h.below hbW).at 0 n rfl
  have hix0 : ∀ W, (Instr.indexAt 47 v (.int .i64 0)).run Try.prog W = .ok (.pointer (some ⟨bb, bo, none⟩)) W := hix
  obtain ⟨v1, hA1, hsl1⟩ := h0.behind 1 (by simp)
  have hsl1' : ∀ W, (Instr.slice 47 v (some (.int .i64 1)) none none).run Try.prog W = .ok v1 W := hsl1
  have hA1' : Arg n0 w0 v1 r := by simpa using hA1
  have hln1 := hA1'.len
  have hrl : r.length ≤ 9223372036854775807 := by
    obtain ⟨_, _, _, _, hm, _⟩ := hA1'.shape
    unfold maxLen at hm
    omega
  obtain ⟨m, rfl⟩ : ∃ m : Nat, n = (m : Int) := ⟨n.toNat, by omega⟩
  rw [Int.toNat_natCast] at hs ⊢
  obtain ⟨v2, hA2, hsl2⟩ := hA1'.ahead m (by omega)
  obtain ⟨v3, hA3, hsl3⟩ := hA1'.behind m (by omega)
  obtain ⟨v4, hA4, hsl4⟩ := hA3.ahead 4 (by rw [List.length_drop]; omega)
  obtain ⟨v5, hA5, hsl5⟩ := hA3.behind 4 (by rw [List.length_drop]; omega)
  have hsl4' : ∀ W, (Instr.slice 47 v3 none (some (.int .i64 4)) none).run Try.prog W = .ok v4 W := hsl4
  have hsl5' : ∀ W, (Instr.slice 47 v3 (some (.int .i64 4)) none none).run Try.prog W = .ok v5 W := hsl5
  rw [List.drop_drop] at hA5
  have h4 : ((r.drop m).take 4).length = 4 := by rw [List.length_take, List.length_drop]; omega
  have hnv := (oct4_nv h4 hA4.oct).2
  obtain ⟨S, hS⟩ : ∃ S, S = strOfNums (r.take m) := ⟨_, rfl⟩
  obtain ⟨I, hI⟩ : ∃ I, I = O.nv ((r.drop m).take 4) := ⟨_, rfl⟩
  rw [← hI] at hnv ⊢
  rw [← hS]
  have HCV : Hid (∀ V, Below w.heap.size w V → (convert 47 9 v2).run Try.prog V = .ok (.string S) V) := fun V hV => by rw [hS]; exact conv_any (hA2.below (below_any hb0 hV))
  have HG : Hid (∀ V, Below w.heap.size w V → Calls Try.prog 41 #[v4] V fun e w' => e = .returned (.tuple #[.int .u64 (I : Nat), .int .i64 0]) ∧ V = w') := fun V hV => by rw [hI]; exact get4 (hA4.below (below_any hb0 hV)) h4
  have H5 : Hid (Arg n0 w0 v5 (r.drop (m + 4))) := hA5
  obtain ⟨L, hL⟩ : ∃ L, L = r.length := ⟨_, rfl⟩
  rw [← hL] at hln1 hrl hs
  have hlt : ¬ (L : Int) < (m : Int) + 4 := by omega
  have hm8 : (m : Int) ≤ 255 := by omega
  have HIi : Hid (Small I) := hnv
  have HB : Hid (Box W w.heap.size 34 #[.string ⟨#[]⟩, .int .i64 0] ∧ Below w.heap.size w W) := ⟨hBx, hbW⟩
  clear h h0 hb0 hix hsl1 hA1 hA1' hbW hBx hL hA2 hA3 hA4 hA5 hsl4 hsl5 h4 hS hI hnv hb8 hrl hs
  go_enter Try.func35, Try.ntmps35
  go_wp2
  rw [← hW]
  clear hW
  go_quiet (fail)
  obtain ⟨W2, hW2⟩ : ∃ W2, W2 = W.drewN nq := ⟨_, rfl⟩
  have HB2 : Hid (Box W2 w.heap.size 34 #[.string ⟨#[]⟩, .int .i64 0] ∧ Below w.heap.size w W2) := by rw [hW2]; exact ⟨HB.out.1.below (below_drewN (Below.refl _ _) _) HB.out.1.lt, below_drewN HB.out.2 _⟩
  rw [← hW2]
  clear hW2
  go_wp2
  have hcv : ∀ q, (convert 47 9 v2).run Try.prog (W2.drewN q) = .ok (.string S) (W2.drewN q) := fun q => HCV.out _ (below_drewN HB2.out.2 q)
  go_quiet (fail)
  obtain ⟨W3, hW3⟩ : ∃ W3, W3 = W2.drewN nq := ⟨_, rfl⟩
  have HB3 : Hid (Box W3 w.heap.size 34 #[.string ⟨#[]⟩, .int .i64 0] ∧ Below w.heap.size w W3) := by rw [hW3]; exact ⟨HB2.out.1.below (below_drewN (Below.refl _ _) _) HB2.out.1.lt, below_drewN HB2.out.2 _⟩
  rw [← hW3]
  clear hW3 hcv
  have HGG := HG.out W3 HB3.out.2
  go_wp2_with (go_at_call 41; refine HGG.mono ?_; rintro e w4 ⟨rfl, rfl⟩)
  obtain ⟨g0, g1, g2, g3⟩ := HB3.out.1.two
  have hwI : IntKind.i64.wrap (I : Int) = (I : Int) := wrap_small _ (by omega) (by have := HIi.out; unfold Small at this; omega)
  go_region_held3 (fun _ => True) (trivial) (fail)
  obtain ⟨V, hV⟩ : ∃ V, V = ((W3.setCell ⟨w.heap.size, 0, none⟩ (.string S)).setCell ⟨w.heap.size, 1, none⟩ (.int .i64 (I : Int))).drew := ⟨_, rfl⟩
  have hBV : Box V w.heap.size 34 #[.string S, .int .i64 (I : Int)] := by rw [hV]; exact ((HB3.out.1.set 0 _).set 1 _).drew
  have HBV : Hid (Below w.heap.size w V) := by rw [hV]; exact (below_two HB3.out.2 _ _).drew
  rw [← hV]
  clear hV hwI g0 g1 g2 g3
  obtain ⟨g0, g1, g2, g3⟩ := hBV.two
  clear hBV
  go_wp2
  refine bodyPost_ret (v := .tuple #[.agg #[.string S, .int .i64 (I : Int)], v5, .int .i64 0]) (by simp [results, Try.results35, go_sem, *]) rfl ⟨⟨v5, rfl, H5.out⟩, HBV.out⟩

end Go.Proofs.Ythppbmbhoedphaa
