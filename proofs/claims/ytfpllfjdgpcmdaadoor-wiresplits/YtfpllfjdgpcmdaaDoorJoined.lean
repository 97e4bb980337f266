/-
  What joined, readJoined and Split make of octets.
-/
import Derived.Test.YtfpllfjdgpcmdaaDoorJMath
import Derived.Test.YtfpllfjdgpcmdaaDoorOGet
import Derived.Test.YtfpllfjdgpcmdaaDoorText
import Derived.Test.YtfpllfjdgpcmdaaDoorNumOf
import Derived.Test.YtfpllfjdgpcmdaaDoorFits
namespace Go.Proofs.YtfpllfjdgpcmdaaDoor
open Go.RowKit

theorem dz_len (l : List Int) : (O.dz l).length ≤ l.length := by
  unfold O.dz
  exact (List.dropWhile_sublist _).length_le

theorem get2 (v : Value) (a b : Int) (w : World) (h : Arg 0 w v [a, b]) :
    Calls Tryd.prog 74 #[v] w fun e w' => e = .returned (.tuple #[.int .u64 (((a * 256 + b).toNat : Nat) : Int), .int .i64 0]) ∧ w = w' := by
  have ho := h.oct
  rcases h.split with ⟨h0, _⟩ | ⟨bb, off, cap, rfl, hc, hm, _, hcell⟩
  · cases h0
  have ha := (oc_cons.1 ho).1
  have hb := (oc_cons.1 (oc_cons.1 ho).2).1
  have hd := dz_len [a, b]
  have h8 : ¬ 8 < (O.dz [a, b]).length := by simp at hd; omega
  have hg : O.gval [a, b] = (((a * 256 + b).toNat : Nat) : Int) ∧ O.gerr [a, b] = 0 := by
    unfold O.gval O.gerr
    rw [if_neg h8, if_neg h8]
    refine ⟨?_, rfl⟩
    simp [O.nv]
    omega
  have := O.get_some bb off 2 cap [a, b] rfl w hm hc hcell ho
  rw [hg.1, hg.2] at this
  exact this

set_option maxRecDepth 100000 in
set_option maxHeartbeats 1000000 in
theorem joined_any (w0 : World) (R : Nat) (l : List Int) (w : World) (h : Rdr w0 R l w) :
    Calls Tryd.prog 62 #[.pointer (some ⟨R, 0, none⟩)] w fun e w' => Told w0 R w (.slice none 0 0) (fun w v a => Arg 0 w v a) (joinR l) e w' := by
  have HT := take_any w0 R l 2 w h
  have HO : Hid (Oc l) := h.oct
  obtain ⟨X, hX⟩ : ∃ X, X = joinR l := ⟨_, rfl⟩
  rw [← hX]
  clear h
  match l, HT, HO, hX with
  | [], HT, HO, hX =>
    rw [show takeR 2 [] = .error 8 from rfl] at HT
    have HX : Hid (X = .error 8) := hX
    clear hX
    go_enter Tryd.func62, Tryd.ntmps62
    go_wp2_with fail
    refine HT.mono ?_
    rintro e w1 ⟨hg, rfl⟩
    have HG : Hid (w.grownBy w1 (some R)) := hg
    clear hg HT
    go_wp2
    go_ret2
    rw [HX.out]
    exact ⟨HG.out, rfl⟩
  | [x], HT, HO, hX =>
    rw [show takeR 2 [x] = .error 8 from rfl] at HT
    have HX : Hid (X = .error 8) := hX
    clear hX
    go_enter Tryd.func62, Tryd.ntmps62
    go_wp2_with fail
    refine HT.mono ?_
    rintro e w1 ⟨hg, rfl⟩
    have HG : Hid (w.grownBy w1 (some R)) := hg
    clear hg HT
    go_wp2
    go_ret2
    rw [HX.out]
    exact ⟨HG.out, rfl⟩
  | x :: y :: r, HT, HO, hX =>
    rw [show takeR 2 (x :: y :: r) = .ok ([x, y], r) from rfl] at HT
    have HX0 : Hid (X = takeR (x * 256 + y).toNat r) := hX
    have hx := (oc_cons.1 HO.out).1
    have hy := (oc_cons.1 (oc_cons.1 HO.out).2).1
    obtain ⟨m, hm⟩ : ∃ m, m = (x * 256 + y).toNat := ⟨_, rfl⟩
    rw [← hm] at HX0
    have HM : Hid (m = (x * 256 + y).toNat) := hm
    have hm1 : m ≤ 65535 := by omega
    clear hX hm hx hy
    go_enter Tryd.func62, Tryd.ntmps62
    go_wp2_with fail
    refine HT.mono ?_
    rintro e w1 ⟨hg, v, rfl, hA, hR⟩
    have HG : Hid (w.grownBy w1 (some R) ∧ Rdr w0 R r w1) := ⟨hg, hR⟩
    have HGT := get2 v x y w1 hA
    rw [← HM.out] at HGT
    obtain ⟨a1, c1, rfl, _⟩ := hA.shape
    simp only [List.length_cons, List.length_nil] at HGT ⊢
    clear hg HT hA hR
    go_wp2_with fail
    refine HGT.mono ?_
    rintro e w2 ⟨rfl, rfl⟩
    have HK := take_any w0 R r m w1 HG.out.2
    clear HGT
    rw [← HX0.out] at HK
    cases X with
    | error k =>
      go_wp2_with fail
      refine HK.mono ?_
      rintro e w3 ⟨hgr, rfl⟩
      have HG3 : Hid (w.grownBy w3 (some R)) := grown_trans HG.out.1 hgr
      clear hgr HK
      go_wp2
      go_ret2
      exact ⟨HG3.out, rfl⟩
    | ok pp =>
      obtain ⟨t, q⟩ := pp
      go_wp2_with fail
      refine HK.mono ?_
      rintro e w3 ⟨hgr, v3, rfl, hA3, hR3⟩
      have HG3 : Hid (w.grownBy w3 (some R) ∧ Arg 0 w3 v3 t ∧ Rdr w0 R q w3) := ⟨grown_trans HG.out.1 hgr, hA3, hR3⟩
      clear hgr HK hA3 hR3
      go_wp2
      go_ret2
      exact ⟨HG3.out.1, _, rfl, HG3.out.2⟩

end Go.Proofs.YtfpllfjdgpcmdaaDoor
