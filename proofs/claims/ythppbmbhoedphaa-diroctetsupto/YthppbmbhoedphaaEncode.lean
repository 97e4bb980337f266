/-
  What dir.Encode answers, for every entries.
-/
import Derived.Test.YthppbmbhoedphaaEMath
namespace Go.Proofs.Ythppbmbhoedphaa
open Go.RowKit

theorem need4 (m : Nat) (h : m ≤ 2147483647) : O.need m ≤ 4 := (O.need_le_iff 4 m).2 (by simp; omega)

/-- Octets that grow beside a variable that holds an entry, and beside four octets. -/
def E3 (w wr W w3 : World) (s : ByteArray) (m : Nat) (v : Value) (n : Nat) (xs : List Value) : Prop :=
  w3.ownsRow w.heap.size 5 1 v n xs ∧ Box w3 wr.heap.size 34 #[.string s, .int .i64 (m : Int)] ∧ w3.ownsRow W.heap.size 5 1 (.slice (some ⟨W.heap.size, 0, none⟩) 4 4) 4 ((O.oct m 4).map (Value.int .u8)) ∧ Below w.heap.size w w3 ∧ True
theorem E3.first {w wr W w2 w3 : World} {s : ByteArray} {m : Nat} {a' : Option Addr} {N c' gg cap3 : Nat} {xs ys : List Value} {o : Obj} (hb : Below w.heap.size w wr) (hb2 : Below wr.heap.size wr w2) (hX : Box w2 wr.heap.size 34 #[.string s, .int .i64 (m : Int)]) (hP : w2.ownsRow W.heap.size 5 1 (.slice (some ⟨W.heap.size, 0, none⟩) 4 4) 4 ((O.oct m 4).map (Value.int .u8))) (hlt : W.heap.size < w2.heap.size) (hsz : W.heap.size = wr.heap.size + 1)
    (hO : w2.ownsRow w.heap.size 5 1 (.slice a' N c') N xs) (hOl : ∀ g, (Value.slice a' N c').ownBlock = some g → g < wr.heap.size) (hown : w3.ownsRow w.heap.size 5 1 (.slice (some ⟨gg, 0, none⟩) (N + 1) cap3) (N + 1) ys) (hg : (w2.alloc o).grownBy w3 (Value.slice a' N c').ownBlock) (hat : (Value.slice a' N c').ownBlock = some gg ∨ gg = w2.heap.size + 1) :
    E3 w wr W w3 s m (.slice (some ⟨gg, 0, none⟩) (N + 1) cap3) (N + 1) ys ∧ gg ≠ wr.heap.size ∧ gg ≠ W.heap.size := by
  refine ⟨⟨hown, (hX.alloc _).grown hg (fun e => by have := hOl _ e.symm; omega), ?_, ?_, trivial⟩, ?_, ?_⟩
  · exact (hP.alloc o).kept hg (.inr fun e => by have := hOl W.heap.size (by rw [← e]; rfl); omega)
  · exact ((below_any hb hb2).alloc (by have := hb.size; have := hb2.size; omega) o).grown hg (by have := hb.size; have := hb2.size; simp; omega) (fun j hj => (hO.lt j hj).1)
  · rcases hat with h | h
    · have := hOl gg h; omega
    · omega
  · rcases hat with h | h
    · have := hOl gg h; omega
    · omega
theorem E3.next {w wr W w3 w4 : World} {s : ByteArray} {m : Nat} {gg n n4 cap3 : Nat} {v4 : Value} {xs ys : List Value} (h : E3 w wr W w3 s m (.slice (some ⟨gg, 0, none⟩) n cap3) n xs) (h1 : gg ≠ wr.heap.size) (h2 : gg ≠ W.heap.size) (hown : w4.ownsRow w.heap.size 5 1 v4 n4 ys) (hg : w3.grownBy w4 (Value.slice (some ⟨gg, 0, none⟩) n cap3).ownBlock) : E3 w wr W w4 s m v4 n4 ys := by
  refine ⟨hown, h.2.1.grown hg (fun e => h1 (by simpa [Value.ownBlock] using e.symm)), ?_, ?_, trivial⟩
  · exact h.2.2.1.kept hg (.inr fun e => h2 (by simpa [Value.ownBlock] using e.symm))
  · exact h.2.2.2.1.grown hg h.2.2.2.1.size (fun j hj => (h.1.lt j hj).1)
theorem E3.last {w wr W w4 w5 : World} {s : ByteArray} {m N : Nat} {v4 v5 : Value} {E E' : List Int} (h : E3 w wr W w4 s m v4 (N + 1 + s.size) (E.map (Value.int .u8) ++ [.int .u8 (s.size : Int)] ++ Lib.strCells s)) (hown : w5.ownsRow w.heap.size 5 1 v5 (N + 1 + s.size + 4) (E.map (Value.int .u8) ++ [.int .u8 (s.size : Int)] ++ Lib.strCells s ++ (O.oct m 4).map (Value.int .u8))) (hg : w4.grownBy w5 v4.ownBlock)
    (he : E' = E ++ ((s.size : Int) :: (nb s ++ O.oct m 4))) (hN : N = E.length) (ho : Oct E) (hs : s.size ≤ 16) : Own1 w.heap.size w5 v5 E' ∧ Below w.heap.size w w5 := by
  refine ⟨.mk ?_ ?_, h.2.2.2.1.grown hg h.2.2.2.1.size (fun j hj => (h.1.lt j hj).1)⟩
  · have hl : E'.length = N + 1 + s.size + 4 := by rw [he, hN]; simp [nb_length]; omega
    rw [hl, he, List.map_append, List.map_cons, List.map_append, nb_cells]
    simpa using hown
  · rw [he]
    exact oct_app ho (encE_oct (p := (s, (m : Int))) (by simp; omega))

set_option maxRecDepth 100000 in
set_option maxHeartbeats 4000000 in
theorem encode_any (n0 : Nat) (v : Value) (l : List En) (w : World) (h : ArgE n0 w v l) :
    Calls Try.prog 24 #[v] w fun e w' => (∃ v', e = .returned (.tuple #[v', .int .i64 (cerr l)]) ∧ Own1 w.heap.size w' v' (eval l)) ∧ Below w.heap.size w w' := by
  obtain ⟨i0, hi0, hz0, hz1, hz2⟩ := info_parts Try.info5
  have HC := check_any n0 v l w h
  have hln := h.len
  have HA : Hid (ArgE n0 w v l) := h
  by_cases hck : Chk l
  case neg =>
    rw [show eval l = [] from if_neg hck]
    rw [cerr_bad hck] at HC ⊢
    clear h hck
    go_enter Try.func24, Try.ntmps24
    go_wp2_with fail
    refine HC.mono ?_
    rintro e w1 ⟨rfl, hb1⟩
    go_wp2
    go_ret2
    exact ⟨⟨_, rfl, .mk (World.ownsRow_nil _ _ _ _) (fun _ h => by cases h)⟩, hb1⟩
  rw [show eval l = enc l from if_pos hck]
  rw [cerr_ok hck] at HC ⊢
  have HCK : Hid (Chk l) := hck
  obtain ⟨n, hn⟩ : ∃ n, n = l.length := ⟨_, rfl⟩
  have h63 : n ≤ 63 := by rw [hn]; exact hck.1
  rw [← hn] at hln
  have HN : Hid (n = l.length) := hn
  clear h hck hn
  go_enter Try.func24, Try.ntmps24
  go_wp2_with fail
  refine HC.mono ?_
  rintro e w1 ⟨rfl, hb1⟩
  have HB1 : Hid (Below w.heap.size w w1) := hb1
  clear HC hb1
  go_wp2
  go_loopw [5, 17] (fun o i wr => ∃ k : Nat, k ≤ n ∧ i = .int .i64 k ∧ Own1 w.heap.size wr o (enc (l.take k)) ∧ Below w.heap.size w wr) (fun _ i _ => n - (intOf i).toNat)
  case atStart => exact ⟨0, Nat.zero_le _, rfl, .mk (World.ownsRow_nil _ _ _ _) (fun _ h => by cases h), HB1.out⟩
  case round =>
    obtain ⟨k, hk, rfl, hO, hbel⟩ := hrel
    by_cases hlt : k < n
    · obtain ⟨p, hp⟩ := get_lt (l := l) (k := k) (by rw [← HN.out]; exact hlt)
      obtain ⟨b, o, hix, _, hc0, hc1⟩ := (HA.out.below hbel).atN k p hp
      have hki : (k : Int) < (n : Int) := by omega
      have hgs := good_size (good_at HCK.out.2 hp)
      have hel := enc_length (l := l.take k) (fun q hq => HCK.out.2.1 q (List.mem_of_mem_take hq))
      have hes : enc (l.take (k + 1)) = enc (l.take k) ++ encE p := enc_snoc hp
      obtain ⟨s, x⟩ := p
      simp only at hc0 hc1 hgs
      obtain ⟨m, rfl⟩ : ∃ m : Nat, x = (m : Int) := ⟨x.toNat, by omega⟩
      obtain ⟨N, hNN⟩ : ∃ N, N = (enc (l.take k)).length := ⟨_, rfl⟩
      have hN : N ≤ 1323 := by rw [hNN]; rw [List.length_take] at hel; omega
      have HES : Hid (enc (l.take (k + 1)) = enc (l.take k) ++ ((s.size : Int) :: (nb s ++ O.oct m 4)) ∧ N = (enc (l.take k)).length ∧ Oct (enc (l.take k)) ∧ s.size ≤ 16) := ⟨by rw [hes]; simp [encE], hNN, hO.oct, by omega⟩
      have hrow := hO.row
      rw [← hNN] at hrow
      obtain ⟨a', c', hov⟩ := own_shape hrow
      subst hov
      have HO : Hid (wr.ownsRow w.heap.size 5 1 (.slice a' N c') N ((enc (l.take k)).map (Value.int .u8)) ∧ Below w.heap.size w wr) := ⟨hrow, hbel⟩
      obtain ⟨W, hW⟩ : ∃ W, W = wr.alloc (.cells #[.string s, .int .i64 (m : Int)] 34) := ⟨_, rfl⟩
      have hbW : Below wr.heap.size wr W := by rw [hW]; exact (Below.refl _ wr).alloc (Nat.le_refl _) _
      have hBx : Box W wr.heap.size 34 #[.string s, .int .i64 (m : Int)] := by rw [hW]; exact Box.new _ _ _
      have HW : Hid (Below wr.heap.size wr W ∧ Box W wr.heap.size 34 #[.string s, .int .i64 (m : Int)] ∧ W.heap.size = wr.heap.size + 1) := ⟨hbW, hBx, by rw [hW]; simp⟩
      have HPT := O.put_ok m 4 W (by omega) (by omega) (need4 m (by omega))
      obtain ⟨g0, g1, _, _⟩ := hBx.two
      rw [hW] at g0 g1
      have hm0 : (0 : Int) ≤ (m : Int) := by omega
      have hm1 : (m : Int) ≤ 2147483647 := by omega
      have hsz : (s.size : Int) ≤ 16 := by omega
      clear hp hO hbel hel hes hrow hNN hbW hBx hgs
      go_wp2_with fail
      rw [← hW]
      clear hW g0 g1
      refine HPT.mono ?_
      rintro e w2 ⟨rfl, hP2, hb2⟩
      have HB2 : Hid (Below wr.heap.size wr w2) := below_any HW.out.1 hb2
      have HX2 : Hid (Box w2 wr.heap.size 34 #[.string s, .int .i64 (m : Int)]) := HW.out.2.1.below hb2 HW.out.2.1.lt
      have HP2 : Hid (w2.ownsRow W.heap.size 5 1 (.slice (some ⟨W.heap.size, 0, none⟩) 4 4) 4 ((O.oct m 4).map (Value.int .u8)) ∧ W.heap.size < w2.heap.size) := ⟨hP2, (hP2.lt W.heap.size rfl).2⟩
      have HO2 : Hid (w2.ownsRow w.heap.size 5 1 (.slice a' N c') N ((enc (l.take k)).map (Value.int .u8)) ∧ (∀ g, (Value.slice a' N c').ownBlock = some g → g < wr.heap.size)) := ⟨own_below HO.out.1 HB2.out, fun g hg => (HO.out.1.lt g hg).2⟩
      obtain ⟨g0, g1, _, _⟩ := HX2.out.two
      clear HPT hP2 hb2
      go_wp2_with (at_builtin; first | (refine wpList_append_own _ (by rfl) _ _ 47 (by rfl) w.heap.size 5 i0 _ 1 1 Try.underlying47 hi0 hz0 hz1 hz2 rfl (by omega) _ (N + 1 + s.size) _ (by rfl) H4.out.1 ⟨W.heap.size, 0, none⟩ 4 4 ((O.oct m 4).map (Value.int .u8)) (by rfl) (by simp) (fun j u hu => H4.out.2.2.1.cells (g := W.heap.size) rfl j u hu) (one_cells _) (by unfold maxLen; omega) (by omega) H4.out.2.2.2.1.size ?_; intro v5 w5 hown5 hgrow5 _; have H5 : Hid (Own1 w.heap.size w5 v5 (enc (l.take (k + 1))) ∧ Below w.heap.size w w5) := H4.out.last hown5 hgrow5 HES.out.1 HES.out.2.1 HES.out.2.2.1 HES.out.2.2.2; clear hown5 hgrow5) | (refine Lib.wpList_append_own_string _ (by rfl) _ _ 47 9 (by rfl) w.heap.size 5 i0 Try.underlying47 Try.underlying9 hi0 hz0 hz1 hz2 _ (N + 1) _ (by rfl) H3.out.1.1 s (by rfl) (by unfold maxLen; omega) (by omega) H3.out.1.2.2.2.1.size ?_; intro v4 w4 hown4 hgrow4 _; have H4 : Hid (E3 w wr W w4 s m v4 (N + 1 + s.size) ((enc (l.take k)).map (Value.int .u8) ++ [.int .u8 (s.size : Int)] ++ Lib.strCells s)) := H3.out.1.next H3.out.2.1 H3.out.2.2 hown4 hgrow4; obtain ⟨a4, c4, hv4⟩ := own_shape hown4; subst hv4; clear hown4 hgrow4 q0 q1) | (refine wpList_append_lies _ (by rfl) _ _ 47 (by rfl) w.heap.size 5 i0 _ 1 1 Try.underlying47 hi0 hz0 hz1 hz2 rfl (by omega) _ N _ (by rfl) (HO2.out.1.alloc _) ⟨w2.heap.size, 0, none⟩ 1 1 [.int .u8 (s.size : Int)] (by rfl) (by rfl) (World.news_of_block (cs := #[.int .u8 (s.size : Int)]) (t := 5) (fr := (0, 0)) (heap_alloc_new w2 _)) (by simp [Value.oneCell']) (by omega) (by unfold maxLen; omega) (by omega) (by have := HB2.out.size; have := HO.out.2.size; simp; omega) (w2.heap.size + 1) (by simp) ?_; intro gg cap3 w3 hown3 hgrow3 hat hltg; have H3 : Hid (E3 w wr W w3 s m (.slice (some ⟨gg, 0, none⟩) (N + 1) cap3) (N + 1) ((enc (l.take k)).map (Value.int .u8) ++ [.int .u8 (s.size : Int)]) ∧ gg ≠ wr.heap.size ∧ gg ≠ W.heap.size) := E3.first HO.out.2 HB2.out HX2.out HP2.out.1 HP2.out.2 HW.out.2.2 HO2.out.1 HO2.out.2 hown3 hgrow3 hat; clear hown3 hgrow3 hat hltg g0 g1; obtain ⟨q0, q1, _, _⟩ := H3.out.1.2.1.two))
      go_roundw
      case rel => exact ⟨k + 1, by omega, by go_num, H5.out.1, H5.out.2⟩
      case measure => simp [intOf]; omega
    · obtain rfl : k = n := by omega
      rw [show l.take k = l by rw [HN.out]; simp] at hO
      go_wp2
      go_ret2
      exact ⟨⟨_, rfl, hO⟩, hbel⟩

end Go.Proofs.Ythppbmbhoedphaa
