/-
  What the document's Encode answers, for every entries.
-/
import Derived.Test.YthppbmbhoedphaaEncode
namespace Go.Proofs.Ythppbmbhoedphaa
open Go.RowKit

theorem below_grow1 {w wr w' : World} {o : Obj} {v : Value} {n : Nat} {xs : List Value} (hb : Below w.heap.size w wr) (hO : wr.ownsRow w.heap.size 5 1 v n xs) (hg : (wr.alloc o).grownBy w' v.ownBlock) : Below w.heap.size w w' :=
  (hb.alloc hb.size o).grown hg (by have := hb.size; simp; omega) (fun j hj => (hO.lt j hj).1)

theorem four_cells {m : Nat} (h : m ≤ 2147483647) : [Value.int .u8 ((m : Int) / 16777216), .int .u8 ((m : Int) / 65536 % 256), .int .u8 ((m : Int) / 256 % 256), .int .u8 ((m : Int) % 256)] = (O.oct m 4).map (Value.int .u8) := by
  rw [oct4]
  simp only [List.map_cons, List.map_nil, List.cons.injEq, Value.int.injEq, true_and, and_true]
  refine ⟨?_, ?_, ?_, ?_⟩ <;> omega
theorem last_own {w w5 : World} {s : ByteArray} {m N : Nat} {v5 : Value} {E E' : List Int} (hown : w5.ownsRow w.heap.size 5 1 v5 (N + 1 + s.size + 4) (E.map (Value.int .u8) ++ [.int .u8 (s.size : Int)] ++ Lib.strCells s ++ [.int .u8 ((m : Int) / 16777216), .int .u8 ((m : Int) / 65536 % 256), .int .u8 ((m : Int) / 256 % 256), .int .u8 ((m : Int) % 256)])) (hm : m ≤ 2147483647)
    (he : E' = E ++ ((s.size : Int) :: (nb s ++ O.oct m 4))) (hN : N = E.length) (ho : Oct E) (hs : s.size ≤ 16) : Own1 w.heap.size w5 v5 E' := by
  refine .mk ?_ ?_
  · have hl : E'.length = N + 1 + s.size + 4 := by rw [he, hN]; simp [nb_length]; omega
    rw [four_cells hm] at hown
    rw [hl, he, List.map_append, List.map_cons, List.map_append, nb_cells]
    simpa using hown
  · rw [he]
    exact oct_app ho (encE_oct (p := (s, (m : Int))) (by simp; omega))

set_option maxRecDepth 100000 in
set_option maxHeartbeats 4000000 in
theorem rencode_any (n0 : Nat) (v : Value) (l : List En) (w : World) (h : ArgE n0 w v l) :
    Calls Try.prog 25 #[v] w fun e w' => (∃ v', e = .returned (.tuple #[v', .int .i64 (cerr l)]) ∧ Own1 w.heap.size w' v' (eval l)) ∧ Below w.heap.size w w' := by
  obtain ⟨i0, hi0, hz0, hz1, hz2⟩ := info_parts Try.info5
  have HC := rcheck_any n0 v l w h
  have hln := h.lenR
  have HA : Hid (ArgE n0 w v l) := h
  by_cases hck : Chk l
  case neg =>
    rw [show eval l = [] from if_neg hck]
    rw [cerr_bad hck] at HC ⊢
    clear h hck
    go_enter Try.func25, Try.ntmps25
    go_wp2_with fail
    refine HC.mono ?_
    rintro e w1 ⟨rfl, q1, rfl⟩
    go_wp2
    go_ret2
    exact ⟨⟨_, rfl, .mk (World.ownsRow_nil _ _ _ _) (fun _ h => by cases h)⟩, below_drewN (Below.refl _ _) _⟩
  rw [show eval l = enc l from if_pos hck]
  rw [cerr_ok hck] at HC ⊢
  have HCK : Hid (Chk l) := hck
  obtain ⟨n, hn⟩ : ∃ n, n = l.length := ⟨_, rfl⟩
  have h63 : n ≤ 63 := by rw [hn]; exact hck.1
  rw [← hn] at hln
  have HN : Hid (n = l.length) := hn
  clear h hck hn
  go_enter Try.func25, Try.ntmps25
  go_wp2_with fail
  refine HC.mono ?_
  rintro e w1 ⟨rfl, q1, hq1⟩
  have HB1 : Hid (Below w.heap.size w w1) := by rw [hq1]; exact below_drewN (Below.refl _ _) _
  clear HC hq1
  go_wp2
  go_loopw [4, 5] (fun o i wr => ∃ k : Nat, k ≤ n ∧ i = .int .i64 k ∧ Own1 w.heap.size wr o (enc (l.take k)) ∧ Below w.heap.size w wr) (fun _ i _ => n - (intOf i).toNat)
  case atStart => exact ⟨0, Nat.zero_le _, rfl, .mk (World.ownsRow_nil _ _ _ _) (fun _ h => by cases h), HB1.out⟩
  case round =>
    obtain ⟨k, hk, rfl, hO, hbel⟩ := hrel
    by_cases hlt : k < n
    · obtain ⟨p, hp⟩ := get_lt (l := l) (k := k) (by rw [← HN.out]; exact hlt)
      have hki : (k : Int) < (n : Int) := by omega
      have hgs := good_size (good_at HCK.out.2 hp)
      have hel := enc_length (l := l.take k) (fun q hq => HCK.out.2.1 q (List.mem_of_mem_take hq))
      have hes : enc (l.take (k + 1)) = enc (l.take k) ++ encE p := enc_snoc hp
      obtain ⟨s, x⟩ := p
      simp only at hgs
      obtain ⟨m, rfl⟩ : ∃ m : Nat, x = (m : Int) := ⟨x.toNat, by omega⟩
      obtain ⟨N, hNN⟩ : ∃ N, N = (enc (l.take k)).length := ⟨_, rfl⟩
      have hN : N ≤ 1323 := by rw [hNN]; rw [List.length_take] at hel; omega
      have HES : Hid (enc (l.take (k + 1)) = enc (l.take k) ++ ((s.size : Int) :: (nb s ++ O.oct m 4)) ∧ N = (enc (l.take k)).length ∧ Oct (enc (l.take k)) ∧ s.size ≤ 16) := ⟨by rw [hes]; simp [encE], hNN, hO.oct, by omega⟩
      have hrow := hO.row
      rw [← hNN] at hrow
      obtain ⟨a', c', hov⟩ := own_shape hrow
      subst hov
      have HO : Hid (wr.ownsRow w.heap.size 5 1 (.slice a' N c') N ((enc (l.take k)).map (Value.int .u8)) ∧ Below w.heap.size w wr) := ⟨hrow, hbel⟩
      have HCE : Hid (∀ V, Below w.heap.size w V → ∃ b o, (∀ W, (Instr.indexAt 22 v (.int .i64 k)).run Try.prog W = .ok (.pointer (some ⟨b, o, none⟩)) W) ∧ V.cell? ⟨b, o, none⟩ = some (.string s) ∧ V.cell? ⟨b, o + 1, none⟩ = some (.int .i64 (m : Int))) := fun V hV => by
        obtain ⟨b, o, h1, _, h2, h3⟩ := (HA.out.below hV).atR k _ hp
        exact ⟨b, o, h1, h2, h3⟩
      obtain ⟨b, o, hix, hc0, hc1⟩ := HCE.out wr hbel
      have hm0 : (0 : Int) ≤ (m : Int) := by omega
      have hm1 : (m : Int) ≤ 2147483647 := by omega
      have hsz : (s.size : Int) ≤ 16 := by omega
      have HM : Hid (m ≤ 2147483647) := by show _ ≤ _; omega
      clear hp hO hbel hel hes hrow hNN hgs
      go_wp2_with (at_builtin; first | (refine wpList_append_lies _ (by rfl) _ _ 47 (by rfl) w.heap.size 5 i0 _ 1 1 Try.underlying47 hi0 hz0 hz1 hz2 rfl (by omega) _ (N + 1 + s.size) _ (by rfl) (H4.out.1.alloc _) ⟨w4.heap.size, 0, none⟩ 4 4 [.int .u8 ((m : Int) / 16777216), .int .u8 ((m : Int) / 65536 % 256), .int .u8 ((m : Int) / 256 % 256), .int .u8 ((m : Int) % 256)] (by rfl) (by rfl) (World.news_of_block (cs := #[.int .u8 ((m : Int) / 16777216), .int .u8 ((m : Int) / 65536 % 256), .int .u8 ((m : Int) / 256 % 256), .int .u8 ((m : Int) % 256)]) (t := 5) (fr := (0, 0)) (heap_alloc_new w4 _)) (by simp [Value.oneCell']) (by omega) (by unfold maxLen; omega) (by omega) (by have := H4.out.2.size; simp; omega) (w4.heap.size + 1) (by simp) ?_; intro g5 cap5 w5 hown5 hgrow5 hat5 hltg5; have H5 : Hid (Own1 w.heap.size w5 (.slice (some ⟨g5, 0, none⟩) (N + 1 + s.size + 4) cap5) (enc (l.take (k + 1))) ∧ Below w.heap.size w w5) := ⟨last_own hown5 HM.out HES.out.1 HES.out.2.1 HES.out.2.2.1 HES.out.2.2.2, below_grow1 H4.out.2 H4.out.1 hgrow5⟩; clear hown5 hgrow5 hat5 hltg5) | (refine Lib.wpList_append_own_string _ (by rfl) _ _ 47 9 (by rfl) w.heap.size 5 i0 Try.underlying47 Try.underlying9 hi0 hz0 hz1 hz2 _ (N + 1) _ (by rfl) H3.out.1 s (by rfl) (by unfold maxLen; omega) (by omega) H3.out.2.size ?_; intro v4 w4 hown4 hgrow4 _; have H4 : Hid (w4.ownsRow w.heap.size 5 1 v4 (N + 1 + s.size) ((enc (l.take k)).map (Value.int .u8) ++ [.int .u8 (s.size : Int)] ++ Lib.strCells s) ∧ Below w.heap.size w w4) := ⟨hown4, H3.out.2.grown hgrow4 H3.out.2.size (fun j hj => (H3.out.1.lt j hj).1)⟩; obtain ⟨a4, c4, hv4⟩ := own_shape hown4; subst hv4; clear hown4 hgrow4 hd0 hd1 hix3) | (refine wpList_append_lies _ (by rfl) _ _ 47 (by rfl) w.heap.size 5 i0 _ 1 1 Try.underlying47 hi0 hz0 hz1 hz2 rfl (by omega) _ N _ (by rfl) (HO.out.1.alloc _) ⟨wr.heap.size, 0, none⟩ 1 1 [.int .u8 (s.size : Int)] (by rfl) (by rfl) (World.news_of_block (cs := #[.int .u8 (s.size : Int)]) (t := 5) (fr := (0, 0)) (heap_alloc_new wr _)) (by simp [Value.oneCell']) (by omega) (by unfold maxLen; omega) (by omega) (by have := HO.out.2.size; simp; omega) (wr.heap.size + 1) (by simp) ?_; intro gg cap3 w3 hown3 hgrow3 hat hltg; have H3 : Hid (w3.ownsRow w.heap.size 5 1 (.slice (some ⟨gg, 0, none⟩) (N + 1) cap3) (N + 1) ((enc (l.take k)).map (Value.int .u8) ++ [.int .u8 (s.size : Int)]) ∧ Below w.heap.size w w3) := ⟨hown3, below_grow1 HO.out.2 HO.out.1 hgrow3⟩; clear hown3 hgrow3 hat hltg hix hc0 hc1; obtain ⟨b3, o3, hix3, hd0, hd1⟩ := HCE.out w3 H3.out.2))
      go_roundw
      case rel => exact ⟨k + 1, by omega, by go_num, H5.out.1, H5.out.2⟩
      case measure => simp [intOf]; omega
    · obtain rfl : k = n := by omega
      rw [show l.take k = l by rw [HN.out]; simp] at hO
      go_wp2
      go_ret2
      exact ⟨⟨_, rfl, hO⟩, hbel⟩

end Go.Proofs.Ythppbmbhoedphaa
