/-
  What Take answers: the packet, and the network without it.
-/
import Derived.Test.YtpecniajamgjiaaSend
import Derived.Test.YtpecniajamgjiaaDelete
namespace Go.Proofs.Ytpecniajamgjiaa
open Go.RowKit

def tst (s : St) (k : Int) : St := if terr s k = 0 then (s.1, s.2.eraseIdx k.toNat) else zst
def tpk (s : St) (k : Int) : Pk := if terr s k = 0 then (s.2[k.toNat]?).getD zpk else zpk

/-- One element of a slice that the call owns: where it lies, and what it is. -/
theorem Shape.list_own_at {α : Type} [Inhabited α] {S : Shape α} {t : TypeId} {ht hc} {n : Nat} {w : World} {v : Value} {ls : List α} (h : (S.list t ht hc).owns n w [v] ls) (hz : 0 < S.size) {i0 : TypeInfo} (hi0 : Try.prog.info? S.ty = some i0) (hs : i0.size = S.size) (i : Nat) (x : α) (hx : ls[i]? = some x) :
    ∃ b o us, (∀ W, (Instr.indexAt t v (.int .i64 i)).run Try.prog W = .ok (.pointer (some ⟨b, o, none⟩)) W) ∧ n ≤ b ∧ (∀ j u, us[j]? = some u → w.cell? ⟨b, o + j, none⟩ = some u) ∧ S.owns n w us x := by
  obtain ⟨v', vss, hv, hC, hE⟩ := h
  obtain rfl : v = v' := by simpa using hv
  obtain ⟨us, hu, hl⟩ := hE.get hx
  obtain ⟨b, o, hix, hb, hcell⟩ := (Cells.own hC).index hz ht hi0 hs i (List.getElem?_eq_some_iff.1 hx).1
  refine ⟨b, o, us, hix, hb, fun j u hj => hcell j u ?_, hl⟩
  refine flat_get (fun us' hus => ?_) hu hj
  obtain ⟨_, _, h⟩ := hE.left hus
  exact S.length (S.olies h)

/-- One chunk less. -/
theorem flat_erase {α : Type} {size : Nat} : ∀ {vss : List (List α)} {k : Nat}, (∀ us ∈ vss, us.length = size) → k < vss.length → (vss.eraseIdx k).flatten = vss.flatten.take (k * size) ++ vss.flatten.drop ((k + 1) * size)
  | [], _, _, h => by simp at h
  | us :: r, 0, hs, _ => by
    have := hs us (List.mem_cons_self ..)
    rw [List.eraseIdx_cons_zero, List.flatten_cons, Nat.zero_mul, List.take_zero, List.nil_append, show (0 + 1) * size = us.length by omega, List.drop_left]
  | us :: r, k + 1, hs, h => by
    have h0 := hs us (List.mem_cons_self ..)
    have ih := flat_erase (k := k) (fun x hx => hs x (List.mem_cons_of_mem _ hx)) (by simpa using h)
    rw [List.eraseIdx_cons_succ, List.flatten_cons, List.flatten_cons, ih, show (k + 1) * size = us.length + k * size by rw [h0, Nat.succ_mul]; omega, show (k + 1 + 1) * size = us.length + (k + 1) * size by rw [h0, Nat.succ_mul]; omega]
    rw [List.take_length_add_append, List.drop_length_add_append, List.append_assoc, show us.length + k * size = (k + 1) * size by rw [h0, Nat.succ_mul]; omega]

attribute [local go_sem ↓] Go.wp_at_zero Go.wp_at_succ

set_option maxRecDepth 100000 in
set_option maxHeartbeats 8000000 in
theorem take_any (n0 : Nat) (us : List Value) (s : St) (k : Int) (w : World) (h : stN.lies n0 w us s) (hki : I64 k) :
    Calls Try.prog 11 #[.agg us.toArray, .int .i64 k] w fun e w' => (∃ us' ps', e = .returned (.tuple #[.agg us'.toArray, .agg ps'.toArray, .int .i64 (terr s k)]) ∧ stN.owns w.heap.size w' us' (tst s k) ∧ pkF.owns w.heap.size w' ps' (tpk s k)) ∧ Below w.heap.size w w' := by
  obtain ⟨a, c, rfl, hL, hi, hm⟩ := st_viewN h
  obtain ⟨i3, hi3, hz30, hz31, hz32⟩ := info_parts Try.info32
  obtain ⟨lim, l⟩ := s
  simp only at hL hi hm
  obtain ⟨n, hn⟩ : ∃ n, n = l.length := ⟨_, rfl⟩
  obtain ⟨W, hW⟩ : ∃ W, W = ((w.alloc (.cells #[.int .i64 lim, .slice a n c] 30)).alloc (.cells #[.int .i64 0, .slice none 0 0] 30)).alloc (.cells #[.int .i64 0, .int .i64 0, .slice none 0 0] 32) := ⟨_, rfl⟩
  have hb : Below w.heap.size w W := by
    rw [hW]; exact (((Below.refl _ w).alloc (Nat.le_refl _) _).alloc (by simp) _).alloc (by simp; omega) _
  have hB0 : Box W w.heap.size 30 #[.int .i64 lim, .slice a n c] := by
    rw [hW]; exact ((Box.new w 30 _).alloc _).alloc _
  have hB1 : Box W (w.heap.size + 1) 30 #[.int .i64 0, .slice none 0 0] := by
    rw [hW]
    have := (Box.new (w.alloc (.cells #[.int .i64 lim, .slice a n c] 30)) 30 #[.int .i64 0, .slice none 0 0]).alloc (.cells #[.int .i64 0, .int .i64 0, .slice none 0 0] 32)
    simpa using this
  have hB2 : Box W (w.heap.size + 2) 32 #[.int .i64 0, .int .i64 0, .slice none 0 0] := by
    rw [hW]
    have := Box.new ((w.alloc (.cells #[.int .i64 lim, .slice a n c] 30)).alloc (.cells #[.int .i64 0, .slice none 0 0] 30)) 32 #[.int .i64 0, .int .i64 0, .slice none 0 0]
    simpa using this
  have HW : Hid (Below w.heap.size w W ∧ Box W w.heap.size 30 #[.int .i64 lim, .slice a n c] ∧ Box W (w.heap.size + 1) 30 #[.int .i64 0, .slice none 0 0] ∧ Box W (w.heap.size + 2) 32 #[.int .i64 0, .int .i64 0, .slice none 0 0]) := ⟨hb, hB0, hB1, hB2⟩
  have HD : Hid (stN.lies n0 W [.int .i64 lim, .slice a n c] (lim, l)) := by
    rw [hn]; exact stN.below h hb
  have HN : Hid (n = l.length) := hn
  have HC := place_any n0 _ (lim, l) k W HD.out
  obtain ⟨te, hte⟩ : ∃ x, x = terr (lim, l) k := ⟨_, rfl⟩
  obtain ⟨S', hS'⟩ : ∃ x, x = tst (lim, l) k := ⟨_, rfl⟩
  obtain ⟨P', hP'⟩ : ∃ x, x = tpk (lim, l) k := ⟨_, rfl⟩
  have HTE : Hid (te = terr (lim, l) k ∧ S' = (if te = 0 then (lim, l.eraseIdx k.toNat) else zst) ∧ P' = (if te = 0 then (l[k.toNat]?).getD zpk else zpk)) := by
    refine ⟨hte, ?_, ?_⟩
    · rw [hS', hte]; rfl
    · rw [hP', hte]; rfl
  rw [← hte, ← hS', ← hP']
  rw [← hte] at HC
  simp only
  rw [← hn]
  clear h hL hi hm hb hB0 hB1 hB2 hn hte hS' hP'
  go_enter Try.func11, Try.ntmps11
  go_wp2_with fail
  rw [← hW]
  clear hW
  refine HC.mono ?_
  rintro e w2 ⟨rfl, hb2⟩
  have HB2 : Hid (Below W.heap.size W w2 ∧ Below w.heap.size w w2) := ⟨hb2, below_any HW.out.1 hb2⟩
  clear HC hb2
  by_cases ht0 : te = 0
  case neg =>
    obtain rfl : S' = zst := by rw [HTE.out.2.1, if_neg ht0]
    obtain rfl : P' = zpk := by rw [HTE.out.2.2, if_neg ht0]
    obtain ⟨d0, d1, d2, d3⟩ := (HW.out.2.2.1.below HB2.out.1 HW.out.2.2.1.lt).two
    obtain ⟨e0, e1, e2, e3, e4, e5⟩ := (HW.out.2.2.2.below HB2.out.1 HW.out.2.2.2.lt).three
    go_wp2
    refine bodyPost_ret (v := .tuple #[.agg #[.int .i64 0, .slice none 0 0], .agg #[.int .i64 0, .int .i64 0, .slice none 0 0], .int .i64 te]) (by simp [results, Try.results11, go_sem, *]) rfl ⟨⟨[_, _], [_, _, _], rfl, zst_ownN _ _, zpk_own _ _⟩, ?_⟩
    exact below_set3 (below_set2 HB2.out.2 (by omega) _ _) (by omega) _ _ _
  subst ht0
  obtain ⟨hc, hk0, hk1⟩ := terr_ok HTE.out.1.symm
  simp only at hk1
  obtain ⟨j, rfl⟩ : ∃ j : Nat, k = (j : Int) := ⟨k.toNat, by omega⟩
  have hjn : j < n := by rw [HN.out]; omega
  obtain ⟨p, hp⟩ := get_lt (l := l) (k := j) (by rw [← HN.out]; exact hjn)
  obtain rfl : S' = (lim, l.eraseIdx j) := by rw [HTE.out.2.1]; simp
  obtain rfl : P' = p := by rw [HTE.out.2.2]; simp [hp]
  have HFT := chk_fits hc
  simp only at HFT
  have hn4 : n ≤ 4096 := by rw [HN.out]; exact HFT.2
  have HFI : Hid (Fits (lim, l) ∧ I64 lim) := ⟨HFT.1, chk_i64 hc⟩
  have HPP : Hid (l[j]? = some P') := hp
  obtain ⟨g0, g1, _, _⟩ := (HW.out.2.1.below HB2.out.1 HW.out.2.1.lt).two
  have HCL := clone_any n0 _ (lim, l) w2 (stN.below HD.out HB2.out.1) HFI.out.1
  clear HFT hc hk0 hk1 hp
  go_wp2_with fail
  refine HCL.mono ?_
  rintro e w3 ⟨⟨u3, rfl, hO3⟩, hb3⟩
  obtain ⟨a3, c3, rfl, hO4, _⟩ := st_ownN hO3
  simp only at hO4
  obtain ⟨b5, o5, us5, hix5, _, hcell5, hO5⟩ := Shape.list_own_at (S := pkN) (ht := Try.underlying28) (hc := cells28) hO4 (by decide) hi3 hz31 j P' HPP.out
  obtain ⟨a5, c5, rfl, hA5, hf5, ht5⟩ := pk_own hO5
  have x0 : w3.cell? ⟨b5, o5, none⟩ = _ := hcell5 0 _ rfl
  have x1 := hcell5 1 _ rfl
  have x2 := hcell5 2 _ rfl
  obtain ⟨v6, vss, hv6, hown6, hE6⟩ := hO4
  obtain rfl : _ = v6 := by simpa using hv6
  rw [← HN.out] at hix5
  have hown : w3.ownsRow w2.heap.size 32 3 (.slice a3 n c3) n vss.flatten := by rw [← HN.out] at hown6; exact hown6
  obtain ⟨g, hg⟩ : ∃ g, a3 = some ⟨g, 0, none⟩ := by
    rcases hown.2 with ⟨hv, h0⟩ | ⟨g, cap, cur, hv, _⟩
    · omega
    · exact ⟨g, (Value.slice.inj hv).1⟩
  subst hg
  obtain ⟨hcc, hcm⟩ : n ≤ c3 ∧ c3 ≤ maxLen := by
    rcases hown.2 with ⟨hv, _⟩ | ⟨g', cap, cur, hv, _, _, h1, h2, _⟩
    · cases hv
    · have := (Value.slice.inj hv).2.2
      subst this
      exact ⟨h1, h2⟩
  simp only
  rw [← HN.out]
  obtain ⟨pf, pt, pd⟩ := P'
  simp only at x0 x1 x2 hA5 hf5 ht5
  obtain ⟨m, hm'⟩ : ∃ m, m = pd.length := ⟨_, rfl⟩
  rw [← hm'] at x2
  obtain ⟨W4, hW4⟩ : ∃ W, W = (w3.alloc (.cells #[.int .i64 lim, .slice (some ⟨g, 0, none⟩) n c3] 30)).alloc (.cells #[.int .i64 pf, .int .i64 pt, .slice a5 m c5] 32) := ⟨_, rfl⟩
  have hbW4 : Below w3.heap.size w3 W4 := by rw [hW4]; exact ((Below.refl _ _).alloc (Nat.le_refl _) _).alloc (by simp) _
  have hT4 : Box W4 w3.heap.size 30 #[.int .i64 lim, .slice (some ⟨g, 0, none⟩) n c3] := by rw [hW4]; exact (Box.new _ _ _).alloc _
  have hT5 : Box W4 (w3.heap.size + 1) 32 #[.int .i64 pf, .int .i64 pt, .slice a5 m c5] := by
    rw [hW4]
    have := Box.new (w3.alloc (.cells #[.int .i64 lim, .slice (some ⟨g, 0, none⟩) n c3] 30)) 32 #[.int .i64 pf, .int .i64 pt, .slice a5 m c5]
    rwa [World.size_alloc] at this
  have hglt : g < w3.heap.size := (hown.lt g rfl).2
  have HB4 : Hid (Below W.heap.size W W4 ∧ Below w.heap.size w W4 ∧ Box W4 w3.heap.size 30 #[.int .i64 lim, .slice (some ⟨g, 0, none⟩) n c3] ∧ Box W4 (w3.heap.size + 1) 32 #[.int .i64 pf, .int .i64 pt, .slice a5 m c5] ∧ W.heap.size ≤ w2.heap.size ∧ w2.heap.size ≤ g ∧ g < w3.heap.size) :=
    ⟨below_any (below_any HB2.out.1 hb3) hbW4, below_any (below_any HB2.out.2 hb3) hbW4, hT4, hT5, HB2.out.1.size, (hown.lt g rfl).1, hglt⟩
  have HO : Hid (W4.ownsRow w2.heap.size 32 3 (.slice (some ⟨g, 0, none⟩) n c3) n vss.flatten ∧ Each (pkN.owns w2.heap.size W4) vss l ∧ Own1 w2.heap.size W4 (.slice a5 pd.length c5) pd ∧ I64 pf ∧ I64 pt) :=
    ⟨own_below hown hbW4, hE6.mono fun _ _ h => pkN.obelow h hbW4, bytesS.obelow hA5 hbW4, hf5, ht5⟩
  have HM : Hid (m = pd.length) := hm'
  have hsz3 : ∀ us ∈ vss, us.length = 3 := fun us hus => by
    obtain ⟨_, _, h⟩ := hE6.left hus
    exact pkN.length (pkN.olies h)
  have hvl : vss.length = n := by rw [HN.out]; exact hE6.length
  have HDEL := delete_any w2.heap.size g n j c3 vss.flatten W4 hjn hn4 HO.out.1 hcc hcm (fun u hu => by
    obtain ⟨us, hus, hu⟩ := List.mem_flatten.1 hu
    obtain ⟨_, _, h⟩ := hE6.left hus
    exact pkN.ones (pkN.olies h) u hu)
  rw [← flat_erase hsz3 (by rw [hvl]; exact hjn)] at HDEL
  have hl3 := run_len Try.underlying28 (some ⟨g, 0, none⟩) n c3
  obtain ⟨q0, q1, _, _⟩ := hT4.two
  rw [hW4] at q0 q1
  have hbA : Below w3.heap.size w3 (w3.alloc (.cells #[.int .i64 lim, .slice (some ⟨g, 0, none⟩) n c3] 30)) := (Below.refl _ _).alloc (Nat.le_refl _) _
  have y0 : (w3.alloc (.cells #[.int .i64 lim, .slice (some ⟨g, 0, none⟩) n c3] 30)).cell? ⟨b5, o5, none⟩ = some (.int .i64 pf) := by rw [hbA.cell (cell_lt x0)]; exact x0
  have y1 : (w3.alloc (.cells #[.int .i64 lim, .slice (some ⟨g, 0, none⟩) n c3] 30)).cell? ⟨b5, o5 + 1, none⟩ = some (.int .i64 pt) := by rw [hbA.cell (cell_lt x1)]; exact x1
  have y2 : (w3.alloc (.cells #[.int .i64 lim, .slice (some ⟨g, 0, none⟩) n c3] 30)).cell? ⟨b5, o5 + 2, none⟩ = some (.slice a5 m c5) := by rw [hbA.cell (cell_lt x2)]; exact x2
  have hji : (j : Int) < n := by omega
  clear hbA x0 x1 x2 hO3 hO5 hcell5 hA5 hf5 ht5 hb3 hbW4 hT4 hT5 g0 g1 HCL HB2 hown6 hE6 hown hv6 hsz3 hvl hm' hglt
  go_wp2_with fail
  rw [← hW4]
  clear hW4 q0 q1 y0 y1 y2 hix5
  refine HDEL.mono ?_
  rintro e w5 ⟨rfl, hown5, hgr5⟩
  have hT4 : Box w5 w3.heap.size 30 #[.int .i64 lim, .slice (some ⟨g, 0, none⟩) n c3] := HB4.out.2.2.1.grown hgr5 (by have := HB4.out.2.2.2.2.2.2; simp; omega)
  have hT5 : Box w5 (w3.heap.size + 1) 32 #[.int .i64 pf, .int .i64 pt, .slice a5 m c5] := HB4.out.2.2.2.1.grown hgr5 (by have := HB4.out.2.2.2.2.2.2; simp; omega)
  have hR1 : Box w5 (w.heap.size + 1) 30 #[.int .i64 0, .slice none 0 0] := (HW.out.2.2.1.below HB4.out.1 HW.out.2.2.1.lt).grown hgr5 (by have := HB4.out.2.2.2.2; have := HW.out.2.2.1.lt; simp; omega)
  have hR2 : Box w5 (w.heap.size + 2) 32 #[.int .i64 0, .int .i64 0, .slice none 0 0] := (HW.out.2.2.2.below HB4.out.1 HW.out.2.2.2.lt).grown hgr5 (by have := HB4.out.2.2.2.2; have := HW.out.2.2.2.lt; simp; omega)
  have hcl5 : ∀ ids, 32 ∉ ids → Clear W4 (some g) ids := fun ids hid => Clear.own HO.out.1 hid
  have hNEW : pksN.owns w2.heap.size w5 [.slice (some ⟨g, 0, none⟩) (n - 1) c3] (l.eraseIdx j) := by
    refine ⟨_, vss.eraseIdx j, rfl, ?_, (HO.out.2.1.mono fun _ _ h => pkN.ogrown h hgr5 (hcl5 _ (by decide))).erase j⟩
    rw [List.length_eraseIdx_of_lt (by rw [← HN.out]; exact hjn), ← HN.out]
    exact hown5
  have hPK : Own1 w2.heap.size w5 (.slice a5 pd.length c5) pd := bytesS.ogrown HO.out.2.2.1 hgr5 (hcl5 _ (by decide))
  have hbe : Below w.heap.size w w5 := HB4.out.2.1.grown hgr5 HB4.out.2.1.size (fun i hi => by cases hi; have := HB4.out.2.2.2.2; have := HW.out.2.2.2.lt; omega)
  have HLT : Hid (w.heap.size + 2 < w2.heap.size ∧ w2.heap.size ≤ w3.heap.size) := ⟨by have := HB4.out.2.2.2.2; have := HW.out.2.2.2.lt; omega, by have := HB4.out.2.2.2.2; omega⟩
  obtain ⟨r0, r1, r2, r3⟩ := hT4.two
  obtain ⟨s0, s1, s2, s3, s4, s5⟩ := hT5.three
  obtain ⟨d0, d1, d2, d3⟩ := hR1.two
  obtain ⟨e0, e1, e2, e3, e4, e5⟩ := hR2.three
  obtain ⟨W6, hW6⟩ : ∃ W, W = w5.setCell ⟨w3.heap.size, 1, none⟩ (.slice (some ⟨g, 0, none⟩) (n - 1) c3) := ⟨_, rfl⟩
  have hA1 : Box W6 w3.heap.size 30 #[.int .i64 lim, .slice (some ⟨g, 0, none⟩) (n - 1) c3] := by rw [hW6]; exact hT4.set 1 _
  have hA2 : Box W6 (w3.heap.size + 1) 32 #[.int .i64 pf, .int .i64 pt, .slice a5 m c5] := by rw [hW6]; exact hT5.other (by omega)
  have hA3 : Box W6 (w.heap.size + 1) 30 #[.int .i64 0, .slice none 0 0] := by rw [hW6]; exact hR1.other (by have := HLT.out; omega)
  have hA4 : Box W6 (w.heap.size + 2) 32 #[.int .i64 0, .int .i64 0, .slice none 0 0] := by rw [hW6]; exact hR2.other (by have := HLT.out; omega)
  have HH : Hid (pksN.owns w2.heap.size W6 [.slice (some ⟨g, 0, none⟩) (n - 1) c3] (l.eraseIdx j) ∧ Own1 w2.heap.size W6 (.slice a5 pd.length c5) pd ∧ Below w.heap.size w W6) := by
    show _ ∧ _ ∧ _
    rw [hW6]
    exact ⟨pksN.ogrown hNEW (grown_set _ _ _ _) (hT4.clear (by decide)), bytesS.ogrown hPK (grown_set _ _ _ _) (hT4.clear (by decide)), hbe.setCell (p := ⟨w3.heap.size, 1, none⟩) (by have := HLT.out; simp; omega) _⟩
  have n3 : w.heap.size + 1 < w3.heap.size := by have := HLT.out; omega
  have n4 : w.heap.size + 2 < w3.heap.size := by have := HLT.out; omega
  clear hT5 hR1 hR2 hcl5 hNEW hPK hbe hown5 hgr5 HDEL
  go_wp2
  rw [← hW6]
  clear hW6 r0 r1 r2 r3 s0 s1 s2 s3 s4 s5 d0 d1 d2 d3 e0 e1 e2 e3 e4 e5 hT4
  obtain ⟨r0, r1, _, _⟩ := hA1.two
  obtain ⟨s0, s1, s2, _⟩ := hA2.three
  obtain ⟨d0, d1, d2, d3⟩ := hA3.two
  obtain ⟨e0, e1, e2, e3, e4, e5⟩ := hA4.three
  clear hA1 hA2 hA3 hA4
  go_region
  all_goals
    go_wp2
    refine bodyPost_ret (v := .tuple #[.agg #[.int .i64 lim, .slice (some ⟨g, 0, none⟩) (n - 1) c3], .agg #[.int .i64 pf, .int .i64 pt, .slice a5 m c5], .int .i64 0]) (by simp [results, Try.results11, go_sem, *]) rfl ⟨⟨[_, _], [_, _, _], rfl, ?_, ?_⟩, ?_⟩
    · exact stN.oweaken (n := w2.heap.size) (stN.osame (stN.osame (stN.osame (st_omkN (s := (lim, l.eraseIdx j)) HH.out.1 HFI.out.2) (.set2 (by have := HLT.out; omega))) (.set3 (by have := HLT.out; omega))) (.drew _ _)) (by have := HLT.out; omega)
    · refine pkF.oweaken (n := w2.heap.size) (pkF.osame (pkF.osame (pkF.osame (pk_omk (p := (pf, pt, pd)) ?_ HO.out.2.2.2.1 HO.out.2.2.2.2) (.set2 (by have := HLT.out; omega))) (.set3 (by have := HLT.out; omega))) (.drew _ _)) (by have := HLT.out; omega)
      rw [HM.out]
      exact HH.out.2.1
    · exact (below_set3 (below_set2 HH.out.2.2 (by omega) _ _) (by omega) _ _ _).drew

end Go.Proofs.Ytpecniajamgjiaa
