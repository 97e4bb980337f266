/-
  What the document's Encode answers: the same as the program's.
-/
import Derived.Test.YtfpllfjdgpcmdaaDoorRefEnc
namespace Go.Proofs.YtfpllfjdgpcmdaaDoor
open Go.RowKit

/-- What lies there while the octets are laid: the record's variable and all that was there; the octets so far. -/
structure LayD (w : World) (k : Int) (x y : Value) (wr : World) (l : List Int) (v : Value) : Prop where
  bel : Below w.heap.size w wr
  box : Box wr w.heap.size 25 #[.int .i64 k, x, y]
  own : Own1 (w.heap.size + 1) wr v l

theorem LayD.next {w : World} {k : Int} {x y : Value} {wr wr' : World} {l l' : List Int} {v v' : Value} (h : LayD w k x y wr l v) (hb : Below (w.heap.size + 1) wr wr') (ho : Own1 (w.heap.size + 1) wr' v' l') : LayD w k x y wr' l' v' :=
  ⟨h.bel.trans (hb.mono (by omega)), h.box.below hb (by omega), ho⟩

set_option maxRecDepth 100000 in
set_option maxHeartbeats 8000000 in
theorem renc_ok (n0 : Nat) (us : List Value) (r : Rc) (w : World) (h : recF.lies n0 w us r) (hc : chkR r = 0) :
    Calls Tryd.prog 12 #[.agg us.toArray] w fun e w' => (∃ v', e = .returned (.tuple #[v', .int .i64 0]) ∧ Own1 w.heap.size w' v' (C.sealed (laidR r))) ∧ Below w.heap.size w w' := by
  obtain ⟨a, c, b, d, rfl, hI, hT, hk, _⟩ := rec_view h
  obtain ⟨hk0, hk1, hn64, hm64, ht4⟩ := chk_ok hc
  have HX := rcheck_any n0 _ r (w.alloc (.cells #[.int .i64 r.1, .slice a r.2.1.length c, .slice b r.2.2.length d] 25)) (recF.keep h (.of_below ((Below.refl _ w).alloc (Nat.le_refl _) _)))
  rw [hc] at HX
  obtain ⟨k, ns, ts⟩ := r
  simp only at hI hT hk hk0 hk1 hn64 hm64 ht4 HX
  obtain ⟨i0, hi, hz0, hz1, hz2⟩ := info_parts Tryd.info5
  obtain ⟨W, hW⟩ : ∃ W, W = w.alloc (.cells #[.int .i64 k, .slice a ns.length c, .slice b ts.length d] 25) := ⟨_, rfl⟩
  rw [← hW] at HX
  have hbW : Below w.heap.size w W := by rw [hW]; exact (Below.refl _ w).alloc (Nat.le_refl _) _
  have hP : Box W w.heap.size 25 #[.int .i64 k, .slice a ns.length c, .slice b ts.length d] := by rw [hW]; exact Box.new w 25 _
  have HD : Hid (intsS.lies n0 w [.slice a ns.length c] ns ∧ textsS.lies n0 w [.slice b ts.length d] ts ∧ (∀ t ∈ ts, t.length ≤ 4096) ∧ ns.length ≤ 64 ∧ ts.length ≤ 64) := ⟨hI, hT, ht4, hn64, hm64⟩
  have HNI : Hid (∀ x ∈ ns, I64 x) := ints_in hI
  have HTO : Hid (∀ t ∈ ts, Oc t) := texts_oct hT
  obtain ⟨n, hn⟩ : ∃ n, n = ns.length := ⟨_, rfl⟩
  obtain ⟨m, hm⟩ : ∃ n, n = ts.length := ⟨_, rfl⟩
  have HN : Hid (n = ns.length ∧ m = ts.length) := ⟨hn, hm⟩
  rw [← hn] at HD hW hP hn64 HX
  rw [← hm] at HD hW hP hm64 HX
  simp only
  rw [← hn, ← hm]
  have hl1 := run_len Tryd.underlying22 a n c
  have hl2 := run_len Tryd.underlying23 b m d
  have HK : Hid (0 ≤ k ∧ k ≤ 255) := ⟨hk0, hk1⟩
  have hk256 : k % 256 = k := by omega
  obtain ⟨g0, g1, g2, _⟩ := hP.three
  rw [hW] at g0 g1 g2
  have HW : Hid (Below w.heap.size w W ∧ Box W w.heap.size 25 #[.int .i64 k, .slice a n c, .slice b m d]) := ⟨hbW, hP⟩
  clear h hI hT hk hn hm hc hP hbW ht4
  go_enter Tryd.func12, Tryd.ntmps12
  go_wp2_with fail
  rw [← hW]
  clear hW g0 g1 g2
  refine HX.mono ?_
  rintro e w1 ⟨rfl, hb1⟩
  have hP1 := HW.out.2.below hb1 HW.out.2.lt
  have HW1 : Hid (Below w.heap.size w w1 ∧ Box w1 w.heap.size 25 #[.int .i64 k, .slice a n c, .slice b m d]) := ⟨below_any HW.out.1 hb1, hP1⟩
  obtain ⟨g0, g1, g2, _⟩ := hP1.three
  have gA : ∀ o j u, w1.cell? ⟨w.heap.size, j, none⟩ = some u → (w1.alloc o).cell? ⟨w.heap.size, j, none⟩ = some u := fun o j u hu => by
    rw [World.cell?_alloc_lt _ _ ⟨w.heap.size, j, none⟩ hP1.lt]; exact hu
  have gA1 := fun o => gA o 1 _ g1
  have hn256 : (n : Int) % 256 = (n : Int) := by omega
  have hm256 : (m : Int) % 256 = (m : Int) := by omega
  clear hP1 hb1 HX gA
  go_wp2
  go_loopw [5, 6] (fun o i wr => ∃ j : Nat, j ≤ n ∧ i = .int .i64 j ∧ ∃ a' c', o = .slice a' (k :: (n : Int) :: laidN (ns.take j)).length c' ∧ Hid (LayD w k (.slice a n c) (.slice b m d) wr (k :: (n : Int) :: laidN (ns.take j)) (.slice a' (k :: (n : Int) :: laidN (ns.take j)).length c'))) (fun _ i _ => n - (intOf i).toNat)
  case atStart =>
    refine ⟨0, Nat.zero_le _, rfl, _, _, rfl, ?_, ?_, ?_⟩
    · exact HW1.out.1.alloc (by have := HW1.out.1.size; omega) _
    · exact HW1.out.2.alloc _
    · refine .mk ?_ ?_
      · have := World.ownsRow_lit w1 (base := w.heap.size + 1) (e := 5) (size := 1) #[.int .u8 k, .int .u8 n] 2 (by have := HW1.out.2.lt; omega) (by unfold maxLen; omega) (by simp)
        exact this
      · have := HK.out
        exact oc_cons.2 ⟨this, oc_cons.2 ⟨by omega, laidN_oc _⟩⟩
  case round =>
    obtain ⟨j, hj, rfl, a', c', rfl, HL⟩ := hrel
    obtain ⟨g0, g1, g2, _⟩ := HL.out.box.three
    obtain ⟨len, hlen⟩ : ∃ x, x = (k :: (n : Int) :: laidN (ns.take j)).length := ⟨_, rfl⟩
    have HLN : Hid (len = (k :: (n : Int) :: laidN (ns.take j)).length ∧ len ≤ 1000) := by
      refine ⟨hlen, ?_⟩
      rw [hlen, List.length_cons, List.length_cons]
      have h1 := laidN_length (ns.take j) fun x hx => HNI.out x (List.mem_of_mem_take hx)
      rw [List.length_take] at h1
      omega
    rw [← hlen] at HL ⊢
    clear hlen
    by_cases hlt : j < n
    · obtain ⟨x, hx⟩ := get_lt (l := ns) (k := j) (by rw [← HN.out.1]; exact hlt)
      obtain ⟨b0, o0, hix, gx, hx64⟩ := ints_at (intsS.below HD.out.1 HL.out.bel) j x hx
      have HF := rfolded_any x hx64 wr
      have HG := rgroups_any (fold x) (fold_lt x hx64.1 hx64.2) wr
      have hgl := grp_ten (fold x) 10 (Nat.lt_of_lt_of_le (fold_lt x hx64.1 hx64.2) (by decide)) (by omega)
      have hgp := grp_pos (fold x)
      have HTK : Hid (k :: (n : Int) :: laidN (ns.take (j + 1)) = (k :: (n : Int) :: laidN (ns.take j)) ++ grp (fold x)) := by
        show _ = _
        rw [take_snoc hx, laidN_snoc]
        rfl
      have hji : (j : Int) < (n : Int) := by omega
      obtain ⟨GG, hGG⟩ : ∃ G, G = grp (fold x) := ⟨_, rfl⟩
      rw [← hGG] at HG hgl hgp HTK
      obtain ⟨gl, hgll⟩ : ∃ y, y = GG.length := ⟨_, rfl⟩
      have HGL : Hid (gl = GG.length) := hgll
      rw [← hgll] at hgl hgp
      have hlen1 : len ≤ 1000 := HLN.out.2
      have HOW : Hid (wr.ownsRow (w.heap.size + 1) 5 1 (.slice a' len c') len ((k :: (n : Int) :: laidN (ns.take j)).map (Value.int .u8))) := by
        have := HL.out.own.row
        rwa [← HLN.out.1] at this
      have hbw := HL.out.box.lt
      clear hx hGG hgll
      go_wp2_with fail
      refine HF.mono ?_
      rintro e w2 ⟨rfl, rfl⟩
      go_wp2_with fail
      refine HG.mono ?_
      rintro e w3 ⟨⟨v3, rfl, ho3⟩, hb3⟩
      have hr3 := ho3.row
      rw [← HGL.out] at hr3
      obtain ⟨g3, c3, rfl, _, hg3⟩ := hr3.form hgp
      have hcell3 := hr3.cells (g := g3) rfl
      have H3 : Hid (Below wr.heap.size wr w3 ∧ Oc GG) := ⟨hb3, ho3.oct⟩
      have hws3 := hb3.size
      clear ho3 hb3 HF HG hix gx g0 g1 g2 hr3
      go_wp2_with (at_builtin; refine wpList_append_lies _ (by rfl) _ _ 26 (by rfl) (w.heap.size + 1) 5 i0 _ 1 1 Tryd.underlying26 hi hz0 hz1 hz2 rfl (by omega) _ len _ (by rfl) (own_below HOW.out H3.out.1) ⟨g3, 0, none⟩ gl c3 (GG.map (Value.int .u8)) (by rfl) (by rw [HGL.out]; simp) hcell3 (C.one_cells _) (by omega) (by unfold maxLen; omega) (by omega) (by omega) w3.heap.size rfl ?_; intro gg cap4 w4 hown4 hgrow4 hat hltg)
      have HL3 : Hid (LayD w k (.slice a n c) (.slice b m d) w4 (k :: (n : Int) :: laidN (ns.take (j + 1))) (.slice (some ⟨gg, 0, none⟩) (k :: (n : Int) :: laidN (ns.take (j + 1))).length cap4) ∧ (k :: (n : Int) :: laidN (ns.take (j + 1))).length = len + gl) := by
        have e1 : (k :: (n : Int) :: laidN (ns.take (j + 1))).length = len + gl := by rw [HTK.out, List.length_append, ← HLN.out.1, HGL.out]
        refine ⟨?_, e1⟩
        rw [e1]
        refine HL.out.next ?_ (.mk ?_ ?_)
        · exact (H3.out.1.mono (by omega)).grown hgrow4 (by omega) (fun i hi => (HOW.out.lt i hi).1)
        · rw [e1, HTK.out, List.map_append]
          exact hown4
        · rw [HTK.out]
          exact oc_append.2 ⟨HL.out.own.oct, H3.out.2⟩
      clear hown4 hgrow4 hat hltg hcell3
      go_wp2
      go_roundw
      case rel => exact ⟨j + 1, by omega, by go_num, _, _, by rw [HL3.out.2], HL3.out.1⟩
      case measure => simp [intOf]; omega
    · obtain rfl : j = n := by omega
      have hT0 : ns.take j = ns := by rw [HN.out.1, List.take_length]
      rw [hT0] at HL HLN
      clear hT0
      obtain ⟨L1, hL1⟩ : ∃ L, L = k :: (j : Int) :: laidN ns := ⟨_, rfl⟩
      have HL1 : Hid (L1 = k :: (j : Int) :: laidN ns) := hL1
      rw [← hL1] at HL HLN
      clear hL1
      have hle : len ≤ 1000 := HLN.out.2
      have HOW : Hid (wr.ownsRow (w.heap.size + 1) 5 1 (.slice a' len c') len (L1.map (Value.int .u8))) := by
        have := HL.out.own.row
        rwa [← HLN.out.1] at this
      go_wp2_with
          (at_builtin; refine wpList_append_lies _ (by rfl) _ _ 26 (by rfl) (w.heap.size + 1) 5 i0 _ 1 1 Tryd.underlying26 hi hz0 hz1 hz2 rfl (by omega) _ len _ (by rfl) (HOW.out.alloc _) ⟨wr.heap.size, 0, none⟩ 1 1 [.int .u8 (m : Int)] (by rfl) (by rfl) (World.news_of_block (cs := #[.int .u8 (m : Int)]) (t := 5) (fr := (0, 0)) (heap_alloc_new wr _)) (by simp [Value.oneCell']) (by omega) (by unfold maxLen; omega) (by omega) (by have := HL.out.box.lt; simp; omega) (wr.heap.size + 1) (by simp) ?_; intro gg cap3 w3 hown3 hgrow3 hat hltg
           have hL3 : LayD w k (.slice a j c) (.slice b m d) w3 (L1 ++ [(m : Int)]) (.slice (some ⟨gg, 0, none⟩) (len + 1) cap3) := by
             refine HL.out.next ?_ (.mk ?_ (oc_append.2 ⟨HL.out.own.oct, oc_cons.2 ⟨by omega, oc_nil⟩⟩))
             · exact ((Below.refl _ wr).alloc (by have := HL.out.box.lt; omega) _).grown hgrow3 (by have := HL.out.box.lt; simp; omega) (fun q hq => (HOW.out.lt q hq).1)
             · rw [List.length_append, ← HLN.out.1, List.map_append]
               exact hown3
           have HL3 : Hid (LayD w k (.slice a j c) (.slice b m d) w3 (L1 ++ [(m : Int)]) (.slice (some ⟨gg, 0, none⟩) (len + 1) cap3)) := hL3
           clear hown3 hgrow3 hat hltg
           obtain ⟨q0, q1, q2, _⟩ := hL3.box.three
           clear hL3)
      go_loopw [5, 7] (fun o i wr => ∃ q : Nat, q ≤ m ∧ i = .int .i64 q ∧ ∃ a' c', o = .slice a' (L1 ++ (m : Int) :: laidT (ts.take q)).length c' ∧ Hid (LayD w k (.slice a j c) (.slice b m d) wr (L1 ++ (m : Int) :: laidT (ts.take q)) (.slice a' (L1 ++ (m : Int) :: laidT (ts.take q)).length c'))) (fun _ i _ => m - (intOf i).toNat)
      case atStart =>
        have e0 : (L1 ++ (m : Int) :: laidT (ts.take 0)) = L1 ++ [(m : Int)] := rfl
        have e1 : (L1 ++ [(m : Int)]).length = len + 1 := by rw [List.length_append, ← HLN.out.1]; rfl
        refine ⟨0, Nat.zero_le _, rfl, some ⟨gg, 0, none⟩, cap3, by rw [e0, e1], ?_⟩
        rw [e0, e1]
        exact HL3
      case round =>
        clear q0 q1 q2 g0 g1 g2
        obtain ⟨q, hq, rfl, a2, c2, rfl, HM⟩ := hrel
        obtain ⟨g0, g1, g2, _⟩ := HM.out.box.three
        have hts : (laidT (ts.take q)).length ≤ 4106 * 64 := by
          have h1 := laidT_length (ts.take q) fun x hx => HD.out.2.2.1 x (List.mem_of_mem_take hx)
          rw [List.length_take] at h1
          have := HD.out.2.2.2.2
          omega
        obtain ⟨len2, hlen2⟩ : ∃ x, x = (L1 ++ (m : Int) :: laidT (ts.take q)).length := ⟨_, rfl⟩
        have HLN2 : Hid (len2 = (L1 ++ (m : Int) :: laidT (ts.take q)).length ∧ len2 ≤ 300000) := by
          refine ⟨hlen2, ?_⟩
          rw [hlen2, List.length_append, List.length_cons, ← HLN.out.1]
          omega
        rw [← hlen2] at HM ⊢
        clear hlen2 hts
        by_cases hlt : q < m
        · obtain ⟨x, hx⟩ := get_lt (l := ts) (k := q) (by rw [← HN.out.2]; exact hlt)
          obtain ⟨b0, o0, u, hix, gx0, hA⟩ := texts_at HD.out.2.1 q x hx
          have gx : wr.cell? ⟨b0, o0, none⟩ = some u := by rw [HM.out.bel.cell (cell_lt gx0)]; exact gx0
          have hx4 : x.length ≤ 4096 := HD.out.2.2.1 x (List.mem_of_getElem? hx)
          have HG := rgroups_any x.length (by omega) wr
          have hgl := grp_ten x.length 10 (Nat.lt_of_le_of_lt hx4 (by decide)) (by omega)
          have hgp := grp_pos x.length
          have HTK : Hid (L1 ++ (m : Int) :: laidT (ts.take (q + 1)) = ((L1 ++ (m : Int) :: laidT (ts.take q)) ++ grp x.length) ++ x) := by
            show _ = _
            rw [take_snoc hx, laidT_snoc]
            simp
          have HXO : Hid (Oc x) := HTO.out x (List.mem_of_getElem? hx)
          have hji : (q : Int) < (m : Int) := by omega
          obtain ⟨GG, hGG⟩ : ∃ G, G = grp x.length := ⟨_, rfl⟩
          rw [← hGG] at HG hgl hgp HTK
          obtain ⟨gl, hgll⟩ : ∃ y, y = GG.length := ⟨_, rfl⟩
          have HGL : Hid (gl = GG.length) := hgll
          rw [← hgll] at hgl hgp
          have hlen2 : len2 ≤ 300000 := HLN2.out.2
          have HOW : Hid (wr.ownsRow (w.heap.size + 1) 5 1 (.slice a2 len2 c2) len2 ((L1 ++ (m : Int) :: laidT (ts.take q)).map (Value.int .u8))) := by
            have := HM.out.own.row
            rwa [← HLN2.out.1] at this
          obtain ⟨L2, hL2⟩ : ∃ L, L = (L1 ++ (m : Int) :: laidT (ts.take q)) ++ GG := ⟨_, rfl⟩
          have HL2 : Hid (L2 = (L1 ++ (m : Int) :: laidT (ts.take q)) ++ GG ∧ L2.length = len2 + gl) := by
            refine ⟨hL2, ?_⟩
            rw [hL2, List.length_append, ← HLN2.out.1, HGL.out]
          rw [← hL2] at HTK
          have hbw := HM.out.box.lt
          have HGX : Hid (w.cell? ⟨b0, o0, none⟩ = some u) := gx0
          clear hx hGG hgll hL2 gx0
          obtain ⟨lx, hlx⟩ : ∃ y, y = x.length := ⟨_, rfl⟩
          have HLX : Hid (lx = x.length) := hlx
          obtain ⟨hcl, ⟨rfl, h0⟩ | ⟨ax, capx, rfl, hcx, hmx, hbx, hcells⟩⟩ := hA.cells
          · have hx0 : x = [] := List.eq_nil_of_length_eq_zero h0
            subst hx0
            simp only [List.length_nil] at HG
            clear hA hcl h0 hlx HLX
            have hll := run_len Tryd.underlying26 none 0 0
            go_wp2_with fail
            refine HG.mono ?_
            rintro e w3 ⟨⟨v3, rfl, ho3⟩, hb3⟩
            have hr3 := ho3.row
            rw [← HGL.out] at hr3
            obtain ⟨g3, c3, rfl, _, hg3⟩ := hr3.form hgp
            have hcell3 := hr3.cells (g := g3) rfl
            have H3 : Hid (Below wr.heap.size wr w3 ∧ Oc GG) := ⟨hb3, ho3.oct⟩
            have hws3 := hb3.size
            clear ho3 hb3 HG gx g0 g1 g2 hr3
            go_wp2_with (first
              | (at_builtin; refine wpList_append_lies _ (by rfl) _ _ 26 (by rfl) (w.heap.size + 1) 5 i0 _ 1 1 Tryd.underlying26 hi hz0 hz1 hz2 rfl (by omega) _ len2 _ (by rfl) (own_below HOW.out H3.out.1) ⟨g3, 0, none⟩ gl c3 (GG.map (Value.int .u8)) (by rfl) (by rw [HGL.out]; simp) hcell3 (C.one_cells _) (by omega) (by unfold maxLen; omega) (by omega) (by omega) w3.heap.size rfl ?_; intro gg cap4 w4 hown4 hgrow4 hat hltg
                 have hL4 : LayD w k (.slice a j c) (.slice b m d) w4 L2 (.slice (some ⟨gg, 0, none⟩) (len2 + gl) cap4) := by
                   refine HM.out.next ((H3.out.1.mono (by omega)).grown hgrow4 (by omega) (fun i hi => (HOW.out.lt i hi).1)) (.mk ?_ ?_)
                   · rw [HL2.out.2, HL2.out.1, List.map_append]
                     exact hown4
                   · rw [HL2.out.1]
                     exact oc_append.2 ⟨HM.out.own.oct, H3.out.2⟩
                 have HL4 : Hid (LayD w k (.slice a j c) (.slice b m d) w4 L2 (.slice (some ⟨gg, 0, none⟩) (len2 + gl) cap4)) := hL4
                 obtain ⟨y0, y1, y2, _⟩ := hL4.box.three
                 have gx4 : w4.cell? ⟨b0, o0, none⟩ = some (.slice none 0 0) := by rw [hL4.bel.cell (cell_lt HGX.out)]; exact HGX.out
                 have HOW4 : Hid (w4.ownsRow (w.heap.size + 1) 5 1 (.slice (some ⟨gg, 0, none⟩) (len2 + gl) cap4) (len2 + gl) (L2.map (Value.int .u8))) := by
                   have := hL4.own.row
                   rwa [HL2.out.2] at this
                 clear hown4 hgrow4 hat hltg hcell3 hL4)
              | (at_builtin; refine wpList_append_own_none rfl _ _ 26 rfl (w.heap.size + 1) 5 i0 1 Tryd.underlying26 hi (.slice (some ⟨gg, 0, none⟩) (len2 + gl) cap4) (len2 + gl) (L2.map (Value.int .u8)) rfl HOW4.out rfl ?_))
            go_roundw
            case rel =>
              have e1 : L1 ++ (m : Int) :: laidT (ts.take (q + 1)) = L2 := by rw [HTK.out, List.append_nil]
              refine ⟨q + 1, by omega, by go_num, some ⟨gg, 0, none⟩, cap4, by rw [e1, HL2.out.2], ?_⟩
              rw [e1, HL2.out.2]
              exact HL4
            case measure => simp [intOf]; omega
          · rw [← hlx] at hcl hcx hmx HG gx HGX
            have hll := run_len Tryd.underlying26 (some ax) lx capx
            have hx5 : lx ≤ 4096 := by omega
            have HCE : Hid (∀ (i : Nat) u, (x.map (Value.int .u8))[i]? = some u → w.cell? (ax.add i) = some u) := hcells
            clear hA hlx hcells hcl hbx hmx hx4
            go_wp2_with fail
            refine HG.mono ?_
            rintro e w3 ⟨⟨v3, rfl, ho3⟩, hb3⟩
            have hr3 := ho3.row
            rw [← HGL.out] at hr3
            obtain ⟨g3, c3, rfl, _, hg3⟩ := hr3.form hgp
            have hcell3 := hr3.cells (g := g3) rfl
            have H3 : Hid (Below wr.heap.size wr w3 ∧ Oc GG) := ⟨hb3, ho3.oct⟩
            have hws3 := hb3.size
            clear ho3 hb3 HG gx g0 g1 g2 hr3
            go_wp2_with (first
              | (at_builtin; refine wpList_append_lies _ (by rfl) _ _ 26 (by rfl) (w.heap.size + 1) 5 i0 _ 1 1 Tryd.underlying26 hi hz0 hz1 hz2 rfl (by omega) _ len2 _ (by rfl) (own_below HOW.out H3.out.1) ⟨g3, 0, none⟩ gl c3 (GG.map (Value.int .u8)) (by rfl) (by rw [HGL.out]; simp) hcell3 (C.one_cells _) (by omega) (by unfold maxLen; omega) (by omega) (by omega) w3.heap.size rfl ?_; intro gg cap4 w4 hown4 hgrow4 hat hltg
                 have hL4 : LayD w k (.slice a j c) (.slice b m d) w4 L2 (.slice (some ⟨gg, 0, none⟩) (len2 + gl) cap4) := by
                   refine HM.out.next ((H3.out.1.mono (by omega)).grown hgrow4 (by omega) (fun i hi => (HOW.out.lt i hi).1)) (.mk ?_ ?_)
                   · rw [HL2.out.2, HL2.out.1, List.map_append]
                     exact hown4
                   · rw [HL2.out.1]
                     exact oc_append.2 ⟨HM.out.own.oct, H3.out.2⟩
                 have HL4 : Hid (LayD w k (.slice a j c) (.slice b m d) w4 L2 (.slice (some ⟨gg, 0, none⟩) (len2 + gl) cap4)) := hL4
                 obtain ⟨y0, y1, y2, _⟩ := hL4.box.three
                 have gx4 : w4.cell? ⟨b0, o0, none⟩ = some (.slice (some ax) lx capx) := by rw [hL4.bel.cell (cell_lt HGX.out)]; exact HGX.out
                 have HOW4 : Hid (w4.ownsRow (w.heap.size + 1) 5 1 (.slice (some ⟨gg, 0, none⟩) (len2 + gl) cap4) (len2 + gl) (L2.map (Value.int .u8))) := by
                   have := hL4.own.row
                   rwa [HL2.out.2] at this
                 have hb4w := hL4.box.lt
                 clear hown4 hgrow4 hat hltg hcell3 hL4)
              | (at_builtin; refine wpList_append_own _ rfl _ _ 26 rfl (w.heap.size + 1) 5 i0 (.int .u8 0) 1 1 Tryd.underlying26 hi hz0 hz1 hz2 rfl (by decide) (.slice (some ⟨gg, 0, none⟩) (len2 + gl) cap4) (len2 + gl) (L2.map (Value.int .u8)) rfl HOW4.out ax lx capx (x.map (Value.int .u8)) rfl (by rw [HLX.out]; simp) (fun i u hu => by have g := HCE.out i u hu; rw [HL4.out.bel.cell (cell_lt g)]; exact g) (C.one_cells x) (by unfold maxLen; omega) (by omega) (by omega) ?_; intro v5 w5 hown5 hgrow5 _; obtain ⟨a5, c5, rfl⟩ := own_shape hown5))
            have HL5 : Hid (LayD w k (.slice a j c) (.slice b m d) w5 (L2 ++ x) (.slice a5 (len2 + gl + lx) c5)) := by
              refine HL4.out.next ?_ (.mk ?_ (oc_append.2 ⟨HL4.out.own.oct, HXO.out⟩))
              · exact (Below.refl _ w4).grown hgrow5 (by omega) (fun i hi => (HOW4.out.lt i hi).1)
              · rw [List.length_append, HL2.out.2, ← HLX.out, List.map_append]
                exact hown5
            clear hown5 hgrow5
            go_wp2
            go_roundw
            case rel =>
              have e2 : (L2 ++ x).length = len2 + gl + lx := by rw [List.length_append, HL2.out.2, HLX.out]
              refine ⟨q + 1, by omega, by go_num, a5, c5, by rw [HTK.out, e2], ?_⟩
              rw [HTK.out, e2]
              exact HL5
            case measure => simp [intOf]; omega
        · obtain rfl : q = m := by omega
          have hT0 : ts.take q = ts := by rw [HN.out.2, List.take_length]
          have e3 : L1 ++ (q : Int) :: laidT (ts.take q) = laidR (k, ns, ts) := by
            rw [hT0, HL1.out]
            simp [laidR, ← HN.out.1, ← HN.out.2]
          rw [e3] at HM HLN2
          have HS := C.rseal_any _ (laidR (k, ns, ts)) wr (HM.out.own.arg.toC) (by rw [← HLN2.out.1]; have := HLN2.out.2; omega)
          rw [← HLN2.out.1] at HS
          have HSO : Hid (Oc (laidR (k, ns, ts))) := HM.out.own.oct
          clear hT0 e3
          go_wp2_with fail
          refine HS.mono ?_
          rintro e w3 ⟨⟨v3, rfl, hown3⟩, hb3⟩
          have HE : Hid (Own1 w.heap.size w3 v3 (C.sealed (laidR (k, ns, ts))) ∧ Below w.heap.size w w3) := by
            refine ⟨.mk ?_ (C.sealed_oct _ HSO.out), below_any HM.out.bel hb3⟩
            rw [C.sealed_length, ← HLN2.out.1]
            exact own_weaken hown3 HM.out.bel.size
          clear hown3 hb3 HS
          go_wp2
          go_ret2
          exact ⟨⟨_, rfl, HE.out.1⟩, HE.out.2⟩

set_option maxRecDepth 100000 in
set_option maxHeartbeats 1000000 in
theorem renc_bad (n0 : Nat) (us : List Value) (r : Rc) (w : World) (h : recF.lies n0 w us r) (hc : chkR r ≠ 0) :
    Calls Tryd.prog 12 #[.agg us.toArray] w fun e w' => e = .returned (.tuple #[.slice none 0 0, .int .i64 (chkR r)]) ∧ Below w.heap.size w w' := by
  obtain ⟨a, c, b, d, rfl, _⟩ := rec_view h
  obtain ⟨W, hW⟩ : ∃ W, W = w.alloc (.cells #[.int .i64 r.1, .slice a r.2.1.length c, .slice b r.2.2.length d] 25) := ⟨_, rfl⟩
  have hbW : Below w.heap.size w W := by rw [hW]; exact (Below.refl _ w).alloc (Nat.le_refl _) _
  have hP : Box W w.heap.size 25 #[.int .i64 r.1, .slice a r.2.1.length c, .slice b r.2.2.length d] := by rw [hW]; exact Box.new w 25 _
  have HX := rcheck_any n0 _ r W (recF.keep h (.of_below hbW))
  obtain ⟨ce, hce⟩ : ∃ x, x = chkR r := ⟨_, rfl⟩
  rw [← hce] at HX hc ⊢
  obtain ⟨g0, g1, g2, _⟩ := hP.three
  rw [hW] at g0 g1 g2
  have HW : Hid (Below w.heap.size w W) := hbW
  clear h hce hP hbW
  go_enter Tryd.func12, Tryd.ntmps12
  go_wp2_with fail
  rw [← hW]
  clear hW g0 g1 g2
  refine HX.mono ?_
  rintro e w1 ⟨rfl, hb1⟩
  go_wp2
  go_ret2
  exact ⟨rfl, below_any HW.out hb1⟩

theorem renc_any (n0 : Nat) (us : List Value) (r : Rc) (w : World) (h : recF.lies n0 w us r) :
    Calls Tryd.prog 12 #[.agg us.toArray] w fun e w' => (∃ a c, e = .returned (.tuple #[.slice a (encO r).length c, .int .i64 (chkR r)]) ∧ Own1 w.heap.size w' (.slice a (encO r).length c) (encO r)) ∧ Below w.heap.size w w' := by
  by_cases hc : chkR r = 0
  · refine (renc_ok n0 us r w h hc).mono ?_
    rintro e w' ⟨⟨v', rfl, ho⟩, hb⟩
    rw [encO, if_pos hc, hc]
    obtain ⟨a, c, rfl⟩ := ho.shape
    exact ⟨⟨a, c, rfl, ho⟩, hb⟩
  · refine (renc_bad n0 us r w h hc).mono ?_
    rintro e w' ⟨rfl, hb⟩
    rw [encO, if_neg hc]
    exact ⟨⟨none, 0, rfl, .nil _ _⟩, hb⟩

end Go.Proofs.YtfpllfjdgpcmdaaDoor
