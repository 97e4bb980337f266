/-
  The document's walk: names from the root on, for every state that may be.
  The document's shape: whether each node may be by itself; for every state.
  The document's Check: 0 just if the state may be, else 9; for every state.
-/
import Derived.Test.YtopcefhncildnaaGreatDoorO30
import Derived.Test.YtopcefhncildnaaGreatDoorO31
import Derived.Test.YtopcefhncildnaaGreatDoorO43
import Derived.Deep.DeepCutAuto
set_option maxRecDepth 100000
set_option maxHeartbeats 40000000
namespace Go.Proofs.YtopcefhncildnaaGreatDoor
open Go.RowKit
open D (En ArgE Chk there fnd)
open P (ArgT OwnT)
theorem six_set {w W : World} {B n : Nat} {t : TypeId} {a b c d e f : Value} (h : Below n w W) (hn : n ≤ B) (hB : Box W B t #[a, b, c, d, e, f]) (a' b' c' d' e' f' : Value) :
   Below n w ((((((W.setCell ⟨B, 0, none⟩ a').setCell ⟨B, 1, none⟩ b').setCell ⟨B, 2, none⟩ c').setCell ⟨B, 3, none⟩ d').setCell ⟨B, 4, none⟩ e').setCell ⟨B, 5, none⟩ f') ∧ Box ((((((W.setCell ⟨B, 0, none⟩ a').setCell ⟨B, 1, none⟩ b').setCell ⟨B, 2, none⟩ c').setCell ⟨B, 3, none⟩ d').setCell ⟨B, 4, none⟩ e').setCell ⟨B, 5, none⟩ f') B t #[a', b', c', d', e', f'] :=
 ⟨((((((h.setCell (p := ⟨B, 0, none⟩) hn _).setCell (p := ⟨B, 1, none⟩) hn _).setCell (p := ⟨B, 2, none⟩) hn _).setCell (p := ⟨B, 3, none⟩) hn _).setCell (p := ⟨B, 4, none⟩) hn _).setCell (p := ⟨B, 5, none⟩) hn _), ((((((hB.set 0 a').set 1 b').set 2 c').set 3 d').set 4 e').set 5 f')⟩
theorem ndr_at {n0 : Nat} {w : World} {a : Option Addr} {n c : Nat} {l : List Nd} (h : ndsR.lies n0 w [.slice a n c] l) (k : Nat) (p : Nd) (hp : l[k]? = some p) :
   ∃ b o ea ec fa fc, (∀ W, (Instr.indexAt 22 (.slice a n c) (.int .i64 k)).run Tryz.prog W = .ok (.pointer (some ⟨b, o, none⟩)) W) ∧ ∀ V, Below w.heap.size w V → (V.cell? ⟨b, o, none⟩ = some (.int .i64 p.1) ∧ V.cell? ⟨b, o + 1, none⟩ = some (.bool (isD p)) ∧ V.cell? ⟨b, o + 2, none⟩ = some (.int .i64 (lk p)) ∧ V.cell? ⟨b, o + 3, none⟩ = some (.slice ea (en p).length ec) ∧ V.cell? ⟨b, o + 4, none⟩ = some (.int .i64 (fi p).1) ∧ V.cell? ⟨b, o + 5, none⟩ = some (.slice fa (fi p).2.length fc)) ∧ LR n0 V p (.slice ea (en p).length ec) (.slice fa (fi p).2.length fc) := by
 obtain ⟨b, o, e, f, hix, -, hcs, hL⟩ := nds_atR h k p hp
 obtain ⟨c0, c1, c2, c3, c4, c5⟩ := nv_cells hcs
 obtain ⟨ea, ec, rfl, -⟩ := hL.1.shape
 obtain ⟨fa, fc, hfe, -, -⟩ := Shape.list_len (S := F.bkR) (ht := Tryz.underlying97) (hc := F.cells97) hL.2.1
 obtain rfl : f = _ := by simpa using hfe
 refine ⟨b, o, ea, ec, fa, fc, hix, fun V hV => ⟨⟨?_, ?_, ?_, ?_, ?_, ?_⟩, hL.below hV⟩⟩
 · rw [hV.cell (cell_lt c0)]; exact c0
 · rw [hV.cell (cell_lt c1)]; exact c1
 · rw [hV.cell (cell_lt c2)]; exact c2
 · rw [hV.cell (cell_lt c3)]; exact c3
 · rw [hV.cell (cell_lt c4)]; exact c4
 · rw [hV.cell (cell_lt c5)]; exact c5
theorem rfind_b {n0 : Nat} {v : Value} {l : List En} (x : ByteArray) {w : World} (h : ArgE n0 w v l) (hC : Chk l) :
   Calls Tryz.prog 114 #[v, .string x] w fun e w' => e = .returned (.tuple #[.int .i64 (fnd l x), .bool (there l x), .int .i64 0]) ∧ Below w.heap.size w w' := by
 refine (D.rfind_any n0 v l x w h).mono fun e w' hh => ?_
 obtain ⟨h1, q, rfl⟩ := hh
 rw [show D.fno l x = fnd l x from if_pos hC, show D.fis l x = there l x from if_pos hC, D.cerr_ok hC] at h1
 exact ⟨h1, below_drewN (Below.refl _ _) q⟩
theorem Wk.chk {s : St} (h : Wk s) {p : Nd} (hp : p ∈ s.1) : Chk (en p) := by
 cases hd : isD p
 · rw [(h.files p hp hd).1]; exact ⟨by simp, D.fine_nil⟩
 · exact (h.dirs p hp hd).1
theorem plc_mem {l : List Nd} (hU : Ups l) {p : Nd} (hp : p ∈ l) : ∃ k : Nat, l[k]? = some p ∧ plc l p.1 = (k : Int) := by
 obtain ⟨k, hk⟩ := List.getElem?_of_mem hp
 exact ⟨k, hk, plc_ups hU hk⟩
theorem rwalk_any (n0 n1 : Nat) (a : Option Addr) (c : Nat) (s : St) (hK : Wk s) (av : Option Addr) (cv : Nat) (xs : List ByteArray) (w : World) (hA : ndsR.lies n0 w [.slice a s.1.length c] s.1) (hX : ArgT n1 w (.slice av xs.length cv) xs) :
   Calls Tryz.prog 172 #[.agg #[.slice a s.1.length c, .int .i64 s.2], .slice av xs.length cv] w fun e w' => e = .returned (.tuple #[.int .i64 (wlk s.1 1 xs).1, .int .i64 (wlk s.1 1 xs).2]) ∧ Below w.heap.size w w' := by
 obtain ⟨l, nx⟩ := s
 simp only at hA ⊢
 obtain ⟨post, hpost⟩ : ∃ post : Ending → World → Prop, post = fun e w' => e = .returned (.tuple #[.int .i64 (wlk l 1 xs).1, .int .i64 (wlk l 1 xs).2]) ∧ Below w.heap.size w w' := ⟨_, rfl⟩
 have HPo : Hid (∀ i k w', wlk l 1 xs = (i, k) → Below w.heap.size w w' → post (.returned (.tuple #[.int .i64 i, .int .i64 k])) w') := fun i k w' h1 h2 => by rw [hpost, h1]; exact ⟨rfl, h2⟩
 rw [← hpost]
 clear hpost
 obtain ⟨W, hW⟩ := exa (w.alloc (.cells #[.slice a l.length c, .int .i64 nx] 24))
 have hb : Below w.heap.size w W := by rw [hW]; exact (Below.refl _ w).alloc (Nat.le_refl _) _
 have HW : Hid (Below w.heap.size w W ∧ Box W w.heap.size 24 #[.slice a l.length c, .int .i64 nx] ∧ ndsR.lies n0 W [.slice a l.length c] l ∧ ArgT n1 W (.slice av xs.length cv) xs) := ⟨hb, by rw [hW]; exact Box.new _ _ _, ndsR.below hA hb, hX.below hb⟩
 have HPL : Hid (∀ V (i : Int), Below W.heap.size W V → Calls Tryz.prog 105 #[.agg #[.slice a l.length c, .int .i64 nx], .int .i64 i] V fun e w' => e = .returned (.int .i64 (plc l i)) ∧ Below V.heap.size V w') := fun V i hV => rplace_any n0 a c l nx i V (ndsR.below HW.out.2.2.1 hV)
 have HK : Hid (Wk (l, nx)) := hK
 obtain ⟨n, hn⟩ := exa (l.length)
 obtain ⟨m, hm⟩ := exa (xs.length)
 have hmx : m ≤ maxLen := by rw [hm]; obtain ⟨_, _, _, _, h, _⟩ := hX.shape; exact h
 unfold maxLen at hmx
 have HM : Hid (m = xs.length ∧ n = l.length) := ⟨hm, hn⟩
 have hl1 := run_len Tryz.underlying57 av m cv
 rw [← hn] at HW HPL hW ⊢
 rw [← hm] at HW ⊢
 clear hA hb hX hK hn hm
 go_enter Tryz.func172, Tryz.ntmps172
 go_wp2
 rw [← hW]
 clear hW
 go_loopw [7, 6] (fun i v wr => ∃ (k : Nat) (j : Int), k ≤ m ∧ i = .int .i64 k ∧ v = .int .i64 j ∧ Hid (wlk l 1 xs = wlk l j (xs.drop k) ∧ ∃ p ∈ l, p.1 = j) ∧ Hid (Below W.heap.size W wr)) (fun i _ _ => m - (intOf i).toNat)
 case atStart => exact ⟨0, 1, Nat.zero_le _, rfl, rfl, ⟨by simp, by obtain ⟨t, ht, h1, _⟩ := HK.out.top; exact ⟨t, ht, h1⟩⟩, Below.refl _ _⟩
 case round => (
 obtain ⟨k, j, hk, rfl, rfl, HJ, HB⟩ := hrel
 by_cases hlt : k < m
 case neg => (
 obtain rfl : k = m := by omega
 have HE : Hid (wlk l 1 xs = (j, 0)) := show wlk l 1 xs = (j, 0) by
   rw [HJ.out.1, List.drop_of_length_le (by rw [HM.out.1]; exact Nat.le_refl _)]; rfl
 go_wp2
 exact HPo.out j 0 _ HE.out (below_any HW.out.1 HB.out))
 obtain ⟨x, hx⟩ := get_lt (l := xs) (k := k) (by rw [← HM.out.1]; exact hlt)
 have hdrop : xs.drop k = x :: xs.drop (k + 1) := by
   obtain ⟨h1, h2⟩ := List.getElem?_eq_some_iff.1 hx
   rw [← h2]; exact List.drop_eq_getElem_cons h1
 obtain ⟨p, hpl, hpj⟩ := HJ.out.2
 obtain ⟨at', hat, hpc⟩ := plc_mem HK.out.up hpl
 simp only at hat hpc
 obtain ⟨b, o, ea, ec, fa, fc, hix, hall⟩ := ndr_at HW.out.2.2.1 at' p hat
 obtain ⟨bx, ox, hixx, -, hcx⟩ := (HW.out.2.2.2.below HB.out).at k x hx
 have HXC : Hid (∀ V, Below wr.heap.size wr V → V.cell? ⟨bx, ox, none⟩ = some (.string x)) := fun V hV => by rw [hV.cell (cell_lt hcx)]; exact hcx
 have HG : Hid (gt l j = p ∧ p ∈ l ∧ Chk (en p)) := ⟨by rw [← hpj]; exact gt_of HK.out.up hpl, hpl, HK.out.chk hpl⟩
 have HWL : Hid (wlk l 1 xs = wlk l j (x :: xs.drop (k + 1))) := show wlk l 1 xs = wlk l j (x :: xs.drop (k + 1)) by rw [HJ.out.1, hdrop]
 have HP' : Hid (∀ V, Below wr.heap.size wr V → Calls Tryz.prog 105 #[.agg #[.slice a n c, .int .i64 nx], .int .i64 j] V fun e w' => e = .returned (.int .i64 at') ∧ Below V.heap.size V w') := fun V hV => by (
 have hh := HPL.out V j (below_any HB.out hV)
 rw [← hpj, hpc, hpj] at hh
 exact hh)
 obtain ⟨el, hel⟩ := exa ((en p).length)
 obtain ⟨fl, hfl⟩ := exa ((fi p).2.length)
 obtain ⟨pi, hpi⟩ := exa (p.1)
 obtain ⟨pd, hpd⟩ := exa (isD p)
 obtain ⟨pl, hpl'⟩ := exa (lk p)
 obtain ⟨pz, hpz⟩ := exa ((fi p).1)
 rw [← hel, ← hfl, ← hpi, ← hpd, ← hpl', ← hpz] at hall
 have HS : Hid (∀ V, Below wr.heap.size wr V → V.cell? ⟨w.heap.size, 0, none⟩ = some (.slice a n c) ∧ V.cell? ⟨w.heap.size, 1, none⟩ = some (.int .i64 nx) ∧ V.cell? ⟨b, o, none⟩ = some (.int .i64 pi) ∧ V.cell? ⟨b, o + 1, none⟩ = some (.bool pd) ∧ V.cell? ⟨b, o + 2, none⟩ = some (.int .i64 pl) ∧ V.cell? ⟨b, o + 3, none⟩ = some (.slice ea el ec) ∧ V.cell? ⟨b, o + 4, none⟩ = some (.int .i64 pz) ∧ V.cell? ⟨b, o + 5, none⟩ = some (.slice fa fl fc)) := fun V hV => by
   obtain ⟨g0, g1, -, -⟩ := (HW.out.2.1.below (below_any HB.out hV) HW.out.2.1.lt).two
   exact ⟨g0, g1, (hall V (below_any HB.out hV)).1⟩
 have HAE : Hid (∀ V, Below wr.heap.size wr V → ArgE n0 V (.slice ea el ec) (en p)) := fun V hV => (hall V (below_any HB.out hV)).2.1
 have HD : Hid (pd = isD p) := hpd
 have hkm : (k : Int) < (m : Int) := by omega
 clear hx hdrop hpl hpj hat hpc hall hcx hel hfl hpi hpd hpl' hpz
 go_upto_region 5 with fail
 go_cut [8] (fun v wx => ∃ dd, v = .pointer (some ⟨dd, 0, none⟩) ∧ Hid (Below wr.heap.size wr wx ∧ Box wx dd 101 #[.int .i64 pi, .bool pd, .int .i64 pl, .slice ea el ec, .int .i64 pz, .slice fa fl fc]))
 case first => (
 refine AnyBut.begin (fun W => W.cell? ⟨w.heap.size, 0, none⟩ = some (.slice a n c) ∧ W.cell? ⟨w.heap.size, 1, none⟩ = some (.int .i64 nx) ∧ W.cell? ⟨b, o, none⟩ = some (.int .i64 pi) ∧ W.cell? ⟨b, o + 1, none⟩ = some (.bool pd) ∧ W.cell? ⟨b, o + 2, none⟩ = some (.int .i64 pl) ∧ W.cell? ⟨b, o + 3, none⟩ = some (.slice ea el ec) ∧ W.cell? ⟨b, o + 4, none⟩ = some (.int .i64 pz) ∧ W.cell? ⟨b, o + 5, none⟩ = some (.slice fa fl fc)) 8 (by kernel_rfl) ?_
 have hSS := HS.out wr.drew (Below.refl _ wr).drew
 refine ty 0 18 hSS ?_; simp only [ua,ub,uc,ud]
 refine ty 1 19 hSS ?_; simp only [ua,ub,uc,ud]
 refine ty 2 20 hSS ?_; simp only [ua,ub,uc,ud]
 refine ty 3 21 hSS ?_; simp only [ua,ub,uc,ud]
 refine AnyBut.two (i := 4) (j := 7) (by kernel_rfl) rfl rfl (fun K hK => ?_) (fun K hK => ?_)
 · go_simp
   refine Calls.mono (HP'.out wr.drew (Below.refl _ wr).drew) ?_
   rintro e wp ⟨rfl, hbp⟩
   dsimp only
   have hbp1 : Below wr.heap.size wr wp := below_any (Below.refl _ wr).drew hbp
   refine hK.out _ _ (HS.out wp hbp1) ?_
   clear hK hSS
   have hSS := HS.out wp hbp1
   refine ty 5 23 hSS ?_; simp only [ua,ub,uc,ud]
   refine ty 6 24 hSS ?_; simp only [ua,ub,uc,ud]
   refine AnyBut.step (i := 7) (by kernel_rfl) rfl (fun K hK => ?_)
   go_simp
   refine hK.out _ _ (HS.out _ (hbp1.alloc hbp1.size _)) ?_
   clear hK hSS
   refine AnyBut.last (by kernel_rfl) (by kernel_rfl) rfl (fun K hK => ?_)
   go_simp
   refine hK.out _ _ ?_
   clear hK
   rename_i J K1 hJ hM K2 K3
   refine hM _ _ (Go.Met.intro (hJ _ _ ?_))
   refine ⟨?m1a0, ?m1a1, ?m1a2, ?m1a3, ?m1a4, ?m1a5, ?m1a6, ?m1a7, ?m1a8, ?m1a9, ?m1a10, ?m1a11, ?m1a12, ?m1a13, ?m1a14, ?m1a15, ?m1a16, ?m1a17, ?m1a18, ?m1a19, ?m1a20, ?m1a21, ?m1a22, ?m1a23, ?m1a24, ?m1a25, ?m1a26, ?m1a27, ?m1a28, ?m1a29, ?m1a30, ?rel1, ?fr1⟩
   case fr1 => rfl
   case rel1 => exact ⟨_, rfl, hbp1.alloc hbp1.size _, Box.new _ _ _⟩
 · go_simp
   have hbz : Below wr.heap.size wr (wr.alloc (.cells #[.int .i64 0, .bool false, .int .i64 0, .slice none 0 0, .int .i64 0, .slice none 0 0] 101)).drew := ((Below.refl _ wr).alloc (Nat.le_refl _) _).drew
   have hBz : Box (wr.alloc (.cells #[.int .i64 0, .bool false, .int .i64 0, .slice none 0 0, .int .i64 0, .slice none 0 0] 101)).drew wr.heap.size 101 #[.int .i64 0, .bool false, .int .i64 0, .slice none 0 0, .int .i64 0, .slice none 0 0] := Box.drew (Box.new _ _ _)
   refine hK.out _ _ (HS.out _ hbz) ?_
   clear hK hSS
   refine AnyBut.step (i := 4) (by kernel_rfl) rfl (fun K hK => ?_)
   go_simp
   refine Calls.mono (HP'.out _ hbz) ?_
   rintro e wp ⟨rfl, hbp⟩
   dsimp only
   have hbp1 : Below wr.heap.size wr wp := below_any hbz hbp
   have hBp : Box wp wr.heap.size 101 #[.int .i64 0, .bool false, .int .i64 0, .slice none 0 0, .int .i64 0, .slice none 0 0] := hBz.below hbp hBz.lt
   refine hK.out _ _ (HS.out wp hbp1) ?_
   clear hK
   have hSS := HS.out wp hbp1
   refine ty 5 23 hSS ?_; simp only [ua,ub,uc,ud]
   refine ty 6 24 hSS ?_; simp only [ua,ub,uc,ud]
   obtain ⟨z0, z1, z2, z3, z4, z5⟩ := hBp.six
   have y0 := hBp.frozen 0
   have y1 := hBp.frozen 1
   have y2 := hBp.frozen 2
   have y3 := hBp.frozen 3
   have y4 := hBp.frozen 4
   have y5 := hBp.frozen 5
   refine AnyBut.last (by kernel_rfl) (by kernel_rfl) rfl (fun K hK => ?_)
   go_simp
   refine hK.out _ _ ?_
   clear hK
   rename_i J K1 hJ hM K2 K3
   refine hM _ _ (Go.Met.intro (hJ _ _ ?_))
   refine ⟨?m2a0, ?m2a1, ?m2a2, ?m2a3, ?m2a4, ?m2a5, ?m2a6, ?m2a7, ?m2a8, ?m2a9, ?m2a10, ?m2a11, ?m2a12, ?m2a13, ?m2a14, ?m2a15, ?m2a16, ?m2a17, ?m2a18, ?m2a19, ?m2a20, ?m2a21, ?m2a22, ?m2a23, ?m2a24, ?m2a25, ?m2a26, ?m2a27, ?m2a28, ?m2a29, ?m2a30, ?rel2, ?fr2⟩
   case fr2 => rfl
   case rel2 => exact ⟨_, rfl, six_set hbp1 (Nat.le_refl _) hBp _ _ _ _ _ _⟩)
 case rest => (
 obtain ⟨dd, rfl, HBV⟩ := hcut
 obtain ⟨V, hV⟩ := exa (wc)
 rw [← hV] at HBV ⊢
 clear hV
 obtain ⟨v0, v1, v2, v3, v4, v5⟩ := HBV.out.2.six
 cases hpd : pd
 case false => (
 subst hpd
 have HE : Hid (wlk l 1 xs = (0, 103)) := show wlk l 1 xs = (0, 103) by
   rw [HWL.out, wlk, HG.out.1, if_pos HD.out.symm]
 go_wp2
 exact HPo.out 0 103 _ HE.out (below_any (below_any HW.out.1 HB.out) HBV.out.1))
 subst hpd
 have HCF : Hid (∀ U, Below V.heap.size V U → Calls Tryz.prog 114 #[.slice ea el ec, .string x] U fun e w' => e = .returned (.tuple #[.int .i64 (fnd (en p) x), .bool (there (en p) x), .int .i64 0]) ∧ Below U.heap.size U w') := fun U hU => rfind_b x (HAE.out U (below_any HBV.out.1 hU)) HG.out.2.2
 obtain ⟨fd', hfd⟩ := exa (fnd (en p) x)
 obtain ⟨th, hth⟩ := exa (there (en p) x)
 rw [← hfd, ← hth] at HCF
 have HF : Hid (fd' = fnd (en p) x ∧ th = there (en p) x) := ⟨hfd, hth⟩
 have HS2 : Hid (∀ U, Below V.heap.size V U → U.cell? ⟨dd, 3, none⟩ = some (.slice ea el ec) ∧ U.cell? ⟨bx, ox, none⟩ = some (.string x)) := fun U hU => ⟨(HBV.out.2.below hU HBV.out.2.lt).cell 3 rfl, HXC.out U (below_any HBV.out.1 hU)⟩
 have HS0 := HS2.out V.drew (Below.refl _ V).drew
 have HCR := HCF.out V.drew (Below.refl _ V).drew
 clear v0 v2 v3 v4 v5 hfd hth
 go_wp2
 go_region_held3 (fun U => U.cell? ⟨dd, 3, none⟩ = some (.slice ea el ec) ∧ U.cell? ⟨bx, ox, none⟩ = some (.string x))
   (first | with_reducible exact HS1 | with_reducible exact HS0)
   ((first | (go_at_call 114; refine HCR.mono ?_; rintro e w2 ⟨rfl, hb2⟩; have HS1 := HS2.out w2 (below_any (Below.refl _ V).drew hb2))))
 have HB2 : Hid (Below W.heap.size W w2) := below_any HB.out (below_any HBV.out.1 (below_any (Below.refl _ V).drew hb2))
 clear HS0 HS1 hb2 HCR v1
 cases th
 · have HE : Hid (wlk l 1 xs = (0, 101)) := show wlk l 1 xs = (0, 101) by
     rw [HWL.out, wlk, HG.out.1, if_neg (by rw [← HD.out]; decide), if_pos HF.out.2.symm]
   go_wp2
   exact HPo.out 0 101 _ HE.out (below_any HW.out.1 HB2.out)
 · have HE : Hid (wlk l 1 xs = wlk l fd' (xs.drop (k + 1)) ∧ ∃ q ∈ l, q.1 = fd') := by
     refine ⟨by rw [HWL.out, wlk, HG.out.1, if_neg (by rw [← HD.out]; decide), if_neg (by rw [← HF.out.2]; decide), HF.out.1], ?_⟩
     obtain ⟨d, hd⟩ := D.there_mem.1 HF.out.2.symm
     rw [HF.out.1, D.fnd_mem HG.out.2.2 hd]
     exact HK.out.names p HG.out.2.1 _ hd
   go_wp2
   go_roundw
   case rel => exact ⟨k + 1, fd', by omega, by go_num, rfl, HE.out, HB2.out⟩
   case measure => simp [intOf]; omega))
end Go.Proofs.YtopcefhncildnaaGreatDoor
namespace Go.Proofs.YtopcefhncildnaaGreatDoor
open Go.RowKit
open D (En ArgE Chk)
open F (Fl bksR flR)
theorem rshape_any (n0 : Nat) (a : Option Addr) (c : Nat) (s : St) (w : World) (hA : ndsR.lies n0 w [.slice a s.1.length c] s.1) (hM : FitsS s.1) :
   Calls Tryz.prog 177 #[.agg #[.slice a s.1.length c, .int .i64 s.2]] w fun e w' => Says e (Pre s) ∧ Below w.heap.size w w' := by
 obtain ⟨l, nx⟩ := s
 simp only at hA hM ⊢
 have hl1 := run_len Tryz.underlying22 a l.length c
 obtain ⟨post, hpost⟩ : ∃ post : Ending → World → Prop, post = fun e w' => Says e (Pre (l, nx)) ∧ Below w.heap.size w w' := ⟨_, rfl⟩
 have HNo : Hid (∀ w', ¬ ShapeR (l, nx) → Below w.heap.size w w' → post (.returned (.bool false)) w') := fun w' h1 h2 => by rw [hpost]; exact ⟨says_no fun h => h1 (shape_pre.2 h), h2⟩
 have HYes : Hid (∀ w', ShapeR (l, nx) → Below w.heap.size w w' → post (.returned (.bool true)) w') := fun w' h1 h2 => by rw [hpost]; exact ⟨says_yes (shape_pre.1 h1), h2⟩
 rw [← hpost]
 clear hpost
 obtain ⟨W, hW⟩ := exa (w.alloc (.cells #[.slice a l.length c, .int .i64 nx] 24))
 have hb : Below w.heap.size w W := by rw [hW]; exact (Below.refl _ w).alloc (Nat.le_refl _) _
 have hB : Box W w.heap.size 24 #[.slice a l.length c, .int .i64 nx] := by rw [hW]; exact Box.new _ _ _
 obtain ⟨p0, p1, -, -⟩ := hB.two
 have HW : Hid (Below w.heap.size w W ∧ ndsR.lies n0 W [.slice a l.length c] l ∧ Box W w.heap.size 24 #[.slice a l.length c, .int .i64 nx]) := ⟨hb, ndsR.below hA hb, hB⟩
 have HM : Hid (∀ p ∈ l, (en p).length ≤ 140737488351232) := fun p hp => by have := (hM.2 p hp).1; omega
 obtain ⟨n, hn⟩ := exa (l.length)
 have HN : Hid (n = l.length) := hn
 have hn47 : n ≤ 140737488351232 := by rw [hn]; have := hM.1; omega
 rw [← hn] at HW hl1 hW p0 ⊢
 rw [hW] at p0 p1
 clear hA hb hB hn hM
 by_cases h2 : nx < 2
 case pos => (
 rw [hW] at HW
 clear hW
 go_enter Tryz.func177, Tryz.ntmps177
 go_wp2
 exact HNo.out _ (fun h => by have := h.nx; simp only at this; omega) HW.out.1)
 by_cases h3 : 2147483647 < nx
 case pos => (
 rw [hW] at HW
 clear hW
 go_enter Tryz.func177, Tryz.ntmps177
 go_wp2
 exact HNo.out _ (fun h => by have := h.nx; simp only at this; omega) HW.out.1)
 by_cases h4 : n < 1
 case pos => (
 obtain rfl : n = 0 := by omega
 rw [hW] at HW
 clear hW
 go_enter Tryz.func177, Tryz.ntmps177
 go_wp2
 exact HNo.out _ (fun h => by have h9 := h.len; have := HN.out; simp only at h9; omega) HW.out.1)
 by_cases h5 : 128 < n
 case pos => (
 rw [hW] at HW
 clear hW
 go_enter Tryz.func177, Tryz.ntmps177
 go_wp2
 exact HNo.out _ (fun h => by have h9 := h.len; have := HN.out; simp only at h9; omega) HW.out.1)
 have h4i : ¬ (n : Int) < 1 := by omega
 have h5i : ¬ 128 < (n : Int) := by omega
 obtain ⟨t, ht⟩ := get_lt (l := l) (k := 0) (by rw [← HN.out]; omega)
 obtain ⟨tb, tt, te, tf, htix, -, htc, -⟩ := nds_atR HW.out.2.1 0 t ht
 obtain ⟨t0, t1, t2, -, -, -⟩ := nv_cells htc
 have htix : ∀ W, (Instr.indexAt 22 (.slice a n c) (.int .i64 0)).run Tryz.prog W = .ok (.pointer (some ⟨tb, tt, none⟩)) W := htix
 have h0n : (0 : Int) < (n : Int) := by omega
 obtain ⟨ti, hti⟩ := exa (t.1)
 obtain ⟨td, htd⟩ := exa (isD t)
 obtain ⟨tk, htk⟩ := exa (lk t)
 have HT : Hid (l[0]? = some t ∧ ti = t.1 ∧ td = isD t ∧ tk = lk t) := ⟨ht, hti, htd, htk⟩
 rw [← hti] at t0
 rw [← htd] at t1
 rw [← htk] at t2
 rw [hW] at t0 t1 t2
 clear ht htc hti htd htk
 by_cases h6 : ti = 1
 case neg => (
 have h6b : (ti == 1) = false := by simpa using h6
 rw [hW] at HW
 clear hW
 go_enter Tryz.func177, Tryz.ntmps177
 go_wp2
 exact HNo.out _ (fun h => by obtain ⟨q, q0, q1, q2, q3⟩ := h.top; rw [HT.out.1] at q0; cases q0; exact h6 (HT.out.2.1.trans q1)) HW.out.1)
 subst h6
 cases htd : td
 case false => (
 subst htd
 rw [hW] at HW
 clear hW
 go_enter Tryz.func177, Tryz.ntmps177
 go_wp2
 exact HNo.out _ (fun h => by obtain ⟨q, q0, q1, q2, q3⟩ := h.top; rw [HT.out.1] at q0; cases q0; rw [HT.out.2.2.1.symm] at q2; cases q2) HW.out.1)
 subst htd
 by_cases h7 : tk = 0
 case neg => (
 have h7b : (tk == 0) = false := by simpa using h7
 rw [hW] at HW
 clear hW
 go_enter Tryz.func177, Tryz.ntmps177
 go_wp2
 exact HNo.out _ (fun h => by obtain ⟨q, q0, q1, q2, q3⟩ := h.top; rw [HT.out.1] at q0; cases q0; exact h7 (HT.out.2.2.2.trans q3)) HW.out.1)
 subst h7
 go_enter Tryz.func177, Tryz.ntmps177
 go_wp2
 rw [← hW]
 clear hW p0 p1 t0 t1 t2 htix
 go_loopw [3] (fun i wr => ∃ k : Nat, k ≤ n ∧ i = .int .i64 k ∧ Hid (∀ (j : Nat) p, j < k → l[j]? = some p → NodeR (l, nx) j p) ∧ Hid (Below W.heap.size W wr)) (fun i _ => n - (intOf i).toNat)
 case atStart => exact ⟨0, Nat.zero_le _, rfl, fun j p hj => by omega, Below.refl _ _⟩
 case round => (
 obtain ⟨k, hk, rfl, HK, HB⟩ := hrel
 obtain ⟨p0, p1, -, -⟩ := (HW.out.2.2.below HB.out HW.out.2.2.lt).two
 by_cases hlt : k < n
 case neg => (
 obtain rfl : k = n := by omega
 go_wp2
 refine HYes.out _ ⟨by simp only; omega, by have := HN.out; simp only; omega, ⟨t, HT.out.1, HT.out.2.1.symm, HT.out.2.2.1.symm, HT.out.2.2.2.symm⟩, fun i p hp => HK.out i p ?_ hp⟩ (below_any HW.out.1 HB.out)
 rw [HN.out]; exact (List.getElem?_eq_some_iff.1 hp).1)
 obtain ⟨p, hp⟩ := get_lt (l := l) (k := k) (by rw [← HN.out]; exact hlt)
 obtain ⟨b, o, ee, ff, hix, -, hcs, hLR⟩ := nds_atR (ndsR.below HW.out.2.1 HB.out) k p hp
 obtain ⟨c0, c1, c2, c3, c4, c5⟩ := nv_cells hcs
 obtain ⟨ea, ec, rfl, -⟩ := hLR.1.shape
 obtain ⟨fa, fc, hfe, -⟩ := Shape.list_len (S := F.bkR) (ht := Tryz.underlying97) (hc := F.cells97) hLR.2.1
 obtain rfl : ff = _ := by simpa using hfe
 have hkn : (k : Int) < (n : Int) := by omega
 have HP : Hid (l[k]? = some p ∧ LR n0 wr p (.slice ea (en p).length ec) (.slice fa (fi p).2.length fc) ∧ p ∈ l) := ⟨hp, hLR, List.mem_of_getElem? hp⟩
 obtain ⟨el, hel⟩ := exa ((en p).length)
 obtain ⟨fl, hfl⟩ := exa ((fi p).2.length)
 obtain ⟨pi, hpi⟩ := exa (p.1)
 obtain ⟨pd, hpd⟩ := exa (isD p)
 obtain ⟨pl, hpl⟩ := exa (lk p)
 obtain ⟨pz, hpz⟩ := exa ((fi p).1)
 have HE : Hid (el = (en p).length ∧ fl = (fi p).2.length ∧ pi = p.1 ∧ pd = isD p ∧ pl = lk p ∧ pz = (fi p).1) := ⟨hel, hfl, hpi, hpd, hpl, hpz⟩
 have hel47 : el ≤ 140737488351232 := by rw [hel]; exact HM.out p HP.out.2.2
 rw [← hel] at c3 HP
 rw [← hfl] at c5 HP
 rw [← hpi] at c0
 rw [← hpd] at c1
 rw [← hpl] at c2
 rw [← hpz] at c4
 obtain ⟨X, hX⟩ := exa (wr.alloc (.cells #[.int .i64 pi, .bool pd, .int .i64 pl, .slice ea el ec, .int .i64 pz, .slice fa fl fc] 101))
 have hbX : Below wr.heap.size wr X := by rw [hX]; exact (Below.refl _ wr).alloc (Nat.le_refl _) _
 have hBX : Box X wr.heap.size 101 #[.int .i64 pi, .bool pd, .int .i64 pl, .slice ea el ec, .int .i64 pz, .slice fa fl fc] := by rw [hX]; exact Box.new _ _ _
 have HXW : Hid (Below wr.heap.size wr X) := hbX
 have HX : Hid (Below W.heap.size W X ∧ Box X wr.heap.size 101 #[.int .i64 pi, .bool pd, .int .i64 pl, .slice ea el ec, .int .i64 pz, .slice fa fl fc]) := ⟨below_any HB.out hbX, hBX⟩
 have hl2 := run_len Tryz.underlying96 ea el ec
 have HC8 := D.rcheck_any n0 (.slice ea el ec) (en p) X.drew ((HP.out.2.1.1.below hbX).below (Below.refl _ X).drew)
 have HC7 : Hid (∀ q, Calls Tryz.prog 106 #[.agg #[.int .i64 pz, .slice fa fl fc]] (X.drewN q) fun e w' => e = .returned (.int .i64 (F.cerr (fi p))) ∧ Below (X.drewN q).heap.size (X.drewN q) w') := fun q => by (
 have h1 := (HP.out.2.1.below (below_any hbX (below_drewN (Below.refl _ X) q))).file
 rw [← HE.out.2.2.2.2.2] at h1
 exact F.rcheck_any n0 [_, _] (fi p) _ h1)
 have HBX : Hid (∀ V, Below X.heap.size X V → Below w.heap.size w V) := fun V hV => below_any (below_any HW.out.1 HX.out.1) hV
 have HNK : Hid (∀ h : ¬ NodeR (l, nx) k p, ¬ ShapeR (l, nx)) := fun h h2 => h (h2.all k p HP.out.1)
 have HCB : Hid (∀ V, Below X.heap.size X V → V.cell? ⟨w.heap.size, 0, none⟩ = some (.slice a n c) ∧ V.cell? ⟨w.heap.size, 1, none⟩ = some (.int .i64 nx) ∧ V.cell? ⟨wr.heap.size, 0, none⟩ = some (.int .i64 pi) ∧ V.cell? ⟨wr.heap.size, 1, none⟩ = some (.bool pd) ∧ V.cell? ⟨wr.heap.size, 2, none⟩ = some (.int .i64 pl) ∧ V.cell? ⟨wr.heap.size, 3, none⟩ = some (.slice ea el ec) ∧ V.cell? ⟨wr.heap.size, 4, none⟩ = some (.int .i64 pz) ∧ V.cell? ⟨wr.heap.size, 4 + 1, none⟩ = some (.slice fa fl fc)) := fun V hV => by (
 have h1 := HW.out.2.2.below HX.out.1 HW.out.2.2.lt
 obtain ⟨z0, z1, -, -⟩ := (h1.below hV h1.lt).two
 obtain ⟨y0, y1, y2, y3, y4, y5⟩ := (HX.out.2.below hV HX.out.2.lt).six
 exact ⟨z0, z1, y0, y1, y2, y3, y4, y5⟩)
 clear hcs hLR hfe hel hfl hpi hpd hpl hpz hbX hBX hp
 obtain ⟨qb, qo, qi, hqc, hqk⟩ : ∃ qb qo qi, (∀ U, Below X.heap.size X U → U.cell? ⟨qb, qo, none⟩ = some (.int .i64 qi)) ∧ (0 < k → (∀ W, (Instr.indexAt 22 (.slice a n c) (.int .i64 ((k : Int) - 1))).run Tryz.prog W = .ok (.pointer (some ⟨qb, qo, none⟩)) W) ∧ ∃ q0, l[k - 1]? = some q0 ∧ qi = q0.1) := by (
 by_cases h0 : 0 < k
 · obtain ⟨q0, hq0⟩ := get_lt (l := l) (k := k - 1) (by rw [← HN.out]; omega)
   obtain ⟨qb, qo, qe, qf, hixq, -, hcq, -⟩ := nds_atR (ndsR.below HW.out.2.1 HX.out.1) (k - 1) q0 hq0
   obtain ⟨k0, -⟩ := nv_cells hcq
   refine ⟨qb, qo, q0.1, fun U hU => by rw [hU.cell (cell_lt k0)]; exact k0, fun _ => ⟨?_, q0, hq0, rfl⟩⟩
   rw [show ((k : Int) - 1) = ((k - 1 : Nat) : Int) by omega]
   exact hixq
 · exact ⟨wr.heap.size, 0, pi, fun U hU => (HCB.out U hU).2.2.1, fun h => absurd h h0⟩)
 have HQK : Hid (∀ h : 0 < k, ∃ q0, l[k - 1]? = some q0 ∧ qi = q0.1) := fun h => (hqk h).2
 have hixq : 0 < k → ∀ W, (Instr.indexAt 22 (.slice a n c) (.int .i64 ((k : Int) - 1))).run Tryz.prog W = .ok (.pointer (some ⟨qb, qo, none⟩)) W := fun h => (hqk h).1
 have HIX : Hid (0 < k → ∀ W, (Instr.indexAt 22 (.slice a n c) (.int .i64 ((k : Int) - 1))).run Tryz.prog W = .ok (.pointer (some ⟨qb, qo, none⟩)) W) := hixq
 have HSX : Hid (∀ U, Below X.heap.size X U → U.cell? ⟨w.heap.size, 0, none⟩ = some (.slice a n c) ∧ U.cell? ⟨w.heap.size, 1, none⟩ = some (.int .i64 nx) ∧ U.cell? ⟨wr.heap.size, 0, none⟩ = some (.int .i64 pi) ∧ U.cell? ⟨wr.heap.size, 3, none⟩ = some (.slice ea el ec) ∧ U.cell? ⟨wr.heap.size, 4, none⟩ = some (.int .i64 pz) ∧ U.cell? ⟨wr.heap.size, 4 + 1, none⟩ = some (.slice fa fl fc) ∧ U.cell? ⟨qb, qo, none⟩ = some (.int .i64 qi)) := fun U hU => ⟨(HCB.out U hU).1, (HCB.out U hU).2.1, (HCB.out U hU).2.2.1, (HCB.out U hU).2.2.2.2.2.1, (HCB.out U hU).2.2.2.2.2.2.1, (HCB.out U hU).2.2.2.2.2.2.2, hqc U hU⟩
 clear hixq hqk hqc
 obtain ⟨ce, hce⟩ := exa (D.cerr (en p))
 obtain ⟨cf, hcf⟩ := exa (F.cerr (fi p))
 rw [← hce] at HC8
 rw [← hcf] at HC7
 have HCE : Hid ((ce = 0 → Chk (en p)) ∧ (ce ≠ 0 → ¬ Chk (en p)) ∧ (cf = 0 → F.chk (fi p) = true) ∧ (cf ≠ 0 → ¬ F.chk (fi p) = true)) := by (
 rw [hce, hcf]
 refine ⟨fun h => ?_, fun h hc => h (D.cerr_ok hc), fun h => ?_, fun h hc => h (if_pos hc)⟩
 · by_cases hc : Chk (en p)
   · exact hc
   · rw [D.cerr_bad hc] at h; exact absurd h (by decide)
 · by_cases hc : F.chk (fi p) = true
   · exact hc
   · rw [show F.cerr (fi p) = 9 from if_neg hc] at h; exact absurd h (by decide))
 clear hce hcf
 go_wp2
 rw [← hX]
 clear hX p0 p1 c0 c1 c2 c3 c4 c5 hix
 have hSS := HSX.out X.drew (Below.refl _ X).drew
 refine AnyBut.begin (fun U => U.cell? ⟨w.heap.size, 0, none⟩ = some (.slice a n c) ∧ U.cell? ⟨w.heap.size, 1, none⟩ = some (.int .i64 nx) ∧ U.cell? ⟨wr.heap.size, 0, none⟩ = some (.int .i64 pi) ∧ U.cell? ⟨wr.heap.size, 3, none⟩ = some (.slice ea el ec) ∧ U.cell? ⟨wr.heap.size, 4, none⟩ = some (.int .i64 pz) ∧ U.cell? ⟨wr.heap.size, 4 + 1, none⟩ = some (.slice fa fl fc) ∧ U.cell? ⟨qb, qo, none⟩ = some (.int .i64 qi)) 1000 (by kernel_rfl) ?_
 refine tx 0 62 hSS ?_; simp only [ua,ub,uc,ud]
 refine tx 1 63 hSS ?_; simp only [ua,ub,uc,ud]
 by_cases g1 : pi < 1
 case pos => (
 have g1b : decide (pi < 1) = true := decide_eq_true g1
 refine tx 2 64 hSS ?_; simp only [ua,ub,uc,ud]
 refine tx 3 65 hSS ?_; simp only [ua,ub,uc,ud]
 refine tus 5 [(4, 66), (5, 67), (6, 68), (7, 69), (8, 70)] hSS ?_
 simp only [skA, skL, ua, ub, uc, ud]
 refine tx 9 71 hSS ?_; simp only [ua,ub,uc,ud]
 refine tx 10 72 hSS ?_; simp only [ua,ub,uc,ud]
 refine tus 14 [(11, 73), (12, 74), (13, 75), (14, 76), (15, 77), (16, 78), (17, 79), (18, 80), (19, 81), (20, 82), (21, 83), (22, 84), (23, 85), (24, 86)] hSS ?_
 simp only [skA, skL, ua, ub, uc, ud]
 refine tx 25 87 hSS ?_; simp only [ua,ub,uc,ud]
 refine tx 26 88 hSS ?_; simp only [ua,ub,uc,ud]
 refine tus 4 [(27, 89), (28, 90), (29, 91), (30, 92)] hSS ?_
 simp only [skA, skL, ua, ub, uc, ud]
 refine tx 31 93 hSS ?_; simp only [ua,ub,uc,ud]
 refine tx 32 94 hSS ?_; simp only [ua,ub,uc,ud]
 refine tus 4 [(33, 95), (34, 96), (35, 97), (36, 98)] hSS ?_
 simp only [skA, skL, ua, ub, uc, ud]
 refine tx 37 99 hSS ?_; simp only [ua,ub,uc,ud]
 refine AnyBut.done (by kernel_rfl) ?_
 have HZ : Hid (Below w.heap.size w _) := HBX.out _ ((Below.refl _ X).drew)
 clear hSS
 go_wp2
 exact HNo.out _ (HNK.out fun h => (by have := h.low; have := HE.out.2.2.1; omega)) HZ.out)
 have g1b : decide (pi < 1) = false := decide_eq_false g1
 refine tx 2 64 hSS ?_; simp only [ua,ub,uc,ud]
 refine tx 3 65 hSS ?_; simp only [ua,ub,uc,ud]
 refine tx 4 66 hSS ?_; simp only [ua,ub,uc,ud]
 refine tx 5 67 hSS ?_; simp only [ua,ub,uc,ud]
 refine tx 6 68 hSS ?_; simp only [ua,ub,uc,ud]
 refine tx 7 69 hSS ?_; simp only [ua,ub,uc,ud]
 by_cases g2 : nx ≤ pi
 case pos => (
 have g2b : decide (nx ≤ pi) = true := decide_eq_true g2
 refine tx 8 70 hSS ?_; simp only [ua,ub,uc,ud]
 refine tx 9 71 hSS ?_; simp only [ua,ub,uc,ud]
 refine tx 10 72 hSS ?_; simp only [ua,ub,uc,ud]
 refine tus 14 [(11, 73), (12, 74), (13, 75), (14, 76), (15, 77), (16, 78), (17, 79), (18, 80), (19, 81), (20, 82), (21, 83), (22, 84), (23, 85), (24, 86)] hSS ?_
 simp only [skA, skL, ua, ub, uc, ud]
 refine tx 25 87 hSS ?_; simp only [ua,ub,uc,ud]
 refine tx 26 88 hSS ?_; simp only [ua,ub,uc,ud]
 refine tus 4 [(27, 89), (28, 90), (29, 91), (30, 92)] hSS ?_
 simp only [skA, skL, ua, ub, uc, ud]
 refine tx 31 93 hSS ?_; simp only [ua,ub,uc,ud]
 refine tx 32 94 hSS ?_; simp only [ua,ub,uc,ud]
 refine tus 4 [(33, 95), (34, 96), (35, 97), (36, 98)] hSS ?_
 simp only [skA, skL, ua, ub, uc, ud]
 refine tx 37 99 hSS ?_; simp only [ua,ub,uc,ud]
 refine AnyBut.done (by kernel_rfl) ?_
 have HZ : Hid (Below w.heap.size w _) := HBX.out _ ((Below.refl _ X).drew)
 clear hSS
 go_wp2
 exact HNo.out _ (HNK.out fun h => (by have h9 := h.nx; have := HE.out.2.2.1; simp only at h9; omega)) HZ.out)
 have g2b : decide (nx ≤ pi) = false := decide_eq_false g2
 refine tx 8 70 hSS ?_; simp only [ua,ub,uc,ud]
 refine tx 9 71 hSS ?_; simp only [ua,ub,uc,ud]
 refine tx 10 72 hSS ?_; simp only [ua,ub,uc,ud]
 refine tx 11 73 hSS ?_; simp only [ua,ub,uc,ud]
 by_cases hk0 : 0 < k
 case neg => (
 have hk0b : decide ((0 : Int) < (k : Int)) = false := decide_eq_false (by omega)
 refine tx 12 74 hSS ?_; simp only [ua,ub,uc,ud]
 refine tx 13 75 hSS ?_; simp only [ua,ub,uc,ud]
 refine tus 10 [(14, 76), (15, 77), (16, 78), (17, 79), (18, 80), (19, 81), (20, 82), (21, 83), (22, 84), (23, 85)] hSS ?_
 simp only [skA, skL, ua, ub, uc, ud]
 refine tx 24 86 hSS ?_; simp only [ua,ub,uc,ud]
 refine tx 25 87 hSS ?_; simp only [ua,ub,uc,ud]
 refine tx 26 88 hSS ?_; simp only [ua,ub,uc,ud]
 refine tx 27 89 hSS ?_; simp only [ua,ub,uc,ud]
 refine tx 28 90 hSS ?_; simp only [ua,ub,uc,ud]
 refine AnyBut.step (i := 29) (by kernel_rfl) rfl (fun K hK => ?_)
 go_simp
 refine Calls.mono HC8 ?_
 rintro e v1 ⟨rfl, q1, rfl⟩
 have HV1 : Hid (Below X.heap.size X (X.drew.drewN q1)) := below_drewN (Below.refl _ X).drew q1
 have HC7' := HC7.out (1 + q1)
 have HV1' : Hid (Below X.heap.size X (X.drewN (1 + q1))) := below_drewN (Below.refl _ X) _
 dsimp only
 refine hK.out _ _ (HSX.out _ HV1.out) ?_
 clear hK hSS
 have hSS := HSX.out _ HV1.out
 by_cases g4 : ce = 0
 case neg => (
 have g4b : (ce == 0) = false := by simpa using g4
 have g4c : (ce != 0) = true := by simpa using g4
 refine tx 30 92 hSS ?_; simp only [ua,ub,uc,ud]
 refine tx 31 93 hSS ?_; simp only [ua,ub,uc,ud]
 refine tx 32 94 hSS ?_; simp only [ua,ub,uc,ud]
 refine tus 4 [(33, 95), (34, 96), (35, 97), (36, 98)] hSS ?_
 simp only [skA, skL, ua, ub, uc, ud]
 refine tx 37 99 hSS ?_; simp only [ua,ub,uc,ud]
 refine AnyBut.done (by kernel_rfl) ?_
 have HZ : Hid (Below w.heap.size w _) := HBX.out _ (HV1'.out)
 clear hSS
 go_wp2
 exact HNo.out _ (HNK.out fun h => HCE.out.2.1 g4 h.ens) HZ.out)
 subst g4
 refine tx 30 92 hSS ?_; simp only [ua,ub,uc,ud]
 refine tx 31 93 hSS ?_; simp only [ua,ub,uc,ud]
 refine tx 32 94 hSS ?_; simp only [ua,ub,uc,ud]
 refine tx 33 95 hSS ?_; simp only [ua,ub,uc,ud]
 refine tx 34 96 hSS ?_; simp only [ua,ub,uc,ud]
 refine AnyBut.step (i := 35) (by kernel_rfl) rfl (fun K hK => ?_)
 go_simp
 refine Calls.mono HC7' ?_
 rintro e v2 ⟨rfl, hb2⟩
 have HV2 : Hid (Below X.heap.size X v2) := below_any HV1'.out hb2
 dsimp only
 refine hK.out _ _ (HSX.out _ HV2.out) ?_
 clear hK hSS
 have hSS := HSX.out _ HV2.out
 by_cases g5 : cf = 0
 case neg => (
 have g5b : (cf == 0) = false := by simpa using g5
 have g5c : (cf != 0) = true := by simpa using g5
 refine tx 36 98 hSS ?_; simp only [ua,ub,uc,ud]
 refine tx 37 99 hSS ?_; simp only [ua,ub,uc,ud]
 refine AnyBut.done (by kernel_rfl) ?_
 have HZ : Hid (Below w.heap.size w _) := HBX.out _ (HV2.out)
 clear hSS
 go_wp2
 exact HNo.out _ (HNK.out fun h => HCE.out.2.2.2 g5 h.fil) HZ.out)
 subst g5
 refine tx 36 98 hSS ?_; simp only [ua,ub,uc,ud]
 refine tx 37 99 hSS ?_; simp only [ua,ub,uc,ud]
 refine AnyBut.done (by kernel_rfl) ?_
 clear hSS
 have HG : Hid ((1 ≤ pi ∧ pi < nx) ∧ (0 < k → qi < pi) ∧ Chk (en p) ∧ F.chk (fi p) = true) := ⟨⟨by omega, by omega⟩, fun h => absurd h hk0, HCE.out.1 rfl, HCE.out.2.2.1 rfl⟩
 have HZ : Hid (Below w.heap.size w v2) := HBX.out _ HV2.out
 clear HC7' hb2 HC8 HC7 HV1 HV1'
 obtain ⟨z0, z1, y0, y1, y2, y3, y4, y5⟩ := HCB.out v2 HV2.out
 have HCN := rnamed_any n0 a c l nx pi v2.drew (by rw [← HN.out]; exact ndsR.below HW.out.2.1 (below_any HX.out.1 (below_any HV2.out (Below.refl _ v2).drew))) (by rw [← HN.out]; omega) HM.out
 rw [← HN.out] at HCN
 obtain ⟨cn, hcn⟩ := exa (cnt l pi)
 have HCNT : Hid (cn = cnt l p.1) := by show _ = _; rw [hcn, HE.out.2.2.1]
 rw [← hcn] at HCN
 clear hcn
 cases pd
 case true => (
 by_cases g6 : pz = 0
 case neg => (
 have g6b : (pz == 0) = false := by simpa using g6
 go_wp2
 exact HNo.out _ (HNK.out fun h => g6 (HE.out.2.2.2.2.2.trans (h.dir HE.out.2.2.2.1.symm))) HZ.out)
 subst g6
 have HSY : Hid (∀ U, Below X.heap.size X U → U.cell? ⟨w.heap.size, 0, none⟩ = some (.slice a n c) ∧ U.cell? ⟨w.heap.size, 1, none⟩ = some (.int .i64 nx) ∧ U.cell? ⟨wr.heap.size, 0, none⟩ = some (.int .i64 pi) ∧ U.cell? ⟨wr.heap.size, 1, none⟩ = some (.bool true) ∧ U.cell? ⟨wr.heap.size, 2, none⟩ = some (.int .i64 pl)) := fun U hU => ⟨(HCB.out U hU).1, (HCB.out U hU).2.1, (HCB.out U hU).2.2.1, (HCB.out U hU).2.2.2.1, (HCB.out U hU).2.2.2.2.1⟩
 go_wp2
 clear z0 z1 y0 y1 y2 y3 y4 y5
 have hSS := HSY.out v2.drew (below_any HV2.out (Below.refl _ v2).drew)
 refine AnyBut.begin (fun U => U.cell? ⟨w.heap.size, 0, none⟩ = some (.slice a n c) ∧ U.cell? ⟨w.heap.size, 1, none⟩ = some (.int .i64 nx) ∧ U.cell? ⟨wr.heap.size, 0, none⟩ = some (.int .i64 pi) ∧ U.cell? ⟨wr.heap.size, 1, none⟩ = some (.bool true) ∧ U.cell? ⟨wr.heap.size, 2, none⟩ = some (.int .i64 pl)) 1000 (by kernel_rfl) ?_
 refine tx 0 119 hSS ?_; simp only [ua,ub,uc,ud]
 refine tx 1 120 hSS ?_; simp only [ua,ub,uc,ud]
 refine tx 2 121 hSS ?_; simp only [ua,ub,uc,ud]
 refine tus 17 [(3, 122), (4, 123), (5, 124), (6, 125), (7, 126), (8, 127), (9, 128), (10, 129), (11, 130), (12, 131), (13, 132), (14, 133), (15, 134), (16, 135), (17, 136), (18, 137), (19, 138)] hSS ?_
 simp only [skA, skL, ua, ub, uc, ud]
 refine tx 20 139 hSS ?_; simp only [ua,ub,uc,ud]
 refine tx 21 140 hSS ?_; simp only [ua,ub,uc,ud]
 refine tx 22 141 hSS ?_; simp only [ua,ub,uc,ud]
 refine tx 23 142 hSS ?_; simp only [ua,ub,uc,ud]
 refine tx 24 143 hSS ?_; simp only [ua,ub,uc,ud]
 refine tx 25 144 hSS ?_; simp only [ua,ub,uc,ud]
 refine tx 26 145 hSS ?_; simp only [ua,ub,uc,ud]
 refine AnyBut.step (i := 27) (by kernel_rfl) rfl (fun K hK => ?_)
 go_simp
 refine Calls.mono HCN ?_
 rintro e v3 ⟨rfl, hb3⟩
 have HV3 : Hid (Below X.heap.size X v3) := below_any (below_any HV2.out (Below.refl _ v2).drew) hb3
 dsimp only
 refine hK.out _ _ (HSY.out _ HV3.out) ?_
 clear hK hSS
 have hSS := HSY.out _ HV3.out
 by_cases g9 : pl = (cn : Int)
 case neg => (
 have g9b : (pl == (cn : Int)) = false := by simpa using g9
 have g9c : (pl != (cn : Int)) = true := by simpa using g9
 refine tx 28 147 hSS ?_; simp only [ua,ub,uc,ud]
 refine tx 29 148 hSS ?_; simp only [ua,ub,uc,ud]
 refine AnyBut.done (by kernel_rfl) ?_
 have HZ3 : Hid (Below w.heap.size w _) := HBX.out _ (HV3.out)
 clear hSS
 go_wp2
 exact HNo.out _ (HNK.out fun h => g9 (by rw [HE.out.2.2.2.2.1, h.lks, HCNT.out])) HZ3.out)
 have g9b : (pl == (cn : Int)) = true := by simpa using g9
 have g9c : (pl != (cn : Int)) = false := by simpa using g9
 have HG9 : Hid (pl = (cn : Int)) := g9
 clear g9
 refine tx 28 147 hSS ?_; simp only [ua,ub,uc,ud]
 refine tx 29 148 hSS ?_; simp only [ua,ub,uc,ud]
 refine AnyBut.done (by kernel_rfl) ?_
 clear hSS
 have HR : Hid ((0 < k → (true = true → pl = 1) ∧ 1 ≤ pl ∧ pl ≤ 16) ∧ pl = cn) := ⟨fun h => absurd h hk0, HG9.out⟩
 have HZ3 : Hid (Below w.heap.size w v3) := HBX.out _ HV3.out
 have HNO : Hid ((∀ e ∈ en p, ∃ m ∈ l, m.1 = e.2) → NodeR (l, nx) k p) := fun hnm => by (
 obtain ⟨h1, h2⟩ := HR.out
 obtain ⟨⟨g1, g2⟩, g3, g4, g5⟩ := HG.out
 obtain ⟨e1, e2, e3, e4, e5, e6⟩ := HE.out
 refine ⟨by omega, by simp only; omega, fun q hk hq => ?_, g4, g5, fun _ => e6.symm, fun hd => absurd (e4.trans hd) (by decide), fun hk hd => by rw [← e5]; exact (h1 hk).1 (e4.trans hd), fun hk => by rw [← e5]; exact (h1 hk).2, ?_, hnm⟩
 · obtain ⟨q0, a1, a2⟩ := HQK.out hk
   have hq : l[k - 1]? = some q := hq
   rw [a1] at hq
   cases hq
   have := g3 hk
   omega
 · simp only
   rw [← HCNT.out, ← e5]
   exact h2)
 clear HR HG HQK HSX HSY HCN hb3
 obtain ⟨-, -, -, -, -, y3, -, -⟩ := HCB.out v3 HV3.out
 go_wp2
 clear y3
 go_loopw [5] (fun i wq => ∃ m : Nat, m ≤ el ∧ i = .int .i64 m ∧ Hid (∀ (j : Nat) e, j < m → (en p)[j]? = some e → ∃ q ∈ l, q.1 = e.2) ∧ Hid (Below X.heap.size X wq)) (fun i _ => el - (intOf i).toNat)
 case atStart => exact ⟨0, Nat.zero_le _, rfl, fun j e hj => by omega, HV3.out⟩
 case round => (
 rename World => wq
 obtain ⟨m, hm, rfl, HMM, HBQ⟩ := hrel
 obtain ⟨z0, z1, y0, y1, y2, y3, y4, y5⟩ := HCB.out wq HBQ.out
 by_cases hmlt : m < el
 case neg => (
 obtain rfl : m = el := by omega
 have HFIN : Hid (NodeR (l, nx) k p) := HNO.out fun x hx => by
   obtain ⟨i, hi⟩ := List.getElem?_of_mem hx
   exact HMM.out i x (by have := (List.getElem?_eq_some_iff.1 hi).1; have := HE.out.1; omega) hi
 clear z0 z1 y0 y1 y2 y4 y5
 go_wp2
 go_roundw
 case rel => (
 refine ⟨k + 1, by omega, by go_num, fun i r hi hr => ?_, below_any HX.out.1 HBQ.out⟩
 by_cases h9 : i < k
 · exact HK.out i r h9 hr
 · obtain rfl : i = k := by omega
   rw [HP.out.1] at hr
   cases hr
   exact HFIN.out)
 case measure => simp [intOf]; omega)
 obtain ⟨en', hen'⟩ := get_lt (l := en p) (k := m) (by have := HE.out.1; omega)
 obtain ⟨b9, o9, hix9, -, d0, d1⟩ := (HP.out.2.1.1.below (below_any HXW.out HBQ.out)).atR m en' hen'
 obtain ⟨es, ei⟩ := en'
 simp only at d0 d1
 have hmi : (m : Int) < (el : Int) := by omega
 have HEN : Hid ((en p)[m]? = some (es, ei)) := hen'
 have HCP := rplace_any n0 a c l nx ei wq.drew (by rw [← HN.out]; exact ndsR.below HW.out.2.1 (below_any HX.out.1 (below_any HBQ.out (Below.refl _ wq).drew)))
 rw [← HN.out] at HCP
 obtain ⟨pp, hpp⟩ := exa (plc l ei)
 have HPP : Hid (pp = plc l ei) := hpp
 rw [← hpp] at HCP
 have HR0 : wq.drew.cell? ⟨w.heap.size, 0, none⟩ = some (.slice a n c) ∧ wq.drew.cell? ⟨w.heap.size, 1, none⟩ = some (.int .i64 nx) ∧ wq.drew.cell? ⟨wr.heap.size, 3, none⟩ = some (.slice ea el ec) ∧ wq.drew.cell? ⟨b9, o9 + 1, none⟩ = some (.int .i64 ei) := ⟨z0, z1, y3, d1⟩
 clear hpp hen' z0 z1 y0 y1 y2 y4 y5 d0
 go_wp2
 clear y3 d1
 go_region_held3 (fun U => U.cell? ⟨w.heap.size, 0, none⟩ = some (.slice a n c) ∧ U.cell? ⟨w.heap.size, 1, none⟩ = some (.int .i64 nx) ∧ U.cell? ⟨wr.heap.size, 3, none⟩ = some (.slice ea el ec) ∧ U.cell? ⟨b9, o9 + 1, none⟩ = some (.int .i64 ei))
   (first | with_reducible exact HR1 | with_reducible exact HR0)
   ((first | (go_at_call 105; refine HCP.mono ?_; rintro e v4 ⟨rfl, hb4⟩; have HV4 : Hid (Below X.heap.size X v4) := below_any (below_any HBQ.out (Below.refl _ wq).drew) hb4; have HR1 : v4.cell? ⟨w.heap.size, 0, none⟩ = some (.slice a n c) ∧ v4.cell? ⟨w.heap.size, 1, none⟩ = some (.int .i64 nx) ∧ v4.cell? ⟨wr.heap.size, 3, none⟩ = some (.slice ea el ec) ∧ v4.cell? ⟨b9, o9 + 1, none⟩ = some (.int .i64 ei) := ⟨by rw [hb4.cell (cell_lt HR0.1)]; exact HR0.1, by rw [hb4.cell (cell_lt HR0.2.1)]; exact HR0.2.1, by rw [hb4.cell (cell_lt HR0.2.2.1)]; exact HR0.2.2.1, by rw [hb4.cell (cell_lt HR0.2.2.2)]; exact HR0.2.2.2⟩)))
 have HZ4 : Hid (Below w.heap.size w v4) := HBX.out _ HV4.out
 clear HR0 HR1 hb4 HCP
 by_cases g10 : pp < 0
 · go_wp2
   refine HNo.out _ (HNK.out fun h => ?_) HZ4.out
   obtain ⟨r, hr, hr2⟩ := h.nms (es, ei) (List.mem_of_getElem? HEN.out)
   rw [HPP.out] at g10
   exact (plc_neg g10).2.2 r hr hr2
 · go_wp2
   go_roundw
   case rel => (
 refine ⟨m + 1, by omega, by go_num, fun i r hi hr => ?_, HV4.out⟩
 by_cases h9 : i < m
 · exact HMM.out i r h9 hr
 · obtain rfl : i = m := by omega
   rw [HEN.out] at hr
   cases hr
   rw [HPP.out] at g10
   obtain ⟨k9, r9, -, hr9, hr8, -⟩ := plc_at (by omega : 0 ≤ plc l ei)
   exact ⟨r9, List.mem_of_getElem? hr9, hr8⟩)
   case measure => simp [intOf]; omega))
 by_cases g6 : el = 0
 case neg => (
 have g6i : (0 : Int) < (el : Int) := by omega
 go_wp2
 exact HNo.out _ (HNK.out fun h => g6 (by have h1 := h.nod HE.out.2.2.2.1.symm; have h2 := HE.out.1; rw [h1] at h2; exact h2)) HZ.out)
 have HEL : Hid (el = 0) := g6
 have g6i : ¬ (0 : Int) < (el : Int) := by omega
 clear g6
 have HSY : Hid (∀ U, Below X.heap.size X U → U.cell? ⟨w.heap.size, 0, none⟩ = some (.slice a n c) ∧ U.cell? ⟨w.heap.size, 1, none⟩ = some (.int .i64 nx) ∧ U.cell? ⟨wr.heap.size, 0, none⟩ = some (.int .i64 pi) ∧ U.cell? ⟨wr.heap.size, 1, none⟩ = some (.bool false) ∧ U.cell? ⟨wr.heap.size, 2, none⟩ = some (.int .i64 pl)) := fun U hU => ⟨(HCB.out U hU).1, (HCB.out U hU).2.1, (HCB.out U hU).2.2.1, (HCB.out U hU).2.2.2.1, (HCB.out U hU).2.2.2.2.1⟩
 go_wp2
 clear z0 z1 y0 y1 y2 y3 y4 y5
 have hSS := HSY.out v2.drew (below_any HV2.out (Below.refl _ v2).drew)
 refine AnyBut.begin (fun U => U.cell? ⟨w.heap.size, 0, none⟩ = some (.slice a n c) ∧ U.cell? ⟨w.heap.size, 1, none⟩ = some (.int .i64 nx) ∧ U.cell? ⟨wr.heap.size, 0, none⟩ = some (.int .i64 pi) ∧ U.cell? ⟨wr.heap.size, 1, none⟩ = some (.bool false) ∧ U.cell? ⟨wr.heap.size, 2, none⟩ = some (.int .i64 pl)) 1000 (by kernel_rfl) ?_
 refine tx 0 119 hSS ?_; simp only [ua,ub,uc,ud]
 refine tx 1 120 hSS ?_; simp only [ua,ub,uc,ud]
 refine tx 2 121 hSS ?_; simp only [ua,ub,uc,ud]
 refine tus 17 [(3, 122), (4, 123), (5, 124), (6, 125), (7, 126), (8, 127), (9, 128), (10, 129), (11, 130), (12, 131), (13, 132), (14, 133), (15, 134), (16, 135), (17, 136), (18, 137), (19, 138)] hSS ?_
 simp only [skA, skL, ua, ub, uc, ud]
 refine tx 20 139 hSS ?_; simp only [ua,ub,uc,ud]
 refine tx 21 140 hSS ?_; simp only [ua,ub,uc,ud]
 refine tx 22 141 hSS ?_; simp only [ua,ub,uc,ud]
 refine tx 23 142 hSS ?_; simp only [ua,ub,uc,ud]
 refine tx 24 143 hSS ?_; simp only [ua,ub,uc,ud]
 refine tx 25 144 hSS ?_; simp only [ua,ub,uc,ud]
 refine tx 26 145 hSS ?_; simp only [ua,ub,uc,ud]
 refine AnyBut.step (i := 27) (by kernel_rfl) rfl (fun K hK => ?_)
 go_simp
 refine Calls.mono HCN ?_
 rintro e v3 ⟨rfl, hb3⟩
 have HV3 : Hid (Below X.heap.size X v3) := below_any (below_any HV2.out (Below.refl _ v2).drew) hb3
 dsimp only
 refine hK.out _ _ (HSY.out _ HV3.out) ?_
 clear hK hSS
 have hSS := HSY.out _ HV3.out
 by_cases g9 : pl = (cn : Int)
 case neg => (
 have g9b : (pl == (cn : Int)) = false := by simpa using g9
 have g9c : (pl != (cn : Int)) = true := by simpa using g9
 refine tx 28 147 hSS ?_; simp only [ua,ub,uc,ud]
 refine tx 29 148 hSS ?_; simp only [ua,ub,uc,ud]
 refine AnyBut.done (by kernel_rfl) ?_
 have HZ3 : Hid (Below w.heap.size w _) := HBX.out _ (HV3.out)
 clear hSS
 go_wp2
 exact HNo.out _ (HNK.out fun h => g9 (by rw [HE.out.2.2.2.2.1, h.lks, HCNT.out])) HZ3.out)
 have g9b : (pl == (cn : Int)) = true := by simpa using g9
 have g9c : (pl != (cn : Int)) = false := by simpa using g9
 have HG9 : Hid (pl = (cn : Int)) := g9
 clear g9
 refine tx 28 147 hSS ?_; simp only [ua,ub,uc,ud]
 refine tx 29 148 hSS ?_; simp only [ua,ub,uc,ud]
 refine AnyBut.done (by kernel_rfl) ?_
 clear hSS
 have HR : Hid ((0 < k → (false = true → pl = 1) ∧ 1 ≤ pl ∧ pl ≤ 16) ∧ pl = cn) := ⟨fun h => absurd h hk0, HG9.out⟩
 have HZ3 : Hid (Below w.heap.size w v3) := HBX.out _ HV3.out
 have HNO : Hid ((∀ e ∈ en p, ∃ m ∈ l, m.1 = e.2) → NodeR (l, nx) k p) := fun hnm => by (
 obtain ⟨h1, h2⟩ := HR.out
 obtain ⟨⟨g1, g2⟩, g3, g4, g5⟩ := HG.out
 obtain ⟨e1, e2, e3, e4, e5, e6⟩ := HE.out
 refine ⟨by omega, by simp only; omega, fun q hk hq => ?_, g4, g5, fun hd => absurd (e4.trans hd) (by decide), fun _ => List.eq_nil_of_length_eq_zero (e1.symm.trans HEL.out), fun hk hd => by rw [← e5]; exact (h1 hk).1 (e4.trans hd), fun hk => by rw [← e5]; exact (h1 hk).2, ?_, hnm⟩
 · obtain ⟨q0, a1, a2⟩ := HQK.out hk
   have hq : l[k - 1]? = some q := hq
   rw [a1] at hq
   cases hq
   have := g3 hk
   omega
 · simp only
   rw [← HCNT.out, ← e5]
   exact h2)
 clear HR HG HQK HSX HSY HCN hb3
 obtain ⟨-, -, -, -, -, y3, -, -⟩ := HCB.out v3 HV3.out
 go_wp2
 clear y3
 go_loopw [5] (fun i wq => ∃ m : Nat, m ≤ el ∧ i = .int .i64 m ∧ Hid (∀ (j : Nat) e, j < m → (en p)[j]? = some e → ∃ q ∈ l, q.1 = e.2) ∧ Hid (Below X.heap.size X wq)) (fun i _ => el - (intOf i).toNat)
 case atStart => exact ⟨0, Nat.zero_le _, rfl, fun j e hj => by omega, HV3.out⟩
 case round => (
 rename World => wq
 obtain ⟨m, hm, rfl, HMM, HBQ⟩ := hrel
 obtain ⟨z0, z1, y0, y1, y2, y3, y4, y5⟩ := HCB.out wq HBQ.out
 by_cases hmlt : m < el
 case neg => (
 obtain rfl : m = el := by omega
 have HFIN : Hid (NodeR (l, nx) k p) := HNO.out fun x hx => by
   obtain ⟨i, hi⟩ := List.getElem?_of_mem hx
   exact HMM.out i x (by have := (List.getElem?_eq_some_iff.1 hi).1; have := HE.out.1; omega) hi
 clear z0 z1 y0 y1 y2 y4 y5
 go_wp2
 go_roundw
 case rel => (
 refine ⟨k + 1, by omega, by go_num, fun i r hi hr => ?_, below_any HX.out.1 HBQ.out⟩
 by_cases h9 : i < k
 · exact HK.out i r h9 hr
 · obtain rfl : i = k := by omega
   rw [HP.out.1] at hr
   cases hr
   exact HFIN.out)
 case measure => simp [intOf]; omega)
 exact absurd hmlt (by have := HEL.out; omega)))
 have hk0b : decide ((0 : Int) < (k : Int)) = true := decide_eq_true (by omega)
 have hwk : IntKind.i64.wrap ((k : Int) - 1) = (k : Int) - 1 := wrap_i64 (by omega) (by omega)
 have hixq := HIX.out hk0
 have hk1 : (k : Int) - 1 < (n : Int) := by omega
 have hk2 : (0 : Int) ≤ (k : Int) - 1 := by omega
 refine tx 12 74 hSS ?_; simp only [ua,ub,uc,ud]
 refine tx 13 75 hSS ?_; simp only [ua,ub,uc,ud]
 refine tx 14 76 hSS ?_; simp only [ua,ub,uc,ud]
 refine tx 15 77 hSS ?_; simp only [ua,ub,uc,ud]
 refine tx 16 78 hSS ?_; simp only [ua,ub,uc,ud]
 refine tx 17 79 hSS ?_; simp only [ua,ub,uc,ud]
 refine tx 18 80 hSS ?_; simp only [ua,ub,uc,ud]
 refine tx 19 81 hSS ?_; simp only [ua,ub,uc,ud]
 refine tx 20 82 hSS ?_; simp only [ua,ub,uc,ud]
 refine tx 21 83 hSS ?_; simp only [ua,ub,uc,ud]
 refine tx 22 84 hSS ?_; simp only [ua,ub,uc,ud]
 by_cases g3 : pi ≤ qi
 case pos => (
 have g3b : decide (pi ≤ qi) = true := decide_eq_true g3
 refine tx 23 85 hSS ?_; simp only [ua,ub,uc,ud]
 refine tx 24 86 hSS ?_; simp only [ua,ub,uc,ud]
 refine tx 25 87 hSS ?_; simp only [ua,ub,uc,ud]
 refine tx 26 88 hSS ?_; simp only [ua,ub,uc,ud]
 refine tus 4 [(27, 89), (28, 90), (29, 91), (30, 92)] hSS ?_
 simp only [skA, skL, ua, ub, uc, ud]
 refine tx 31 93 hSS ?_; simp only [ua,ub,uc,ud]
 refine tx 32 94 hSS ?_; simp only [ua,ub,uc,ud]
 refine tus 4 [(33, 95), (34, 96), (35, 97), (36, 98)] hSS ?_
 simp only [skA, skL, ua, ub, uc, ud]
 refine tx 37 99 hSS ?_; simp only [ua,ub,uc,ud]
 refine AnyBut.done (by kernel_rfl) ?_
 have HZ : Hid (Below w.heap.size w _) := HBX.out _ ((Below.refl _ X).drew)
 clear hSS
 go_wp2
 exact HNo.out _ (HNK.out fun h => (by obtain ⟨q0, e1, e2⟩ := HQK.out hk0; have := h.up q0 hk0 e1; have := HE.out.2.2.1; omega)) HZ.out)
 have g3b : decide (pi ≤ qi) = false := decide_eq_false g3
 refine tx 23 85 hSS ?_; simp only [ua,ub,uc,ud]
 refine tx 24 86 hSS ?_; simp only [ua,ub,uc,ud]
 refine tx 25 87 hSS ?_; simp only [ua,ub,uc,ud]
 refine tx 26 88 hSS ?_; simp only [ua,ub,uc,ud]
 refine tx 27 89 hSS ?_; simp only [ua,ub,uc,ud]
 refine tx 28 90 hSS ?_; simp only [ua,ub,uc,ud]
 refine AnyBut.step (i := 29) (by kernel_rfl) rfl (fun K hK => ?_)
 go_simp
 refine Calls.mono HC8 ?_
 rintro e v1 ⟨rfl, q1, rfl⟩
 have HV1 : Hid (Below X.heap.size X (X.drew.drewN q1)) := below_drewN (Below.refl _ X).drew q1
 have HC7' := HC7.out (1 + q1)
 have HV1' : Hid (Below X.heap.size X (X.drewN (1 + q1))) := below_drewN (Below.refl _ X) _
 dsimp only
 refine hK.out _ _ (HSX.out _ HV1.out) ?_
 clear hK hSS
 have hSS := HSX.out _ HV1.out
 by_cases g4 : ce = 0
 case neg => (
 have g4b : (ce == 0) = false := by simpa using g4
 have g4c : (ce != 0) = true := by simpa using g4
 refine tx 30 92 hSS ?_; simp only [ua,ub,uc,ud]
 refine tx 31 93 hSS ?_; simp only [ua,ub,uc,ud]
 refine tx 32 94 hSS ?_; simp only [ua,ub,uc,ud]
 refine tus 4 [(33, 95), (34, 96), (35, 97), (36, 98)] hSS ?_
 simp only [skA, skL, ua, ub, uc, ud]
 refine tx 37 99 hSS ?_; simp only [ua,ub,uc,ud]
 refine AnyBut.done (by kernel_rfl) ?_
 have HZ : Hid (Below w.heap.size w _) := HBX.out _ (HV1'.out)
 clear hSS
 go_wp2
 exact HNo.out _ (HNK.out fun h => HCE.out.2.1 g4 h.ens) HZ.out)
 subst g4
 refine tx 30 92 hSS ?_; simp only [ua,ub,uc,ud]
 refine tx 31 93 hSS ?_; simp only [ua,ub,uc,ud]
 refine tx 32 94 hSS ?_; simp only [ua,ub,uc,ud]
 refine tx 33 95 hSS ?_; simp only [ua,ub,uc,ud]
 refine tx 34 96 hSS ?_; simp only [ua,ub,uc,ud]
 refine AnyBut.step (i := 35) (by kernel_rfl) rfl (fun K hK => ?_)
 go_simp
 refine Calls.mono HC7' ?_
 rintro e v2 ⟨rfl, hb2⟩
 have HV2 : Hid (Below X.heap.size X v2) := below_any HV1'.out hb2
 dsimp only
 refine hK.out _ _ (HSX.out _ HV2.out) ?_
 clear hK hSS
 have hSS := HSX.out _ HV2.out
 by_cases g5 : cf = 0
 case neg => (
 have g5b : (cf == 0) = false := by simpa using g5
 have g5c : (cf != 0) = true := by simpa using g5
 refine tx 36 98 hSS ?_; simp only [ua,ub,uc,ud]
 refine tx 37 99 hSS ?_; simp only [ua,ub,uc,ud]
 refine AnyBut.done (by kernel_rfl) ?_
 have HZ : Hid (Below w.heap.size w _) := HBX.out _ (HV2.out)
 clear hSS
 go_wp2
 exact HNo.out _ (HNK.out fun h => HCE.out.2.2.2 g5 h.fil) HZ.out)
 subst g5
 refine tx 36 98 hSS ?_; simp only [ua,ub,uc,ud]
 refine tx 37 99 hSS ?_; simp only [ua,ub,uc,ud]
 refine AnyBut.done (by kernel_rfl) ?_
 clear hSS
 have HG : Hid ((1 ≤ pi ∧ pi < nx) ∧ (0 < k → qi < pi) ∧ Chk (en p) ∧ F.chk (fi p) = true) := ⟨⟨by omega, by omega⟩, fun _ => by omega, HCE.out.1 rfl, HCE.out.2.2.1 rfl⟩
 have HZ : Hid (Below w.heap.size w v2) := HBX.out _ HV2.out
 clear HC7' hb2 HC8 HC7 HV1 HV1'
 obtain ⟨z0, z1, y0, y1, y2, y3, y4, y5⟩ := HCB.out v2 HV2.out
 have HCN := rnamed_any n0 a c l nx pi v2.drew (by rw [← HN.out]; exact ndsR.below HW.out.2.1 (below_any HX.out.1 (below_any HV2.out (Below.refl _ v2).drew))) (by rw [← HN.out]; omega) HM.out
 rw [← HN.out] at HCN
 obtain ⟨cn, hcn⟩ := exa (cnt l pi)
 have HCNT : Hid (cn = cnt l p.1) := by show _ = _; rw [hcn, HE.out.2.2.1]
 rw [← hcn] at HCN
 clear hcn
 cases pd
 case true => (
 by_cases g6 : pz = 0
 case neg => (
 have g6b : (pz == 0) = false := by simpa using g6
 go_wp2
 exact HNo.out _ (HNK.out fun h => g6 (HE.out.2.2.2.2.2.trans (h.dir HE.out.2.2.2.1.symm))) HZ.out)
 subst g6
 have HSY : Hid (∀ U, Below X.heap.size X U → U.cell? ⟨w.heap.size, 0, none⟩ = some (.slice a n c) ∧ U.cell? ⟨w.heap.size, 1, none⟩ = some (.int .i64 nx) ∧ U.cell? ⟨wr.heap.size, 0, none⟩ = some (.int .i64 pi) ∧ U.cell? ⟨wr.heap.size, 1, none⟩ = some (.bool true) ∧ U.cell? ⟨wr.heap.size, 2, none⟩ = some (.int .i64 pl)) := fun U hU => ⟨(HCB.out U hU).1, (HCB.out U hU).2.1, (HCB.out U hU).2.2.1, (HCB.out U hU).2.2.2.1, (HCB.out U hU).2.2.2.2.1⟩
 go_wp2
 clear z0 z1 y0 y1 y2 y3 y4 y5
 have hSS := HSY.out v2.drew (below_any HV2.out (Below.refl _ v2).drew)
 refine AnyBut.begin (fun U => U.cell? ⟨w.heap.size, 0, none⟩ = some (.slice a n c) ∧ U.cell? ⟨w.heap.size, 1, none⟩ = some (.int .i64 nx) ∧ U.cell? ⟨wr.heap.size, 0, none⟩ = some (.int .i64 pi) ∧ U.cell? ⟨wr.heap.size, 1, none⟩ = some (.bool true) ∧ U.cell? ⟨wr.heap.size, 2, none⟩ = some (.int .i64 pl)) 1000 (by kernel_rfl) ?_
 refine tx 0 119 hSS ?_; simp only [ua,ub,uc,ud]
 refine tx 1 120 hSS ?_; simp only [ua,ub,uc,ud]
 refine tx 2 121 hSS ?_; simp only [ua,ub,uc,ud]
 refine tx 3 122 hSS ?_; simp only [ua,ub,uc,ud]
 refine tx 4 123 hSS ?_; simp only [ua,ub,uc,ud]
 refine tx 5 124 hSS ?_; simp only [ua,ub,uc,ud]
 refine tx 6 125 hSS ?_; simp only [ua,ub,uc,ud]
 refine tx 7 126 hSS ?_; simp only [ua,ub,uc,ud]
 by_cases g7 : pl = 1
 case neg => (
 have g7b : (pl == 1) = false := by simpa using g7
 have g7e : (pl != 1) = true := by simpa using g7
 refine tx 8 127 hSS ?_; simp only [ua,ub,uc,ud]
 refine tx 9 128 hSS ?_; simp only [ua,ub,uc,ud]
 refine tx 10 129 hSS ?_; simp only [ua,ub,uc,ud]
 refine tus 3 [(11, 130), (12, 131), (13, 132)] hSS ?_
 simp only [skA, skL, ua, ub, uc, ud]
 refine tx 14 133 hSS ?_; simp only [ua,ub,uc,ud]
 refine tx 15 134 hSS ?_; simp only [ua,ub,uc,ud]
 refine tus 3 [(16, 135), (17, 136), (18, 137)] hSS ?_
 simp only [skA, skL, ua, ub, uc, ud]
 refine tx 19 138 hSS ?_; simp only [ua,ub,uc,ud]
 refine tx 20 139 hSS ?_; simp only [ua,ub,uc,ud]
 refine tx 21 140 hSS ?_; simp only [ua,ub,uc,ud]
 refine tus 7 [(22, 141), (23, 142), (24, 143), (25, 144), (26, 145), (27, 146), (28, 147)] hSS ?_
 simp only [skA, skL, ua, ub, uc, ud]
 refine tx 29 148 hSS ?_; simp only [ua,ub,uc,ud]
 refine AnyBut.done (by kernel_rfl) ?_
 have HZ3 : Hid (Below w.heap.size w _) := HBX.out _ ((below_any HV2.out (Below.refl _ v2).drew))
 clear hSS
 go_wp2
 exact HNo.out _ (HNK.out fun h => g7 (HE.out.2.2.2.2.1.trans (h.one hk0 HE.out.2.2.2.1.symm))) HZ3.out)
 have g7b : (pl == 1) = true := by simpa using g7
 have g7e : (pl != 1) = false := by simpa using g7
 have g7c : decide (pl < 1) = false := decide_eq_false (by omega)
 have g7d : decide (16 < pl) = false := decide_eq_false (by omega)
 have HG7 : Hid (pl = 1) := g7
 clear g7
 refine tx 8 127 hSS ?_; simp only [ua,ub,uc,ud]
 refine tx 9 128 hSS ?_; simp only [ua,ub,uc,ud]
 refine tx 10 129 hSS ?_; simp only [ua,ub,uc,ud]
 refine tx 11 130 hSS ?_; simp only [ua,ub,uc,ud]
 refine tx 12 131 hSS ?_; simp only [ua,ub,uc,ud]
 refine tx 13 132 hSS ?_; simp only [ua,ub,uc,ud]
 refine tx 14 133 hSS ?_; simp only [ua,ub,uc,ud]
 refine tx 15 134 hSS ?_; simp only [ua,ub,uc,ud]
 refine tx 16 135 hSS ?_; simp only [ua,ub,uc,ud]
 refine tx 17 136 hSS ?_; simp only [ua,ub,uc,ud]
 refine tx 18 137 hSS ?_; simp only [ua,ub,uc,ud]
 refine tx 19 138 hSS ?_; simp only [ua,ub,uc,ud]
 refine tx 20 139 hSS ?_; simp only [ua,ub,uc,ud]
 refine tx 21 140 hSS ?_; simp only [ua,ub,uc,ud]
 refine tx 22 141 hSS ?_; simp only [ua,ub,uc,ud]
 refine tx 23 142 hSS ?_; simp only [ua,ub,uc,ud]
 refine tx 24 143 hSS ?_; simp only [ua,ub,uc,ud]
 refine tx 25 144 hSS ?_; simp only [ua,ub,uc,ud]
 refine tx 26 145 hSS ?_; simp only [ua,ub,uc,ud]
 refine AnyBut.step (i := 27) (by kernel_rfl) rfl (fun K hK => ?_)
 go_simp
 refine Calls.mono HCN ?_
 rintro e v3 ⟨rfl, hb3⟩
 have HV3 : Hid (Below X.heap.size X v3) := below_any (below_any HV2.out (Below.refl _ v2).drew) hb3
 dsimp only
 refine hK.out _ _ (HSY.out _ HV3.out) ?_
 clear hK hSS
 have hSS := HSY.out _ HV3.out
 by_cases g9 : pl = (cn : Int)
 case neg => (
 have g9b : (pl == (cn : Int)) = false := by simpa using g9
 have g9c : (pl != (cn : Int)) = true := by simpa using g9
 refine tx 28 147 hSS ?_; simp only [ua,ub,uc,ud]
 refine tx 29 148 hSS ?_; simp only [ua,ub,uc,ud]
 refine AnyBut.done (by kernel_rfl) ?_
 have HZ3 : Hid (Below w.heap.size w _) := HBX.out _ (HV3.out)
 clear hSS
 go_wp2
 exact HNo.out _ (HNK.out fun h => g9 (by rw [HE.out.2.2.2.2.1, h.lks, HCNT.out])) HZ3.out)
 have g9b : (pl == (cn : Int)) = true := by simpa using g9
 have g9c : (pl != (cn : Int)) = false := by simpa using g9
 have HG9 : Hid (pl = (cn : Int)) := g9
 clear g9
 refine tx 28 147 hSS ?_; simp only [ua,ub,uc,ud]
 refine tx 29 148 hSS ?_; simp only [ua,ub,uc,ud]
 refine AnyBut.done (by kernel_rfl) ?_
 clear hSS
 have HR : Hid ((0 < k → (true = true → pl = 1) ∧ 1 ≤ pl ∧ pl ≤ 16) ∧ pl = cn) := ⟨fun _ => ⟨fun _ => HG7.out, by have := HG7.out; omega, by have := HG7.out; omega⟩, HG9.out⟩
 have HZ3 : Hid (Below w.heap.size w v3) := HBX.out _ HV3.out
 have HNO : Hid ((∀ e ∈ en p, ∃ m ∈ l, m.1 = e.2) → NodeR (l, nx) k p) := fun hnm => by (
 obtain ⟨h1, h2⟩ := HR.out
 obtain ⟨⟨g1, g2⟩, g3, g4, g5⟩ := HG.out
 obtain ⟨e1, e2, e3, e4, e5, e6⟩ := HE.out
 refine ⟨by omega, by simp only; omega, fun q hk hq => ?_, g4, g5, fun _ => e6.symm, fun hd => absurd (e4.trans hd) (by decide), fun hk hd => by rw [← e5]; exact (h1 hk).1 (e4.trans hd), fun hk => by rw [← e5]; exact (h1 hk).2, ?_, hnm⟩
 · obtain ⟨q0, a1, a2⟩ := HQK.out hk
   have hq : l[k - 1]? = some q := hq
   rw [a1] at hq
   cases hq
   have := g3 hk
   omega
 · simp only
   rw [← HCNT.out, ← e5]
   exact h2)
 clear HR HG HQK HSX HSY HCN hb3
 obtain ⟨-, -, -, -, -, y3, -, -⟩ := HCB.out v3 HV3.out
 go_wp2
 clear y3
 go_loopw [5] (fun i wq => ∃ m : Nat, m ≤ el ∧ i = .int .i64 m ∧ Hid (∀ (j : Nat) e, j < m → (en p)[j]? = some e → ∃ q ∈ l, q.1 = e.2) ∧ Hid (Below X.heap.size X wq)) (fun i _ => el - (intOf i).toNat)
 case atStart => exact ⟨0, Nat.zero_le _, rfl, fun j e hj => by omega, HV3.out⟩
 case round => (
 rename World => wq
 obtain ⟨m, hm, rfl, HMM, HBQ⟩ := hrel
 obtain ⟨z0, z1, y0, y1, y2, y3, y4, y5⟩ := HCB.out wq HBQ.out
 by_cases hmlt : m < el
 case neg => (
 obtain rfl : m = el := by omega
 have HFIN : Hid (NodeR (l, nx) k p) := HNO.out fun x hx => by
   obtain ⟨i, hi⟩ := List.getElem?_of_mem hx
   exact HMM.out i x (by have := (List.getElem?_eq_some_iff.1 hi).1; have := HE.out.1; omega) hi
 clear z0 z1 y0 y1 y2 y4 y5
 go_wp2
 go_roundw
 case rel => (
 refine ⟨k + 1, by omega, by go_num, fun i r hi hr => ?_, below_any HX.out.1 HBQ.out⟩
 by_cases h9 : i < k
 · exact HK.out i r h9 hr
 · obtain rfl : i = k := by omega
   rw [HP.out.1] at hr
   cases hr
   exact HFIN.out)
 case measure => simp [intOf]; omega)
 obtain ⟨en', hen'⟩ := get_lt (l := en p) (k := m) (by have := HE.out.1; omega)
 obtain ⟨b9, o9, hix9, -, d0, d1⟩ := (HP.out.2.1.1.below (below_any HXW.out HBQ.out)).atR m en' hen'
 obtain ⟨es, ei⟩ := en'
 simp only at d0 d1
 have hmi : (m : Int) < (el : Int) := by omega
 have HEN : Hid ((en p)[m]? = some (es, ei)) := hen'
 have HCP := rplace_any n0 a c l nx ei wq.drew (by rw [← HN.out]; exact ndsR.below HW.out.2.1 (below_any HX.out.1 (below_any HBQ.out (Below.refl _ wq).drew)))
 rw [← HN.out] at HCP
 obtain ⟨pp, hpp⟩ := exa (plc l ei)
 have HPP : Hid (pp = plc l ei) := hpp
 rw [← hpp] at HCP
 have HR0 : wq.drew.cell? ⟨w.heap.size, 0, none⟩ = some (.slice a n c) ∧ wq.drew.cell? ⟨w.heap.size, 1, none⟩ = some (.int .i64 nx) ∧ wq.drew.cell? ⟨wr.heap.size, 3, none⟩ = some (.slice ea el ec) ∧ wq.drew.cell? ⟨b9, o9 + 1, none⟩ = some (.int .i64 ei) := ⟨z0, z1, y3, d1⟩
 clear hpp hen' z0 z1 y0 y1 y2 y4 y5 d0
 go_wp2
 clear y3 d1
 go_region_held3 (fun U => U.cell? ⟨w.heap.size, 0, none⟩ = some (.slice a n c) ∧ U.cell? ⟨w.heap.size, 1, none⟩ = some (.int .i64 nx) ∧ U.cell? ⟨wr.heap.size, 3, none⟩ = some (.slice ea el ec) ∧ U.cell? ⟨b9, o9 + 1, none⟩ = some (.int .i64 ei))
   (first | with_reducible exact HR1 | with_reducible exact HR0)
   ((first | (go_at_call 105; refine HCP.mono ?_; rintro e v4 ⟨rfl, hb4⟩; have HV4 : Hid (Below X.heap.size X v4) := below_any (below_any HBQ.out (Below.refl _ wq).drew) hb4; have HR1 : v4.cell? ⟨w.heap.size, 0, none⟩ = some (.slice a n c) ∧ v4.cell? ⟨w.heap.size, 1, none⟩ = some (.int .i64 nx) ∧ v4.cell? ⟨wr.heap.size, 3, none⟩ = some (.slice ea el ec) ∧ v4.cell? ⟨b9, o9 + 1, none⟩ = some (.int .i64 ei) := ⟨by rw [hb4.cell (cell_lt HR0.1)]; exact HR0.1, by rw [hb4.cell (cell_lt HR0.2.1)]; exact HR0.2.1, by rw [hb4.cell (cell_lt HR0.2.2.1)]; exact HR0.2.2.1, by rw [hb4.cell (cell_lt HR0.2.2.2)]; exact HR0.2.2.2⟩)))
 have HZ4 : Hid (Below w.heap.size w v4) := HBX.out _ HV4.out
 clear HR0 HR1 hb4 HCP
 by_cases g10 : pp < 0
 · go_wp2
   refine HNo.out _ (HNK.out fun h => ?_) HZ4.out
   obtain ⟨r, hr, hr2⟩ := h.nms (es, ei) (List.mem_of_getElem? HEN.out)
   rw [HPP.out] at g10
   exact (plc_neg g10).2.2 r hr hr2
 · go_wp2
   go_roundw
   case rel => (
 refine ⟨m + 1, by omega, by go_num, fun i r hi hr => ?_, HV4.out⟩
 by_cases h9 : i < m
 · exact HMM.out i r h9 hr
 · obtain rfl : i = m := by omega
   rw [HEN.out] at hr
   cases hr
   rw [HPP.out] at g10
   obtain ⟨k9, r9, -, hr9, hr8, -⟩ := plc_at (by omega : 0 ≤ plc l ei)
   exact ⟨r9, List.mem_of_getElem? hr9, hr8⟩)
   case measure => simp [intOf]; omega))
 by_cases g6 : el = 0
 case neg => (
 have g6i : (0 : Int) < (el : Int) := by omega
 go_wp2
 exact HNo.out _ (HNK.out fun h => g6 (by have h1 := h.nod HE.out.2.2.2.1.symm; have h2 := HE.out.1; rw [h1] at h2; exact h2)) HZ.out)
 have HEL : Hid (el = 0) := g6
 have g6i : ¬ (0 : Int) < (el : Int) := by omega
 clear g6
 have HSY : Hid (∀ U, Below X.heap.size X U → U.cell? ⟨w.heap.size, 0, none⟩ = some (.slice a n c) ∧ U.cell? ⟨w.heap.size, 1, none⟩ = some (.int .i64 nx) ∧ U.cell? ⟨wr.heap.size, 0, none⟩ = some (.int .i64 pi) ∧ U.cell? ⟨wr.heap.size, 1, none⟩ = some (.bool false) ∧ U.cell? ⟨wr.heap.size, 2, none⟩ = some (.int .i64 pl)) := fun U hU => ⟨(HCB.out U hU).1, (HCB.out U hU).2.1, (HCB.out U hU).2.2.1, (HCB.out U hU).2.2.2.1, (HCB.out U hU).2.2.2.2.1⟩
 go_wp2
 clear z0 z1 y0 y1 y2 y3 y4 y5
 have hSS := HSY.out v2.drew (below_any HV2.out (Below.refl _ v2).drew)
 refine AnyBut.begin (fun U => U.cell? ⟨w.heap.size, 0, none⟩ = some (.slice a n c) ∧ U.cell? ⟨w.heap.size, 1, none⟩ = some (.int .i64 nx) ∧ U.cell? ⟨wr.heap.size, 0, none⟩ = some (.int .i64 pi) ∧ U.cell? ⟨wr.heap.size, 1, none⟩ = some (.bool false) ∧ U.cell? ⟨wr.heap.size, 2, none⟩ = some (.int .i64 pl)) 1000 (by kernel_rfl) ?_
 refine tx 0 119 hSS ?_; simp only [ua,ub,uc,ud]
 refine tx 1 120 hSS ?_; simp only [ua,ub,uc,ud]
 refine tx 2 121 hSS ?_; simp only [ua,ub,uc,ud]
 refine tx 3 122 hSS ?_; simp only [ua,ub,uc,ud]
 refine tx 4 123 hSS ?_; simp only [ua,ub,uc,ud]
 refine tx 5 124 hSS ?_; simp only [ua,ub,uc,ud]
 refine tus 3 [(6, 125), (7, 126), (8, 127)] hSS ?_
 simp only [skA, skL, ua, ub, uc, ud]
 refine tx 9 128 hSS ?_; simp only [ua,ub,uc,ud]
 refine tx 10 129 hSS ?_; simp only [ua,ub,uc,ud]
 refine tx 11 130 hSS ?_; simp only [ua,ub,uc,ud]
 refine tx 12 131 hSS ?_; simp only [ua,ub,uc,ud]
 by_cases g7 : pl < 1
 case pos => (
 have g7b : decide (pl < 1) = true := decide_eq_true g7
 refine tx 13 132 hSS ?_; simp only [ua,ub,uc,ud]
 refine tx 14 133 hSS ?_; simp only [ua,ub,uc,ud]
 refine tx 15 134 hSS ?_; simp only [ua,ub,uc,ud]
 refine tus 3 [(16, 135), (17, 136), (18, 137)] hSS ?_
 simp only [skA, skL, ua, ub, uc, ud]
 refine tx 19 138 hSS ?_; simp only [ua,ub,uc,ud]
 refine tx 20 139 hSS ?_; simp only [ua,ub,uc,ud]
 refine tx 21 140 hSS ?_; simp only [ua,ub,uc,ud]
 refine tus 7 [(22, 141), (23, 142), (24, 143), (25, 144), (26, 145), (27, 146), (28, 147)] hSS ?_
 simp only [skA, skL, ua, ub, uc, ud]
 refine tx 29 148 hSS ?_; simp only [ua,ub,uc,ud]
 refine AnyBut.done (by kernel_rfl) ?_
 have HZ3 : Hid (Below w.heap.size w _) := HBX.out _ ((below_any HV2.out (Below.refl _ v2).drew))
 clear hSS
 go_wp2
 exact HNo.out _ (HNK.out fun h => (by have := (h.few hk0).1; have := HE.out.2.2.2.2.1; omega)) HZ3.out)
 have g7b : decide (pl < 1) = false := decide_eq_false g7
 refine tx 13 132 hSS ?_; simp only [ua,ub,uc,ud]
 refine tx 14 133 hSS ?_; simp only [ua,ub,uc,ud]
 refine tx 15 134 hSS ?_; simp only [ua,ub,uc,ud]
 refine tx 16 135 hSS ?_; simp only [ua,ub,uc,ud]
 refine tx 17 136 hSS ?_; simp only [ua,ub,uc,ud]
 by_cases g8 : 16 < pl
 case pos => (
 have g8b : decide (16 < pl) = true := decide_eq_true g8
 refine tx 18 137 hSS ?_; simp only [ua,ub,uc,ud]
 refine tx 19 138 hSS ?_; simp only [ua,ub,uc,ud]
 refine tx 20 139 hSS ?_; simp only [ua,ub,uc,ud]
 refine tx 21 140 hSS ?_; simp only [ua,ub,uc,ud]
 refine tus 7 [(22, 141), (23, 142), (24, 143), (25, 144), (26, 145), (27, 146), (28, 147)] hSS ?_
 simp only [skA, skL, ua, ub, uc, ud]
 refine tx 29 148 hSS ?_; simp only [ua,ub,uc,ud]
 refine AnyBut.done (by kernel_rfl) ?_
 have HZ3 : Hid (Below w.heap.size w _) := HBX.out _ ((below_any HV2.out (Below.refl _ v2).drew))
 clear hSS
 go_wp2
 exact HNo.out _ (HNK.out fun h => (by have := (h.few hk0).2; have := HE.out.2.2.2.2.1; omega)) HZ3.out)
 have g8b : decide (16 < pl) = false := decide_eq_false g8
 refine tx 18 137 hSS ?_; simp only [ua,ub,uc,ud]
 refine tx 19 138 hSS ?_; simp only [ua,ub,uc,ud]
 refine tx 20 139 hSS ?_; simp only [ua,ub,uc,ud]
 refine tx 21 140 hSS ?_; simp only [ua,ub,uc,ud]
 refine tx 22 141 hSS ?_; simp only [ua,ub,uc,ud]
 refine tx 23 142 hSS ?_; simp only [ua,ub,uc,ud]
 refine tx 24 143 hSS ?_; simp only [ua,ub,uc,ud]
 refine tx 25 144 hSS ?_; simp only [ua,ub,uc,ud]
 refine tx 26 145 hSS ?_; simp only [ua,ub,uc,ud]
 refine AnyBut.step (i := 27) (by kernel_rfl) rfl (fun K hK => ?_)
 go_simp
 refine Calls.mono HCN ?_
 rintro e v3 ⟨rfl, hb3⟩
 have HV3 : Hid (Below X.heap.size X v3) := below_any (below_any HV2.out (Below.refl _ v2).drew) hb3
 dsimp only
 refine hK.out _ _ (HSY.out _ HV3.out) ?_
 clear hK hSS
 have hSS := HSY.out _ HV3.out
 by_cases g9 : pl = (cn : Int)
 case neg => (
 have g9b : (pl == (cn : Int)) = false := by simpa using g9
 have g9c : (pl != (cn : Int)) = true := by simpa using g9
 refine tx 28 147 hSS ?_; simp only [ua,ub,uc,ud]
 refine tx 29 148 hSS ?_; simp only [ua,ub,uc,ud]
 refine AnyBut.done (by kernel_rfl) ?_
 have HZ3 : Hid (Below w.heap.size w _) := HBX.out _ (HV3.out)
 clear hSS
 go_wp2
 exact HNo.out _ (HNK.out fun h => g9 (by rw [HE.out.2.2.2.2.1, h.lks, HCNT.out])) HZ3.out)
 have g9b : (pl == (cn : Int)) = true := by simpa using g9
 have g9c : (pl != (cn : Int)) = false := by simpa using g9
 have HG9 : Hid (pl = (cn : Int)) := g9
 clear g9
 refine tx 28 147 hSS ?_; simp only [ua,ub,uc,ud]
 refine tx 29 148 hSS ?_; simp only [ua,ub,uc,ud]
 refine AnyBut.done (by kernel_rfl) ?_
 clear hSS
 have HR : Hid ((0 < k → (false = true → pl = 1) ∧ 1 ≤ pl ∧ pl ≤ 16) ∧ pl = cn) := ⟨fun _ => ⟨fun h => Bool.noConfusion h, by omega, by omega⟩, HG9.out⟩
 have HZ3 : Hid (Below w.heap.size w v3) := HBX.out _ HV3.out
 have HNO : Hid ((∀ e ∈ en p, ∃ m ∈ l, m.1 = e.2) → NodeR (l, nx) k p) := fun hnm => by (
 obtain ⟨h1, h2⟩ := HR.out
 obtain ⟨⟨g1, g2⟩, g3, g4, g5⟩ := HG.out
 obtain ⟨e1, e2, e3, e4, e5, e6⟩ := HE.out
 refine ⟨by omega, by simp only; omega, fun q hk hq => ?_, g4, g5, fun hd => absurd (e4.trans hd) (by decide), fun _ => List.eq_nil_of_length_eq_zero (e1.symm.trans HEL.out), fun hk hd => by rw [← e5]; exact (h1 hk).1 (e4.trans hd), fun hk => by rw [← e5]; exact (h1 hk).2, ?_, hnm⟩
 · obtain ⟨q0, a1, a2⟩ := HQK.out hk
   have hq : l[k - 1]? = some q := hq
   rw [a1] at hq
   cases hq
   have := g3 hk
   omega
 · simp only
   rw [← HCNT.out, ← e5]
   exact h2)
 clear HR HG HQK HSX HSY HCN hb3
 obtain ⟨-, -, -, -, -, y3, -, -⟩ := HCB.out v3 HV3.out
 go_wp2
 clear y3
 go_loopw [5] (fun i wq => ∃ m : Nat, m ≤ el ∧ i = .int .i64 m ∧ Hid (∀ (j : Nat) e, j < m → (en p)[j]? = some e → ∃ q ∈ l, q.1 = e.2) ∧ Hid (Below X.heap.size X wq)) (fun i _ => el - (intOf i).toNat)
 case atStart => exact ⟨0, Nat.zero_le _, rfl, fun j e hj => by omega, HV3.out⟩
 case round => (
 rename World => wq
 obtain ⟨m, hm, rfl, HMM, HBQ⟩ := hrel
 obtain ⟨z0, z1, y0, y1, y2, y3, y4, y5⟩ := HCB.out wq HBQ.out
 by_cases hmlt : m < el
 case neg => (
 obtain rfl : m = el := by omega
 have HFIN : Hid (NodeR (l, nx) k p) := HNO.out fun x hx => by
   obtain ⟨i, hi⟩ := List.getElem?_of_mem hx
   exact HMM.out i x (by have := (List.getElem?_eq_some_iff.1 hi).1; have := HE.out.1; omega) hi
 clear z0 z1 y0 y1 y2 y4 y5
 go_wp2
 go_roundw
 case rel => (
 refine ⟨k + 1, by omega, by go_num, fun i r hi hr => ?_, below_any HX.out.1 HBQ.out⟩
 by_cases h9 : i < k
 · exact HK.out i r h9 hr
 · obtain rfl : i = k := by omega
   rw [HP.out.1] at hr
   cases hr
   exact HFIN.out)
 case measure => simp [intOf]; omega)
 exact absurd hmlt (by have := HEL.out; omega)))
end Go.Proofs.YtopcefhncildnaaGreatDoor
namespace Go.Proofs.YtopcefhncildnaaGreatDoor
open Go.RowKit
open D (En ArgE)
theorem make_rowB (W : World) (l : List Nd) (h : l.length ≤ 128) : (Instr.makeSlice 259 (.int .i64 l.length) (.int .i64 l.length)).run Tryz.prog W = .ok (.slice (some ⟨W.heap.size, 0, none⟩) l.length l.length) (W.alloc (.cells (rowB l fun _ => false) 4)) := by
 rw [run_make_row' (P := Tryz.prog) 259 4 (.bool false) 1 Tryz.underlying259 Tryz.info4' rfl .i64 .i64 l.length (by omega) (by omega) W]
 congr 3
 apply Array.ext'
 rw [toList_madeCells_one]
 simp only [rowB, List.map_const', List.toList_toArray]
theorem rcheck10_any (n0 : Nat) (a : Option Addr) (c : Nat) (s : St) (w : World) (hA : ndsR.lies n0 w [.slice a s.1.length c] s.1) (hM : FitsS s.1) :
   Calls Tryz.prog 111 #[.agg #[.slice a s.1.length c, .int .i64 s.2]] w fun e w' => (∃ r : Int, e = .returned (.int .i64 r) ∧ ((Ok s ∧ r = 0) ∨ (¬ Ok s ∧ r = 9))) ∧ Below w.heap.size w w' := by
 obtain ⟨l, nx⟩ := s
 simp only at hA hM ⊢
 obtain ⟨post, hpost⟩ : ∃ post : Ending → World → Prop, post = fun e w' => (∃ r : Int, e = .returned (.int .i64 r) ∧ ((Ok (l, nx) ∧ r = 0) ∨ (¬ Ok (l, nx) ∧ r = 9))) ∧ Below w.heap.size w w' := ⟨_, rfl⟩
 have HNo : Hid (∀ w', ¬ Ok (l, nx) → Below w.heap.size w w' → post (.returned (.int .i64 9)) w') := fun w' h1 h2 => by rw [hpost]; exact ⟨⟨9, rfl, .inr ⟨h1, rfl⟩⟩, h2⟩
 have HYes : Hid (∀ w', Ok (l, nx) → Below w.heap.size w w' → post (.returned (.int .i64 0)) w') := fun w' h1 h2 => by rw [hpost]; exact ⟨⟨0, rfl, .inl ⟨h1, rfl⟩⟩, h2⟩
 rw [← hpost]
 clear hpost
 obtain ⟨W, hW⟩ := exa (w.alloc (.cells #[.slice a l.length c, .int .i64 nx] 24))
 have hb : Below w.heap.size w W := by rw [hW]; exact (Below.refl _ w).alloc (Nat.le_refl _) _
 have HW : Hid (Below w.heap.size w W ∧ Box W w.heap.size 24 #[.slice a l.length c, .int .i64 nx]) := ⟨hb, by rw [hW]; exact Box.new _ _ _⟩
 have HA : Hid (∀ V, Below W.heap.size W V → V.cell? ⟨w.heap.size, 0, none⟩ = some (.slice a l.length c) ∧ V.cell? ⟨w.heap.size, 1, none⟩ = some (.int .i64 nx) ∧ ndsR.lies n0 V [.slice a l.length c] l) := fun V hV => by
   obtain ⟨g0, g1, _, _⟩ := (HW.out.2.below hV HW.out.2.lt).two
   exact ⟨g0, g1, ndsR.below hA (below_any HW.out.1 hV)⟩
 have HM : Hid (∀ p ∈ l, (en p).length ≤ 140737488351232) := fun p hp => by have := (hM.2 p hp).1; omega
 have H1 := rshape_any n0 a c (l, nx) W (HA.out W (Below.refl _ _)).2.2 hM
 have H2 : Hid (∀ V, Below W.heap.size W V → Calls Tryz.prog 178 #[.agg #[.slice a l.length c, .int .i64 nx], .int .i64 1, .int .i64 8] V fun r w' => r = .returned (.int .i64 (dpt l 9 1)) ∧ Below V.heap.size V w') := fun V hV => by
   have := rreach_any n0 a c l nx HM.out 9 (by omega) 1 V (HA.out V hV).2.2
   exact this
 have H3 : Hid (Pre (l, nx) → ∀ V U, Below W.heap.size W V → Below V.heap.size V U → V.heap.size ≤ V.heap.size → Marked V U V.heap.size l (fun _ => false) → Calls Tryz.prog 179 #[.agg #[.slice a l.length c, .int .i64 nx], .slice (some ⟨V.heap.size, 0, none⟩) l.length l.length, .int .i64 1, .int .i64 8] U fun r w' => r = .returned (.tuple #[]) ∧ (∃ M', Marked V w' V.heap.size l M' ∧ ∀ x, M' x = true ↔ x ∈ vis l 8 1) ∧ Below V.heap.size V w') := fun hP V U hV hU _ hM0 => by (
 obtain ⟨t, ht, ht1, _⟩ := hP.top
 refine (rmark_any n0 a c l nx hP.up HM.out V V.heap.size (HA.out V hV).2.2 9 (by omega) 1 ⟨t, ht, ht1⟩ hP.names U _ hM0).mono fun r w' h => ⟨h.1, ?_, ?_⟩
 · obtain ⟨M', h1, h2⟩ := h.2.1
   refine ⟨M', h1, fun x => ?_⟩
   rw [h2 x, vis'_eq]
   simp
 · obtain ⟨M', h1, h2⟩ := h.2.1
   exact h1.bel)
 have HD : Hid (∀ d, d = dpt l 9 1 → (d ≤ 8 ↔ Bd l 8 1)) := fun d hd => by rw [hd]; exact (bd_iff 8 1).symm
 obtain ⟨g0, g1, -⟩ := HA.out W (Below.refl _ _)
 obtain ⟨n, hn⟩ := exa (l.length)
 have HN : Hid (n = l.length) := hn
 simp only at H1
 have hl1 := run_len Tryz.underlying22 a n c
 rw [← hn] at HW HA H1 H2 H3 hW g0 ⊢
 rw [hW] at g0 g1
 clear hA hb hM hn
 go_enter Tryz.func111, Tryz.ntmps111
 go_wp2_with fail
 rw [← hW]
 clear hW g0 g1
 refine H1.mono ?_
 rintro e w1 ⟨⟨t, rfl, hiff⟩, hb1⟩
 have HB1 : Hid (Below W.heap.size W w1) := hb1
 clear hb1 H1
 cases t
 · have HO : Hid (¬ Ok (l, nx)) := fun h => by have := hiff.2 h.1; cases this
   clear hiff
   go_wp2
   exact HNo.out _ HO.out (below_any HW.out.1 HB1.out)
 have HP : Hid (Pre (l, nx)) := hiff.1 rfl
 clear hiff
 obtain ⟨g0, g1, -⟩ := HA.out w1 HB1.out
 have H2' := H2.out w1 HB1.out
 obtain ⟨d, hd⟩ := exa (dpt l 9 1)
 have HDD : Hid (d ≤ 8 ↔ Bd l 8 1) := HD.out d hd
 have hd9 : d ≤ 9 := by rw [hd]; exact dpt_le 9 1
 rw [← hd] at H2'
 clear hd
 go_wp2_with fail
 refine H2'.mono ?_
 rintro e w2 ⟨rfl, hb2⟩
 have HB2 : Hid (Below W.heap.size W w2) := below_any HB1.out hb2
 clear hb2 H2' g0 g1
 by_cases h8 : 8 < (d : Int)
 · have HO : Hid (¬ Ok (l, nx)) := fun h => by
     have := HDD.out.2 ((h.1.deep.1 h.2).1)
     omega
   go_wp2
   exact HNo.out _ HO.out (below_any HW.out.1 HB2.out)
 have HBd : Hid (Bd l 8 1) := HDD.out.1 (by omega)
 obtain ⟨g0, g1, -⟩ := HA.out w2 HB2.out
 have hmk := make_rowB w2 l (by have := HP.out.len; exact this)
 rw [← HN.out] at hmk
 obtain ⟨W3, hW3⟩ := exa (w2.alloc (.cells (rowB l fun _ => false) 4))
 have hb3 : Below w2.heap.size w2 W3 := by rw [hW3]; exact (Below.refl _ w2).alloc (Nat.le_refl _) _
 have HM3 : Hid (Marked w2 W3 w2.heap.size l (fun _ => false) ∧ Below W.heap.size W W3) := ⟨⟨hb3, Nat.le_refl _, by rw [hW3]; exact Box.new _ _ _⟩, below_any HB2.out hb3⟩
 have H3' := H3.out HP.out w2 W3 HB2.out hb3 (Nat.le_refl _) HM3.out.1
 obtain ⟨k0, k1, -⟩ := HA.out W3 HM3.out.2
 rw [hW3] at k0 k1
 rw [← hW3] at hmk
 clear hb3
 rw [hW3] at hmk
 go_wp2_with fail
 rw [← hW3]
 clear hW3 g0 g1 k0 k1 hmk
 refine H3'.mono ?_
 rintro e w4 ⟨rfl, ⟨M, hM4, hin⟩, hb4⟩
 have HB4 : Hid (Below W.heap.size W w4 ∧ Marked w2 w4 w2.heap.size l M ∧ ∀ x, M x = true ↔ x ∈ vis l 8 1) := ⟨below_any HB2.out hb4, hM4, hin⟩
 obtain ⟨i4, hi4, hz4, hs4, -⟩ := info_parts Tryz.info4'
 have HIX : Hid (∀ (k : Nat), k < n → ∀ W, (Instr.indexAt 259 (.slice (some ⟨w2.heap.size, 0, none⟩) n n) (.int .i64 k)).run Tryz.prog W = .ok (.pointer (some ⟨w2.heap.size, k, none⟩)) W) := fun k hk W => by
   have := run_index Tryz.underlying259 hi4 hs4 w2.heap.size 0 n n k hk W
   simpa using this
 have hl2 := run_len Tryz.underlying259 (some ⟨w2.heap.size, 0, none⟩) n n
 have hn128 : n ≤ 128 := by rw [HN.out]; exact HP.out.len
 clear hM4 hin hb4 H3' hi4 hz4 hs4 i4
 go_wp2
 go_loopw [4] (fun i wr => ∃ k : Nat, k ≤ n ∧ i = .int .i64 k ∧ Hid (∀ (j : Nat) p, j < k → l[j]? = some p → M p.1 = true) ∧ wr = w4) (fun i _ => n - (intOf i).toNat)
 case atStart => exact ⟨0, Nat.zero_le _, rfl, fun j p hj => by omega, by first | trivial | rfl⟩
 case round => (
 obtain ⟨k, hk, rfl, HK, hwr⟩ := hrel
 obtain rfl := hwr.symm
 by_cases hlt : k < n
 · obtain ⟨p, hp⟩ := get_lt (l := l) (k := k) (by rw [← HN.out]; exact hlt)
   have hix := HIX.out k hlt
   have hc := HB4.out.2.1.box.cell k (rowB_at hp)
   have HX : Hid (l[k]? = some p) := hp
   obtain ⟨m, hm⟩ := exa (M p.1)
   have HMm : Hid (m = M p.1) := hm
   rw [← hm] at hc
   have hkn : (k : Int) < (n : Int) := by omega
   clear hp hm
   cases m
   · have HO : Hid (¬ Ok (l, nx)) := fun h => by
       have h1 := (h.1.deep.1 h.2).2 p (List.mem_of_getElem? HX.out)
       have h2 := (HB4.out.2.2 p.1).2 h1
       rw [← HMm.out] at h2
       cases h2
     go_wp2
     exact HNo.out _ HO.out (below_any HW.out.1 HB4.out.1)
   · go_wp2
     go_roundw
     case rel => (
 refine ⟨k + 1, by omega, by go_num, fun j q hj hq => ?_, by first | trivial | rfl⟩
 by_cases e : j < k
 · exact HK.out j q e hq
 · obtain rfl : j = k := by omega
   rw [HX.out] at hq
   cases hq
   exact HMm.out.symm)
     case measure => simp [intOf]; omega
 · obtain rfl : k = n := by omega
   have HO : Hid (Ok (l, nx)) := ⟨HP.out, HP.out.deep.2 ⟨HBd.out, fun q hq => by
     obtain ⟨j, hj⟩ := List.getElem?_of_mem hq
     exact (HB4.out.2.2 q.1).1 (HK.out j q (by rw [HN.out]; exact (List.getElem?_eq_some_iff.1 hj).1) hj)⟩⟩
   go_wp2
   exact HYes.out _ HO.out (below_any HW.out.1 HB4.out.1))
end Go.Proofs.YtopcefhncildnaaGreatDoor
