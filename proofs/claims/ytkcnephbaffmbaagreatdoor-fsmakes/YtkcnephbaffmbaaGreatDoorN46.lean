/-
  The document's walk: names from the root on, for every state that may be.
-/
import Derived.Test.YtkcnephbaffmbaaGreatDoorN38
import Derived.Test.YtkcnephbaffmbaaGreatDoorN42
import Derived.Deep.DeepCutAuto
set_option maxRecDepth 100000
set_option maxHeartbeats 8000000
namespace Go.Proofs.YtkcnephbaffmbaaGreatDoor
open Go.RowKit
open D (En ArgE Chk there fnd)
open P (ArgT OwnT)
theorem six_set {w W : World} {B n : Nat} {t : TypeId} {a b c d e f : Value} (h : Below n w W) (hn : n ≤ B) (hB : Box W B t #[a, b, c, d, e, f]) (a' b' c' d' e' f' : Value) :
   Below n w ((((((W.setCell ⟨B, 0, none⟩ a').setCell ⟨B, 1, none⟩ b').setCell ⟨B, 2, none⟩ c').setCell ⟨B, 3, none⟩ d').setCell ⟨B, 4, none⟩ e').setCell ⟨B, 5, none⟩ f') ∧ Box ((((((W.setCell ⟨B, 0, none⟩ a').setCell ⟨B, 1, none⟩ b').setCell ⟨B, 2, none⟩ c').setCell ⟨B, 3, none⟩ d').setCell ⟨B, 4, none⟩ e').setCell ⟨B, 5, none⟩ f') B t #[a', b', c', d', e', f'] :=
 ⟨((((((h.setCell (p := ⟨B, 0, none⟩) hn _).setCell (p := ⟨B, 1, none⟩) hn _).setCell (p := ⟨B, 2, none⟩) hn _).setCell (p := ⟨B, 3, none⟩) hn _).setCell (p := ⟨B, 4, none⟩) hn _).setCell (p := ⟨B, 5, none⟩) hn _), ((((((hB.set 0 a').set 1 b').set 2 c').set 3 d').set 4 e').set 5 f')⟩
theorem ndr_at {n0 : Nat} {w : World} {a : Option Addr} {n c : Nat} {l : List Nd} (h : ndsR.lies n0 w [.slice a n c] l) (k : Nat) (p : Nd) (hp : l[k]? = some p) :
   ∃ b o ea ec fa fc, (∀ W, (Instr.indexAt 22 (.slice a n c) (.int .i64 k)).run Tryz.prog W = .ok (.pointer (some ⟨b, o, none⟩)) W) ∧ ∀ V, Below w.heap.size w V → (V.cell? ⟨b, o, none⟩ = some (.int .i64 p.1) ∧ V.cell? ⟨b, o + 1, none⟩ = some (.bool (isD p)) ∧ V.cell? ⟨b, o + 2, none⟩ = some (.int .i64 (lk p)) ∧ V.cell? ⟨b, o + 3, none⟩ = some (.slice ea (en p).length ec) ∧ V.cell? ⟨b, o + 4, none⟩ = some (.int .i64 (fi p).1) ∧ V.cell? ⟨b, o + 5, none⟩ = some (.slice fa (fi p).2.length fc)) ∧ LR n0 V p (.slice ea (en p).length ec) (.slice fa (fi p).2.length fc) := by
 obtain ⟨b, o, e, f, hix, -, hcs, hL⟩ := nds_atR h k p hp
 obtain ⟨c0, c1, c2, c3, c4, c5⟩ := nv_cells hcs
 obtain ⟨ea, ec, rfl, -⟩ := hL.1.shape
 obtain ⟨fa, fc, hfe, -, -⟩ := Shape.list_len (S := F.bkR) (ht := Tryz.underlying74) (hc := F.cells74) hL.2.1
 obtain rfl : f = _ := by simpa using hfe
 refine ⟨b, o, ea, ec, fa, fc, hix, fun V hV => ⟨⟨?_, ?_, ?_, ?_, ?_, ?_⟩, hL.below hV⟩⟩
 · rw [hV.cell (cell_lt c0)]; exact c0
 · rw [hV.cell (cell_lt c1)]; exact c1
 · rw [hV.cell (cell_lt c2)]; exact c2
 · rw [hV.cell (cell_lt c3)]; exact c3
 · rw [hV.cell (cell_lt c4)]; exact c4
 · rw [hV.cell (cell_lt c5)]; exact c5
theorem rfind_b {n0 : Nat} {v : Value} {l : List En} (x : ByteArray) {w : World} (h : ArgE n0 w v l) (hC : Chk l) :
   Calls Tryz.prog 76 #[v, .string x] w fun e w' => e = .returned (.tuple #[.int .i64 (fnd l x), .bool (there l x), .int .i64 0]) ∧ Below w.heap.size w w' := by
 refine (D.rfind_any n0 v l x w h).mono fun e w' hh => ?_
 obtain ⟨h1, q, rfl⟩ := hh
 rw [show D.fno l x = fnd l x from if_pos hC, show D.fis l x = there l x from if_pos hC, D.cerr_ok hC] at h1
 exact ⟨h1, below_drewN (Below.refl _ _) q⟩
theorem Wk.chk {s : St} (h : Wk s) {p : Nd} (hp : p ∈ s.1) : Chk (en p) := by
 cases hd : isD p
 · rw [(h.files p hp hd).1]; exact ⟨by simp, D.fine_nil⟩
 · exact (h.dirs p hp hd).1
theorem plc_mem {l : List Nd} (hU : Ups l) {p : Nd} (hp : p ∈ l) : ∃ k : Nat, l[k]? = some p ∧ plc l p.1 = (k : Int) := by
 obtain ⟨k, hk⟩ := List.getElem?_of_mem hp
 exact ⟨k, hk, plc_ups hU hk⟩
theorem rwalk_any (n0 n1 : Nat) (a : Option Addr) (c : Nat) (s : St) (hK : Wk s) (av : Option Addr) (cv : Nat) (xs : List ByteArray) (w : World) (hA : ndsR.lies n0 w [.slice a s.1.length c] s.1) (hX : ArgT n1 w (.slice av xs.length cv) xs) :
   Calls Tryz.prog 49 #[.agg #[.slice a s.1.length c, .int .i64 s.2], .slice av xs.length cv] w fun e w' => e = .returned (.tuple #[.int .i64 (wlk s.1 1 xs).1, .int .i64 (wlk s.1 1 xs).2]) ∧ Below w.heap.size w w' := by
 obtain ⟨l, nx⟩ := s
 simp only at hA ⊢
 obtain ⟨post, hpost⟩ : ∃ post : Ending → World → Prop, post = fun e w' => e = .returned (.tuple #[.int .i64 (wlk l 1 xs).1, .int .i64 (wlk l 1 xs).2]) ∧ Below w.heap.size w w' := ⟨_, rfl⟩
 have HPo : Hid (∀ i k w', wlk l 1 xs = (i, k) → Below w.heap.size w w' → post (.returned (.tuple #[.int .i64 i, .int .i64 k])) w') := fun i k w' h1 h2 => by rw [hpost, h1]; exact ⟨rfl, h2⟩
 rw [← hpost]
 clear hpost
 obtain ⟨W, hW⟩ := exa (w.alloc (.cells #[.slice a l.length c, .int .i64 nx] 24))
 have hb : Below w.heap.size w W := by rw [hW]; exact (Below.refl _ w).alloc (Nat.le_refl _) _
 have HW : Hid (Below w.heap.size w W ∧ Box W w.heap.size 24 #[.slice a l.length c, .int .i64 nx] ∧ ndsR.lies n0 W [.slice a l.length c] l ∧ ArgT n1 W (.slice av xs.length cv) xs) := ⟨hb, by rw [hW]; exact Box.new _ _ _, ndsR.below hA hb, hX.below hb⟩
 have HPL : Hid (∀ V (i : Int), Below W.heap.size W V → Calls Tryz.prog 75 #[.agg #[.slice a l.length c, .int .i64 nx], .int .i64 i] V fun e w' => e = .returned (.int .i64 (plc l i)) ∧ Below V.heap.size V w') := fun V i hV => rplace_any n0 a c l nx i V (ndsR.below HW.out.2.2.1 hV)
 have HK : Hid (Wk (l, nx)) := hK
 obtain ⟨n, hn⟩ := exa (l.length)
 obtain ⟨m, hm⟩ := exa (xs.length)
 have hmx : m ≤ maxLen := by rw [hm]; obtain ⟨_, _, _, _, h, _⟩ := hX.shape; exact h
 unfold maxLen at hmx
 have HM : Hid (m = xs.length ∧ n = l.length) := ⟨hm, hn⟩
 have hl1 := run_len Tryz.underlying59 av m cv
 rw [← hn] at HW HPL hW ⊢
 rw [← hm] at HW ⊢
 clear hA hb hX hK hn hm
 go_enter Tryz.func49, Tryz.ntmps49
 go_wp2
 rw [← hW]
 clear hW
 go_loopw [7, 6] (fun i v wr => ∃ (k : Nat) (j : Int), k ≤ m ∧ i = .int .i64 k ∧ v = .int .i64 j ∧ Hid (wlk l 1 xs = wlk l j (xs.drop k) ∧ ∃ p ∈ l, p.1 = j) ∧ Hid (Below W.heap.size W wr)) (fun i _ _ => m - (intOf i).toNat)
 case atStart => exact ⟨0, 1, Nat.zero_le _, rfl, rfl, ⟨by simp, by obtain ⟨t, ht, h1, _⟩ := HK.out.top; exact ⟨t, ht, h1⟩⟩, Below.refl _ _⟩
 case round =>
   obtain ⟨k, j, hk, rfl, rfl, HJ, HB⟩ := hrel
   by_cases hlt : k < m
   case neg =>
     obtain rfl : k = m := by omega
     have HE : Hid (wlk l 1 xs = (j, 0)) := show wlk l 1 xs = (j, 0) by
       rw [HJ.out.1, List.drop_of_length_le (by rw [HM.out.1]; exact Nat.le_refl _)]; rfl
     go_wp2
     exact HPo.out j 0 _ HE.out (below_any HW.out.1 HB.out)
   obtain ⟨x, hx⟩ := get_lt (l := xs) (k := k) (by rw [← HM.out.1]; exact hlt)
   have hdrop : xs.drop k = x :: xs.drop (k + 1) := by
     obtain ⟨h1, h2⟩ := List.getElem?_eq_some_iff.1 hx
     rw [← h2]; exact List.drop_eq_getElem_cons h1
   obtain ⟨p, hpl, hpj⟩ := HJ.out.2
   obtain ⟨at', hat, hpc⟩ := plc_mem HK.out.up hpl
   simp only at hat hpc
   obtain ⟨b, o, ea, ec, fa, fc, hix, hall⟩ := ndr_at HW.out.2.2.1 at' p hat
   obtain ⟨bx, ox, hixx, -, hcx⟩ := (HW.out.2.2.2.below HB.out).at k x hx
   have HXC : Hid (∀ V, Below wr.heap.size wr V → V.cell? ⟨bx, ox, none⟩ = some (.string x)) := fun V hV => by rw [hV.cell (cell_lt hcx)]; exact hcx
   have HG : Hid (gt l j = p ∧ p ∈ l ∧ Chk (en p)) := ⟨by rw [← hpj]; exact gt_of HK.out.up hpl, hpl, HK.out.chk hpl⟩
   have HWL : Hid (wlk l 1 xs = wlk l j (x :: xs.drop (k + 1))) := show wlk l 1 xs = wlk l j (x :: xs.drop (k + 1)) by rw [HJ.out.1, hdrop]
   have HP' : Hid (∀ V, Below wr.heap.size wr V → Calls Tryz.prog 75 #[.agg #[.slice a n c, .int .i64 nx], .int .i64 j] V fun e w' => e = .returned (.int .i64 at') ∧ Below V.heap.size V w') := fun V hV => by
     have hh := HPL.out V j (below_any HB.out hV)
     rw [← hpj, hpc, hpj] at hh
     exact hh
   obtain ⟨el, hel⟩ := exa ((en p).length)
   obtain ⟨fl, hfl⟩ := exa ((fi p).2.length)
   obtain ⟨pi, hpi⟩ := exa (p.1)
   obtain ⟨pd, hpd⟩ := exa (isD p)
   obtain ⟨pl, hpl'⟩ := exa (lk p)
   obtain ⟨pz, hpz⟩ := exa ((fi p).1)
   rw [← hel, ← hfl, ← hpi, ← hpd, ← hpl', ← hpz] at hall
   have HS : Hid (∀ V, Below wr.heap.size wr V → V.cell? ⟨w.heap.size, 0, none⟩ = some (.slice a n c) ∧ V.cell? ⟨w.heap.size, 1, none⟩ = some (.int .i64 nx) ∧ V.cell? ⟨b, o, none⟩ = some (.int .i64 pi) ∧ V.cell? ⟨b, o + 1, none⟩ = some (.bool pd) ∧ V.cell? ⟨b, o + 2, none⟩ = some (.int .i64 pl) ∧ V.cell? ⟨b, o + 3, none⟩ = some (.slice ea el ec) ∧ V.cell? ⟨b, o + 4, none⟩ = some (.int .i64 pz) ∧ V.cell? ⟨b, o + 5, none⟩ = some (.slice fa fl fc)) := fun V hV => by
     obtain ⟨g0, g1, -, -⟩ := (HW.out.2.1.below (below_any HB.out hV) HW.out.2.1.lt).two
     exact ⟨g0, g1, (hall V (below_any HB.out hV)).1⟩
   have HAE : Hid (∀ V, Below wr.heap.size wr V → ArgE n0 V (.slice ea el ec) (en p)) := fun V hV => (hall V (below_any HB.out hV)).2.1
   have HD : Hid (pd = isD p) := hpd
   have hkm : (k : Int) < (m : Int) := by omega
   clear hx hdrop hpl hpj hat hpc hall hcx hel hfl hpi hpd hpl' hpz
   go_upto_region 5 with fail
   go_cut [8] (fun v wx => ∃ dd, v = .pointer (some ⟨dd, 0, none⟩) ∧ Hid (Below wr.heap.size wr wx ∧ Box wx dd 78 #[.int .i64 pi, .bool pd, .int .i64 pl, .slice ea el ec, .int .i64 pz, .slice fa fl fc]))
   case first =>
     refine AnyBut.begin (fun W => W.cell? ⟨w.heap.size, 0, none⟩ = some (.slice a n c) ∧ W.cell? ⟨w.heap.size, 1, none⟩ = some (.int .i64 nx) ∧ W.cell? ⟨b, o, none⟩ = some (.int .i64 pi) ∧ W.cell? ⟨b, o + 1, none⟩ = some (.bool pd) ∧ W.cell? ⟨b, o + 2, none⟩ = some (.int .i64 pl) ∧ W.cell? ⟨b, o + 3, none⟩ = some (.slice ea el ec) ∧ W.cell? ⟨b, o + 4, none⟩ = some (.int .i64 pz) ∧ W.cell? ⟨b, o + 5, none⟩ = some (.slice fa fl fc)) 8 (by kernel_rfl) ?_
     have hSS := HS.out wr.drew (Below.refl _ wr).drew
     refine tt 0 18 ?_ hSS ?_ ?_; rotate_left
     · intro W hSW; (try dsimp only at hSW); go_simp; try with_reducible rfl
     simp only [ua, ub, uc, ud]
     refine tt 1 19 ?_ hSS ?_ ?_; rotate_left
     · intro W hSW; (try dsimp only at hSW); go_simp; try with_reducible rfl
     simp only [ua, ub, uc, ud]
     refine tt 2 20 ?_ hSS ?_ ?_; rotate_left
     · intro W hSW; (try dsimp only at hSW); go_simp; try with_reducible rfl
     simp only [ua, ub, uc, ud]
     refine tt 3 21 ?_ hSS ?_ ?_; rotate_left
     · intro W hSW; (try dsimp only at hSW); go_simp; try with_reducible rfl
     simp only [ua, ub, uc, ud]
     refine AnyBut.two (i := 4) (j := 7) (by kernel_rfl) rfl rfl (fun K hK => ?_) (fun K hK => ?_)
     · go_simp
       refine Calls.mono (HP'.out wr.drew (Below.refl _ wr).drew) ?_
       rintro e wp ⟨rfl, hbp⟩
       dsimp only
       have hbp1 : Below wr.heap.size wr wp := below_any (Below.refl _ wr).drew hbp
       refine hK.out _ _ (HS.out wp hbp1) ?_
       clear hK hSS
       have hSS := HS.out wp hbp1
       refine tt 5 23 ?_ hSS ?_ ?_; rotate_left
       · intro W hSW; (try dsimp only at hSW); go_simp; try with_reducible rfl
       simp only [ua, ub, uc, ud]
       refine tt 6 24 ?_ hSS ?_ ?_; rotate_left
       · intro W hSW; (try dsimp only at hSW); go_simp; try with_reducible rfl
       simp only [ua, ub, uc, ud]
       refine AnyBut.step (i := 7) (by kernel_rfl) rfl (fun K hK => ?_)
       go_simp
       refine hK.out _ _ (HS.out _ (hbp1.alloc hbp1.size _)) ?_
       clear hK hSS
       refine AnyBut.last (by kernel_rfl) (by kernel_rfl) rfl (fun K hK => ?_)
       go_simp
       refine hK.out _ _ ?_
       clear hK
       rename_i J K1 hJ hM K2 K3
       refine hM _ _ (Go.Met.intro (hJ _ _ ?_))
       refine ⟨?m1a0, ?m1a1, ?m1a2, ?m1a3, ?m1a4, ?m1a5, ?m1a6, ?m1a7, ?m1a8, ?m1a9, ?m1a10, ?m1a11, ?m1a12, ?m1a13, ?m1a14, ?m1a15, ?m1a16, ?m1a17, ?m1a18, ?m1a19, ?m1a20, ?m1a21, ?m1a22, ?m1a23, ?m1a24, ?m1a25, ?m1a26, ?m1a27, ?m1a28, ?m1a29, ?m1a30, ?rel1, ?fr1⟩
       case fr1 => rfl
       case rel1 => exact ⟨_, rfl, hbp1.alloc hbp1.size _, Box.new _ _ _⟩
     · go_simp
       have hbz : Below wr.heap.size wr (wr.alloc (.cells #[.int .i64 0, .bool false, .int .i64 0, .slice none 0 0, .int .i64 0, .slice none 0 0] 78)).drew := ((Below.refl _ wr).alloc (Nat.le_refl _) _).drew
       have hBz : Box (wr.alloc (.cells #[.int .i64 0, .bool false, .int .i64 0, .slice none 0 0, .int .i64 0, .slice none 0 0] 78)).drew wr.heap.size 78 #[.int .i64 0, .bool false, .int .i64 0, .slice none 0 0, .int .i64 0, .slice none 0 0] := Box.drew (Box.new _ _ _)
       refine hK.out _ _ (HS.out _ hbz) ?_
       clear hK hSS
       refine AnyBut.step (i := 4) (by kernel_rfl) rfl (fun K hK => ?_)
       go_simp
       refine Calls.mono (HP'.out _ hbz) ?_
       rintro e wp ⟨rfl, hbp⟩
       dsimp only
       have hbp1 : Below wr.heap.size wr wp := below_any hbz hbp
       have hBp : Box wp wr.heap.size 78 #[.int .i64 0, .bool false, .int .i64 0, .slice none 0 0, .int .i64 0, .slice none 0 0] := hBz.below hbp hBz.lt
       refine hK.out _ _ (HS.out wp hbp1) ?_
       clear hK
       have hSS := HS.out wp hbp1
       refine tt 5 23 ?_ hSS ?_ ?_; rotate_left
       · intro W hSW; (try dsimp only at hSW); go_simp; try with_reducible rfl
       simp only [ua, ub, uc, ud]
       refine tt 6 24 ?_ hSS ?_ ?_; rotate_left
       · intro W hSW; (try dsimp only at hSW); go_simp; try with_reducible rfl
       simp only [ua, ub, uc, ud]
       obtain ⟨z0, z1, z2, z3, z4, z5⟩ := hBp.six
       have y0 := hBp.frozen 0
       have y1 := hBp.frozen 1
       have y2 := hBp.frozen 2
       have y3 := hBp.frozen 3
       have y4 := hBp.frozen 4
       have y5 := hBp.frozen 5
       refine AnyBut.last (by kernel_rfl) (by kernel_rfl) rfl (fun K hK => ?_)
       go_simp
       refine hK.out _ _ ?_
       clear hK
       rename_i J K1 hJ hM K2 K3
       refine hM _ _ (Go.Met.intro (hJ _ _ ?_))
       refine ⟨?m2a0, ?m2a1, ?m2a2, ?m2a3, ?m2a4, ?m2a5, ?m2a6, ?m2a7, ?m2a8, ?m2a9, ?m2a10, ?m2a11, ?m2a12, ?m2a13, ?m2a14, ?m2a15, ?m2a16, ?m2a17, ?m2a18, ?m2a19, ?m2a20, ?m2a21, ?m2a22, ?m2a23, ?m2a24, ?m2a25, ?m2a26, ?m2a27, ?m2a28, ?m2a29, ?m2a30, ?rel2, ?fr2⟩
       case fr2 => rfl
       case rel2 => exact ⟨_, rfl, six_set hbp1 (Nat.le_refl _) hBp _ _ _ _ _ _⟩
   case rest =>
     obtain ⟨dd, rfl, HBV⟩ := hcut
     obtain ⟨V, hV⟩ := exa (wc)
     rw [← hV] at HBV ⊢
     clear hV
     obtain ⟨v0, v1, v2, v3, v4, v5⟩ := HBV.out.2.six
     cases hpd : pd
     case false =>
       subst hpd
       have HE : Hid (wlk l 1 xs = (0, 103)) := show wlk l 1 xs = (0, 103) by
         rw [HWL.out, wlk, HG.out.1, if_pos HD.out.symm]
       go_wp2
       exact HPo.out 0 103 _ HE.out (below_any (below_any HW.out.1 HB.out) HBV.out.1)
     subst hpd
     have HCF : Hid (∀ U, Below V.heap.size V U → Calls Tryz.prog 76 #[.slice ea el ec, .string x] U fun e w' => e = .returned (.tuple #[.int .i64 (fnd (en p) x), .bool (there (en p) x), .int .i64 0]) ∧ Below U.heap.size U w') := fun U hU => rfind_b x (HAE.out U (below_any HBV.out.1 hU)) HG.out.2.2
     obtain ⟨fd', hfd⟩ := exa (fnd (en p) x)
     obtain ⟨th, hth⟩ := exa (there (en p) x)
     rw [← hfd, ← hth] at HCF
     have HF : Hid (fd' = fnd (en p) x ∧ th = there (en p) x) := ⟨hfd, hth⟩
     have HS2 : Hid (∀ U, Below V.heap.size V U → U.cell? ⟨dd, 3, none⟩ = some (.slice ea el ec) ∧ U.cell? ⟨bx, ox, none⟩ = some (.string x)) := fun U hU => ⟨(HBV.out.2.below hU HBV.out.2.lt).cell 3 rfl, HXC.out U (below_any HBV.out.1 hU)⟩
     have HS0 := HS2.out V.drew (Below.refl _ V).drew
     have HCR := HCF.out V.drew (Below.refl _ V).drew
     clear v0 v2 v3 v4 v5 hfd hth
     go_wp2
     go_region_held3 (fun U => U.cell? ⟨dd, 3, none⟩ = some (.slice ea el ec) ∧ U.cell? ⟨bx, ox, none⟩ = some (.string x))
       (first | with_reducible exact HS1 | with_reducible exact HS0)
       ((first | (go_at_call 76; refine HCR.mono ?_; rintro e w2 ⟨rfl, hb2⟩; have HS1 := HS2.out w2 (below_any (Below.refl _ V).drew hb2))))
     have HB2 : Hid (Below W.heap.size W w2) := below_any HB.out (below_any HBV.out.1 (below_any (Below.refl _ V).drew hb2))
     clear HS0 HS1 hb2 HCR v1
     cases th
     · have HE : Hid (wlk l 1 xs = (0, 101)) := show wlk l 1 xs = (0, 101) by
         rw [HWL.out, wlk, HG.out.1, if_neg (by rw [← HD.out]; decide), if_pos HF.out.2.symm]
       go_wp2
       exact HPo.out 0 101 _ HE.out (below_any HW.out.1 HB2.out)
     · have HE : Hid (wlk l 1 xs = wlk l fd' (xs.drop (k + 1)) ∧ ∃ q ∈ l, q.1 = fd') := by
         refine ⟨by rw [HWL.out, wlk, HG.out.1, if_neg (by rw [← HD.out]; decide), if_neg (by rw [← HF.out.2]; decide), HF.out.1], ?_⟩
         obtain ⟨d, hd⟩ := D.there_mem.1 HF.out.2.symm
         rw [HF.out.1, D.fnd_mem HG.out.2.2 hd]
         exact HK.out.names p HG.out.2.1 _ hd
       go_wp2
       go_roundw
       case rel => exact ⟨k + 1, fd', by omega, by go_num, rfl, HE.out, HB2.out⟩
       case measure => simp [intOf]; omega
end Go.Proofs.YtkcnephbaffmbaaGreatDoor
