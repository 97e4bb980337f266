/-
  What the program's walk along names answers: one name, all names, the last name cut off, and where it stands.
  What the program answers of a path's last name, where it stands and what it names; the file and the directory that names lead to.
-/
import Derived.Test.YtopcefhncildnaaGreatDoorZ16
import Derived.Test.YtopcefhncildnaaGreatDoorZ34
set_option maxRecDepth 100000
set_option maxHeartbeats 4000000
namespace Go.Proofs.YtopcefhncildnaaGreatDoor
open Go.RowKit
open D (En ArgE Chk there fnd nameOk)
open P (ArgT tv)
theorem elemT : Tryz.prog.underlying 57 = some (.slice (Tryz.prog.elem 57)) := by kernel_rfl
theorem elemT_is : Tryz.prog.elem 57 = 9 := by kernel_rfl
theorem sizeT (W : World) : (sizeOf (Tryz.prog.elem 57)).run Tryz.prog W = .ok 1 W := by
 obtain ⟨i0, hi, hz0, hz1, hz2⟩ := info_parts Tryz.info9
 rw [elemT_is]
 simp [sizeOf, typeInfo, hi, hz1]
theorem argT_sub {n0 : Nat} {w : World} {a : Option Addr} {len cap : Nat} {l : List ByteArray} (h : ArgT n0 w (.slice a len cap) l) (i j : Nat) (hij : i ≤ j) (hj : j ≤ l.length) : ArgT n0 w (sliced a i j cap 1) ((l.take j).drop i) := by
 have hlen : ((l.take j).drop i).length = j - i := by rw [List.length_drop, List.length_take, Nat.min_eq_left hj]
 obtain ⟨a', c', hv, _⟩ := h.shape
 obtain ⟨_, rfl, _⟩ := Value.slice.inj hv
 refine ⟨?_, fun y hy => h.2 y (List.mem_of_mem_take (List.mem_of_mem_drop hy))⟩
 have := h.1.sub i j hij hj
 rw [Nat.mul_one, Nat.mul_one] at this
 rw [hlen, tv, List.map_drop, List.map_take]
 exact this
theorem argT_ahead {n0 : Nat} {w : World} {v : Value} {l : List ByteArray} (h : ArgT n0 w v l) (j : Nat) (hj : j ≤ l.length) :
   ∃ a n c, n = j ∧ ArgT n0 w (.slice a n c) (l.take j) ∧ ∀ W, (Instr.slice 57 v none (some (.int .i64 j)) none).run Tryz.prog W = .ok (.slice a n c) W := by
 obtain ⟨a, cap, rfl, hcap, _⟩ := h.shape
 have h1 : ArgT n0 w (sliced a 0 j cap 1) (l.take j) := by simpa using argT_sub h 0 j (by omega) hj
 obtain ⟨a', c', hv, _⟩ := h1.shape
 rw [List.length_take, Nat.min_eq_left hj] at hv
 refine ⟨a', j, c', rfl, by rw [← hv]; exact h1, fun W => ?_⟩
 rw [run_slice_h W 57 a l.length cap elemT .i64 j (by omega) (by omega), sizeT]
 rw [← hv]
 simp [Result.andThen]
def EV (k : Int) (E : Value) : Prop := (k = 0 ∧ E = .nilIface) ∨ (k ≠ 0 ∧ ∃ a l c s, E = refV (.slice a l c) k s)
theorem ev_nil : EV 0 .nilIface := .inl ⟨rfl, rfl⟩
theorem ev_ref {k : Int} (h : k ≠ 0) (a : Option Addr) (l c : Nat) (s : ByteArray) : EV k (refV (.slice a l c) k s) := .inr ⟨h, a, l, c, s, rfl⟩
def entC (p : Nd) (x : ByteArray) : Int := if isD p = false then 0 else if there (en p) x = false then 0 else fnd (en p) x
def entE (p : Nd) (x : ByteArray) : Int := if isD p = false then 103 else if there (en p) x = false then 101 else 0
theorem enter_any (n0 : Nat) (a : Option Addr) (c : Nat) (l : List Nd) (nx : Int) (hU : Ups l) (hn : l.length ≤ 128) (i : Nat) (p : Nd) (hp : l[i]? = some p) (hd : isD p = true → Chk (en p)) (x : ByteArray) (w : World) (hA : ndsN.lies n0 w [.slice a l.length c] l) :
   Calls Tryz.prog 222 #[.agg #[.slice a l.length c, .int .i64 nx], .int .i64 p.1, .string x] w fun e w' => (∃ E, e = .returned (.tuple #[.int .i64 (entC p x), E]) ∧ ((entE p x = 0 ∧ E = .nilIface) ∨ (entE p x ≠ 0 ∧ E = fltV (entE p x) x))) ∧ Below w.heap.size w w' := by
 obtain ⟨b, o, ea, el, ec, fa, fl, fc, hix, -, -, -, hall⟩ := nds_all hA i p hp
 obtain ⟨W, hW⟩ := exa (w.alloc (.cells #[.slice a l.length c, .int .i64 nx] 29))
 have hbW : Below w.heap.size w W := by rw [hW]; exact (Below.refl _ w).alloc (Nat.le_refl _) _
 have HC := node_any n0 _ nx l hU i p hp b o W (ndsN.below hA hbW) (by omega) hix
 have HALL : Hid (∀ V, Below w.heap.size w V → (V.cell? ⟨b, o + 1, none⟩ = some (.bool p.2.1) ∧ V.cell? ⟨b, o + 3, none⟩ = some (.slice ea el ec)) ∧ ArgE n0 V (.slice ea el ec) (en p)) := fun V hV => ⟨⟨(hall V hV).1.2.1, (hall V hV).1.2.2.2.1⟩, (hall V hV).2.1⟩
 have HW : Hid (Below w.heap.size w W) := hbW
 obtain ⟨n, hnn⟩ := exa (l.length)
 rw [← hnn] at HC hW ⊢
 obtain ⟨pi, hpi⟩ := exa (p.1)
 rw [← hpi] at HC ⊢
 clear hA hall hix hbW hnn hpi hU hn hp
 cases hdd : isD p
 · have hdp : p.2.1 = false := hdd
   rw [hdp] at HALL
   rw [show entC p x = 0 by unfold entC; rw [if_pos hdd], show entE p x = 103 by unfold entE; rw [if_pos hdd]]
   clear hd hdd hdp
   go_enter Tryz.func222, Tryz.ntmps222
   go_wp2_with fail
   rw [← hW]
   clear hW
   refine HC.mono ?_
   rintro e w1 ⟨rfl, hb1⟩
   have HB1 : Hid (Below w.heap.size w w1) := below_any HW.out hb1
   have c1 := (HALL.out w1 HB1.out).1.1
   clear hb1
   go_wp2
   go_ret2
   exact ⟨⟨_, rfl, .inr ⟨by decide, rfl⟩⟩, HB1.out⟩
 · have hdp : p.2.1 = true := hdd
   rw [hdp] at HALL
   have hck := hd hdd
   have HF : Hid (∀ V, Below w.heap.size w V → Calls Tryz.prog 272 #[.slice ea el ec, .string x] V fun e w' => e = .returned (.tuple #[.int .i64 (fnd (en p) x), .bool (there (en p) x), .int .i64 0]) ∧ Below V.heap.size V w') := fun V hV => by (
 have := D.find_any n0 _ (en p) x V (HALL.out V hV).2
 unfold D.fno D.fis at this
 rwa [if_pos hck, if_pos hck, D.cerr_ok hck] at this)
   cases ht : there (en p) x
   · rw [show entC p x = 0 by unfold entC; rw [if_neg (by rw [hdd]; decide), if_pos ht], show entE p x = 101 by unfold entE; rw [if_neg (by rw [hdd]; decide), if_pos ht]]
     rw [ht] at HF
     generalize fnd (en p) x = y at HF
     clear hd hdd hdp hck ht
     go_enter Tryz.func222, Tryz.ntmps222
     go_wp2_with fail
     rw [← hW]
     clear hW
     refine HC.mono ?_
     rintro e w1 ⟨rfl, hb1⟩
     have HB1 : Hid (Below w.heap.size w w1) := below_any HW.out hb1
     obtain ⟨c1, c3⟩ := (HALL.out w1 HB1.out).1
     have HF1 := HF.out w1 HB1.out
     clear hb1
     go_wp2_with fail
     refine HF1.mono ?_
     rintro e w2 ⟨rfl, hb2⟩
     go_wp2
     go_ret2
     exact ⟨⟨_, rfl, .inr ⟨by decide, rfl⟩⟩, below_any HB1.out hb2⟩
   · rw [show entC p x = fnd (en p) x by unfold entC; rw [if_neg (by rw [hdd]; decide), if_neg (by rw [ht]; decide)], show entE p x = 0 by unfold entE; rw [if_neg (by rw [hdd]; decide), if_neg (by rw [ht]; decide)]]
     rw [ht] at HF
     generalize fnd (en p) x = y at HF ⊢
     clear hd hdd hdp hck ht
     go_enter Tryz.func222, Tryz.ntmps222
     go_wp2_with fail
     rw [← hW]
     clear hW
     refine HC.mono ?_
     rintro e w1 ⟨rfl, hb1⟩
     have HB1 : Hid (Below w.heap.size w w1) := below_any HW.out hb1
     obtain ⟨c1, c3⟩ := (HALL.out w1 HB1.out).1
     have HF1 := HF.out w1 HB1.out
     clear hb1
     go_wp2_with fail
     refine HF1.mono ?_
     rintro e w2 ⟨rfl, hb2⟩
     go_wp2
     go_ret2
     exact ⟨⟨_, rfl, .inl ⟨by first | rfl | trivial, rfl⟩⟩, below_any HB1.out hb2⟩
theorem wlk_ent {l : List Nd} (hU : Ups l) {p : Nd} (hp : p ∈ l) (x : ByteArray) (r : List ByteArray) : wlk l p.1 (x :: r) = if entE p x = 0 then wlk l (entC p x) r else (0, entE p x) := by
 rw [wlk, gt_of hU hp]
 unfold entE entC
 cases hd : isD p
 · simp
 · cases ht : there (en p) x <;> simp
theorem walk_any (n0 n1 : Nat) (a : Option Addr) (c : Nat) (s : St) (hK : Wk s) (av : Option Addr) (cv : Nat) (xs : List ByteArray) (w : World) (hA : ndsN.lies n0 w [.slice a s.1.length c] s.1) (hX : ArgT n1 w (.slice av xs.length cv) xs) :
   Calls Tryz.prog 158 #[.agg #[.slice a s.1.length c, .int .i64 s.2], .slice av xs.length cv] w fun e w' => (∃ E, e = .returned (.tuple #[.int .i64 (wlk s.1 1 xs).1, E]) ∧ EV (wlk s.1 1 xs).2 E) ∧ Below w.heap.size w w' := by
 obtain ⟨l, nx⟩ := s
 simp only at hA ⊢
 obtain ⟨W, hW⟩ := exa (w.alloc (.cells #[.slice a l.length c, .int .i64 nx] 29))
 have hbW : Below w.heap.size w W := by rw [hW]; exact (Below.refl _ w).alloc (Nat.le_refl _) _
 have HW : Hid (Below w.heap.size w W ∧ Box W w.heap.size 29 #[.slice a l.length c, .int .i64 nx]) := ⟨hbW, by rw [hW]; exact Box.new _ _ _⟩
 have HEN : Hid (∀ (p : Nd), p ∈ l → ∀ x V, Below w.heap.size w V → Calls Tryz.prog 222 #[.agg #[.slice a l.length c, .int .i64 nx], .int .i64 p.1, .string x] V fun e w' => (∃ E, e = .returned (.tuple #[.int .i64 (entC p x), E]) ∧ ((entE p x = 0 ∧ E = .nilIface) ∨ (entE p x ≠ 0 ∧ E = fltV (entE p x) x))) ∧ Below V.heap.size V w') := fun p hp x V hV => by
   obtain ⟨i, hi⟩ := List.getElem?_of_mem hp
   exact enter_any n0 a c l nx hK.up hK.len i p hi (fun h => (hK.dirs p hp h).1) x V (ndsN.below hA hV)
 have HX : Hid (ArgT n1 w (.slice av xs.length cv) xs) := hX
 have HK : Hid (Wk (l, nx)) := hK
 obtain ⟨n, hn⟩ := exa (l.length)
 rw [← hn] at HEN HW hW ⊢
 obtain ⟨m, hm⟩ := exa (xs.length)
 have hl1 := run_len Tryz.underlying57 av xs.length cv
 rw [← hm] at HX hl1 ⊢
 have HM : Hid (m = xs.length) := hm
 have hm63 : m ≤ maxLen := by obtain ⟨_, _, _, _, h, _⟩ := hX.shape; omega
 unfold maxLen at hm63
 obtain ⟨ri, hri⟩ := exa ((wlk l 1 xs).1)
 obtain ⟨re, hre⟩ := exa ((wlk l 1 xs).2)
 have HR : Hid (ri = (wlk l 1 xs).1 ∧ re = (wlk l 1 xs).2) := ⟨hri, hre⟩
 rw [← hri, ← hre]
 obtain ⟨t, ht, ht1, _⟩ := hK.top
 have HT : Hid (∃ p ∈ l, p.1 = 1) := ⟨t, ht, ht1⟩
 clear hA hbW hX hK hn hm hri hre ht ht1
 go_enter Tryz.func158, Tryz.ntmps158
 go_wp2
 rw [← hW]
 clear hW
 go_loopw [6, 13] (fun u i wr => ∃ (j : Nat) (q : Int), j ≤ m ∧ i = .int .i64 j ∧ u = .int .i64 q ∧ Hid (wlk l 1 xs = wlk l q (xs.drop j) ∧ (∃ p ∈ l, p.1 = q) ∧ Below W.heap.size W wr)) (fun _ i _ => m - (intOf i).toNat)
 case atStart => exact ⟨0, 1, Nat.zero_le _, rfl, rfl, rfl, HT.out, Below.refl _ _⟩
 case round => (
 obtain ⟨j, q, hj, rfl, rfl, HJ⟩ := hrel
 by_cases hjt : j < m
 · obtain ⟨x, hx⟩ := get_lt (l := xs) (k := j) (by rw [← HM.out]; exact hjt)
   obtain ⟨bx, ox, hix, -, d0⟩ := (HX.out.below (below_any HW.out.1 HJ.out.2.2)).at j x hx
   have hji : (j : Int) < (m : Int) := by omega
   obtain ⟨p, hp, hpq⟩ := HJ.out.2.1
   have HC := HEN.out p hp x wr (below_any HW.out.1 HJ.out.2.2)
   have hdr : xs.drop j = x :: xs.drop (j + 1) := by (
 obtain ⟨h1, h2⟩ := List.getElem?_eq_some_iff.1 hx
 rw [List.drop_eq_getElem_cons h1, h2])
   have hstep := HJ.out.1
   rw [hdr, ← hpq, wlk_ent HK.out.up hp] at hstep
   obtain ⟨g0, g1, -, -⟩ := (HW.out.2.below HJ.out.2.2 HW.out.2.lt).two
   rw [hpq] at HC
   by_cases he : entE p x = 0
   · rw [if_pos he] at hstep
     have hin : ∃ p' ∈ l, p'.1 = entC p x := by (
 unfold entE at he
 cases hd : isD p
 · rw [if_pos hd] at he; omega
 · rw [if_neg (by rw [hd]; decide)] at he
   cases ht : there (en p) x
   · rw [if_pos ht] at he; omega
   · obtain ⟨c', hc'⟩ := D.there_mem.1 ht
     obtain ⟨m', hm', e'⟩ := HK.out.names p hp _ hc'
     refine ⟨m', hm', ?_⟩
     unfold entC
     rw [if_neg (by rw [hd]; decide), if_neg (by rw [ht]; decide), D.fnd_mem (HK.out.dirs p hp hd).1 hc']
     exact e')
     have HS : Hid (wlk l 1 xs = wlk l (entC p x) (xs.drop (j + 1)) ∧ ∃ p' ∈ l, p'.1 = entC p x) := ⟨hstep, hin⟩
     have HB : Hid (Below W.heap.size W wr) := HJ.out.2.2
     generalize entC p x = q' at HC HS
     rw [he] at HC
     clear hx hp hpq hdr hstep hin he HJ
     go_wp2_with fail
     refine HC.mono ?_
     rintro e w1 ⟨⟨E, rfl, hE⟩, hb1⟩
     obtain rfl : E = .nilIface := by (
 rcases hE with ⟨_, h⟩ | ⟨h, _⟩
 · exact h
 · exact absurd rfl h)
     clear hE
     go_wp2
     go_roundw
     case rel => exact ⟨j + 1, q', by omega, by go_num, rfl, HS.out.1, HS.out.2, below_any HB.out hb1⟩
     case measure => simp [intOf]; omega
   · rw [if_neg he] at hstep
     have h1 : ri = 0 := by rw [HR.out.1, hstep]
     have h2 : re = entE p x := by rw [HR.out.2, hstep]
     have HB : Hid (Below W.heap.size W wr) := HJ.out.2.2
     subst h1
     generalize entC p x = q' at HC
     generalize entE p x = k at HC h2 he
     subst h2
     clear hx hp hpq hdr hstep HJ HR
     go_wp2_with fail
     refine HC.mono ?_
     rintro e w1 ⟨⟨E, rfl, hE⟩, hb1⟩
     obtain rfl : E = fltV re x := by (
 rcases hE with ⟨h, _⟩ | ⟨_, h⟩
 · exact absurd h he
 · exact h)
     clear hE
     go_wp2
     go_ret2
     exact ⟨⟨_, rfl, ev_ref he _ _ _ _⟩, below_any HW.out.1 (below_any HB.out hb1)⟩
 · obtain rfl : j = m := by omega
   have hd0 : xs.drop j = [] := List.drop_of_length_le (by rw [HM.out]; exact Nat.le_refl _)
   have h1 : ri = q := by rw [HR.out.1, HJ.out.1, hd0]; rfl
   have h2 : re = 0 := by rw [HR.out.2, HJ.out.1, hd0]; rfl
   have HB : Hid (Below W.heap.size W wr) := HJ.out.2.2
   subst h1 h2
   clear hd0 HJ
   go_wp2
   go_ret2
   exact ⟨⟨_, rfl, ev_nil⟩, below_any HW.out.1 HB.out⟩)
end Go.Proofs.YtopcefhncildnaaGreatDoor
namespace Go.Proofs.YtopcefhncildnaaGreatDoor
open Go.RowKit
open D (En ArgE Chk there fnd nameOk)
open P (ArgT tv)
def ahd (xs : List ByteArray) : List ByteArray := xs.take (xs.length - 1)
def lst (xs : List ByteArray) : ByteArray := xs.getD (xs.length - 1) ⟨#[]⟩
theorem ahd_lst {xs : List ByteArray} (h : xs ≠ []) : xs = ahd xs ++ [lst xs] := by
 have h0 : 0 < xs.length := List.length_pos_iff.2 h
 have h1 : xs[xs.length - 1]? = some (lst xs) := by (
 unfold lst
 rw [List.getD, List.getElem?_eq_getElem (by omega)]
 rfl)
 unfold ahd
 have h2 := take_snoc h1
 rw [← h2, show xs.length - 1 + 1 = xs.length by omega, List.take_length]
theorem lst_at {xs : List ByteArray} (h : xs ≠ []) : xs[xs.length - 1]? = some (lst xs) := by
 have h0 : 0 < xs.length := List.length_pos_iff.2 h
 unfold lst
 rw [List.getD, List.getElem?_eq_getElem (by omega)]
 rfl
theorem cut_any (n1 : Nat) (av : Option Addr) (cv : Nat) (xs : List ByteArray) (w : World) (hX : ArgT n1 w (.slice av xs.length cv) xs) (hne : xs ≠ []) :
   Calls Tryz.prog 175 #[.slice av xs.length cv] w fun e w' => (∃ a n c, e = .returned (.tuple #[.slice a n c, .string (lst xs)]) ∧ n = (ahd xs).length ∧ ArgT n1 w (.slice a n c) (ahd xs)) ∧ ∃ q, w' = w.drewN q := by
 have h0 : 0 < xs.length := List.length_pos_iff.2 hne
 obtain ⟨a, n, c, hn, hA, hsl⟩ := argT_ahead hX (xs.length - 1) (by omega)
 obtain ⟨b, o, hix, -, d0⟩ := hX.at (xs.length - 1) _ (lst_at hne)
 have HA : Hid (n = (ahd xs).length ∧ ArgT n1 w (.slice a n c) (ahd xs)) := ⟨by rw [hn]; unfold ahd; rw [List.length_take]; omega, hA⟩
 have hl1 := run_len Tryz.underlying57 av xs.length cv
 obtain ⟨m, hm⟩ := exa (xs.length)
 have hm63 : m ≤ maxLen := by obtain ⟨_, _, _, _, h, _⟩ := hX.shape; omega
 unfold maxLen at hm63
 rw [← hm] at hl1 hsl hix h0 ⊢
 rw [show ((m - 1 : Nat) : Int) = (m : Int) - 1 by omega] at hsl hix
 generalize lst xs = y at d0 ⊢
 have HAA : Hid (n = (ahd xs).length ∧ ArgT n1 w (.slice a n c) (ahd xs)) := HA
 clear hX hA hn hne hm HA
 go_enter Tryz.func175, Tryz.ntmps175
 go_wp2
 go_quiet (fail)
 go_wp2
 go_ret2
 exact ⟨⟨a, n, c, rfl, HAA.out⟩, _, rfl⟩
def stdE (l : List Nd) (xs : List ByteArray) : Int := if (wlk l 1 (ahd xs)).2 = 0 then (if isD (gt l (wlk l 1 (ahd xs)).1) = true then 0 else 103) else (wlk l 1 (ahd xs)).2
def stdI (l : List Nd) (xs : List ByteArray) : Int := if stdE l xs = 0 then (wlk l 1 (ahd xs)).1 else 0
def stdT (l : List Nd) (xs : List ByteArray) : Int := if stdE l xs = 0 then entC (gt l (wlk l 1 (ahd xs)).1) (lst xs) else 0
theorem stand_any (n0 n1 : Nat) (a : Option Addr) (c : Nat) (s : St) (hK : Wk s) (av : Option Addr) (cv : Nat) (xs : List ByteArray) (hne : xs ≠ []) (hok : (lst xs).data.toList ≠ []) (w : World) (hA : ndsN.lies n0 w [.slice a s.1.length c] s.1) (hX : ArgT n1 w (.slice av xs.length cv) xs) :
   Calls Tryz.prog 174 #[.agg #[.slice a s.1.length c, .int .i64 s.2], .slice av xs.length cv] w fun e w' => (∃ E, e = .returned (.tuple #[.int .i64 (stdI s.1 xs), .int .i64 (stdT s.1 xs), E]) ∧ EV (stdE s.1 xs) E) ∧ Below w.heap.size w w' := by
 obtain ⟨l, nx⟩ := s
 simp only at hA ⊢
 obtain ⟨W, hW⟩ := exa (w.alloc (.cells #[.slice a l.length c, .int .i64 nx] 29))
 have hbW : Below w.heap.size w W := by rw [hW]; exact (Below.refl _ w).alloc (Nat.le_refl _) _
 have HW : Hid (Below w.heap.size w W ∧ Box W w.heap.size 29 #[.slice a l.length c, .int .i64 nx]) := ⟨hbW, by rw [hW]; exact Box.new _ _ _⟩
 have HC := cut_any n1 av cv xs W (hX.below hbW) hne
 have HWK : Hid (∀ V a' n' c', Below w.heap.size w V → n' = (ahd xs).length → ArgT n1 V (.slice a' n' c') (ahd xs) → Calls Tryz.prog 158 #[.agg #[.slice a l.length c, .int .i64 nx], .slice a' n' c'] V fun e w' => (∃ E, e = .returned (.tuple #[.int .i64 (wlk l 1 (ahd xs)).1, E]) ∧ EV (wlk l 1 (ahd xs)).2 E) ∧ Below V.heap.size V w') := fun V a' n' c' hV hn hT => by
   subst hn
   exact walk_any n0 n1 a c (l, nx) hK a' c' (ahd xs) V (ndsN.below hA hV) hT
 have HEN : Hid ((wlk l 1 (ahd xs)).2 = 0 → ∀ V, Below w.heap.size w V → Calls Tryz.prog 222 #[.agg #[.slice a l.length c, .int .i64 nx], .int .i64 (wlk l 1 (ahd xs)).1, .string (lst xs)] V fun e w' => (∃ E, e = .returned (.tuple #[.int .i64 (entC (gt l (wlk l 1 (ahd xs)).1) (lst xs)), E]) ∧ ((entE (gt l (wlk l 1 (ahd xs)).1) (lst xs) = 0 ∧ E = .nilIface) ∨ (entE (gt l (wlk l 1 (ahd xs)).1) (lst xs) ≠ 0 ∧ E = fltV (entE (gt l (wlk l 1 (ahd xs)).1) (lst xs)) (lst xs)))) ∧ Below V.heap.size V w') := fun h V hV => by (
 obtain ⟨p, hp, e1, e2, _⟩ := wlk_in hK (xs := ahd xs) h
 simp only at hp e1 e2
 obtain ⟨i, hi⟩ := List.getElem?_of_mem hp
 rw [e2, ← e1]
 exact enter_any n0 a c l nx hK.up hK.len i p hi (fun h => (hK.dirs p hp h).1) (lst xs) V (ndsN.below hA hV))
 obtain ⟨n, hn⟩ := exa (l.length)
 rw [← hn] at HEN HW HWK hW ⊢
 obtain ⟨m, hm⟩ := exa (xs.length)
 rw [← hm] at HC ⊢
 unfold stdT stdI
 have HSE : Hid (stdE l xs = if (wlk l 1 (ahd xs)).2 = 0 then (if isD (gt l (wlk l 1 (ahd xs)).1) = true then 0 else 103) else (wlk l 1 (ahd xs)).2) := rfl
 generalize stdE l xs = SE at HSE ⊢
 obtain ⟨P, hP⟩ := exa (gt l (wlk l 1 (ahd xs)).1)
 rw [← hP] at HEN HSE ⊢
 generalize (wlk l 1 (ahd xs)).1 = wi at HWK HEN ⊢
 generalize (wlk l 1 (ahd xs)).2 = we at HWK HEN HSE
 obtain ⟨y, hy⟩ := exa (lst xs)
 rw [← hy] at HC HEN hok ⊢
 obtain ⟨g0, g1, -, -⟩ := HW.out.2.two
 rw [hW] at g0 g1
 clear hA hbW hX hK hn hm hP hy hne
 go_enter Tryz.func174, Tryz.ntmps174
 go_wp2_with fail
 rw [← hW]
 clear hW g0 g1
 refine HC.mono ?_
 rintro e w1 ⟨⟨a1, n1', c1, rfl, hn1, hT1⟩, q, hq⟩
 have hb1 : Below W.heap.size W w1 := by rw [hq]; exact below_drewN (Below.refl _ _) q
 have HB1 : Hid (Below w.heap.size w w1 ∧ Box w1 w.heap.size 29 #[.slice a n c, .int .i64 nx]) := ⟨below_any HW.out.1 hb1, HW.out.2.below hb1 HW.out.2.lt⟩
 have HCW := HWK.out w1 a1 n1' c1 HB1.out.1 hn1 (hT1.below hb1)
 obtain ⟨g0, g1, -, -⟩ := HB1.out.2.two
 clear hn1 hT1 hq hb1 HC
 go_wp2_with fail
 clear g0 g1
 refine HCW.mono ?_
 rintro e w2 ⟨⟨E, rfl, hE⟩, hb2⟩
 have HB2 : Hid (Below w.heap.size w w2 ∧ Box w2 w.heap.size 29 #[.slice a n c, .int .i64 nx]) := ⟨below_any HB1.out.1 hb2, HB1.out.2.below hb2 HB1.out.2.lt⟩
 clear hb2 HCW
 rcases hE with ⟨rfl, rfl⟩ | ⟨hk, a2, l2, c2, s2, rfl⟩
 · have HCE := HEN.out rfl w2 HB2.out.1
   obtain ⟨g0, g1, -, -⟩ := HB2.out.2.two
   go_wp2_with fail
   clear g0 g1
   refine HCE.mono ?_
   rintro e w3 ⟨⟨E, rfl, hE⟩, hb3⟩
   have HB3 : Hid (Below w.heap.size w w3) := below_any HB2.out.1 hb3
   clear hb3 HCE
   rcases hE with ⟨h0, rfl⟩ | ⟨h0, rfl⟩
   · have hSE : SE = 0 := by
       rw [HSE.out, if_pos (by trivial)]
       cases hd : isD P
       · unfold entE at h0
         rw [if_pos hd] at h0
         omega
       · rfl
     subst hSE
     have hmn := missing_nil w3
     clear h0
     go_wp2_with (go_at_call 239; refine hmn.mono ?_; rintro e w4 ⟨rfl, rfl⟩)
     go_ret3
     exact ⟨⟨_, by rfl, ev_nil⟩, HB3.out⟩
   · cases hd : isD P
     · have hSE : SE = 103 := by rw [HSE.out, if_pos (by trivial), if_neg (by rw [hd]; decide)]
       have he : entE P y = 103 := by unfold entE; rw [if_pos hd]
       subst hSE
       rw [he]
       have hmn := missing_flt 103 (.inr rfl) y hok w3
       clear h0 hd he
       go_wp2_with (go_at_call 239; refine hmn.mono ?_; rintro e w4 ⟨rfl, hb4⟩)
       go_ret3
       exact ⟨⟨_, by rfl, ev_ref (by decide) _ _ _ _⟩, below_any HB3.out hb4⟩
     · have hSE : SE = 0 := by rw [HSE.out, if_pos (by trivial), if_pos hd]
       have hth : there (en P) y = false := by (
 cases ht : there (en P) y
 · rfl
 · exfalso
   apply h0
   unfold entE
   rw [if_neg (by rw [hd]; decide), if_neg (by rw [ht]; decide)])
       have he : entE P y = 101 := by unfold entE; rw [if_neg (by rw [hd]; decide), if_pos hth]
       have hc0 : entC P y = 0 := by unfold entC; rw [if_neg (by rw [hd]; decide), if_pos hth]
       subst hSE
       rw [he, hc0]
       have hmn := missing_flt 101 (.inl rfl) y hok w3
       have HC0 : Hid (entC P y = 0) := hc0
       clear h0 hd he hth hc0
       go_wp2_with (go_at_call 239; refine hmn.mono ?_; rintro e w4 ⟨rfl, hb4⟩)
       go_ret3
       exact ⟨⟨.nilIface, by show _ = Ending.returned (.tuple #[.int .i64 wi, .int .i64 (entC P y), .nilIface]); rw [HC0.out]; rfl, ev_nil⟩, below_any HB3.out hb4⟩
 · have hSE : SE = we := by rw [HSE.out, if_neg hk]
   subst hSE
   go_wp2
   go_ret3
   exact ⟨⟨refV (.slice a2 l2 c2) SE s2, by simp only; rfl, ev_ref hk _ _ _ _⟩, HB2.out.1⟩
def filE (l : List Nd) (xs : List ByteArray) : Int := if (wlk l 1 xs).2 = 0 then (if isD (gt l (wlk l 1 xs).1) = true then 104 else 0) else (wlk l 1 xs).2
def dirE (l : List Nd) (xs : List ByteArray) : Int := if (wlk l 1 xs).2 = 0 then (if isD (gt l (wlk l 1 xs).1) = false then 103 else 0) else (wlk l 1 xs).2
theorem findFile_any (n0 n1 : Nat) (a : Option Addr) (c : Nat) (s : St) (hK : Wk s) (av : Option Addr) (cv : Nat) (xs : List ByteArray) (w : World) (hA : ndsN.lies n0 w [.slice a s.1.length c] s.1) (hX : ArgT n1 w (.slice av xs.length cv) xs) :
   Calls Tryz.prog 88 #[.agg #[.slice a s.1.length c, .int .i64 s.2], .slice av xs.length cv] w fun e w' => (filE s.1 xs ≠ 0 ∧ (∃ E, e = .returned (.tuple #[.pointer none, E]) ∧ EV (filE s.1 xs) E) ∨ filE s.1 xs = 0 ∧ ∃ k p b o, s.1[k]? = some p ∧ p.1 = (wlk s.1 1 xs).1 ∧ (∀ W, (Instr.indexAt 27 (.slice a s.1.length c) (.int .i64 (k : Nat))).run Tryz.prog W = .ok (.pointer (some ⟨b, o, none⟩)) W) ∧ e = .returned (.tuple #[.pointer (some ⟨b, o, none⟩), .nilIface])) ∧ Below w.heap.size w w' := by
 obtain ⟨l, nx⟩ := s
 simp only at hA ⊢
 obtain ⟨W, hW⟩ := exa (w.alloc (.cells #[.slice a l.length c, .int .i64 nx] 29))
 have hbW : Below w.heap.size w W := by rw [hW]; exact (Below.refl _ w).alloc (Nat.le_refl _) _
 have HW : Hid (Below w.heap.size w W ∧ Box W w.heap.size 29 #[.slice a l.length c, .int .i64 nx]) := ⟨hbW, by rw [hW]; exact Box.new _ _ _⟩
 have HC := walk_any n0 n1 a c (l, nx) hK av cv xs W (ndsN.below hA hbW) (hX.below hbW)
 simp only at HC
 have HNO : Hid ((wlk l 1 xs).2 = 0 → ∃ k p b o, l[k]? = some p ∧ p.1 = (wlk l 1 xs).1 ∧ gt l (wlk l 1 xs).1 = p ∧ (∀ W, (Instr.indexAt 27 (.slice a l.length c) (.int .i64 (k : Nat))).run Tryz.prog W = .ok (.pointer (some ⟨b, o, none⟩)) W) ∧ ∀ V, Below w.heap.size w V → V.cell? ⟨b, o + 1, none⟩ = some (.bool p.2.1) ∧ Calls Tryz.prog 159 #[.agg #[.slice a l.length c, .int .i64 nx], .int .i64 p.1] V fun e w' => e = .returned (.pointer (some ⟨b, o, none⟩)) ∧ Below V.heap.size V w') := fun h => by (
 obtain ⟨p, hp, e1, e2, _⟩ := wlk_in hK (xs := xs) h
 simp only at hp e1 e2
 obtain ⟨i, hi⟩ := List.getElem?_of_mem hp
 obtain ⟨b, o, ea, el, ec, fa, fl, fc, hix, -, -, -, hall⟩ := nds_all hA i p hi
 exact ⟨i, p, b, o, hi, e1, e2, hix, fun V hV => ⟨(hall V hV).1.2.1, node_any n0 _ nx l hK.up i p hi b o V (ndsN.below hA hV) (by have := hK.len; simp only at this; omega) hix⟩⟩)
 obtain ⟨post, hpost⟩ : ∃ post : Ending → Prop, post = fun e => (filE l xs ≠ 0 ∧ (∃ E, e = .returned (.tuple #[.pointer none, E]) ∧ EV (filE l xs) E) ∨ filE l xs = 0 ∧ ∃ k p b o, l[k]? = some p ∧ p.1 = (wlk l 1 xs).1 ∧ (∀ W, (Instr.indexAt 27 (.slice a l.length c) (.int .i64 (k : Nat))).run Tryz.prog W = .ok (.pointer (some ⟨b, o, none⟩)) W) ∧ e = .returned (.tuple #[.pointer (some ⟨b, o, none⟩), .nilIface])) := ⟨_, rfl⟩
 have HPo : Hid ((∀ E, filE l xs ≠ 0 → EV (filE l xs) E → post (.returned (.tuple #[.pointer none, E]))) ∧ (∀ k p b o, filE l xs = 0 → l[k]? = some p → p.1 = (wlk l 1 xs).1 → (∀ W, (Instr.indexAt 27 (.slice a l.length c) (.int .i64 (k : Nat))).run Tryz.prog W = .ok (.pointer (some ⟨b, o, none⟩)) W) → post (.returned (.tuple #[.pointer (some ⟨b, o, none⟩), .nilIface])))) :=
   ⟨fun E h1 h2 => by rw [hpost]; exact .inl ⟨h1, E, rfl, h2⟩, fun k p b o h1 h2 h3 h4 => by rw [hpost]; exact .inr ⟨h1, k, p, b, o, h2, h3, h4, rfl⟩⟩
 suffices HH : Calls Tryz.prog 88 #[.agg #[.slice a l.length c, .int .i64 nx], .slice av xs.length cv] w fun e w' => post e ∧ Below w.heap.size w w' by
   rw [hpost] at HH; exact HH
 have hSP : filE l xs = (if (wlk l 1 xs).2 = 0 then (if isD (gt l (wlk l 1 xs).1) = true then 104 else 0) else (wlk l 1 xs).2) := rfl
 generalize filE l xs = SP at HPo hSP
 have HSP : Hid (SP = (if (wlk l 1 xs).2 = 0 then (if isD (gt l (wlk l 1 xs).1) = true then 104 else 0) else (wlk l 1 xs).2)) := hSP
 obtain ⟨n, hn⟩ := exa (l.length)
 rw [← hn] at HNO HPo HW HC hW ⊢
 obtain ⟨m, hm⟩ := exa (xs.length)
 rw [← hm] at HC ⊢
 obtain ⟨g0, g1, -, -⟩ := HW.out.2.two
 rw [hW] at g0 g1
 clear hA hbW hX hK hn hm hpost hSP
 go_enter Tryz.func88, Tryz.ntmps88
 go_wp2_with fail
 rw [← hW]
 clear hW g0 g1
 refine HC.mono ?_
 rintro e w1 ⟨⟨E, rfl, hE⟩, hb1⟩
 have HB1 : Hid (Below w.heap.size w w1 ∧ Box w1 w.heap.size 29 #[.slice a n c, .int .i64 nx]) := ⟨below_any HW.out.1 hb1, HW.out.2.below hb1 HW.out.2.lt⟩
 clear hb1 HC
 rcases hE with ⟨h0, rfl⟩ | ⟨h0, a2, l2, c2, s2, rfl⟩
 · obtain ⟨k, p, b, o, hk, hpi, hgp, hix, hall⟩ := HNO.out h0
   obtain ⟨c1, HCN⟩ := hall w1 HB1.out.1
   obtain ⟨g0, g1, -, -⟩ := HB1.out.2.two
   rw [hpi] at HCN
   have HS : Hid (l[k]? = some p ∧ p.1 = (wlk l 1 xs).1 ∧ (∀ W, (Instr.indexAt 27 (.slice a n c) (.int .i64 (k : Nat))).run Tryz.prog W = .ok (.pointer (some ⟨b, o, none⟩)) W) ∧ (SP = if isD p = true then 104 else 0) ∧ ∀ V, Below w.heap.size w V → V.cell? ⟨b, o + 1, none⟩ = some (.bool p.2.1)) := ⟨hk, hpi, hix, by rw [HSP.out, if_pos h0, hgp], fun V hV => (hall V hV).1⟩
   generalize (wlk l 1 xs).1 = wi at HCN HS HPo
   clear hk hpi hgp hix hall c1 HNO HSP h0
   go_wp2_with fail
   clear g0 g1
   refine HCN.mono ?_
   rintro e w2 ⟨rfl, hb2⟩
   have HB2 : Hid (Below w.heap.size w w2) := below_any HB1.out.1 hb2
   have c1 := HS.out.2.2.2.2 w2 HB2.out
   clear hb2 HCN
   cases hd : p.2.1
   · rw [hd] at c1
     have HZ : Hid (SP = 0) := by show _ = _; rw [HS.out.2.2.2.1, if_neg (by show ¬ p.2.1 = _; rw [hd]; decide)]
     clear hd
     go_wp2
     go_ret2
     exact ⟨HPo.out.2 k p b o HZ.out HS.out.1 HS.out.2.1 HS.out.2.2.1, HB2.out⟩
   · rw [hd] at c1
     have hSP : SP = 104 := by rw [HS.out.2.2.2.1, if_pos hd]
     subst hSP
     have hr := refuse_bad 104 (by decide) av m cv w2
     clear hd
     go_wp2_with (go_at_call 90; refine hr.mono ?_; rintro e w3 ⟨rfl, rfl⟩)
     go_ret2
     exact ⟨HPo.out.1 _ (by decide) (ev_ref (by decide) _ _ _ _), HB2.out⟩
 · have hSP : SP = (wlk l 1 xs).2 := by rw [HSP.out, if_neg h0]
   rw [← hSP] at h0 ⊢
   clear hSP
   go_wp2
   go_ret2
   exact ⟨HPo.out.1 _ h0 (ev_ref h0 _ _ _ _), HB1.out.1⟩
end Go.Proofs.YtopcefhncildnaaGreatDoor
