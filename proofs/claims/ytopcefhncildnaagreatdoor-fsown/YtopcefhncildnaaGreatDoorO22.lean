/-
  What the document's Same answers; octets as a text.
  The document's text of a file, as plain mathematics: of a file that may be it is the file's text.
  What the document's Text tells.
  What the document's Made makes of a text: its file.
  What the document's Check answers: what the program's does.
  What the document's Write makes of a file: what the program's does.
-/
import Derived.Test.YtopcefhncildnaaGreatDoorO21
import Derived.Laws.BytesArg
set_option maxRecDepth 100000
set_option maxHeartbeats 4000000
namespace Go.Proofs.YtopcefhncildnaaGreatDoor.F
open Go.RowKit
theorem conv_any {n0 : Nat} {w : World} {v : Value} {l : List Int} (h : Arg n0 w v l) : (convert 25 9 v).run Tryz.prog w = .ok (.string (strOfNums l)) w := by
 rcases h.split with ⟨rfl, a, cap, rfl⟩ | ⟨b, off, cap, rfl, _, _, _, hcell⟩
 · cases a with
   | none => exact run_convert_bytes_nil w 25 5 Tryz.underlying25 Tryz.underlying5 _ _ 9 Tryz.underlying9
   | some x => (
 rw [run_convert_bytes_string w 25 9 5 _ _ cap Tryz.underlying25 Tryz.underlying5 Tryz.underlying9]
 have := run_bytesToString (P := Tryz.prog) w x 0 cap [] (by simpa using run_loadCells_list (P := Tryz.prog) w x [] (fun j v hj => by simp at hj))
 exact this)
 · exact run_convert_bytes_arg w 25 5 Tryz.underlying25 Tryz.underlying5 b off l.length cap l rfl (fun i hi => by
     rw [hcell i hi]) 9 Tryz.underlying9
theorem u8_bounds {x : Int} (h : (Lit.int .u8 x).wf = true) : 0 ≤ x ∧ x ≤ 255 := by
 simp [Lit.wf, IntKind.min, IntKind.max, IntKind.signed, IntKind.bits] at h
 omega
theorem nums_inj : ∀ {l1 l2 : List Int}, Oct l1 → Oct l2 → (l1.map fun n => UInt8.ofNat n.toNat) = (l2.map fun n => UInt8.ofNat n.toNat) → l1 = l2
 | [], [], _, _, _ => rfl
 | [], _ :: _, _, _, h => by simp at h
 | _ :: _, [], _, _, h => by simp at h
 | a :: r, b :: s, h1, h2, h => by (
 simp only [List.map_cons, List.cons.injEq] at h
 obtain ⟨h3, h4⟩ := h
 have ha := u8_bounds (h1 a (List.mem_cons_self ..))
 have hb := u8_bounds (h2 b (List.mem_cons_self ..))
 have := congrArg UInt8.toNat h3
 rw [UInt8.toNat_ofNat', UInt8.toNat_ofNat', Nat.mod_eq_of_lt (by omega), Nat.mod_eq_of_lt (by omega)] at this
 rw [nums_inj (fun x hx => h1 x (List.mem_cons_of_mem _ hx)) (fun x hx => h2 x (List.mem_cons_of_mem _ hx)) h4, show a = b by omega])
theorem str_inj {l1 l2 : List Int} (h1 : Oct l1) (h2 : Oct l2) (h : (strOfNums l1).toList = (strOfNums l2).toList) : l1 = l2 := by
 refine nums_inj h1 h2 ?_
 rw [ByteArray.toList_eq, ByteArray.toList_eq, strOfNums_data, strOfNums_data] at h
 exact h
theorem alike_b {a b : List Bk} (hl : a.length = b.length) (h : ∀ i : Nat, i < a.length → a[i]? = b[i]?) : a = b := by
 apply List.ext_getElem?
 intro i
 by_cases hi : i < a.length
 · exact h i hi
 · rw [List.getElem?_eq_none (by omega), List.getElem?_eq_none (by omega)]
theorem rsame_any (n1 n2 : Nat) (u1 u2 : List Value) (f1 f2 : Fl) (w : World) (h1 : flR.lies n1 w u1 f1) (h2 : flR.lies n2 w u2 f2) :
   Calls Tryz.prog 173 #[.agg u1.toArray, .agg u2.toArray] w fun e w' => e = .returned (.bool (decide (f1 = f2))) ∧ Below w.heap.size w w' := by
 obtain ⟨a1, c1, rfl, hL1, hi1, hm1⟩ := fl_viewR h1
 obtain ⟨a2, c2, rfl, hL2, hi2, hm2⟩ := fl_viewR h2
 obtain ⟨s1, l1⟩ := f1
 obtain ⟨s2, l2⟩ := f2
 simp only at hL1 hL2 hm1 hm2 ⊢
 unfold maxLen at hm1 hm2
 have hr1 := run_len Tryz.underlying97 a1 l1.length c1
 have hr2 := run_len Tryz.underlying97 a2 l2.length c2
 obtain ⟨W, hW⟩ := exa ((w.alloc (.cells #[.int .i64 s1, .slice a1 l1.length c1] 99)).alloc (.cells #[.int .i64 s2, .slice a2 l2.length c2] 99))
 have hb : Below w.heap.size w W := by rw [hW]; exact ((Below.refl _ w).alloc (Nat.le_refl _) _).alloc (by simp) _
 have hB1 : Box W w.heap.size 99 #[.int .i64 s1, .slice a1 l1.length c1] := by rw [hW]; exact (Box.new _ _ _).alloc _
 have hB2 : Box W (w.heap.size + 1) 99 #[.int .i64 s2, .slice a2 l2.length c2] := by (
 rw [hW]
 have := Box.new (w.alloc (.cells #[.int .i64 s1, .slice a1 l1.length c1] 99)) 99 #[.int .i64 s2, .slice a2 l2.length c2]
 rwa [World.size_alloc] at this)
 have HW : Hid (Below w.heap.size w W ∧ bksR.lies n1 W [.slice a1 l1.length c1] l1 ∧ bksR.lies n2 W [.slice a2 l2.length c2] l2) := ⟨hb, bksR.below hL1 hb, bksR.below hL2 hb⟩
 obtain ⟨p0, p1, _, _⟩ := hB1.two
 obtain ⟨q0, q1, _, _⟩ := hB2.two
 clear h1 h2 hL1 hL2 hi1 hi2 hb hB1 hB2
 by_cases hs : s1 = s2
 case neg => (
 rw [decide_eq_false (fun e => hs (congrArg Prod.fst e))]
 rw [hW] at HW
 clear p0 p1 q0 q1 hW
 go_enter Tryz.func173, Tryz.ntmps173
 go_wp2
 go_ret
 exact ⟨rfl, HW.out.1⟩)
 subst hs
 by_cases hlen : l1.length = l2.length
 case neg => (
 rw [decide_eq_false (fun e => hlen (by rw [(Prod.mk.inj e).2]))]
 have hne : ¬ (l1.length : Int) = (l2.length : Int) := by omega
 rw [hW] at HW
 clear p0 p1 q0 q1 hW
 go_enter Tryz.func173, Tryz.ntmps173
 go_wp2
 go_ret
 exact ⟨rfl, HW.out.1⟩)
 obtain ⟨n, hn⟩ := exa (l1.length)
 have HN : Hid (n = l1.length ∧ n = l2.length) := ⟨hn, by omega⟩
 rw [← hlen] at HW hr2 hW q1 ⊢
 rw [← hn] at HW hr1 hr2 hm1 hW p1 q1 ⊢
 obtain ⟨d, hd⟩ := exa (decide ((s1, l1) = (s1, l2)))
 rw [← hd]
 have HD : Hid (d = decide ((s1, l1) = (s1, l2))) := hd
 rw [hW] at p0 p1 q0 q1
 have HP : Hid (∀ r, Below w.heap.size w (W.drewN r)) := fun r => below_drewN HW.out.1 r
 clear hn hlen hd hm2
 go_enter Tryz.func173, Tryz.ntmps173
 go_wp2
 rw [← hW] at p0 p1 q0 q1 ⊢
 clear hW
 go_loopw [5] (fun i wr => ∃ k : Nat, k ≤ n ∧ i = .int .i64 k ∧ Hid (∀ (i : Nat), i < k → l1[i]? = l2[i]?) ∧ ∃ q, wr = W.drewN q) (fun i _ => n - (intOf i).toNat)
 case atStart => exact ⟨0, Nat.zero_le _, rfl, fun i hi => by omega, 0, rfl⟩
 case round => (
 obtain ⟨k, hk, rfl, HK, q, rfl⟩ := hrel
 by_cases hlt : k < n
 · obtain ⟨x, hx⟩ := get_lt (l := l1) (k := k) (by rw [← HN.out.1]; exact hlt)
   obtain ⟨y, hy⟩ := get_lt (l := l2) (k := k) (by rw [← HN.out.2]; exact hlt)
   obtain ⟨b1, o1, x1, z1, hix1, g1, e1, hA1, _⟩ := bks_atR HW.out.2.1 k x hx
   obtain ⟨b2, o2, x2, z2, hix2, g2, e2, hA2, _⟩ := bks_atR HW.out.2.2 k y hy
   have hkn : (k : Int) < (n : Int) := by omega
   have HXY : Hid (l1[k]? = some x ∧ l2[k]? = some y) := ⟨hx, hy⟩
   have hc1 : ∀ r, (convert 25 9 (.slice x1 x.2.length z1)).run Tryz.prog (W.drewN r) = .ok (.string (strOfNums x.2)) (W.drewN r) := fun r => conv_any (hA1.below (below_drewN (Below.refl _ _) r))
   have hc2 : ∀ r, (convert 25 9 (.slice x2 y.2.length z2)).run Tryz.prog (W.drewN r) = .ok (.string (strOfNums y.2)) (W.drewN r) := fun r => conv_any (hA2.below (below_drewN (Below.refl _ _) r))
   have hinj : ((strOfNums x.2).toList = (strOfNums y.2).toList → x.2 = y.2) ∧ (x.2 = y.2 → strOfNums x.2 = strOfNums y.2) := ⟨fun e => str_inj hA1.oct hA2.oct e, fun e => by rw [e]⟩
   obtain ⟨xi, xd⟩ := x
   obtain ⟨yi, yd⟩ := y
   simp only at g1 g2 e1 e2 hc1 hc2 hinj
   obtain ⟨S1, hS1⟩ := exa (strOfNums xd)
   obtain ⟨S2, hS2⟩ := exa (strOfNums yd)
   obtain ⟨m1, hm1'⟩ := exa (xd.length)
   obtain ⟨m2, hm2'⟩ := exa (yd.length)
   rw [← hS1, ← hm1'] at hc1
   rw [← hS2, ← hm2'] at hc2
   rw [← hS1, ← hS2] at hinj
   rw [← hm1'] at e1
   rw [← hm2'] at e2
   clear hx hy hA1 hA2 hS1 hS2 hm1' hm2'
   by_cases hxy : xi = yi
   · subst hxy
     by_cases hd' : xd = yd
     · have hSS : S1 = S2 := hinj.2 hd'
       subst hSS
       clear hinj
       go_wp2
       go_quiet (fail)
       go_wp2
       go_roundw
       case rel => (
 refine ⟨k + 1, by omega, by go_num, fun i hi => ?_, _, rfl⟩
 by_cases e : i < k
 · exact HK.out i e
 · obtain rfl : i = k := by omega
   rw [HXY.out.1, HXY.out.2, hd'])
       case measure => simp [intOf]; omega
     · have hSS : (S1.toList == S2.toList) = false := by
         rw [beq_eq_false_iff_ne]
         exact fun e => hd' (hinj.1 e)
       have hdf : d = false := by (
 rw [HD.out, decide_eq_false_iff_not]
 intro e
 have h1 := HXY.out.1
 rw [(Prod.mk.inj e).2, HXY.out.2] at h1
 simp at h1
 exact hd' h1.symm)
       subst hdf
       clear hinj hd'
       go_wp2
       go_quiet (fail)
       go_wp2
       go_ret
       exact ⟨rfl, by first | exact HP.out _ | (rw [World.drewN_drewN]; exact HP.out _)⟩
   · have hdf : d = false := by
       rw [HD.out, decide_eq_false_iff_not]
       intro e
       have h1 := HXY.out.1
       rw [(Prod.mk.inj e).2, HXY.out.2] at h1
       simp at h1
       exact hxy h1.1.symm
     subst hdf
     clear hinj hc1 hc2
     go_wp2
     go_quiet (fail)
     go_wp2
     go_ret
     exact ⟨rfl, by first | exact HP.out _ | (rw [World.drewN_drewN]; exact HP.out _)⟩
 · obtain rfl : k = n := by omega
   have hdt : d = true := by (
 rw [HD.out, decide_eq_true_eq]
 rw [alike_b (by have := HN.out; omega) (fun i hi => HK.out i (by rw [HN.out.1]; exact hi))])
   subst hdt
   go_wp2
   go_ret
   exact ⟨rfl, HP.out _⟩)
end Go.Proofs.YtopcefhncildnaaGreatDoor.F
namespace Go.Proofs.YtopcefhncildnaaGreatDoor.F
open Go.RowKit
def put (b : List Int) (p x : Int) : List Int := if 0 ≤ p ∧ p < (b.length : Int) then b.set p.toNat x else b
def wat (i : Int) (k : Nat) : Int := wrap64 (wrap64 (32 * i) + (k : Int))
def layK (b : List Int) (i : Int) (d : List Int) : Nat → List Int
 | 0 => b
 | k + 1 => put (layK b i d k) (wat i k) (oc d k)
def rtl : List Int → List Bk → List Int
 | b, [] => b
 | b, p :: r => rtl (layK b p.1 p.2 p.2.length) r
def rtext (f : Fl) : List Int := rtl (List.replicate f.1.toNat 0) f.2
theorem put_length (b : List Int) (p x : Int) : (put b p x).length = b.length := by unfold put; split <;> simp
theorem put_oct {b : List Int} (h : Oct b) (p : Int) {x : Int} (hx : (Lit.int .u8 x).wf = true) : Oct (put b p x) := by
 unfold put
 split
 · intro y hy
   rcases List.mem_or_eq_of_mem_set hy with h1 | h1
   · exact h y h1
   · rw [h1]; exact hx
 · exact h
theorem layK_length (b : List Int) (i : Int) (d : List Int) : ∀ k, (layK b i d k).length = b.length
 | 0 => rfl
 | k + 1 => by rw [layK, put_length, layK_length b i d k]
theorem rtl_length : ∀ (l : List Bk) (b : List Int), (rtl b l).length = b.length
 | [], _ => rfl
 | p :: r, b => by rw [rtl, rtl_length r, layK_length]
theorem rtext_length (f : Fl) : (rtext f).length = f.1.toNat := by unfold rtext; rw [rtl_length]; simp
theorem wat_in {i k : Nat} (hi : i < 76) (hk : k < 32) : wat (i : Int) k = ((32 * i + k : Nat) : Int) := by
 unfold wat wrap64
 omega
theorem put_get {b : List Int} {p : Nat} {x : Int} {q : Nat} (h : q < b.length) : (put b (p : Int) x).getD q 0 = if q = p then x else b.getD q 0 := by
 unfold put
 by_cases hp : p < b.length
 · rw [if_pos (by omega), Int.toNat_natCast]
   simp only [List.getD_eq_getElem?_getD, List.getElem?_set]
   by_cases e : q = p
   · subst e; simp [h]
   · rw [if_neg (Ne.symm e), if_neg e]
 · rw [if_neg (by omega), if_neg (by omega)]
theorem layK_get {b : List Int} {i : Nat} {d : List Int} (hi : i < 76) {q : Nat} (h : q < b.length) : ∀ {k : Nat}, k ≤ 32 → (layK b (i : Int) d k).getD q 0 = if 32 * i ≤ q ∧ q < 32 * i + k then d.getD (q - 32 * i) 0 else b.getD q 0
 | 0, _ => by rw [if_neg (by omega)]; rfl
 | k + 1, hk => by (
 rw [layK, wat_in hi (by omega), put_get (by rw [layK_length]; exact h), layK_get hi h (by omega)]
 by_cases e : q = 32 * i + k
 · rw [if_pos e, if_pos (by omega), e, show 32 * i + k - 32 * i = k by omega]
   rfl
 · rw [if_neg e]
   by_cases c : 32 * i ≤ q ∧ q < 32 * i + k
   · rw [if_pos c, if_pos (by omega)]
   · rw [if_neg c, if_neg (by omega)])
theorem rtl_get {q : Nat} : ∀ {l : List Bk} {b : List Int}, (∀ p ∈ l, 0 ≤ p.1 ∧ p.1 < 76 ∧ p.2.length = 32) → Rise l → q < b.length → (rtl b l).getD q 0 = ((l.find? fun p => p.1 == ((q / 32 : Nat) : Int)).map fun p => p.2.getD (q % 32) 0).getD (b.getD q 0)
 | [], b, _, _, _ => rfl
 | p :: r, b, h, hr, hq => by (
 obtain ⟨h1, h2⟩ := List.pairwise_cons.1 hr
 obtain ⟨h3, h4, h5⟩ := h p (List.mem_cons_self ..)
 obtain ⟨i, hi⟩ : ∃ i : Nat, p.1 = i := ⟨p.1.toNat, by omega⟩
 rw [rtl, rtl_get (fun x hx => h x (List.mem_cons_of_mem _ hx)) h2 (by rw [layK_length]; exact hq), hi, h5, layK_get (by omega) hq (by omega), List.find?_cons]
 by_cases e : p.1 = ((q / 32 : Nat) : Int)
 · rw [show (p.1 == ((q / 32 : Nat) : Int)) = true by simpa using e]
   rw [List.find?_eq_none.2 (fun x hx => by have := h1 x hx; simp; omega)]
   simp only [Option.map_none, Option.getD_none, Option.map_some, Option.getD_some]
   rw [if_pos (by omega), show q - 32 * i = q % 32 by omega]
 · rw [show (p.1 == ((q / 32 : Nat) : Int)) = false by simpa using e, if_neg (by omega)])
theorem rtext_txt {f : Fl} (h : chk f = true) : rtext f = txt f := by
 refine alike (by rw [rtext_length, txt_length]) fun i hi => ?_
 rw [rtext_length] at hi
 have e : (txt f).getD i 0 = oct f i := txt_get h i
 rw [e]
 unfold rtext
 rw [rtl_get (fun p hp => chk_key h hp) (chk_iff.1 h).2.2 (by simpa using hi)]
 unfold oct bd
 cases hf : f.2.find? fun p => p.1 == ((i / 32 : Nat) : Int) with
 | none => (
 simp only [Option.map_none, Option.getD_none]
 rw [zs_get]
 simp [hi])
 | some p => rfl
theorem chk_made {f : Fl} (hs : 0 ≤ f.1 ∧ f.1 ≤ 2432) : (f = mk (rtext f)) ↔ chk f = true := by
 constructor
 · intro e
   rw [e]
   exact chk_mk (by rw [rtext_length]; omega)
 · intro h
   rw [rtext_txt h, mk_txt h]
end Go.Proofs.YtopcefhncildnaaGreatDoor.F
namespace Go.Proofs.YtopcefhncildnaaGreatDoor.F
open Go.RowKit
theorem drop_at {α : Type} {l : List α} {k : Nat} {x : α} (h : l[k]? = some x) : l.drop k = x :: l.drop (k + 1) := by
 obtain ⟨h1, h2⟩ := List.getElem?_eq_some_iff.1 h
 rw [List.drop_eq_getElem_cons h1, h2]
theorem oc_some {d : List Int} {k : Nat} {x : Int} (h : d[k]? = some x) : oc d k = x := by unfold oc; simp [h]
theorem rows_set {l : List Int} {k : Nat} {x : Int} : (l.map (Value.int .u8)).toArray.setIfInBounds k (.int .u8 x) = ((l.set k x).map (Value.int .u8)).toArray := by
 simp
def RowN (w : World) (g : Nat) (l : List Int) : Prop := w.heap[g]? = some (.cells (l.map (Value.int .u8)).toArray 5 (0, 0))
theorem RowN.lt {w : World} {g : Nat} {l : List Int} (h : RowN w g l) : g < w.heap.size := (Array.getElem?_eq_some_iff.1 h).1
theorem RowN.set {w : World} {g k : Nat} {l : List Int} {x : Int} (h : RowN w g l) : RowN (w.setCell ⟨g, k, none⟩ (.int .u8 x)) g (l.set k x) := by
 have := Box.set (t := 5) h k (.int .u8 x)
 rw [rows_set] at this
 exact this
theorem RowN.cell {w : World} {g k : Nat} {l : List Int} {x : Int} (h : RowN w g l) (hx : l[k]? = some x) : w.cell? ⟨g, k, none⟩ = some (.int .u8 x) := Box.cell (t := 5) h k (by simp [hx])
theorem RowN.frozen {w : World} {g : Nat} {l : List Int} (h : RowN w g l) (k : Nat) : w.frozen? ⟨g, k, none⟩ = false := Box.frozen (t := 5) h k
theorem RowN.index {g m k : Nat} (h : k < m) : ∀ W, (Instr.indexAt 25 (.slice (some ⟨g, 0, none⟩) m m) (.int .i64 k)).run Tryz.prog W = .ok (.pointer (some ⟨g, k, none⟩)) W := fun W => by
 obtain ⟨i0, hi0, _, hz, _⟩ := info_parts Tryz.info5
 have := run_index Tryz.underlying25 hi0 hz g 0 m m k h W
 simpa using this
theorem rtext_any (n0 : Nat) (us : List Value) (f : Fl) (w : World) (h : flR.lies n0 w us f) (hs : 0 ≤ f.1 ∧ f.1 ≤ 2432) :
   Calls Tryz.prog 108 #[.agg us.toArray] w fun e w' => (∃ v, e = .returned v ∧ Own1 w.heap.size w' v (rtext f)) ∧ Below w.heap.size w w' := by
 obtain ⟨a, c, rfl, hL, hi, hm⟩ := fl_viewR h
 obtain ⟨s, l⟩ := f
 simp only at hL hi hm hs ⊢
 unfold maxLen at hm
 obtain ⟨m, rfl⟩ : ∃ m : Nat, s = m := ⟨s.toNat, by omega⟩
 have hm2 : m ≤ 2432 := by omega
 obtain ⟨o, hmk, ho⟩ := make_row (w.alloc (.cells #[.int .i64 (m : Int), .slice a l.length c] 99)) m (by omega)
 rw [World.size_alloc] at hmk
 have HO : Hid (o = .cells ((List.replicate m (0 : Int)).map (Value.int .u8)).toArray 5 (0, 0)) := ho
 have HL : Hid (bksR.lies n0 w [.slice a l.length c] l) := hL
 obtain ⟨n, hn⟩ := exa (l.length)
 have HN : Hid (n = l.length) := hn
 rw [← hn] at HL hm hmk ⊢
 have hl1 := run_len Tryz.underlying97 a n c
 have hl2 := run_len Tryz.underlying25 (some ⟨w.heap.size + 1, 0, none⟩) m m
 have HRT : Hid (rtext ((m : Int), l) = rtl (List.replicate m 0) l) := rfl
 obtain ⟨R, hR⟩ := exa (rtext ((m : Int), l))
 rw [← hR] at HRT ⊢
 have HST : Hid (Below w.heap.size w ((w.alloc (.cells #[.int .i64 (m : Int), .slice a n c] 99)).alloc o) ∧ Box ((w.alloc (.cells #[.int .i64 (m : Int), .slice a n c] 99)).alloc o) w.heap.size 99 #[.int .i64 (m : Int), .slice a n c] ∧ RowN ((w.alloc (.cells #[.int .i64 (m : Int), .slice a n c] 99)).alloc o) (w.heap.size + 1) (List.replicate m 0)) := by (
 refine ⟨((Below.refl _ w).alloc (Nat.le_refl _) _).alloc (by simp) _, (Box.new _ _ _).alloc _, ?_⟩
 rw [ho]
 have := heap_alloc_new (w.alloc (.cells #[.int .i64 (m : Int), .slice a n c] 99)) (.cells ((List.replicate m (0 : Int)).map (Value.int .u8)).toArray 5 (0, 0))
 rw [World.size_alloc] at this
 exact this)
 clear h hL hi ho hn hR hs
 go_enter Tryz.func108, Tryz.ntmps108
 go_wp2
 go_loopw [4] (fun i wr => ∃ (k : Nat) (cur : List Int), k ≤ n ∧ i = .int .i64 k ∧ Hid (R = rtl cur (l.drop k) ∧ cur.length = m ∧ Oct cur) ∧ RowN wr (w.heap.size + 1) cur ∧ Below w.heap.size w wr ∧ Box wr w.heap.size 99 #[.int .i64 (m : Int), .slice a n c]) (fun i _ => n - (intOf i).toNat)
 case atStart => exact ⟨0, _, Nat.zero_le _, rfl, ⟨HRT.out, by simp, zeros_oct _⟩, HST.out.2.2, HST.out.1, HST.out.2.1⟩
 case round => (
 obtain ⟨k, cur, hk, rfl, HK, hrow, hbel, hbx⟩ := hrel
 by_cases hlt : k < n
 · obtain ⟨p, hp⟩ := get_lt (l := l) (k := k) (by rw [← HN.out]; exact hlt)
   have hki : (k : Int) < (n : Int) := by omega
   obtain ⟨q0, q1, _, _⟩ := hbx.two
   have HP : Hid (l[k]? = some p ∧ l.drop k = p :: l.drop (k + 1)) := ⟨hp, drop_at hp⟩
   have HE : Hid (∀ V, Below w.heap.size w V → ∃ b o x cap, (∀ W, (Instr.indexAt 97 (.slice a n c) (.int .i64 k)).run Tryz.prog W = .ok (.pointer (some ⟨b, o, none⟩)) W) ∧ V.cell? ⟨b, o, none⟩ = some (.int .i64 p.1) ∧ V.cell? ⟨b, o + 1, none⟩ = some (.slice x p.2.length cap) ∧ Arg n0 V (.slice x p.2.length cap) p.2 ∧ I64 p.1 ∧ n0 ≤ b) := fun V hV => bks_atR (bksR.below HL.out hV) k p hp
   obtain ⟨b0, o0, x0, cap0, hix, g0, g1, hA, hpi, _⟩ := bks_atR HL.out k p hp
   have HX : Hid (∀ V, Below w.heap.size w V → V.cell? ⟨b0, o0, none⟩ = some (.int .i64 p.1) ∧ V.cell? ⟨b0, o0 + 1, none⟩ = some (.slice x0 p.2.length cap0) ∧ Arg n0 V (.slice x0 p.2.length cap0) p.2) := fun V hV => ⟨by rw [hV.cell (cell_lt g0)]; exact g0, by rw [hV.cell (cell_lt g1)]; exact g1, hA.below hV⟩
   have HS : Hid (p.2.length ≤ 9223372036854775807) := by (
 obtain ⟨_, _, hv, _, hmx, _⟩ := hA.shape
 exact hmx)
   have HCUR : Hid (RowN wr (w.heap.size + 1) cur ∧ Below w.heap.size w wr ∧ Box wr w.heap.size 99 #[.int .i64 (m : Int), .slice a n c]) := ⟨hrow, hbel, hbx⟩
   obtain ⟨pi, pd⟩ := p
   simp only at HX HS hpi
   obtain ⟨dl, hdl⟩ := exa (pd.length)
   have HDL : Hid (dl = pd.length) := hdl
   rw [← hdl] at HX HS
   have hl3 := run_len Tryz.underlying25 x0 dl cap0
   clear hp g0 g1 hA hrow hbel hbx hdl HE
   go_wp2
   clear q0 q1
   go_loopw [5] (fun i wr => ∃ j : Nat, j ≤ dl ∧ i = .int .i64 j ∧ RowN wr (w.heap.size + 1) (layK cur pi pd j) ∧ Below w.heap.size w wr ∧ Box wr w.heap.size 99 #[.int .i64 (m : Int), .slice a n c]) (fun i _ => dl - (intOf i).toNat)
   case atStart => exact ⟨0, Nat.zero_le _, rfl, HCUR.out⟩
   case round => (
 obtain ⟨j, hj, rfl, hrow, hbel, hbx⟩ := hrel
 obtain ⟨q0, q1, _, _⟩ := hbx.two
 obtain ⟨g0, g1, hA⟩ := HX.out wr hbel
 have hdm := HS.out
 by_cases hjl : j < dl
 · have hji : (j : Int) < (dl : Int) := by omega
   obtain ⟨x, hx⟩ := get_lt (l := pd) (k := j) (by rw [← HDL.out]; exact hjl)
   obtain ⟨bx, ox, hixx, _, gx, hxw⟩ := hA.at j x hx
   have HLY : Hid (layK cur pi pd (j + 1) = put (layK cur pi pd j) (wat pi j) x ∧ (layK cur pi pd j).length = m) := by (
 refine ⟨?_, by rw [layK_length]; exact HK.out.2.1⟩
 rw [layK, oc_some hx])
   have HRB : Hid (RowN wr (w.heap.size + 1) (layK cur pi pd j) ∧ Below w.heap.size w wr ∧ Box wr w.heap.size 99 #[.int .i64 (m : Int), .slice a n c]) := ⟨hrow, hbel, hbx⟩
   obtain ⟨A, hAA⟩ := exa (wat pi j)
   have hwr : wrap64 (wrap64 (32 * pi) + (j : Int)) = A := hAA.symm
   by_cases hin : 0 ≤ A ∧ A < (m : Int)
   · obtain ⟨t, rfl⟩ : ∃ t : Nat, A = t := ⟨A.toNat, by omega⟩
     have htm : t < m := by omega
     have hixr := RowN.index (g := w.heap.size + 1) (m := m) (k := t) htm
     have hfz := hrow.frozen t
     obtain ⟨y, hy⟩ := get_lt (l := layK cur pi pd j) (k := t) (by rw [HLY.out.2]; exact htm)
     have hcy := hrow.cell hy
     have HNX : Hid (RowN (wr.setCell ⟨w.heap.size + 1, t, none⟩ (.int .u8 x)) (w.heap.size + 1) (layK cur pi pd (j + 1))) := by (
 show RowN _ _ _
 rw [HLY.out.1, ← hAA]
 unfold put
 rw [if_pos (by rw [HLY.out.2]; omega), Int.toNat_natCast]
 exact hrow.set)
     have hti : (0 : Int) ≤ (t : Int) ∧ (t : Int) < (m : Int) := by omega
     clear hA hbx hbel hrow hx hy hAA hin
     go_wp2
     go_roundw
     case rel => exact ⟨j + 1, by omega, by go_num, HNX.out, HRB.out.2.1.setCell (p := ⟨w.heap.size + 1, t, none⟩) (by simp) _, HRB.out.2.2.other (by omega)⟩
     case measure => simp [intOf]; omega
   · have HNX : Hid (RowN wr (w.heap.size + 1) (layK cur pi pd (j + 1))) := by
       show RowN _ _ _
       rw [HLY.out.1, ← hAA]
       unfold put
       rw [if_neg (by rw [HLY.out.2]; exact hin)]
       exact hrow
     by_cases h0 : 0 ≤ A
     · have h1 : ¬ A < (m : Int) := fun h => hin ⟨h0, h⟩
       clear hA hbx hbel hrow hx hAA hin
       go_wp2
       go_roundw
       case rel => exact ⟨j + 1, by omega, by go_num, HNX.out, HRB.out.2.1, HRB.out.2.2⟩
       case measure => simp [intOf]; omega
     · clear hA hbx hbel hrow hx hAA hin
       go_wp2
       go_roundw
       case rel => exact ⟨j + 1, by omega, by go_num, HNX.out, HRB.out.2.1, HRB.out.2.2⟩
       case measure => simp [intOf]; omega
 · obtain rfl : j = dl := by omega
   have HNX : Hid (RowN wr (w.heap.size + 1) (layK cur pi pd j) ∧ Below w.heap.size w wr ∧ Box wr w.heap.size 99 #[.int .i64 (m : Int), .slice a n c]) := ⟨hrow, hbel, hbx⟩
   have HK2 : Hid (R = rtl (layK cur pi pd j) (l.drop (k + 1)) ∧ (layK cur pi pd j).length = m ∧ Oct (layK cur pi pd j)) := by (
 refine ⟨by rw [HK.out.1, HP.out.2, rtl, HDL.out], by rw [layK_length]; exact HK.out.2.1, ?_⟩
 clear HDL hl3 HX HNX hrow
 have hoct : Oct pd := hA.oct
 have : ∀ q, Oct (layK cur pi pd q) := fun q => by (
 induction q with
 | zero => exact HK.out.2.2
 | succ q ih => exact put_oct ih _ (getD_oct hoct q))
 exact this j)
   clear hA hbx hbel hrow
   go_wp2
   go_roundw
   case rel => exact ⟨k + 1, _, by omega, by go_num, HK2, HNX.out⟩
   case measure => simp [intOf]; omega)
 · obtain rfl : k = n := by omega
   have hR : cur = R := by rw [HK.out.1, HN.out, List.drop_length]; rfl
   subst hR
   have HF : Hid (Own1 w.heap.size wr (.slice (some ⟨w.heap.size + 1, 0, none⟩) m m) cur) := row_arg hrow (by omega) HK.out.2.1 (by unfold maxLen; omega) HK.out.2.2
   obtain ⟨q0, q1, _, _⟩ := hbx.two
   clear hrow hbx
   go_wp2
   go_ret
   exact ⟨⟨_, rfl, HF.out⟩, hbel⟩)
end Go.Proofs.YtopcefhncildnaaGreatDoor.F
namespace Go.Proofs.YtopcefhncildnaaGreatDoor.F
open Go.RowKit
def cur (b : List Int) (i k : Nat) : List Int := (List.range 32).map fun q => if q < k then oc b (32 * i + q) else 0
theorem cur_length (b : List Int) (i k : Nat) : (cur b i k).length = 32 := by simp [cur]
theorem cur_get (b : List Int) (i k q : Nat) (h : q < 32) : (cur b i k).getD q 0 = if q < k then oc b (32 * i + q) else 0 := range_get _ _ _ _ h
theorem cur_zero (b : List Int) (i : Nat) : cur b i 0 = zs := alike (by rw [cur_length]; rfl) fun q hq => by
 rw [cur_length] at hq
 rw [cur_get _ _ _ _ hq, if_neg (by omega), zs_get]
theorem cur_set (b : List Int) (i k : Nat) : (cur b i k).set k (oc b (32 * i + k)) = cur b i (k + 1) := by
 refine alike (by rw [List.length_set, cur_length, cur_length]) fun q hq => ?_
 rw [List.length_set, cur_length] at hq
 rw [cur_get _ _ _ _ hq]
 have e := cur_get b i k q hq
 simp only [List.getD_eq_getElem?_getD, List.getElem?_set] at e ⊢
 by_cases h : k = q
 · subst h
   rw [if_pos rfl, if_pos (by rw [cur_length]; exact hq), if_pos (by omega)]
   rfl
 · rw [if_neg h, e]
   by_cases h2 : q < k
   · rw [if_pos h2, if_pos (by omega)]
   · rw [if_neg h2, if_neg (by omega)]
theorem cur_done {b : List Int} {i k : Nat} (h : k = 32 ∨ b.length ≤ 32 * i + k) : cur b i k = tb (oc b) i := tb_of (cur_length _ _ _) fun q hq => by
 rw [cur_get _ _ _ _ hq]
 by_cases h2 : q < k
 · rw [if_pos h2]
 · rw [if_neg h2, oc_out (by omega)]
theorem cur_isz {b : List Int} {i k : Nat} (hk : k < 32) : isz (cur b i (k + 1)) = (isz (cur b i k) && decide (oc b (32 * i + k) = 0)) := by
 rw [Bool.eq_iff_iff]
 simp only [Bool.and_eq_true, decide_eq_true_eq]
 constructor
 · intro h
   refine ⟨isz_of fun q hq => ?_, ?_⟩
   · rw [cur_length] at hq
     have := isz_get h q
     rw [cur_get _ _ _ _ hq] at this ⊢
     by_cases h2 : q < k
     · rw [if_pos (by omega)] at this; rw [if_pos h2]; exact this
     · rw [if_neg h2]
   · have := isz_get h k
     rw [cur_get _ _ _ _ hk, if_pos (by omega)] at this
     exact this
 · rintro ⟨h1, h2⟩
   refine isz_of fun q hq => ?_
   rw [cur_length] at hq
   rw [cur_get _ _ _ _ hq]
   by_cases h3 : q < k
   · have := isz_get h1 q
     rw [cur_get _ _ _ _ hq, if_pos h3] at this
     rw [if_pos (by omega)]; exact this
   · by_cases h4 : q = k
     · rw [if_pos (by omega), h4]; exact h2
     · rw [if_neg (by omega)]
theorem oc_oct {b : List Int} (h : Oct b) (i : Nat) : (Lit.int .u8 (oc b i)).wf = true := getD_oct h i
theorem cur_oct {b : List Int} (h : Oct b) (i k : Nat) : Oct (cur b i k) := fun x hx => by
 obtain ⟨q, _, rfl⟩ := List.mem_map.1 hx
 split
 · exact oc_oct h _
 · decide
theorem RowN.own {w : World} {g base : Nat} {l : List Int} (h : RowN w g l) (hl : l.length = 32) (ho : Oct l) (hb : base ≤ g) : Own1 base w (.slice (some ⟨g, 0, none⟩) 32 32) l := Row.own ⟨h, hl, ho⟩ hb
theorem made_any (n0 : Nat) (v : Value) (b : List Int) (w : World) (h : Arg n0 w v b) (hlen : b.length ≤ 2432) :
   Calls Tryz.prog 107 #[v] w fun e w' => (∃ us', e = .returned (.agg us'.toArray) ∧ flR.lies w.heap.size w' us' (mk b)) ∧ Below w.heap.size w w' := by
 obtain ⟨a, c, rfl, _, _, _⟩ := h.shape
 obtain ⟨i6, hi6, hz60, hz61, hz62⟩ := info_parts Tryz.info163
 have HA : Hid (∀ V, Below w.heap.size w V → Arg n0 V (.slice a b.length c) b) := fun V hV => h.below hV
 obtain ⟨n, hn⟩ := exa (b.length)
 have HN : Hid (n = b.length ∧ Oct b) := ⟨hn, h.oct⟩
 rw [← hn] at HA hlen ⊢
 have hl1 := run_len Tryz.underlying25 a n c
 have HMK : Hid (mk b = ((n : Int), mkL (tb (oc b)) 76)) := by rw [hn]; rfl
 obtain ⟨F, hF⟩ := exa (mk b)
 rw [← hF] at HMK ⊢
 have HST : Hid (Below w.heap.size w ((w.alloc (.cells #[.int .i64 0, .slice none 0 0] 99)).alloc (.cells #[.int .i64 (n : Int), .slice none 0 0] 99)) ∧ Box ((w.alloc (.cells #[.int .i64 0, .slice none 0 0] 99)).alloc (.cells #[.int .i64 (n : Int), .slice none 0 0] 99)) w.heap.size 99 #[.int .i64 0, .slice none 0 0] ∧ Box ((w.alloc (.cells #[.int .i64 0, .slice none 0 0] 99)).alloc (.cells #[.int .i64 (n : Int), .slice none 0 0] 99)) (w.heap.size + 1) 99 #[.int .i64 (n : Int), .slice none 0 0]) := by (
 refine ⟨((Below.refl _ w).alloc (Nat.le_refl _) _).alloc (by simp) _, (Box.new _ _ _).alloc _, ?_⟩
 have := Box.new (w.alloc (.cells #[.int .i64 0, .slice none 0 0] 99)) 99 #[.int .i64 (n : Int), .slice none 0 0]
 rwa [World.size_alloc] at this)
 clear h hn hF
 go_enter Tryz.func107, Tryz.ntmps107
 go_wp2
 go_loopw [4] (fun x wr => ∃ (i A : Nat) (v : Value), Hid (A = 32 * i) ∧ A < n + 32 ∧ x = .int .i64 (A : Int) ∧ Box wr w.heap.size 99 #[.int .i64 0, .slice none 0 0] ∧ Box wr (w.heap.size + 1) 99 #[.int .i64 (n : Int), v] ∧ bksR.owns (w.heap.size + 2) wr [v] (mkL (tb (oc b)) i) ∧ Below w.heap.size w wr) (fun x _ => n + 32 - (intOf x).toNat)
 case atStart => exact ⟨0, 0, _, rfl, by omega, rfl, HST.out.2.1, HST.out.2.2, Shape.list_nil bkR 97 Tryz.underlying97 cells97 _ _, HST.out.1⟩
 case round => (
 obtain ⟨i, A, v, HAI, hAn, rfl, hB0, hB1, hO, hbel⟩ := hrel
 obtain ⟨wo, rfl⟩ := exa (wr)
 by_cases hlt : A < n
 · have hmk := make32 wo
   have hAi : (A : Int) < (n : Int) := by omega
   have HW : Hid (Box wo w.heap.size 99 #[.int .i64 0, .slice none 0 0] ∧ Box wo (w.heap.size + 1) 99 #[.int .i64 (n : Int), v] ∧ bksR.owns (w.heap.size + 2) wo [v] (mkL (tb (oc b)) i) ∧ Below w.heap.size w wo ∧ w.heap.size + 2 ≤ wo.heap.size) := ⟨hB0, hB1, hO, hbel, hB1.lt⟩
   have HR0 : Hid (RowN (wo.alloc (.cells zeros32.toArray 5)) wo.heap.size zs ∧ Below wo.heap.size wo (wo.alloc (.cells zeros32.toArray 5))) := ⟨(row_new wo).1, (Below.refl _ _).alloc (Nat.le_refl _) _⟩
   clear hB0 hB1 hO hbel
   go_wp2
   go_loopw [6, 7] (fun s x wr => ∃ (k : Nat) (sm : Bool), k ≤ 32 ∧ A + k ≤ n ∧ x = .int .i64 (k : Int) ∧ s = .bool sm ∧ Hid (sm = !isz (cur b i k)) ∧ RowN wr wo.heap.size (cur b i k) ∧ Below wo.heap.size wo wr) (fun _ x _ => 32 - (intOf x).toNat)
   case atStart => exact ⟨0, false, by omega, by omega, rfl, rfl, by rw [cur_zero]; exact (show false = !isz zs by decide), by rw [cur_zero]; exact HR0.out.1, HR0.out.2⟩
   case round => (
 obtain ⟨k, sm, hk, hAk, rfl, rfl, HSM, hrow, hbk⟩ := hrel
 have hk32 : (k : Int) ≤ 32 := by omega
 by_cases h32 : k < 32
 · by_cases hAkn : A + k < n
   · have hAkI : (A : Int) + (k : Int) < (n : Int) := by omega
     obtain ⟨x, hx⟩ := get_lt (l := b) (k := A + k) (by rw [← HN.out.1]; exact hAkn)
     obtain ⟨bx, ox, hixx, _, gx, hxw⟩ := (HA.out wr (below_any HW.out.2.2.2.1 hbk)).at (A + k) x hx
     have hixb : ∀ W, (Instr.indexAt 25 (.slice a n c) (.int .i64 ((A : Int) + (k : Int)))).run Tryz.prog W = .ok (.pointer (some ⟨bx, ox, none⟩)) W := fun W => by (
 have := hixx W
 rwa [show (((A + k : Nat)) : Int) = (A : Int) + (k : Int) by omega] at this)
     have hixr := RowN.index (g := wo.heap.size) (m := 32) (k := k) h32
     have hfz := hrow.frozen k
     obtain ⟨y, hy⟩ := get_lt (l := cur b i k) (k := k) (by rw [cur_length]; exact h32)
     have hcy := hrow.cell hy
     have hoc : oc b (32 * i + k) = x := by rw [← HAI.out]; exact oc_some hx
     have hnx : RowN (wr.setCell ⟨wo.heap.size, k, none⟩ (.int .u8 x)) wo.heap.size (cur b i (k + 1)) := by (
 rw [← cur_set, hoc]
 exact hrow.set)
     have hcx := hnx.cell (k := k) (x := x) (by
       have e := cur_get b i (k + 1) k h32
       rw [if_pos (by omega), hoc] at e
       have hkl : k < (cur b i (k + 1)).length := by rw [cur_length]; exact h32
       rw [List.getElem?_eq_getElem hkl]
       simpa [List.getElem?_eq_getElem hkl] using e)
     have HNX : Hid (RowN (wr.setCell ⟨wo.heap.size, k, none⟩ (.int .u8 x)) wo.heap.size (cur b i (k + 1)) ∧ Below wo.heap.size wo (wr.setCell ⟨wo.heap.size, k, none⟩ (.int .u8 x))) := ⟨hnx, hbk.setCell (p := ⟨wo.heap.size, k, none⟩) (Nat.le_refl _) _⟩
     have HIZ : Hid (isz (cur b i (k + 1)) = (isz (cur b i k) && decide (x = 0))) := by (
 show _ = _
 rw [cur_isz h32, hoc])
     clear hixx hx hy hnx hrow hbk hoc
     cases sm
     · by_cases hx0 : x = 0
       · subst hx0
         have HS2 : Hid (false = !isz (cur b i (k + 1))) := by (
 show _ = _
 rw [HIZ.out]
 have := HSM.out
 simp at this
 simp [this])
         go_wp2
         go_roundw
         case rel => exact ⟨k + 1, false, by omega, by omega, by go_num, rfl, HS2, HNX.out.1, HNX.out.2⟩
         case measure => simp [intOf]; omega
       · have HS2 : Hid (true = !isz (cur b i (k + 1))) := by
           show _ = _
           rw [HIZ.out]
           simp [hx0]
         go_wp2
         go_roundw
         case rel => exact ⟨k + 1, true, by omega, by omega, by go_num, by simp [hx0], HS2, HNX.out.1, HNX.out.2⟩
         case measure => simp [intOf]; omega
     · have HS2 : Hid (true = !isz (cur b i (k + 1))) := by
         show _ = _
         rw [HIZ.out]
         have := HSM.out
         simp at this ⊢
         simp [this]
       go_wp2
       go_roundw
       case rel => exact ⟨k + 1, true, by omega, by omega, by go_num, rfl, HS2, HNX.out.1, HNX.out.2⟩
       case measure => simp [intOf]; omega
   · have hAkI : ¬ (A : Int) + (k : Int) < (n : Int) := by omega
     have HCD : Hid (cur b i k = tb (oc b) i) := cur_done (.inr (by have := HAI.out; have := HN.out.1; omega))
     have hq : (A : Int) / 32 = (i : Int) := by have := HAI.out; omega
     have HSI : Hid (i < 76) := by have := HAI.out; show i < 76; omega
     have HRW : Hid (RowN wr wo.heap.size (tb (oc b) i) ∧ Below wo.heap.size wo wr) := ⟨by rw [← HCD.out]; exact hrow, hbk⟩
     have hX0 := HW.out.1.below hbk HW.out.1.lt
     have hX1 := HW.out.2.1.below hbk HW.out.2.1.lt
     obtain ⟨q0, q1, f0, f1⟩ := hX1.two
     have hO := bksR.obelow HW.out.2.2.1 hbk
     have hMS := mkL_succ (tb (oc b)) i
     have hsm := HSM.out
     rw [HCD.out] at hsm
     clear hrow hbk
     cases sm
     · have hz : isz (tb (oc b) i) = true := by simpa using hsm
       rw [hz, if_pos rfl] at hMS
       have HE : Hid (Box wr w.heap.size 99 #[.int .i64 0, .slice none 0 0] ∧ Box wr (w.heap.size + 1) 99 #[.int .i64 (n : Int), v] ∧ bksR.owns (w.heap.size + 2) wr [v] (mkL (tb (oc b)) (i + 1)) ∧ Below w.heap.size w wr) := ⟨hX0, hX1, by rw [hMS]; exact hO, below_any HW.out.2.2.2.1 HRW.out.2⟩
       clear hX0 hX1 hO hMS hsm q0 q1 f0 f1
       go_wp2
       go_roundw
       case rel => exact ⟨i + 1, A + 32, v, by have := HAI.out; show _ = _; omega, by omega, by go_num, HE.out⟩
       case measure => simp [intOf]; omega
     · have hz : isz (tb (oc b) i) = false := by simpa using hsm
       rw [hz, if_neg (by simp)] at hMS
       obtain ⟨v', vss, hv', hown, hE⟩ := hO
       obtain rfl : v = v' := by simpa using hv'
       obtain ⟨va, vc, rfl⟩ := own_shape hown
       obtain ⟨ml, hml⟩ := exa ((mkL (tb (oc b)) i).length)
       have hmlb := mkL_length (tb (oc b)) i
       rw [← hml] at hown hmlb q1 hX1
       have hml2 : ml ≤ 76 := by have := HSI.out; omega
       have HY : Hid (Box wr w.heap.size 99 #[.int .i64 0, .slice none 0 0] ∧ Box wr (w.heap.size + 1) 99 #[.int .i64 (n : Int), .slice va ml vc] ∧ wr.ownsRow (w.heap.size + 2) 163 2 (.slice va ml vc) ml vss.flatten ∧ Each (bkR.owns (w.heap.size + 2) wr) vss (mkL (tb (oc b)) i) ∧ ml = (mkL (tb (oc b)) i).length ∧ mkL (tb (oc b)) (i + 1) = mkL (tb (oc b)) i ++ [((i : Int), tb (oc b) i)] ∧ w.heap.size + 2 ≤ wr.heap.size ∧ Below w.heap.size w wr) := ⟨hX0, hX1, hown, hE, hml, hMS, hX1.lt, below_any HW.out.2.2.2.1 HRW.out.2⟩
       clear hX0 hX1 hMS hsm hown hE hml hmlb hv'
       go_wp2_with (at_builtin; refine wpList_append_lies _ (by rfl) _ _ 97 (by rfl) (w.heap.size + 2) 163 i6 _ 2 32 Tryz.underlying97 hi6 hz60 hz61 hz62 rfl (by omega) _ ml _ (by rfl) (HY.out.2.2.1.alloc _) ⟨wr.heap.size, 0, none⟩ 1 1 [.int .i64 (i : Int), .slice (some ⟨wo.heap.size, 0, none⟩) 32 32] (by rfl) (by rfl) (World.news_of_block (cs := #[.int .i64 (i : Int), .slice (some ⟨wo.heap.size, 0, none⟩) 32 32]) (t := 163) (fr := (0, 0)) (heap_alloc_new wr _)) (by simp [Value.oneCell']) (by omega) (by unfold maxLen; omega) (by omega) (by have := HY.out.2.2.2.2.2.2.1; simp; omega) (wr.heap.size + 1) (by simp) ?_; intro gg cap3 w3 hown3 hgrow3 hat hltg; have hy0 := (HY.out.1.alloc (.cells #[.int .i64 (i : Int), .slice (some ⟨wo.heap.size, 0, none⟩) 32 32] 163)).grown hgrow3 (row_ne HY.out.2.2.1 (by omega)); have hy1 := (HY.out.2.1.alloc (.cells #[.int .i64 (i : Int), .slice (some ⟨wo.heap.size, 0, none⟩) 32 32] 163)).grown hgrow3 (row_ne HY.out.2.2.1 (by omega)); obtain ⟨y0, y1, z0, z1⟩ := hy1.two)
       obtain ⟨h1, h2, h3, h4, h5, h6, h7, h8⟩ := HY.out
       have hSA : Same (w.heap.size + 2) wr (wr.alloc (.cells #[.int .i64 (i : Int), .slice (some ⟨wo.heap.size, 0, none⟩) 32 32] 163)) := .alloc _ _ _
       have hG3 : bksR.owns (w.heap.size + 2) w3 [.slice (some ⟨gg, 0, none⟩) (ml + 1) cap3] (mkL (tb (oc b)) (i + 1)) := by (
 rw [h6]
 refine Shape.list_push (S := bkR) (ht := Tryz.underlying97) (hc := cells97) (us := [.int .i64 (i : Int), .slice (some ⟨wo.heap.size, 0, none⟩) 32 32]) (by decide) (h4.mono fun _ _ h => bkR.osame h hSA) (by rw [← h5]; exact own_same h3 hSA) ?_ hgrow3 ?_
 · exact bk_omk (p := ((i : Int), tb (oc b) i)) (bytesS.osame (RowN.own HRW.out.1 (tb_length _ _) (by rw [← HCD.out]; exact cur_oct HN.out.2 _ _) HW.out.2.2.2.2) hSA) ⟨by have := HSI.out; omega, by have := HSI.out; omega⟩
 · rw [← h5]; exact hown3)
       refine ⟨⟨i + 1, A + 32, _, by have := HAI.out; show _ = _; omega, by omega, by go_num, hy0.other (by omega), hy1.set 1 _, bksR.osame hG3 (.set (by omega)), ?_⟩, ?_⟩
       · exact ((h8.alloc (by omega) _).grown hgrow3 (by simp; omega) (fun t ht => by have := (h3.lt t ht).1; omega)).setCell (p := ⟨w.heap.size + 1, 1, none⟩) (by simp) _
       · simp [intOf]; omega
 · have hk32' : ¬ (k : Int) < 32 := by omega
   have HCD : Hid (cur b i k = tb (oc b) i) := cur_done (.inl (by omega))
   have hq : (A : Int) / 32 = (i : Int) := by have := HAI.out; omega
   have HSI : Hid (i < 76) := by have := HAI.out; show i < 76; omega
   have HRW : Hid (RowN wr wo.heap.size (tb (oc b) i) ∧ Below wo.heap.size wo wr) := ⟨by rw [← HCD.out]; exact hrow, hbk⟩
   have hX0 := HW.out.1.below hbk HW.out.1.lt
   have hX1 := HW.out.2.1.below hbk HW.out.2.1.lt
   obtain ⟨q0, q1, f0, f1⟩ := hX1.two
   have hO := bksR.obelow HW.out.2.2.1 hbk
   have hMS := mkL_succ (tb (oc b)) i
   have hsm := HSM.out
   rw [HCD.out] at hsm
   clear hrow hbk
   cases sm
   · have hz : isz (tb (oc b) i) = true := by simpa using hsm
     rw [hz, if_pos rfl] at hMS
     have HE : Hid (Box wr w.heap.size 99 #[.int .i64 0, .slice none 0 0] ∧ Box wr (w.heap.size + 1) 99 #[.int .i64 (n : Int), v] ∧ bksR.owns (w.heap.size + 2) wr [v] (mkL (tb (oc b)) (i + 1)) ∧ Below w.heap.size w wr) := ⟨hX0, hX1, by rw [hMS]; exact hO, below_any HW.out.2.2.2.1 HRW.out.2⟩
     clear hX0 hX1 hO hMS hsm q0 q1 f0 f1
     go_wp2
     go_roundw
     case rel => exact ⟨i + 1, A + 32, v, by have := HAI.out; show _ = _; omega, by omega, by go_num, HE.out⟩
     case measure => simp [intOf]; omega
   · have hz : isz (tb (oc b) i) = false := by simpa using hsm
     rw [hz, if_neg (by simp)] at hMS
     obtain ⟨v', vss, hv', hown, hE⟩ := hO
     obtain rfl : v = v' := by simpa using hv'
     obtain ⟨va, vc, rfl⟩ := own_shape hown
     obtain ⟨ml, hml⟩ := exa ((mkL (tb (oc b)) i).length)
     have hmlb := mkL_length (tb (oc b)) i
     rw [← hml] at hown hmlb q1 hX1
     have hml2 : ml ≤ 76 := by have := HSI.out; omega
     have HY : Hid (Box wr w.heap.size 99 #[.int .i64 0, .slice none 0 0] ∧ Box wr (w.heap.size + 1) 99 #[.int .i64 (n : Int), .slice va ml vc] ∧ wr.ownsRow (w.heap.size + 2) 163 2 (.slice va ml vc) ml vss.flatten ∧ Each (bkR.owns (w.heap.size + 2) wr) vss (mkL (tb (oc b)) i) ∧ ml = (mkL (tb (oc b)) i).length ∧ mkL (tb (oc b)) (i + 1) = mkL (tb (oc b)) i ++ [((i : Int), tb (oc b) i)] ∧ w.heap.size + 2 ≤ wr.heap.size ∧ Below w.heap.size w wr) := ⟨hX0, hX1, hown, hE, hml, hMS, hX1.lt, below_any HW.out.2.2.2.1 HRW.out.2⟩
     clear hX0 hX1 hMS hsm hown hE hml hmlb hv'
     go_wp2_with (at_builtin; refine wpList_append_lies _ (by rfl) _ _ 97 (by rfl) (w.heap.size + 2) 163 i6 _ 2 32 Tryz.underlying97 hi6 hz60 hz61 hz62 rfl (by omega) _ ml _ (by rfl) (HY.out.2.2.1.alloc _) ⟨wr.heap.size, 0, none⟩ 1 1 [.int .i64 (i : Int), .slice (some ⟨wo.heap.size, 0, none⟩) 32 32] (by rfl) (by rfl) (World.news_of_block (cs := #[.int .i64 (i : Int), .slice (some ⟨wo.heap.size, 0, none⟩) 32 32]) (t := 163) (fr := (0, 0)) (heap_alloc_new wr _)) (by simp [Value.oneCell']) (by omega) (by unfold maxLen; omega) (by omega) (by have := HY.out.2.2.2.2.2.2.1; simp; omega) (wr.heap.size + 1) (by simp) ?_; intro gg cap3 w3 hown3 hgrow3 hat hltg; have hy0 := (HY.out.1.alloc (.cells #[.int .i64 (i : Int), .slice (some ⟨wo.heap.size, 0, none⟩) 32 32] 163)).grown hgrow3 (row_ne HY.out.2.2.1 (by omega)); have hy1 := (HY.out.2.1.alloc (.cells #[.int .i64 (i : Int), .slice (some ⟨wo.heap.size, 0, none⟩) 32 32] 163)).grown hgrow3 (row_ne HY.out.2.2.1 (by omega)); obtain ⟨y0, y1, z0, z1⟩ := hy1.two)
     obtain ⟨h1, h2, h3, h4, h5, h6, h7, h8⟩ := HY.out
     have hSA : Same (w.heap.size + 2) wr (wr.alloc (.cells #[.int .i64 (i : Int), .slice (some ⟨wo.heap.size, 0, none⟩) 32 32] 163)) := .alloc _ _ _
     have hG3 : bksR.owns (w.heap.size + 2) w3 [.slice (some ⟨gg, 0, none⟩) (ml + 1) cap3] (mkL (tb (oc b)) (i + 1)) := by (
 rw [h6]
 refine Shape.list_push (S := bkR) (ht := Tryz.underlying97) (hc := cells97) (us := [.int .i64 (i : Int), .slice (some ⟨wo.heap.size, 0, none⟩) 32 32]) (by decide) (h4.mono fun _ _ h => bkR.osame h hSA) (by rw [← h5]; exact own_same h3 hSA) ?_ hgrow3 ?_
 · exact bk_omk (p := ((i : Int), tb (oc b) i)) (bytesS.osame (RowN.own HRW.out.1 (tb_length _ _) (by rw [← HCD.out]; exact cur_oct HN.out.2 _ _) HW.out.2.2.2.2) hSA) ⟨by have := HSI.out; omega, by have := HSI.out; omega⟩
 · rw [← h5]; exact hown3)
     refine ⟨⟨i + 1, A + 32, _, by have := HAI.out; show _ = _; omega, by omega, by go_num, hy0.other (by omega), hy1.set 1 _, bksR.osame hG3 (.set (by omega)), ?_⟩, ?_⟩
     · exact ((h8.alloc (by omega) _).grown hgrow3 (by simp; omega) (fun t ht => by have := (h3.lt t ht).1; omega)).setCell (p := ⟨w.heap.size + 1, 1, none⟩) (by simp) _
     · simp [intOf]; omega)
 · have HMO : Hid (mkL (tb (oc b)) i = mkL (tb (oc b)) 76) := by
     refine (mkL_more (by have := HAI.out; omega) fun j h1 h2 => isz_of fun q hq => ?_).symm
     rw [tb_length] at hq
     rw [tb_get _ _ _ hq]
     exact oc_out (by have := HAI.out; have := HN.out.1; omega)
   have hAi : ¬ (A : Int) < (n : Int) := by omega
   obtain ⟨va, vc, _, hv', hown, _⟩ := Shape.list_own (S := bkR) (ht := Tryz.underlying97) (hc := cells97) hO
   obtain rfl : v = _ := by simpa using hv'
   obtain ⟨ml, hml⟩ := exa ((mkL (tb (oc b)) i).length)
   rw [← hml] at hO hB1
   have HE : Hid (bksR.owns (w.heap.size + 2) wo [.slice va ml vc] (mkL (tb (oc b)) 76)) := by (
 show bksR.owns _ _ _ _
 rw [← HMO.out]; exact hO)
   obtain ⟨q0, q1, _, _⟩ := hB1.two
   obtain ⟨d0, d1, e0, e1⟩ := hB0.two
   have HBL : Hid (Below w.heap.size w wo) := hbel
   clear hown hO hml hv' hB0 hB1 hbel
   go_wp2
   refine bodyPost_ret (v := .agg #[.int .i64 (n : Int), .slice va ml vc]) (by simp [results, Tryz.results107, go_sem, *]) rfl ⟨⟨[_, _], rfl, ?_⟩, below_set2 HBL.out (by omega) _ _⟩
   rw [HMK.out]
   exact flR.weaken (n := w.heap.size + 2) (flR.keep (fl_mkR (s := ((n : Int), mkL (tb (oc b)) 76)) (bksR.olies HE.out) ⟨by omega, by omega⟩) (.set2 (by omega))) (by omega))
end Go.Proofs.YtopcefhncildnaaGreatDoor.F
namespace Go.Proofs.YtopcefhncildnaaGreatDoor.F
open Go.RowKit
theorem rcheck_any (n0 : Nat) (us : List Value) (f : Fl) (w : World) (h : flR.lies n0 w us f) :
   Calls Tryz.prog 106 #[.agg us.toArray] w fun e w' => e = .returned (.int .i64 (cerr f)) ∧ Below w.heap.size w w' := by
 obtain ⟨a, c, rfl, _, hi, hm⟩ := fl_viewR h
 obtain ⟨s, l⟩ := f
 simp only at hi hm ⊢
 unfold I64 at hi
 obtain ⟨W, hW⟩ := exa (w.alloc (.cells #[.int .i64 s, .slice a l.length c] 99))
 have hb : Below w.heap.size w W := by rw [hW]; exact (Below.refl _ w).alloc (Nat.le_refl _) _
 have hB : Box W w.heap.size 99 #[.int .i64 s, .slice a l.length c] := by rw [hW]; exact Box.new _ _ _
 obtain ⟨g0, g1, _, _⟩ := hB.two
 have HB : Hid (∀ r, Below w.heap.size w (W.drewN r)) := fun r => below_drewN hb r
 have HX : Hid (Box W w.heap.size 99 #[.int .i64 s, .slice a l.length c] ∧ flR.lies n0 W [.int .i64 s, .slice a l.length c] (s, l) ∧ Below w.heap.size w W) := ⟨hB, flR.below h hb, hb⟩
 obtain ⟨n, hn⟩ := exa (l.length)
 rw [← hn] at hW HX g1 ⊢
 clear h hb hB hm hn
 by_cases h0 : s < 0
 · rw [show cerr (s, l) = 9 by unfold cerr chk; rw [decide_eq_false (show ¬ (0 ≤ (s, l).1 ∧ (s, l).1 ≤ 2432) by simp only; omega)]; rfl]
   clear HX
   go_enter Tryz.func106, Tryz.ntmps106
   go_wp2
   rw [← hW]
   clear hW
   go_quiet (fail)
   go_wp2
   go_ret
   exact ⟨rfl, HB.out _⟩
 by_cases h1 : 2432 < s
 · rw [show cerr (s, l) = 9 by unfold cerr chk; rw [decide_eq_false (show ¬ (0 ≤ (s, l).1 ∧ (s, l).1 ≤ 2432) by simp only; omega)]; rfl]
   clear HX
   go_enter Tryz.func106, Tryz.ntmps106
   go_wp2
   rw [← hW]
   clear hW
   go_quiet (fail)
   go_wp2
   go_ret
   exact ⟨rfl, HB.out _⟩
 have hin : 0 ≤ s ∧ s ≤ 2432 := by omega
 have HMD : Hid (decide ((s, l) = mk (rtext (s, l))) = chk (s, l) ∧ (rtext (s, l)).length ≤ 2432) := by (
 refine ⟨?_, by rw [rtext_length]; simp only; omega⟩
 rw [Bool.eq_iff_iff, decide_eq_true_eq]
 exact chk_made hin)
 have HT : Hid (Calls Tryz.prog 108 #[.agg #[.int .i64 s, .slice a n c]] W.drew fun e w' => (∃ v, e = .returned v ∧ Own1 W.heap.size w' v (rtext (s, l))) ∧ Below W.heap.size W w') :=
   (rtext_any n0 [.int .i64 s, .slice a n c] (s, l) W.drew (flR.keep HX.out.2.1 (.drew _ _)) hin).mono fun e w' h => ⟨h.1, ((Below.refl _ W).drew).trans h.2⟩
 cases hck : chk (s, l)
 all_goals
   rw [hck] at HMD
   first
     | rw [show cerr (s, l) = 9 by unfold cerr; rw [hck]; rfl]
     | rw [show cerr (s, l) = 0 by unfold cerr; rw [hck]; rfl]
   go_enter Tryz.func106, Tryz.ntmps106
   go_wp2
   rw [← hW]
   clear hW
   have hd0 : decide (s < 0) = false := decide_eq_false (by omega)
   have hd1 : decide (2432 < s) = false := decide_eq_false (by omega)
   go_region_held3 (fun V => V.cell? ⟨w.heap.size, 0, none⟩ = some (.int .i64 s) ∧ V.cell? ⟨w.heap.size, 1, none⟩ = some (.slice a n c)) (first | exact ⟨g0, g1⟩ | exact ⟨x0, x1⟩ | exact ⟨y0, y1⟩ | exact ⟨z0, z1⟩)
     ((first
       | (go_at_call 108; go_simp; refine Calls.mono HT.out ?_; rintro e w2 ⟨⟨v2, rfl, hv2⟩, hb2⟩; obtain ⟨a2, c2, rfl⟩ := hv2.shape; have HB2 : Hid (Box w2 w.heap.size 99 #[.int .i64 s, .slice a n c] ∧ flR.lies n0 w2 [.int .i64 s, .slice a n c] (s, l) ∧ Below w.heap.size w w2 ∧ Own1 W.heap.size w2 (.slice a2 (rtext (s, l)).length c2) (rtext (s, l))) := ⟨HX.out.1.below hb2 HX.out.1.lt, flR.below HX.out.2.1 hb2, below_any HX.out.2.2 hb2, hv2⟩; obtain ⟨x0, x1, _, _⟩ := HB2.out.1.two; clear hv2 hb2)
       | (go_at_call 107; go_simp; refine Calls.mono (made_any W.heap.size _ _ _ HB2.out.2.2.2.arg HMD.out.2) ?_; rintro e w3 ⟨⟨us3, rfl, hu3⟩, hb3⟩; have HB3 : Hid (Box w3 w.heap.size 99 #[.int .i64 s, .slice a n c] ∧ flR.lies n0 w3 [.int .i64 s, .slice a n c] (s, l) ∧ Below w.heap.size w w3 ∧ flR.lies w2.heap.size w3 us3 (mk (rtext (s, l)))) := ⟨HB2.out.1.below hb3 HB2.out.1.lt, flR.below HB2.out.2.1 hb3, below_any HB2.out.2.2.1 hb3, hu3⟩; obtain ⟨y0, y1, _, _⟩ := HB3.out.1.two; clear hu3 hb3)
       | (go_at_call 173; go_simp; refine Calls.mono (rsame_any n0 w2.heap.size [.int .i64 s, .slice a n c] us3 _ _ _ HB3.out.2.1 HB3.out.2.2.2) ?_; rintro e w4 ⟨rfl, hb4⟩; rw [HMD.out.1]; have HB4 : Hid (Box w4 w.heap.size 99 #[.int .i64 s, .slice a n c] ∧ Below w.heap.size w w4) := ⟨HB3.out.1.below hb4 HB3.out.1.lt, below_any HB3.out.2.2.1 hb4⟩; obtain ⟨z0, z1, _, _⟩ := HB4.out.1.two; clear hb4)))
   go_wp2
   go_ret
   exact ⟨rfl, HB4.out.2⟩
end Go.Proofs.YtopcefhncildnaaGreatDoor.F
namespace Go.Proofs.YtopcefhncildnaaGreatDoor.F
open Go.RowKit
def TwoR (w : World) (V : World) (s : Int) (v : Value) : Prop := Below w.heap.size w V ∧ Box V w.heap.size 99 #[.int .i64 s, v] ∧ Box V (w.heap.size + 1) 99 #[.int .i64 0, .slice none 0 0]
theorem TwoR.start (w : World) (s : Int) (v : Value) : TwoR w ((w.alloc (.cells #[.int .i64 s, v] 99)).alloc (.cells #[.int .i64 0, .slice none 0 0] 99)) s v := by
 refine ⟨((Below.refl _ w).alloc (Nat.le_refl _) _).alloc (by simp) _, (Box.new _ _ _).alloc _, ?_⟩
 have := Box.new (w.alloc (.cells #[.int .i64 s, v] 99)) 99 #[.int .i64 0, .slice none 0 0]
 rwa [World.size_alloc] at this
theorem TwoR.below {w V V' : World} {s : Int} {v : Value} (h : TwoR w V s v) (hb : Below V.heap.size V V') : TwoR w V' s v := ⟨below_any h.1 hb, h.2.1.below hb h.2.1.lt, h.2.2.below hb h.2.2.lt⟩
theorem TwoR.lt {w V : World} {s : Int} {v : Value} (h : TwoR w V s v) : w.heap.size + 2 ≤ V.heap.size := h.2.2.lt
theorem TwoR.cells {w V : World} {s : Int} {v : Value} (h : TwoR w V s v) : V.cell? ⟨w.heap.size, 0, none⟩ = some (.int .i64 s) ∧ V.cell? ⟨w.heap.size, 1, none⟩ = some v ∧ V.cell? ⟨w.heap.size + 1, 0, none⟩ = some (.int .i64 0) ∧ V.cell? ⟨w.heap.size + 1, 1, none⟩ = some (.slice none 0 0) ∧ V.frozen? ⟨w.heap.size + 1, 0, none⟩ = false ∧ V.frozen? ⟨w.heap.size + 1, 1, none⟩ = false :=
 ⟨h.2.1.two.1, h.2.1.two.2.1, h.2.2.two.1, h.2.2.two.2.1, h.2.2.two.2.2.1, h.2.2.two.2.2.2⟩
theorem TwoR.grown {w V V' : World} {s : Int} {v : Value} {g : Nat} (h : TwoR w V s v) (hg : V.grownBy V' (some g)) (hn : w.heap.size + 2 ≤ g) : TwoR w V' s v := ⟨h.1.grown hg h.1.size (fun i hi => by cases hi; omega), h.2.1.grown hg (by simp; omega), h.2.2.grown hg (by simp; omega)⟩
theorem TwoR.ends {w V : World} {s : Int} {v : Value} (h : TwoR w V s v) {n0 : Nat} {us : List Value} {f : Fl} (hn : w.heap.size + 2 ≤ n0) (hl : flR.lies n0 V us f) (x y : Value) : flR.lies w.heap.size ((V.setCell ⟨w.heap.size + 1, 0, none⟩ x).setCell ⟨w.heap.size + 1, 1, none⟩ y) us f ∧ Below w.heap.size w ((V.setCell ⟨w.heap.size + 1, 0, none⟩ x).setCell ⟨w.heap.size + 1, 1, none⟩ y) :=
 ⟨flR.weaken (flR.keep hl (.set2 (by omega))) (by omega), below_set2 h.1 (by omega) _ _⟩
def wl (t d : List Int) (p N j : Nat) : List Int := (List.range N).map fun q => if p ≤ q ∧ q < p + j then oc d (q - p) else oc t q
theorem wl_length (t d : List Int) (p N j : Nat) : (wl t d p N j).length = N := by simp [wl]
theorem wl_get (t d : List Int) (p N j q : Nat) (h : q < N) : (wl t d p N j).getD q 0 = if p ≤ q ∧ q < p + j then oc d (q - p) else oc t q := range_get _ _ _ _ h
theorem wl_start (t d : List Int) (p z : Nat) : wl t d p (t.length + z) 0 = t ++ List.replicate z 0 := by
 refine alike (by rw [wl_length]; simp) fun q hq => ?_
 rw [wl_length] at hq
 rw [wl_get _ _ _ _ _ _ hq, if_neg (by omega)]
 unfold oc
 simp only [List.getD_eq_getElem?_getD]
 by_cases h : q < t.length
 · rw [List.getElem?_append_left h]
 · rw [List.getElem?_append_right (by omega), List.getElem?_eq_none (by omega), List.getElem?_replicate, if_pos (by omega)]
   rfl
theorem wl_set (t d : List Int) (p N j : Nat) : (wl t d p N j).set (p + j) (oc d j) = wl t d p N (j + 1) := by
 refine alike (by rw [List.length_set, wl_length, wl_length]) fun q hq => ?_
 rw [List.length_set, wl_length] at hq
 rw [wl_get _ _ _ _ _ _ hq]
 have e := wl_get t d p N j q hq
 simp only [List.getD_eq_getElem?_getD, List.getElem?_set] at e ⊢
 by_cases h : p + j = q
 · subst h
   rw [if_pos rfl, if_pos (by rw [wl_length]; exact hq), if_pos (by omega), show p + j - p = j by omega]
   rfl
 · rw [if_neg h, e]
   by_cases h2 : p ≤ q ∧ q < p + j
   · rw [if_pos h2, if_pos (by omega)]
   · rw [if_neg h2, if_neg (by omega)]
theorem wl_done {t d : List Int} {p : Nat} (hd : d.length ≠ 0) : wl t d p (max t.length (p + d.length)) d.length = wrT t p d := by
 unfold wrT
 rw [if_neg hd]
 rfl
theorem wl_oct {t d : List Int} (ht : Oct t) (hd : Oct d) (p N j : Nat) : Oct (wl t d p N j) := fun x hx => by
 obtain ⟨q, _, rfl⟩ := List.mem_map.1 hx
 split
 · exact oc_oct hd _
 · exact oc_oct ht _
theorem snoc_zeros (t : List Int) (z : Nat) : t ++ List.replicate (z + 1) 0 = t ++ List.replicate z 0 ++ [0] := by
 rw [List.replicate_succ', List.append_assoc]
def lenOf : Value → Nat
 | .slice _ n _ => n
 | _ => 0
theorem rwrite_any (n0 n1 : Nat) (us : List Value) (f : Fl) (off : Int) (v : Value) (d : List Int) (w : World) (h : flR.lies n0 w us f) (hoff : I64 off) (hv : Arg n1 w v d) :
   Calls Tryz.prog 54 #[.agg us.toArray, .int .i64 off, v] w fun e w' => (∃ us', e = .returned (.tuple #[.agg us'.toArray, .int .i64 (wrE f off d)]) ∧ flR.lies w.heap.size w' us' (wrF f off d)) ∧ Below w.heap.size w w' := by
 obtain ⟨a, c, rfl, _, hi, hm⟩ := fl_viewR h
 obtain ⟨s, l⟩ := f
 obtain ⟨x, cap, rfl, hcap, hdm, _⟩ := hv.shape
 simp only at hi hm ⊢
 unfold maxLen at hm hdm
 unfold I64 at hoff
 have hld := run_len Tryz.underlying25 x d.length cap
 obtain ⟨W, hW⟩ := exa ((w.alloc (.cells #[.int .i64 s, .slice a l.length c] 99)).alloc (.cells #[.int .i64 0, .slice none 0 0] 99))
 have hT : TwoR w W s (.slice a l.length c) := by rw [hW]; exact TwoR.start _ _ _
 have HC := rcheck_any n0 [.int .i64 s, .slice a l.length c] (s, l) W (flR.below h hT.1)
 have HT : Hid (TwoR w W s (.slice a l.length c)) := hT
 have HL : Hid (flR.lies n0 w [.int .i64 s, .slice a l.length c] (s, l) ∧ Arg n1 w (.slice x d.length cap) d) := ⟨h, hv⟩
 obtain ⟨g0, g1, _⟩ := hT.cells
 obtain ⟨n, hn⟩ := exa (l.length)
 rw [← hn] at hW HT HL HC g1 ⊢
 rw [hW] at g0 g1
 clear h hi hT hv hm hn
 cases hck : chk (s, l)
 case false => (
 rw [show cerr (s, l) = 9 by unfold cerr; rw [hck]; rfl] at HC
 have e1 : wrE (s, l) off d = 9 := by exact if_pos hck
 have e2 : wrF (s, l) off d = (0, []) := if_neg (by rw [e1]; omega)
 rw [e1, e2]
 clear e1 e2
 go_enter Tryz.func54, Tryz.ntmps54
 go_wp2_with fail
 rw [← hW]
 clear hW g0 g1
 refine HC.mono ?_
 rintro e w1 ⟨rfl, hb1⟩
 have HT1 : Hid (TwoR w w1 s (.slice a n c)) := HT.out.below hb1
 obtain ⟨_, _, t0, t1, f0, f1⟩ := HT1.out.cells
 clear HC hb1
 go_wp2
 refine bodyPost_ret (v := .tuple #[.agg #[.int .i64 0, .slice none 0 0], .int .i64 9]) (by simp [results, Tryz.results54, go_sem, *]) rfl ⟨⟨[_, _], rfl, fl_nilR _ _⟩, below_set2 HT1.out.1 (by omega) _ _⟩)
 rw [show cerr (s, l) = 0 by unfold cerr; rw [hck]; rfl] at HC
 by_cases ho0 : off < 0
 · have e1 : wrE (s, l) off d = 4 := by unfold wrE; rw [if_neg (by rw [hck]; simp), if_pos ho0]
   have e2 : wrF (s, l) off d = (0, []) := if_neg (by rw [e1]; omega)
   rw [e1, e2]
   clear e1 e2
   go_enter Tryz.func54, Tryz.ntmps54
   go_wp2_with fail
   rw [← hW]
   clear hW g0 g1
   refine HC.mono ?_
   rintro e w1 ⟨rfl, hb1⟩
   have HT1 : Hid (TwoR w w1 s (.slice a n c)) := HT.out.below hb1
   obtain ⟨_, _, t0, t1, f0, f1⟩ := HT1.out.cells
   clear HC hb1
   go_wp2
   refine bodyPost_ret (v := .tuple #[.agg #[.int .i64 0, .slice none 0 0], .int .i64 4]) (by simp [results, Tryz.results54, go_sem, *]) rfl ⟨⟨[_, _], rfl, fl_nilR _ _⟩, below_set2 HT1.out.1 (by omega) _ _⟩
 obtain ⟨hs, _, _⟩ := chk_iff.1 hck
 simp only at hs
 obtain ⟨t, ht⟩ := exa (txt (s, l))
 obtain ⟨S, hS⟩ : ∃ S : Nat, s = S := ⟨s.toNat, by omega⟩
 have HTX : Hid (t.length = S ∧ S ≤ 2432) := ⟨by rw [ht, txt_length]; simp only; omega, by omega⟩
 have HTT : Hid (∀ V, Below w.heap.size w V → Calls Tryz.prog 108 #[.agg #[.int .i64 s, .slice a n c]] V fun e w' => (∃ v, e = .returned v ∧ Own1 V.heap.size w' v t) ∧ Below V.heap.size V w') := fun V hV => by (
 have := rtext_any n0 [.int .i64 s, .slice a n c] (s, l) V (flR.below HL.out.1 hV) hs
 rw [rtext_txt hck, ← ht] at this
 exact this)
 by_cases hd0 : d.length = 0
 · have e1 : wrE (s, l) off d = 0 := by unfold wrE; rw [if_neg (by rw [hck]; simp), if_neg ho0, if_pos hd0]
   have e2 : wrF (s, l) off d = mk t := by (
 unfold wrF
 rw [if_pos e1, wrT_none _ hd0, ht])
   rw [e1, e2]
   have hdz : (d.length : Int) = 0 := by omega
   obtain ⟨dl, hdl⟩ := exa (d.length)
   rw [← hdl] at hld hdz HL ⊢
   clear e1 e2 hck ht hS hdl hd0 hcap hdm
   go_enter Tryz.func54, Tryz.ntmps54
   go_wp2_with fail
   rw [← hW]
   clear hW g0 g1
   refine HC.mono ?_
   rintro e w1 ⟨rfl, hb1⟩
   have HT1 : Hid (TwoR w w1 s (.slice a n c)) := HT.out.below hb1
   obtain ⟨r0, r1, _⟩ := HT1.out.cells
   clear HC hb1
   go_wp2_with fail
   refine (HTT.out _ HT1.out.1).mono ?_
   rintro e w2 ⟨⟨v2, rfl, hv2⟩, hb2⟩
   have HT2 : Hid (TwoR w w2 s (.slice a n c) ∧ w1.heap.size ≤ w2.heap.size) := ⟨HT1.out.below hb2, hb2.size⟩
   have HM := made_any w1.heap.size v2 t w2 hv2.arg (by have := HTX.out; omega)
   obtain ⟨a2, c2, rfl⟩ := hv2.shape
   rw [HTX.out.1] at HM ⊢
   clear hv2 hb2 r0 r1
   go_wp2_with fail
   refine HM.mono ?_
   rintro e w3 ⟨⟨us3, rfl, hu3⟩, hb3⟩
   have HT3 : Hid (TwoR w w3 s (.slice a n c)) := HT2.out.1.below hb3
   obtain ⟨y0, y1, y2, y3, y4, y5⟩ := HT3.out.cells
   obtain ⟨a3, c3, rfl, _⟩ := fl_viewR hu3
   obtain ⟨s3, hs3⟩ := exa ((mk t).1)
   obtain ⟨l3, hl3⟩ := exa ((mk t).2.length)
   rw [← hs3, ← hl3] at hu3 ⊢
   have HU3 : Hid (flR.lies w2.heap.size w3 [.int .i64 s3, .slice a3 l3 c3] (mk t)) := hu3
   clear hu3 hb3 HM hs3 hl3
   go_wp2
   refine bodyPost_ret (v := .tuple #[.agg #[.int .i64 s3, .slice a3 l3 c3], .int .i64 0]) (by simp [results, Tryz.results54, go_sem, *]) rfl ?_
   obtain ⟨h1, h2⟩ := HT3.out.ends (Nat.le_trans HT1.out.lt HT2.out.2) HU3.out (.int .i64 s3) (.slice a3 l3 c3)
   exact ⟨⟨_, rfl, h1⟩, h2⟩
 obtain ⟨p, rfl⟩ : ∃ p : Nat, off = p := ⟨off.toNat, by omega⟩
 obtain ⟨dl, hdl⟩ := exa (d.length)
 by_cases hbig : 2432 < (p : Int) + (d.length : Int)
 · have e1 : wrE (s, l) (p : Int) d = 107 := by unfold wrE; rw [if_neg (by rw [hck]; simp), if_neg ho0, if_neg hd0, if_pos hbig]
   have e2 : wrF (s, l) (p : Int) d = (0, []) := if_neg (by rw [e1]; omega)
   rw [e1, e2]
   rw [← hdl] at hld hbig hd0 hdm ⊢
   have hdz : ¬ (dl : Int) = 0 := by omega
   clear e1 e2 hck ht hS HTT HTX HL hdl hcap hd0
   by_cases hp : (2432 : Int) < (p : Int)
   all_goals
     have hq : 2432 - (p : Int) < (dl : Int) := by omega
     go_enter Tryz.func54, Tryz.ntmps54
     go_wp2_with fail
     rw [← hW]
     clear hW g0 g1
     refine HC.mono ?_
     rintro e w1 ⟨rfl, hb1⟩
     have HT1 : Hid (TwoR w w1 s (.slice a n c)) := HT.out.below hb1
     obtain ⟨_, _, t0, t1, f0, f1⟩ := HT1.out.cells
     clear HC hb1
     go_wp2
     refine bodyPost_ret (v := .tuple #[.agg #[.int .i64 0, .slice none 0 0], .int .i64 107]) (by simp [results, Tryz.results54, go_sem, *]) rfl ⟨⟨[_, _], rfl, fl_nilR _ _⟩, below_set2 HT1.out.1 (by omega) _ _⟩
 have e1 : wrE (s, l) (p : Int) d = 0 := by unfold wrE; rw [if_neg (by rw [hck]; simp), if_neg ho0, if_neg hd0, if_neg hbig]
 have e2 : wrF (s, l) (p : Int) d = mk (wrT t p d) := by
   unfold wrF
   rw [if_pos e1, Int.toNat_natCast, ht]
 rw [e1, e2]
 have hpd : (p : Int) + (dl : Int) ≤ 2432 := by omega
 obtain ⟨N, hN⟩ := exa (max S (p + dl))
 have HNN : Hid (N = max S (p + dl) ∧ wl t d p N dl = wrT t p d ∧ N ≤ 2432) := by (
 refine ⟨hN, ?_, by have := HTX.out.2; omega⟩
 rw [hN, hdl, ← HTX.out.1]
 exact wl_done hd0)
 obtain ⟨R, hR⟩ := exa (wrT t p d)
 rw [← hR] at HNN ⊢
 obtain ⟨i0, hi0, hz0, hz1, hz2⟩ := info_parts Tryz.info5
 have HDA : Hid (∀ V, Below w.heap.size w V → Arg n1 V (.slice x dl cap) d) := fun V hV => by rw [hdl]; exact HL.out.2.below hV
 have HDL : Hid (dl = d.length) := hdl
 rw [← hdl] at hld hd0 ⊢
 have hdz : ¬ (dl : Int) = 0 := by omega
 have hpn : ¬ (2432 : Int) < (p : Int) := by omega
 have hqn : ¬ 2432 - (p : Int) < (dl : Int) := by omega
 have hp0 : ¬ (p : Int) < 0 := by omega
 clear e1 e2 hck ht hS hN hR HL hdl hcap hbig hoff hdm
 go_enter Tryz.func54, Tryz.ntmps54
 go_wp2_with fail
 rw [← hW]
 clear hW g0 g1
 refine HC.mono ?_
 rintro e w1 ⟨rfl, hb1⟩
 have HT1 : Hid (TwoR w w1 s (.slice a n c)) := HT.out.below hb1
 obtain ⟨r0, r1, _⟩ := HT1.out.cells
 clear HC hb1
 go_wp2_with fail
 refine (HTT.out _ HT1.out.1).mono ?_
 rintro e w2 ⟨⟨v2, rfl, hv2⟩, hb2⟩
 have HT2 : Hid (TwoR w w2 s (.slice a n c) ∧ w1.heap.size ≤ w2.heap.size ∧ Own1 w1.heap.size w2 v2 t) := ⟨HT1.out.below hb2, hb2.size, hv2⟩
 clear hv2 hb2 r0 r1
 have HNB := HNN.out.1
 have HNT := HTX.out
 have hNb : S ≤ N ∧ p + dl ≤ N ∧ (N = S ∨ N = p + dl) ∧ N ≤ 2432 := by have := HNN.out.2.2; omega
 have HNI : Hid (S ≤ N ∧ p + dl ≤ N ∧ (N = S ∨ N = p + dl) ∧ N ≤ 2432) := hNb
 clear HNB HNT hNb
 go_wp2
 go_loopw [8] (fun o wr => ∃ (z : Nat), S + z ≤ N ∧ Own1 w1.heap.size wr o (t ++ List.replicate z 0) ∧ TwoR w wr s (.slice a n c) ∧ w1.heap.size ≤ wr.heap.size) (fun o _ => N - lenOf o)
 case atStart => exact ⟨0, by have := HNI.out; omega, by simpa using HT2.out.2.2, HT2.out.1, HT2.out.2.1⟩
 case round => (
 obtain ⟨z, hz, hown, hTV, hsz⟩ := hrel
 obtain ⟨va, vc, rfl⟩ := hown.shape
 have hlen : (t ++ List.replicate z 0).length = S + z := by rw [List.length_append, List.length_replicate, HTX.out.1]
 rw [hlen] at hown ⊢
 have hl1 := run_len Tryz.underlying25 va (S + z) vc
 have hni := HNI.out
 by_cases hlt : S + z < p + dl
 · have h1 : (S : Int) + (z : Int) < (p : Int) + (dl : Int) := by omega
   have hrow := hown.row
   rw [hlen] at hrow
   obtain ⟨K, hK⟩ := exa (S + z)
   rw [← hK] at hrow hl1 hlt ⊢
   have h1' : (K : Int) < (p : Int) + (dl : Int) := by omega
   have HO : Hid (wr.ownsRow w1.heap.size 5 1 (.slice va K vc) K ((t ++ List.replicate z 0).map (Value.int .u8)) ∧ TwoR w wr s (.slice a n c) ∧ w1.heap.size ≤ wr.heap.size ∧ Oct (t ++ List.replicate z 0) ∧ K = S + z) := ⟨hrow, hTV, hsz, hown.oct, hK⟩
   have hKb : K ≤ 2432 := by omega
   clear hown hrow hTV hsz hlen hK hni h1 hz
   go_wp2_with (at_builtin; refine wpList_append_lies _ (by rfl) _ _ 25 (by rfl) w1.heap.size 5 i0 _ 1 1 Tryz.underlying25 hi0 hz0 hz1 hz2 rfl (by omega) _ K _ (by rfl) (HO.out.1.alloc _) ⟨wr.heap.size, 0, none⟩ 1 1 [.int .u8 0] (by rfl) (by rfl) (World.news_of_block (cs := #[.int .u8 0]) (t := 5) (fr := (0, 0)) (heap_alloc_new wr _)) (by simp [Value.oneCell']) (by omega) (by unfold maxLen; omega) (by omega) (by have := HO.out.2.2.1; simp; omega) (wr.heap.size + 1) (by simp) ?_; intro gg cap3 w3 hown3 hgrow3 hat hltg)
   obtain ⟨h2, h3, h4, h5, h6⟩ := HO.out
   refine ⟨⟨z + 1, by have := HNI.out; omega, ?_, ?_, ?_⟩, ?_⟩
   · rw [snoc_zeros]
     refine .mk ?_ ?_
     · rw [List.length_append, List.length_append, List.length_replicate, HTX.out.1, ← h6, List.map_append]
       exact hown3
     · intro y hy
       rcases List.mem_append.1 hy with hy | hy
       · exact h5 y hy
       · rw [List.mem_singleton.1 hy]; decide
   · refine ⟨(h3.1.alloc h3.1.size _).grown hgrow3 (by have := h3.1.size; simp; omega) (fun i hi => by have := (h2.lt i hi).1; have := HT1.out.lt; omega), (h3.2.1.alloc _).grown hgrow3 (row_ne h2 (by have := HT1.out.lt; omega)), (h3.2.2.alloc _).grown hgrow3 (row_ne h2 (by have := HT1.out.lt; omega))⟩
   · have := hgrow3.size
     simp at this
     omega
   · have := HNI.out
     simp only [lenOf]
     omega
 · have hNe : S + z = N := by omega
   rw [hNe] at hown hl1 hlt ⊢
   have h1 : ¬ (N : Int) < (p : Int) + (dl : Int) := by omega
   have hnpos : N ≠ 0 := by omega
   have hwl : t ++ List.replicate z 0 = wl t d p N 0 := by rw [← hNe, ← HTX.out.1, wl_start]
   rw [hwl] at hown
   have hrow := hown.row
   rw [wl_length] at hrow
   rcases id hrow.2 with ⟨_, hN0⟩ | ⟨g, cap', cur', hvv, _⟩
   · exact absurd hN0 hnpos
   obtain ⟨rfl, _, rfl⟩ := Value.slice.inj hvv
   have HST : Hid (wr.ownsRow w1.heap.size 5 1 (.slice (some ⟨g, 0, none⟩) N vc) N ((wl t d p N 0).map (Value.int .u8)) ∧ TwoR w wr s (.slice a n c) ∧ w1.heap.size ≤ wr.heap.size) := ⟨hrow, hTV, hsz⟩
   have HOC : Hid (Oct t ∧ Oct d) := ⟨HT2.out.2.2.oct, (HDA.out w2 HT2.out.1.1).oct⟩
   clear hown hrow hTV hsz hlen hni hz hNe hwl hvv hnpos hlt
   go_wp2
   go_loopw [9] (fun y wq => ∃ j : Nat, j ≤ dl ∧ y = .int .i64 (j : Int) ∧ wq.ownsRow w1.heap.size 5 1 (.slice (some ⟨g, 0, none⟩) N vc) N ((wl t d p N j).map (Value.int .u8)) ∧ TwoR w wq s (.slice a n c) ∧ w1.heap.size ≤ wq.heap.size) (fun y _ => dl - (intOf y).toNat)
   case atStart => exact ⟨0, Nat.zero_le _, rfl, HST.out⟩
   case round => (
 obtain ⟨j, hj, rfl, hrow, hTV, hsz⟩ := hrel
 have hni := HNI.out
 by_cases hjl : j < dl
 · have h2 : (j : Int) < (dl : Int) := by omega
   obtain ⟨y, hy⟩ := get_lt (l := d) (k := j) (by rw [← HDL.out]; exact hjl)
   obtain ⟨bx, ox, hixx, _, gx, hxw⟩ := (HDA.out wr hTV.1).at j y hy
   have hixr : ∀ W, (Instr.indexAt 25 (.slice (some ⟨g, 0, none⟩) N vc) (.int .i64 ((p : Int) + (j : Int)))).run Tryz.prog W = .ok (.pointer (some ⟨g, p + j, none⟩)) W := fun W => by (
 have := run_index Tryz.underlying25 hi0 hz1 g 0 N vc (p + j) (by omega) W
 rw [show (((p + j : Nat)) : Int) = (p : Int) + (j : Int) by omega] at this
 simpa using this)
   have hfz := hrow.frozenAt (p + j)
   have hcy : wr.cell? ⟨g, p + j, none⟩ = some (.int .u8 ((wl t d p N j).getD (p + j) 0)) := by (
 have hkl : p + j < (wl t d p N j).length := by rw [wl_length]; omega
 rw [hrow.cellAt (p + j) (by omega), List.getElem?_map, List.getElem?_eq_getElem hkl]
 simp [List.getElem?_eq_getElem hkl])
   obtain ⟨y0, hy0⟩ := exa ((wl t d p N j).getD (p + j) 0)
   rw [← hy0] at hcy
   have hst := hrow.stored (p + j) (.int .u8 y)
   rw [← List.map_set, show (wl t d p N j).set (p + j) y = wl t d p N (j + 1) by rw [← wl_set, oc_some hy]] at hst
   have hng : w1.heap.size ≤ g := (hrow.lt g rfl).1
   have HNX : Hid ((wr.setCell ⟨g, p + j, none⟩ (.int .u8 y)).ownsRow w1.heap.size 5 1 (.slice (some ⟨g, 0, none⟩) N vc) N ((wl t d p N (j + 1)).map (Value.int .u8)) ∧ TwoR w (wr.setCell ⟨g, p + j, none⟩ (.int .u8 y)) s (.slice a n c) ∧ w1.heap.size ≤ (wr.setCell ⟨g, p + j, none⟩ (.int .u8 y)).heap.size) := ⟨hst.1, hTV.grown (grown_set _ _ _ _) (by have := HT1.out.lt; omega), by simpa [World.setCell] using hsz⟩
   have hpb : p ≤ 2432 ∧ j ≤ 2432 := by omega
   clear hrow hTV hsz hst hy hy0 hni hng
   go_wp2
   go_roundw
   case rel => exact ⟨j + 1, by omega, by go_num, HNX.out⟩
   case measure => simp [intOf]; omega
 · obtain rfl : j = dl := by omega
   have hwd : wl t d p N j = R := by rw [HNN.out.2.1]
   rw [hwd] at hrow
   have hRL : R.length = N := by rw [← hwd, wl_length]
   have hown : Own1 w1.heap.size wr (.slice (some ⟨g, 0, none⟩) N vc) R := .mk (by rw [hRL]; exact hrow) (by rw [← hwd]; exact wl_oct HOC.out.1 HOC.out.2 _ _ _)
   have HM := made_any w1.heap.size _ R wr hown.arg (by omega)
   have HT2' : Hid (TwoR w wr s (.slice a n c) ∧ w1.heap.size ≤ wr.heap.size) := ⟨hTV, hsz⟩
   clear hrow hTV hsz hown hwd hRL hni
   go_wp2_with fail
   refine HM.mono ?_
   rintro e w3 ⟨⟨us3, rfl, hu3⟩, hb3⟩
   have HT3 : Hid (TwoR w w3 s (.slice a n c)) := HT2'.out.1.below hb3
   obtain ⟨y0, y1, y2, y3, y4, y5⟩ := HT3.out.cells
   obtain ⟨a3, c3, rfl, _⟩ := fl_viewR hu3
   obtain ⟨s3, hs3⟩ := exa ((mk R).1)
   obtain ⟨l3, hl3⟩ := exa ((mk R).2.length)
   rw [← hs3, ← hl3] at hu3 ⊢
   have HU3 : Hid (flR.lies wr.heap.size w3 [.int .i64 s3, .slice a3 l3 c3] (mk R)) := hu3
   clear hu3 hb3 HM hs3 hl3
   go_wp2
   refine bodyPost_ret (v := .tuple #[.agg #[.int .i64 s3, .slice a3 l3 c3], .int .i64 0]) (by simp [results, Tryz.results54, go_sem, *]) rfl ?_
   obtain ⟨h1, h2⟩ := HT3.out.ends (Nat.le_trans HT1.out.lt HT2'.out.2) HU3.out (.int .i64 s3) (.slice a3 l3 c3)
   exact ⟨⟨_, rfl, h1⟩, h2⟩))
end Go.Proofs.YtopcefhncildnaaGreatDoor.F
