/-
  What strings.ContainsAny answers of the two octets that no name has: whether one of them is there; for every text.
  Which texts may be names; what dir.Name and the document's answer for it are, for every text.
  Plain mathematics: the order of names, entries that may be, and where a name stands among them.
-/
import Derived.Test.YtopcefhncildnaaGreatDoorZ22
import Derived.Deep.LoopGhost
set_option maxRecDepth 100000
set_option maxHeartbeats 4000000
namespace Go.Proofs.YtopcefhncildnaaGreatDoor.D
open Go.RowKit Go.Shelf Go.Lib
theorem decode_span (s : ByteArray) (pos : Nat) (h : pos < s.size) (ha : 128 ≤ (s[pos]'h).toNat) (k : Nat) : k < (Utf8.decode s pos).2 → pos + k < s.size ∧ 128 ≤ (s.get! (pos + k)).toNat := by
 have e0 : (s.get! pos).toNat = (s[pos]'h).toNat := congrArg UInt8.toNat (get_at s pos h)
 have h0 : ¬ (s.get! pos).toNat < 128 := by omega
 have hz : k = 0 → pos + k < s.size ∧ 128 ≤ (s.get! (pos + k)).toNat := fun e => by
   subst e
   exact ⟨h, by rw [Nat.add_zero]; omega⟩
 simp only [Utf8.decode, Nat.add_zero]
 rw [if_neg h0]
 split
 · rename_i hc
   simp only [Bool.and_eq_true, decide_eq_true_eq, beq_iff_eq] at hc
   split
   · intro hk
     rcases (show k = 0 ∨ k = 1 by omega) with rfl | rfl
     · exact hz rfl
     · exact ⟨hc.2.1, by have := hc.2.2; omega⟩
   · intro hk
     exact hz (by omega)
 · split
   · rename_i hc
     simp only [Bool.and_eq_true, decide_eq_true_eq, beq_iff_eq] at hc
     split
     · intro hk
       rcases (show k = 0 ∨ k = 1 ∨ k = 2 by omega) with rfl | rfl | rfl
       · exact hz rfl
       · exact ⟨hc.1.2.1, by have := hc.1.2.2; omega⟩
       · exact ⟨hc.2.1, by have := hc.2.2; omega⟩
     · intro hk
       exact hz (by omega)
   · split
     · rename_i hc
       simp only [Bool.and_eq_true, decide_eq_true_eq, beq_iff_eq] at hc
       split
       · intro hk
         rcases (show k = 0 ∨ k = 1 ∨ k = 2 ∨ k = 3 by omega) with rfl | rfl | rfl | rfl
         · exact hz rfl
         · exact ⟨hc.1.1.2.1, by have := hc.1.1.2.2; omega⟩
         · exact ⟨hc.1.2.1, by have := hc.1.2.2; omega⟩
         · exact ⟨hc.2.1, by have := hc.2.2; omega⟩
       · intro hk
         exact hz (by omega)
     · intro hk
       exact hz (by omega)
abbrev two : List UInt8 := [0, 47]
theorem two_high (b : UInt8) (h : 128 ≤ b.toNat) : two.contains b = false := by
 rw [Bool.eq_false_iff]
 intro hc
 simp [two] at hc
 rcases hc with rfl | rfl <;> simp at h
theorem noAny_span {s : ByteArray} {i n : Nat} (h : NoAny s.data.toList two i) (hs : ∀ k, k < n → i + k < s.size ∧ 128 ≤ (s.get! (i + k)).toNat) : NoAny s.data.toList two (i + n) := fun j b hj hb => by
 by_cases c : j < i
 · exact h j b c hb
 · obtain ⟨h1, h2⟩ := hs (j - i) (by omega)
   rw [show i + (j - i) = j by omega] at h1 h2
   have e : s.get! j = b := by (
 have h3 := get_at s j h1
 rw [Nat.add_zero] at h3
 rw [h3]
 have h4 := Lib.data_getElem? s j h1
 rw [hb] at h4
 exact (Option.some.inj h4).symm)
   rw [e] at h2
   exact two_high b h2
theorem index_two (b : UInt8) : (0 ≤ Lib.indexByte two b ↔ two.contains b = true) := by
 have := Lib.contains_iff_indexByte two b
 rw [this]
 simp
theorem any_short (s : ByteArray) (w : World) (h8 : s.size ≤ 8) : Calls Tryz.prog 307 #[.string s, .string ⟨#[0, 47]⟩] w fun e w' => e = .returned (.int .i64 (Lib.indexAny s.data.toList two)) ∧ Below w.heap.size w w' := by
 have h8z : ¬ (8 : Int) < (s.size : Int) := by omega
 have h8b : decide ((8 : Int) < (s.size : Int)) = false := decide_eq_false h8z
 have HS : Hid (∀ W, Calls Tryz.prog 320 #[.int .i64 (s.size : Int)] W fun e w' => e = .returned (.bool false) ∧ w' = W) := fun W => by (
 have := Any.strings_shouldUseASCIISet (P := Tryz.prog) (ρ := anyL_ren) { anyL with } (s.size : Int) W
 rw [h8b] at this
 exact this)
 have HB0 : Hid (Below w.heap.size w (w.iter s 0)) := (Below.refl _ w).alloc (Nat.le_refl _) _
 clear h8b
 go_enter Tryz.func307, Tryz.ntmps307
 go_wp2_with (go_at_call 320; refine (HS.out _).mono ?_; rintro e w' ⟨rfl, hw⟩; rw [hw])
 go_loopg [9, 10] s.size (fun g _ _ wx => ∃ i : Nat, i + g = s.size ∧ wx.heap[w.heap.size]? = some (.stringIter s i) ∧ Below w.heap.size w wx ∧ NoAny s.data.toList two i)
 case atStart => exact ⟨0, by omega, World.iter_heap _ _ _, HB0.out, NoAny.zero _ _⟩
 case round => (
 obtain ⟨i, hig, hit, hbel, hno⟩ := hrel
 have HN : Hid (NoAny s.data.toList two i) := hno
 have HBL : Hid (Below w.heap.size w wr) := hbel
 clear hno hbel
 by_cases hi : i < s.size
 · by_cases hx : (s[i]'hi).toNat < 128
   · have hnx := fun ty => run_next_ascii_at (P := Tryz.prog) wr w.heap.size s i ty hit hi hx
     obtain ⟨x, hxx⟩ : ∃ x : UInt8, s[i]'hi = x := ⟨_, rfl⟩
     have Hx : Hid (s.data.toList[i]? = some x) := by (
 show _ = _
 rw [← hxx]; exact Lib.data_getElem? s i hi)
     rw [hxx] at hnx hx
     obtain ⟨W, hW⟩ := exa (wr.iterAt w.heap.size s (i + 1))
     rw [← hW] at hnx
     have HW : Hid (W.heap[w.heap.size]? = some (.stringIter s (i + 1)) ∧ Below w.heap.size w W) := by (
 show _ ∧ _
 rw [hW]; exact ⟨iterAt_heap wr _ s i (i + 1) hit, below_iterAt HBL.out (Nat.le_refl _) s _⟩)
     have HR : Hid (Calls Tryz.prog 319 #[.string ⟨#[0, 47]⟩, .int .i32 (x.toNat : Int)] W fun e w' => e = .returned (.int .i64 (Lib.indexByte two x)) ∧ w' = W) := by (
 have := rune_low ⟨#[0, 47]⟩ (x.toNat : Int) W (by omega) (by omega)
 rw [show ((x.toNat : Int)).toNat.toUInt8 = x by simp] at this
 exact this)
     obtain ⟨y, hy⟩ := exa (Lib.indexByte two x)
     rw [← hy] at HR
     clear hW hxx
     by_cases hin : 0 ≤ y
     · have HI : Hid (Lib.indexAny s.data.toList two = i) := Lib.indexAny_hit HN.out Hx.out ((index_two x).1 (by rw [← hy]; exact hin))
       clear hy
       go_wp2_with (go_at_call 319; refine HR.out.mono ?_; rintro e w' ⟨rfl, hw⟩; rw [hw])
       go_ret
       exact ⟨by rw [HI.out]; rfl, HW.out.2⟩
     · have HI : Hid (two.contains x = false) := by
         show _ = _
         rw [Bool.eq_false_iff]
         intro hc
         exact hin (by rw [hy]; exact (index_two x).2 hc)
       clear hy
       go_wp2_with (go_at_call 319; refine HR.out.mono ?_; rintro e w' ⟨rfl, hw⟩; rw [hw])
       go_roundg (s.size - (i + 1))
       case measure => omega
       case rel => exact ⟨i + 1, by omega, HW.out.1, HW.out.2, HN.out.succ Hx.out HI.out⟩
   · have hnx := fun ty => run_next_any_at (P := Tryz.prog) wr w.heap.size s i ty hit hi
     obtain ⟨h1, h2⟩ := decode_high s i hi (by omega)
     have hsp := decode_span s i hi (by omega)
     have hle := decode_le s i
     obtain ⟨r, hr⟩ := exa ((Utf8.decode s i).1)
     obtain ⟨n, hn⟩ := exa ((Utf8.decode s i).2)
     rw [← hr, ← hn] at hnx
     rw [← hr] at h1 hle
     rw [← hn] at h2 hsp
     have hend := (hsp (n - 1) (by omega)).1
     obtain ⟨W, hW⟩ := exa (wr.iterAt w.heap.size s (i + n))
     rw [← hW] at hnx
     have HW : Hid (W.heap[w.heap.size]? = some (.stringIter s (i + n)) ∧ Below w.heap.size w W) := by (
 show _ ∧ _
 rw [hW]; exact ⟨iterAt_heap wr _ s i (i + n) hit, below_iterAt HBL.out (Nat.le_refl _) s _⟩)
     have HR : Hid (Calls Tryz.prog 319 #[.string ⟨#[0, 47]⟩, .int .i32 (r : Int)] W fun e w' => e = .returned (.int .i64 (-1)) ∧ Below W.heap.size W w') := rune_high (r : Int) W (by omega)
     have HNN : Hid (NoAny s.data.toList two (i + n)) := noAny_span HN.out hsp
     clear hW hr hn hsp
     go_wp2_with (go_at_call 319; refine HR.out.mono ?_; rintro e w' ⟨rfl, hw⟩)
     go_roundg (s.size - (i + n))
     case measure => omega
     case rel => (
 have hlt : w.heap.size < W.heap.size := (Array.getElem?_eq_some_iff.1 HW.out.1).1
 exact ⟨i + n, by omega, by rw [hw.block _ hlt]; exact HW.out.1, below_any HW.out.2 hw, HNN.out⟩)
 · have hnx := fun ty => run_next_end_at (P := Tryz.prog) wr w.heap.size s i ty hit hi
   have HI : Hid (Lib.indexAny s.data.toList two = -1) := Lib.indexAny_none (by rw [← Lib.size_eq, show s.size = i by omega]; exact HN.out)
   go_wp2
   go_ret
   exact ⟨by rw [HI.out]; rfl, HBL.out⟩)
theorem set79 : (Tryz.prog.info? (anyL_ren.t 116)).map (fun i => (i.zero, i.size)) = some (some (.agg (Array.replicate 256 (.bool false))), 256) := by kernel_rfl
theorem any_long (s : ByteArray) (w : World) (h8 : 8 < s.size) (hs : s.size < 4294967281) : Calls Tryz.prog 307 #[.string s, .string ⟨#[0, 47]⟩] w fun e w' => e = .returned (.int .i64 (Lib.indexAny s.data.toList two)) ∧ Below w.heap.size w w' :=
 (Any.strings_IndexAny_long (P := Tryz.prog) (ρ := anyL_ren) anyL (zero_of_info set79).1 (zero_of_info set79).2 s ⟨#[0, 47]⟩ w (by decide) h8 hs (by decide) (fun j b hb => by
   have hm := List.mem_of_getElem? hb
   simp at hm
   rcases hm with rfl | rfl <;> decide)).mono fun e w' h => ⟨h.1, by rw [h.2]; exact ((Below.refl _ w).alloc (Nat.le_refl _) _).alloc (by simp) _⟩
theorem contains_any (s : ByteArray) (w : World) (hs : s.size < 4294967281) : Calls Tryz.prog 278 #[.string s, .string ⟨#[0, 47]⟩] w fun e w' => e = .returned (.bool (Lib.containsAny s.data.toList two)) ∧ Below w.heap.size w w' := by
 have HC : Hid (Calls Tryz.prog 307 #[.string s, .string ⟨#[0, 47]⟩] w fun e w' => e = .returned (.int .i64 (Lib.indexAny s.data.toList two)) ∧ Below w.heap.size w w') := by (
 by_cases h8 : 8 < s.size
 · exact any_long s w h8 hs
 · exact any_short s w (by omega))
 go_enter Tryz.func278, Tryz.ntmps278
 go_wp2_with (go_at_call 307; refine HC.out.mono ?_; rintro e w' ⟨rfl, hw⟩)
 go_ret
 exact ⟨rfl, hw⟩
end Go.Proofs.YtopcefhncildnaaGreatDoor.D
namespace Go.Proofs.YtopcefhncildnaaGreatDoor.D
open Go.RowKit Go.Lib
def nameOk (s : ByteArray) : Bool := decide (1 ≤ s.size) && (decide (s.size ≤ 16) && (!(Lib.containsAny s.data.toList two) && (!(s.toList == [46]) && !(s.toList == [46, 46]))))
def nerr (s : ByteArray) : Int := if nameOk s = true then 0 else 106
def inoOk (n : Int) : Bool := decide (1 ≤ n) && decide (n ≤ 2147483647)
theorem num_any (x : Int) (w : World) : Calls Tryz.prog 17 #[.int .i64 x] w fun e w' => e = .returned (.int .i64 x) ∧ w = w' := by
 go_enter Tryz.func17, Tryz.ntmps17
 go_wp2
 go_ret
 exact ⟨rfl, rfl⟩
theorem may_any (x : Int) (w : World) : Calls Tryz.prog 241 #[.int .i64 x] w fun e w' => e = .returned (.bool (inoOk x)) ∧ w = w' := by
 by_cases h1 : 1 ≤ x
 · by_cases h2 : x ≤ 2147483647
   · have e : inoOk x = true := by simp [inoOk, h1, h2]
     rw [e]
     clear e
     go_enter Tryz.func241, Tryz.ntmps241
     go_wp2
     go_ret
     exact ⟨rfl, rfl⟩
   · have e : inoOk x = false := by simp [inoOk, h2]
     rw [e]
     clear e
     go_enter Tryz.func241, Tryz.ntmps241
     go_wp2
     go_ret
     exact ⟨rfl, rfl⟩
 · have e : inoOk x = false := by simp [inoOk, h1]
   rw [e]
   clear e
   go_enter Tryz.func241, Tryz.ntmps241
   go_wp2
   go_ret
   exact ⟨rfl, rfl⟩
theorem empty_iff (s : ByteArray) : s.toList.isEmpty = decide (s.size = 0) := by
 rw [Lib.toList_data, Lib.size_eq]
 cases s.data.toList <;> simp
theorem name_any (s : ByteArray) (w : World) : Calls Tryz.prog 227 #[.string s] w fun e w' => e = .returned (.int .i64 (nerr s)) ∧ Below w.heap.size w w' := by
 have HB : Hid (Below w.heap.size w w) := Below.refl _ w
 by_cases h0 : s.size = 0
 · have hemp : s.toList.isEmpty = true := by rw [empty_iff]; simp [h0]
   have he : nerr s = 106 := by simp [nerr, nameOk, h0]
   rw [he]
   clear he
   go_enter Tryz.func227, Tryz.ntmps227
   go_wp2
   go_ret
   exact ⟨rfl, HB.out⟩
 have hemp : s.toList.isEmpty = false := by rw [empty_iff]; simp [h0]
 by_cases h1 : 16 < s.size
 · have he : nerr s = 106 := by simp [nerr, nameOk, show ¬ s.size ≤ 16 by omega]
   have h1i : (16 : Int) < (s.size : Int) := by omega
   rw [he]
   clear he
   go_enter Tryz.func227, Tryz.ntmps227
   go_wp2
   go_ret
   exact ⟨rfl, HB.out⟩
 have h1i : ¬ (16 : Int) < (s.size : Int) := by omega
 have HC : Hid (Calls Tryz.prog 278 #[.string s, .string ⟨#[0, 47]⟩] w fun e w' => e = .returned (.bool (Lib.containsAny s.data.toList two)) ∧ Below w.heap.size w w') := contains_any s w (by omega)
 cases hc : Lib.containsAny s.data.toList two
 case true => (
 have he : nerr s = 106 := by simp [nerr, nameOk, hc]
 rw [he]
 rw [hc] at HC
 clear he hc
 go_enter Tryz.func227, Tryz.ntmps227
 go_wp2_with (go_at_call 278; refine HC.out.mono ?_; rintro e w' ⟨rfl, hw⟩)
 go_ret
 exact ⟨rfl, hw⟩)
 rw [hc] at HC
 cases hd : s.toList == [46]
 case true => (
 have he : nerr s = 106 := by simp [nerr, nameOk, hd]
 rw [he]
 clear he hc
 go_enter Tryz.func227, Tryz.ntmps227
 go_wp2_with (go_at_call 278; refine HC.out.mono ?_; rintro e w' ⟨rfl, hw⟩)
 go_ret
 exact ⟨rfl, hw⟩)
 cases hdd : s.toList == [46, 46]
 case true => (
 have he : nerr s = 106 := by simp [nerr, nameOk, hdd]
 rw [he]
 clear he hc
 go_enter Tryz.func227, Tryz.ntmps227
 go_wp2_with (go_at_call 278; refine HC.out.mono ?_; rintro e w' ⟨rfl, hw⟩)
 go_ret
 exact ⟨rfl, hw⟩)
 have he : nerr s = 0 := by simp [nerr, nameOk, hc, hd, hdd, show s.size ≤ 16 by omega, show 1 ≤ s.size by omega]
 rw [he]
 clear he hc
 go_enter Tryz.func227, Tryz.ntmps227
 go_wp2_with (go_at_call 278; refine HC.out.mono ?_; rintro e w' ⟨rfl, hw⟩)
 go_ret
 exact ⟨rfl, hw⟩
end Go.Proofs.YtopcefhncildnaaGreatDoor.D
namespace Go.Proofs.YtopcefhncildnaaGreatDoor.D
def ltB (a b : ByteArray) : Bool := Op.bytesLess a.toList b.toList
theorem less_eq : ∀ (x y : List UInt8), Op.bytesLess x y = decide (x < y)
 | [], [] => by simp [Op.bytesLess]
 | _ :: _, [] => by simp [Op.bytesLess]
 | [], _ :: _ => by simp [Op.bytesLess]
 | a :: x, b :: y => by (
 rw [Op.bytesLess, less_eq x y]
 simp only [List.cons_lt_cons_iff]
 by_cases h1 : a < b <;> by_cases h2 : a = b <;> by_cases h3 : x < y <;> simp [h1, h2, h3])
theorem ltB_iff (a b : ByteArray) : ltB a b = true ↔ a.toList < b.toList := by
 unfold ltB
 rw [less_eq]
 simp
theorem ltB_irrefl (a : ByteArray) : ltB a a = false := by
 rw [Bool.eq_false_iff]
 intro h
 exact List.lt_irrefl _ ((ltB_iff a a).1 h)
theorem ltB_trans {a b c : ByteArray} (h : ltB a b = true) (k : ltB b c = true) : ltB a c = true := (ltB_iff a c).2 (List.lt_trans ((ltB_iff a b).1 h) ((ltB_iff b c).1 k))
theorem ltB_asymm {a b : ByteArray} (h : ltB a b = true) : ltB b a = false := by
 rw [Bool.eq_false_iff]
 intro k
 have := ltB_trans h k
 rw [ltB_irrefl] at this
 cases this
theorem ba_ext {a b : ByteArray} (h : a.toList = b.toList) : a = b := by
 rw [Lib.toList_data, Lib.toList_data] at h
 cases a; cases b
 simp at h
 rw [h]
theorem ba_eq (a b : ByteArray) : (a.toList == b.toList) = decide (a = b) := by
 rw [Bool.eq_iff_iff]
 simp
 exact ⟨ba_ext, fun h => by rw [h]⟩
theorem ltB_tri (a b : ByteArray) (h : a ≠ b) (k : ltB a b = false) : ltB b a = true := by
 rw [ltB_iff]
 have h1 : ¬ a.toList < b.toList := fun c => by rw [(ltB_iff a b).2 c] at k; cases k
 rcases List.le_iff_lt_or_eq.1 (List.not_lt.1 h1) with c | c
 · exact c
 · exact absurd (ba_ext c.symm) h
theorem leB_not (a b : ByteArray) : (Op.bytesLess a.toList b.toList || a.toList == b.toList) = !ltB b a := by
 rw [ba_eq]
 show (ltB a b || _) = _
 by_cases h : a = b
 · subst h; simp [ltB_irrefl]
 · cases hb : ltB a b
   · simp [h, ltB_tri a b h hb]
   · simp [ltB_asymm hb]
abbrev Good (p : En) : Prop := nameOk p.1 = true ∧ inoOk p.2 = true
abbrev Up (l : List En) : Prop := l.Pairwise fun p q => ltB p.1 q.1 = true
abbrev Fine (l : List En) : Prop := (∀ p ∈ l, Good p) ∧ Up l
abbrev Chk (l : List En) : Prop := l.length ≤ 63 ∧ Fine l
def cerr (l : List En) : Int := if Chk l then 0 else 9
theorem cerr_ok {l : List En} (h : Chk l) : cerr l = 0 := if_pos h
theorem cerr_bad {l : List En} (h : ¬ Chk l) : cerr l = 9 := if_neg h
def lastN (l : List En) : ByteArray := match l.getLast? with | some p => p.1 | none => ⟨#[]⟩
theorem lastN_nil : lastN [] = ⟨#[]⟩ := rfl
theorem lastN_snoc (l : List En) (p : En) : lastN (l ++ [p]) = p.1 := by simp [lastN]
theorem fine_nil : Fine [] := ⟨fun _ h => (by cases h), List.Pairwise.nil⟩
theorem lt_empty {s : ByteArray} (h : nameOk s = true) : ltB ⟨#[]⟩ s = true := by
 have h1 : 1 ≤ s.size := by
   simp [nameOk] at h
   omega
 rw [ltB_iff, Lib.toList_data, Lib.toList_data]
 have : s.data.toList ≠ [] := fun e => by rw [Lib.size_eq, e] at h1; simp at h1
 cases hs : s.data.toList with
 | nil => exact absurd hs this
 | cons a t => simp
theorem last_le {l : List En} (h : Up l) {q : En} (hq : q ∈ l) : q.1 = lastN l ∨ ltB q.1 (lastN l) = true := by
 rcases List.eq_nil_or_concat l with rfl | ⟨m, p, rfl⟩
 · cases hq
 · simp only [List.concat_eq_append] at h hq ⊢
   rw [lastN_snoc]
   rcases List.mem_append.1 hq with hq | hq
   · exact .inr ((List.pairwise_append.1 h).2.2 q hq p (by simp))
   · rw [List.mem_singleton.1 hq]; exact .inl rfl
theorem fine_snoc {l : List En} {p : En} (h : Fine l) (hp : Good p) (hl : ltB (lastN l) p.1 = true) : Fine (l ++ [p]) := by
 refine ⟨fun q hq => ?_, List.pairwise_append.2 ⟨h.2, List.pairwise_singleton _ _, fun a ha b hb => ?_⟩⟩
 · rcases List.mem_append.1 hq with hq | hq
   · exact h.1 q hq
   · rw [List.mem_singleton.1 hq]; exact hp
 · rw [List.mem_singleton.1 hb]
   rcases last_le h.2 ha with e | e
   · rw [e]; exact hl
   · exact ltB_trans e hl
theorem fine_take {l : List En} (h : Fine l) (k : Nat) : Fine (l.take k) := ⟨fun p hp => h.1 p (List.mem_of_mem_take hp), h.2.sublist (List.take_sublist ..)⟩
theorem good_at {l : List En} (h : Fine l) {k : Nat} {p : En} (hp : l[k]? = some p) : Good p := h.1 p (List.mem_of_getElem? hp)
theorem last_at {l : List En} (h : Fine l) {k : Nat} {p : En} (hp : l[k]? = some p) : ltB (lastN (l.take k)) p.1 = true := by
 have h1 := fine_take h (k + 1)
 rw [take_snoc hp] at h1
 rcases List.eq_nil_or_concat (l.take k) with e | ⟨m, q, e⟩
 · rw [e, lastN_nil]
   exact lt_empty (good_at h hp).1
 · rw [e, List.concat_eq_append] at h1 ⊢
   rw [lastN_snoc]
   exact (List.pairwise_append.1 h1.2).2.2 q (by simp) p (by simp)
theorem not_good {l : List En} {k : Nat} {p : En} (hp : l[k]? = some p) (h : ¬ Good p) : ¬ Chk l := fun c => h (good_at c.2 hp)
theorem not_last {l : List En} {k : Nat} {p : En} (hp : l[k]? = some p) (h : ltB (lastN (l.take k)) p.1 = false) : ¬ Chk l := fun c => by
 rw [last_at c.2 hp] at h
 cases h
theorem lastN_take {l : List En} {k : Nat} {p : En} (hp : l[k]? = some p) : lastN (l.take (k + 1)) = p.1 := by rw [take_snoc hp, lastN_snoc]
end Go.Proofs.YtopcefhncildnaaGreatDoor.D
