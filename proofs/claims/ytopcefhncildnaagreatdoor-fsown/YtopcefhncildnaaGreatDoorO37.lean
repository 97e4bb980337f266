/-
  What follows of the answers: names go through a path; a path's names, or some of the first of them, make a path that is no longer.
  What the document's Split answers; for every text.
-/
import Derived.Test.YtopcefhncildnaaGreatDoorO36
import Derived.Deep.OwnRows
set_option maxRecDepth 100000
set_option maxHeartbeats 4000000
namespace Go.Proofs.YtopcefhncildnaaGreatDoor.P
open Go.Proofs.YtopcefhncildnaaGreatDoor.D (nameOk nerr two name_any rname_any anyL anyL_ren empty_iff u8_eq)
open Go.RowKit
theorem serr_zero {s : ByteArray} : serr s = 0 ↔ s.size ≤ 128 ∧ rooted s = true ∧ (pts s).all nameOk = true ∧ (pts s).length ≤ 8 := by
 unfold serr
 constructor
 · intro h
   split at h
   · simp at h
   · split at h
     · simp at h
     · split at h
       · simp at h
       · split at h
         · simp at h
         · rename_i h1 h2 h3 h4
           exact ⟨by omega, by simpa using h2, by simpa using h3, by omega⟩
 · rintro ⟨h1, h2, h3, h4⟩
   simp [h2, h3, show ¬ 128 < s.size by omega, show ¬ 8 < (pts s).length by omega]
theorem sval_zero {s : ByteArray} (h : serr s = 0) : sval s = pts s := by rw [sval, if_pos h]
end Go.Proofs.YtopcefhncildnaaGreatDoor.P
namespace Go.Proofs.YtopcefhncildnaaGreatDoor.P
open Go.Proofs.YtopcefhncildnaaGreatDoor.D (nameOk nerr two name_any rname_any anyL anyL_ren empty_iff u8_eq)
open Go.RowKit Go.Shelf
theorem rooted_nil {s : ByteArray} (h : s.size = 0) : rooted s = false := by
 have : s.data.toList = [] := List.eq_nil_of_length_eq_zero (by rw [← Lib.size_eq]; exact h)
 rw [rooted, this]; rfl
theorem rooted_head {s : ByteArray} (h : 0 < s.size) : rooted s = (s[0] == 47) := by
 have hd := Lib.data_getElem? s 0 h
 rw [rooted, Lib.hasPrefix]
 cases hl : s.data.toList with
 | nil => rw [hl] at hd; simp at hd
 | cons c r => (
 rw [hl] at hd
 simp at hd
 rw [← hd]
 simp [List.isPrefixOf]
 rw [Bool.eq_iff_iff]
 simp
 exact eq_comm)
theorem data_append (a b : ByteArray) : (a ++ b).data.toList = a.data.toList ++ b.data.toList := by
 rw [ByteArray.data_append, Array.toList_append]
theorem push_list {ops : Array Oper} {rest : List Oper} {o : Oper} {a : Act} {Q : Exit → Act → World → Prop} (hgd : o.guard = none) (s x : Operand) (ho : o.op = .call { callee := .builtin .append, args := #[s, x], argTypes := #[57, 57] })
   (base : Nat) (v : Value) (l : List ByteArray) (p : ByteArray) (wr : World) (hs : a.eval s = v) (hO : OwnT base wr v l) (hx : a.eval x = .slice (some ⟨wr.heap.size, 0, none⟩) 1 1) (hp : p.size ≤ maxLen) (hlen : l.length < 128) (hb : base ≤ wr.heap.size)
   (h : ∀ g cap w', OwnT base w' (.slice (some ⟨g, 0, none⟩) (l.length + 1) cap) (l ++ [p]) → (wr.alloc (.cells #[.string p] 9)).grownBy w' v.ownBlock → wpList Tryz.prog ops Q rest (a.put o.dst (.slice (some ⟨g, 0, none⟩) (l.length + 1) cap)) w') :
   wpList Tryz.prog ops Q (o :: rest) a (wr.alloc (.cells #[.string p] 9)) := by
 obtain ⟨i9, hi9, hz0, hz1, hz2⟩ := info_parts Tryz.info9
 refine wpList_append_lies _ hgd s x 57 ho base 9 i9 _ 1 16 Tryz.underlying57 hi9 hz0 hz1 hz2 rfl (by omega) v l.length (tv l) hs (hO.1.alloc _) ⟨wr.heap.size, 0, none⟩ 1 1 [.string p] hx (by rfl) (World.news_of_block (cs := #[.string p]) (t := 9) (fr := (0, 0)) (heap_alloc_new wr _)) (by simp [Value.oneCell']) (by omega) (by unfold maxLen; omega) (by omega) (by simp; omega) (wr.heap.size + 1) (by simp) ?_
 intro g cap w' h1 h2 _ _
 refine h g cap w' ⟨?_, hO.2.snoc hp⟩ h2
 rw [List.length_append]
 simpa [tv] using h1
theorem below_push {n : Nat} {w wr w' : World} {o : Obj} {base : Nat} {v : Value} {l : List ByteArray} (hb : Below n w wr) (hO : OwnT base wr v l) (hg : (wr.alloc o).grownBy w' v.ownBlock) (hn : n ≤ base) (hs : n ≤ wr.heap.size) : Below n w w' :=
 (hb.alloc hs o).grown hg (by simp; omega) (fun j hj => by have := (hO.1.lt j hj).1; omega)
def rem (t : List UInt8) (i : Nat) (cur : List UInt8) : List (List UInt8) := if i ≤ t.length then prtsGo (t.drop i) cur else []
theorem rem_plain {t : List UInt8} {i : Nat} {c : UInt8} (cur : List UInt8) (hc : t[i]? = some c) (h : c ≠ 47) : rem t i cur = rem t (i + 1) (cur ++ [c]) := by
 obtain ⟨hlt, he⟩ := List.getElem?_eq_some_iff.1 hc
 rw [rem, if_pos (by omega), rem, if_pos (by omega), List.drop_eq_getElem_cons hlt, he, prtsGo, if_neg h]
theorem rem_slash {t : List UInt8} {i : Nat} (cur : List UInt8) (hc : t[i]? = some 47) : rem t i cur = flush cur ++ rem t (i + 1) [] := by
 obtain ⟨hlt, he⟩ := List.getElem?_eq_some_iff.1 hc
 rw [rem, if_pos (by omega), rem, if_pos (by omega), List.drop_eq_getElem_cons hlt, he, prtsGo, if_pos rfl]
theorem rem_end {t : List UInt8} (cur : List UInt8) : rem t t.length cur = flush cur ++ rem t (t.length + 1) [] := by
 rw [rem, if_pos (Nat.le_refl _), rem, if_neg (by omega), List.drop_length, prtsGo, List.append_nil]
theorem rem_one {t : List UInt8} (h : t[0]? = some 47) : prts t = rem t 1 [] := by
 obtain ⟨hlt, he⟩ := List.getElem?_eq_some_iff.1 h
 rw [rem, if_pos (by omega)]
 cases t with
 | nil => simp at hlt
 | cons c r =>
   have hc : c = 47 := by simpa using h
   rw [hc, prts_first]; rfl
theorem rsplit_bad (s : ByteArray) (w : World) (h : s.size ≤ 128) (hr : rooted s = false) : Calls Tryz.prog 112 #[.string s] w fun e w' => e = .returned (.tuple #[.slice none 0 0, .int .i64 106]) ∧ w = w' := by
 have hi : ¬ (128 : Int) < (s.size : Int) := by omega
 by_cases h0 : s.size = 0
 · have hz : ((s.size : Int) == 0) = true := by simp [h0]
   go_enter Tryz.func112, Tryz.ntmps112
   go_wp2
   go_ret2
   exact ⟨rfl, rfl⟩
 · have hz : ((s.size : Int) == 0) = false := beq_false_of_ne (by omega)
   have hlt : 0 < s.size := by omega
   rw [rooted_head hlt] at hr
   obtain ⟨x, hx⟩ : ∃ x : UInt8, s[0]'hlt = x := ⟨_, rfl⟩
   rw [hx] at hr
   have b1 : ((x.toNat : Int) == 47) = false := by rw [show (47 : Int) = ((47 : Nat) : Int) from rfl, u8_eq x 47 (by decide)]; exact hr
   clear hr
   go_enter Tryz.func112, Tryz.ntmps112
   go_wp2
   go_ret2
   exact ⟨rfl, rfl⟩
theorem rsplit_long (s : ByteArray) (w : World) (h : 128 < s.size) : Calls Tryz.prog 112 #[.string s] w fun e w' => e = .returned (.tuple #[.slice none 0 0, .int .i64 5]) ∧ w = w' := by
 have hi : (128 : Int) < (s.size : Int) := by omega
 go_enter Tryz.func112, Tryz.ntmps112
 go_wp2
 go_ret2
 exact ⟨rfl, rfl⟩
theorem rsplit_good (s : ByteArray) (w : World) (h : s.size ≤ 128) (hr : rooted s = true) : Calls Tryz.prog 112 #[.string s] w fun e w' => ∃ v, e = .returned (.tuple #[v, .int .i64 (serr s)]) ∧ OwnT w.heap.size w' v (sval s) ∧ Below w.heap.size w w' := by
 have hi : ¬ (128 : Int) < (s.size : Int) := by omega
 have h0 : 0 < s.size := by (
 rcases Nat.eq_zero_or_pos s.size with e | e
 · rw [rooted_nil e] at hr; cases hr
 · exact e)
 have hz : ((s.size : Int) == 0) = false := beq_false_of_ne (by omega)
 have hr2 := hr
 rw [rooted_head h0] at hr2
 obtain ⟨x, hx⟩ : ∃ x : UInt8, s[0]'h0 = x := ⟨_, rfl⟩
 rw [hx] at hr2
 have b1 : ((x.toNat : Int) == 47) = true := by rw [show (47 : Int) = ((47 : Nat) : Int) from rfl, u8_eq x 47 (by decide)]; exact hr2
 obtain ⟨E, hE⟩ := exa (serr s)
 obtain ⟨L, hL⟩ := exa (sval s)
 rw [← hE, ← hL]
 have HEL : Hid (E = serr s ∧ L = sval s) := ⟨hE, hL⟩
 have HS : Hid (s.size ≤ 128 ∧ rooted s = true) := ⟨h, hr⟩
 have H1 : Hid (pts s = (rem s.data.toList 1 []).map bk) := by (
 show _ = _
 rw [pts, rem_one]
 rw [Lib.data_getElem? s 0 h0, hx, eq_of_beq hr2])
 have HLN : Hid ((pts s).length ≤ 128) := by (
 show _ ≤ _
 have := prts_count s.data.toList
 rw [pts, List.length_map]
 rw [← Lib.size_eq] at this
 omega)
 clear hr hr2 hE hL
 go_enter Tryz.func112, Tryz.ntmps112
 go_wp2
 clear b1 hx hz
 go_loopw [4, 5, 6] (fun v nm i wr => ∃ (k : Nat) (cur : List UInt8) (don : List ByteArray), 1 ≤ k ∧ k ≤ s.size + 1 ∧ nm = .string (bk cur) ∧ i = .int .i64 k ∧ cur.length ≤ k ∧ (k = s.size + 1 → cur = []) ∧ OwnT w.heap.size wr v don ∧ don.all nameOk = true ∧ pts s = don ++ (rem s.data.toList k cur).map bk ∧ Below w.heap.size w wr) (fun _ _ i _ => s.size + 1 - (intOf i).toNat)
 case atStart => exact ⟨1, [], [], Nat.le_refl _, by omega, rfl, rfl, by simp, fun _ => rfl, OwnT.nil _ _, rfl, H1.out, Below.refl _ _⟩
 case round => (
 obtain ⟨k, cur, don, hk1, hk2, rfl, rfl, hcl, hce, hO, hall, hpts, hbel⟩ := hrel
 have HI : Hid (OwnT w.heap.size wr u4 don ∧ don.all nameOk = true ∧ pts s = don ++ (rem s.data.toList k cur).map bk ∧ Below w.heap.size w wr ∧ (k = s.size + 1 → cur = [])) := ⟨hO, hall, hpts, hbel, hce⟩
 clear hO hall hpts hbel hce
 by_cases hke : k ≤ s.size
 · have hkei : (k : Int) ≤ (s.size : Int) := by omega
   by_cases hlt : k < s.size
   · have hlti : (k : Int) < (s.size : Int) := by omega
     obtain ⟨c, hc⟩ : ∃ c : UInt8, s[k]'hlt = c := ⟨_, rfl⟩
     have Hc : Hid (s.data.toList[k]? = some c) := by (
 show _ = _
 rw [← hc]; exact Lib.data_getElem? s k hlt)
     by_cases h47 : c = 47
     · have b2 : ((c.toNat : Int) == 47) = true := by rw [show (47 : Int) = ((47 : Nat) : Int) from rfl, u8_eq c 47 (by decide), h47]; rfl
       have HR : Hid (rem s.data.toList k cur = flush cur ++ rem s.data.toList (k + 1) []) := rem_slash cur (by rw [Hc.out, h47])
       clear h47
       by_cases hcur : cur = []
       · have hemp : (bk cur).toList.isEmpty = true := by rw [empty_iff, bk_size, hcur]; rfl
         have HN : Hid (pts s = don ++ (rem s.data.toList (k + 1) []).map bk) := by (
 show _ = _
 rw [HI.out.2.2.1, HR.out, hcur]; rfl)
         clear hcur
         go_wp2
         go_roundw
         case rel => exact ⟨k + 1, [], don, by omega, by omega, rfl, by go_num, by simp, fun _ => rfl, HI.out.1, HI.out.2.1, HN.out, HI.out.2.2.2.1⟩
         case measure => first | (simp [intOf]; done) | (simp [intOf]; omega)
       · have hemp : (bk cur).toList.isEmpty = false := by rw [empty_iff, bk_size]; simp; exact hcur
         have HN : Hid (pts s = don ++ [bk cur] ++ (rem s.data.toList (k + 1) []).map bk) := by (
 show _ = _
 rw [HI.out.2.2.1, HR.out, flush_ne hcur]; simp)
         clear hcur
         cases hok : nameOk (bk cur)
         · have HC : Hid (∀ W, Calls Tryz.prog 180 #[.string (bk cur)] W fun e w' => e = .returned (.int .i64 106) ∧ W = w') := fun W => by
             have := rname_any (bk cur) W
             rwa [nerr_bad hok] at this
           have HF : Hid (serr s = 106 ∧ sval s = []) := by (
 have hf : (pts s).all nameOk = false := by rw [HN.out, List.all_append, List.all_append]; simp [hok]
 have h1 : serr s = 106 := by simp [serr, HS.out.2, hf, show ¬ 128 < s.size by have := HS.out.1; omega]
 exact ⟨h1, by simp [sval, h1]⟩)
           clear hok
           go_wp2_with (go_at_call 180; refine (HC.out _).mono ?_; rintro e w' ⟨rfl, rfl⟩)
           go_ret2
           exact ⟨_, by rw [HEL.out.1, HF.out.1]; rfl, by rw [HEL.out.2, HF.out.2]; exact OwnT.nil _ _, HI.out.2.2.2.1⟩
         · have HC : Hid (∀ W, Calls Tryz.prog 180 #[.string (bk cur)] W fun e w' => e = .returned (.int .i64 0) ∧ W = w') := fun W => by
             have := rname_any (bk cur) W
             rwa [nerr_zero.2 hok] at this
           have HA : Hid ((don ++ [bk cur]).all nameOk = true) := by show _ = _; rw [List.all_append, HI.out.2.1]; simp [hok]
           have HZ : Hid (don.length < 128 ∧ (bk cur).size ≤ maxLen) := ⟨by have := HLN.out; rw [HN.out, List.length_append, List.length_append] at this; simp at this; omega, by have := (name_size hok).1; unfold maxLen; omega⟩
           obtain ⟨a', c', rfl⟩ := HI.out.1.shape
           clear hok
           go_wp2_with (first | (go_at_call 180; refine (HC.out _).mono ?_; rintro e w' ⟨rfl, rfl⟩) | (at_builtin; refine push_list (by rfl) _ _ (by rfl) w.heap.size _ don (bk cur) wr (by rfl) HI.out.1 (by rfl) HZ.out.2 HZ.out.1 HI.out.2.2.2.1.size ?_; intro g cap w3 hO3 hg3))
           have HW : Hid (OwnT w.heap.size w3 (.slice (some ⟨g, 0, none⟩) (don.length + 1) cap) (don ++ [bk cur]) ∧ Below w.heap.size w w3) := ⟨hO3, below_push HI.out.2.2.2.1 HI.out.1 hg3 (Nat.le_refl _) HI.out.2.2.2.1.size⟩
           clear hO3 hg3
           go_wp2
           go_roundw
           case rel => exact ⟨k + 1, [], don ++ [bk cur], by omega, by omega, rfl, by go_num, by simp, fun _ => rfl, HW.out.1, HA.out, HN.out, HW.out.2⟩
           case measure => first | (simp [intOf]; done) | (simp [intOf]; omega)
     · have b2 : ((c.toNat : Int) == 47) = false := by rw [show (47 : Int) = ((47 : Nat) : Int) from rfl, u8_eq c 47 (by decide)]; simpa using h47
       have HN : Hid (pts s = don ++ (rem s.data.toList (k + 1) (cur ++ [c])).map bk) := by (
 show _ = _
 rw [HI.out.2.2.1, rem_plain cur Hc.out h47])
       have hbd : ¬ 9223372036854775807 < (bk cur).size + (min (k + 1) s.size - k) := by rw [bk_size]; omega
       have hcat : bk cur ++ s.extract k (k + 1) = bk (cur ++ [c]) := by (
 rw [← bk_of (bk cur ++ s.extract k (k + 1)), data_append, bk_data, Lib.extract_data]
 obtain ⟨hlt', he⟩ := List.getElem?_eq_some_iff.1 Hc.out
 rw [List.drop_eq_getElem_cons hlt', he]
 simp)
       clear h47
       go_wp2
       go_roundw
       case rel => exact ⟨k + 1, cur ++ [c], don, by omega, by omega, rfl, by go_num, by simp; omega, fun e => by omega, HI.out.1, HI.out.2.1, HN.out, HI.out.2.2.2.1⟩
       case measure => first | (simp [intOf]; done) | (simp [intOf]; omega)
   · obtain rfl : k = s.size := by omega
     have HR : Hid (rem s.data.toList s.size cur = flush cur ++ rem s.data.toList (s.size + 1) []) := by (
 show _ = _
 rw [Lib.size_eq]; exact rem_end cur)
     by_cases hcur : cur = []
     · have hemp : (bk cur).toList.isEmpty = true := by rw [empty_iff, bk_size, hcur]; rfl
       have HN : Hid (pts s = don ++ (rem s.data.toList (s.size + 1) []).map bk) := by (
 show _ = _
 rw [HI.out.2.2.1, HR.out, hcur]; rfl)
       clear hcur
       go_wp2
       go_roundw
       case rel => exact ⟨s.size + 1, [], don, by omega, by omega, rfl, by go_num, by simp, fun _ => rfl, HI.out.1, HI.out.2.1, HN.out, HI.out.2.2.2.1⟩
       case measure => first | (simp [intOf]; done) | (simp [intOf]; omega)
     · have hemp : (bk cur).toList.isEmpty = false := by rw [empty_iff, bk_size]; simp; exact hcur
       have HN : Hid (pts s = don ++ [bk cur] ++ (rem s.data.toList (s.size + 1) []).map bk) := by (
 show _ = _
 rw [HI.out.2.2.1, HR.out, flush_ne hcur]; simp)
       clear hcur
       cases hok : nameOk (bk cur)
       · have HC : Hid (∀ W, Calls Tryz.prog 180 #[.string (bk cur)] W fun e w' => e = .returned (.int .i64 106) ∧ W = w') := fun W => by
           have := rname_any (bk cur) W
           rwa [nerr_bad hok] at this
         have HF : Hid (serr s = 106 ∧ sval s = []) := by (
 have hf : (pts s).all nameOk = false := by rw [HN.out, List.all_append, List.all_append]; simp [hok]
 have h1 : serr s = 106 := by simp [serr, HS.out.2, hf, show ¬ 128 < s.size by have := HS.out.1; omega]
 exact ⟨h1, by simp [sval, h1]⟩)
         clear hok
         go_wp2_with (go_at_call 180; refine (HC.out _).mono ?_; rintro e w' ⟨rfl, rfl⟩)
         go_ret2
         exact ⟨_, by rw [HEL.out.1, HF.out.1]; rfl, by rw [HEL.out.2, HF.out.2]; exact OwnT.nil _ _, HI.out.2.2.2.1⟩
       · have HC : Hid (∀ W, Calls Tryz.prog 180 #[.string (bk cur)] W fun e w' => e = .returned (.int .i64 0) ∧ W = w') := fun W => by
           have := rname_any (bk cur) W
           rwa [nerr_zero.2 hok] at this
         have HA : Hid ((don ++ [bk cur]).all nameOk = true) := by show _ = _; rw [List.all_append, HI.out.2.1]; simp [hok]
         have HZ : Hid (don.length < 128 ∧ (bk cur).size ≤ maxLen) := ⟨by have := HLN.out; rw [HN.out, List.length_append, List.length_append] at this; simp at this; omega, by have := (name_size hok).1; unfold maxLen; omega⟩
         obtain ⟨a', c', rfl⟩ := HI.out.1.shape
         clear hok
         go_wp2_with (first | (go_at_call 180; refine (HC.out _).mono ?_; rintro e w' ⟨rfl, rfl⟩) | (at_builtin; refine push_list (by rfl) _ _ (by rfl) w.heap.size _ don (bk cur) wr (by rfl) HI.out.1 (by rfl) HZ.out.2 HZ.out.1 HI.out.2.2.2.1.size ?_; intro g cap w3 hO3 hg3))
         have HW : Hid (OwnT w.heap.size w3 (.slice (some ⟨g, 0, none⟩) (don.length + 1) cap) (don ++ [bk cur]) ∧ Below w.heap.size w w3) := ⟨hO3, below_push HI.out.2.2.2.1 HI.out.1 hg3 (Nat.le_refl _) HI.out.2.2.2.1.size⟩
         clear hO3 hg3
         go_wp2
         go_roundw
         case rel => exact ⟨s.size + 1, [], don ++ [bk cur], by omega, by omega, rfl, by go_num, by simp, fun _ => rfl, HW.out.1, HA.out, HN.out, HW.out.2⟩
         case measure => first | (simp [intOf]; done) | (simp [intOf]; omega)
 · obtain rfl : k = s.size + 1 := by omega
   have hkei : ¬ ((s.size + 1 : Nat) : Int) ≤ (s.size : Int) := by omega
   have HP : Hid (don = pts s) := by (
 show _ = _
 rw [HI.out.2.2.1, rem, if_neg (by rw [← Lib.size_eq]; omega)]; simp)
   obtain ⟨a', c', rfl⟩ := HI.out.1.shape
   have hl := run_len Tryz.underlying57 a' don.length c'
   by_cases h8 : 8 < don.length
   · have HF : Hid (serr s = 5 ∧ sval s = []) := by
       have h1 : serr s = 5 := by (
 have hf := HI.out.2.1
 rw [HP.out] at hf h8
 simp [serr, HS.out.2, hf, show ¬ 128 < s.size by have := HS.out.1; omega, h8])
       exact ⟨h1, by simp [sval, h1]⟩
     have h8i : (8 : Int) < (don.length : Int) := by omega
     go_wp2
     go_ret2
     exact ⟨_, by rw [HEL.out.1, HF.out.1]; rfl, by rw [HEL.out.2, HF.out.2]; exact OwnT.nil _ _, HI.out.2.2.2.1⟩
   · have HF : Hid (serr s = 0 ∧ sval s = don) := by
       have h1 : serr s = 0 := by (
 have hf := HI.out.2.1
 rw [HP.out] at hf h8
 simp [serr, HS.out.2, hf, show ¬ 128 < s.size by have := HS.out.1; omega, h8])
       exact ⟨h1, by simp [sval, h1, HP.out]⟩
     have h8i : ¬ (8 : Int) < (don.length : Int) := by omega
     go_wp2
     go_ret2
     exact ⟨_, by rw [HEL.out.1, HF.out.1]; rfl, by rw [HEL.out.2, HF.out.2]; exact HI.out.1, HI.out.2.2.2.1⟩)
theorem rsplit_any (s : ByteArray) (w : World) : Calls Tryz.prog 112 #[.string s] w fun e w' => ∃ v, e = .returned (.tuple #[v, .int .i64 (serr s)]) ∧ OwnT w.heap.size w' v (sval s) ∧ Below w.heap.size w w' := by
 by_cases h : 128 < s.size
 · have h1 : serr s = 5 := by simp [serr, h]
   have h2 : sval s = [] := by simp [sval, h1]
   rw [h1, h2]
   exact (rsplit_long s w h).mono fun e w' k => ⟨_, k.1, OwnT.nil _ _, by rw [← k.2]; exact Below.refl _ _⟩
 · cases hr : rooted s
   · have h1 : serr s = 106 := by simp [serr, h, hr]
     have h2 : sval s = [] := by simp [sval, h1]
     rw [h1, h2]
     exact (rsplit_bad s w (by omega) hr).mono fun e w' k => ⟨_, k.1, OwnT.nil _ _, by rw [← k.2]; exact Below.refl _ _⟩
   · exact rsplit_good s w (by omega) hr
end Go.Proofs.YtopcefhncildnaaGreatDoor.P
