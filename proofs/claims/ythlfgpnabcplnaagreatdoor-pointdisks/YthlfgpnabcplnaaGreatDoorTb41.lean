import Derived.Test.YthlfgpnabcplnaaGreatDoorTb39
import Derived.Test.YthlfgpnabcplnaaGreatDoorTb36
import Derived.Test.YthlfgpnabcplnaaGreatDoorTb40
import Derived.Test.YthlfgpnabcplnaaGreatDoorTb30
import Derived.Test.YthlfgpnabcplnaaGreatDoorTb17
import Derived.Test.YthlfgpnabcplnaaGreatDoorTb16
/-
  A point is read back from its octets; what stands on a disk's regions behind what was put, flushed, or kept by a crash.
-/
namespace Go.Proofs.YthlfgpnabcplnaaGreatDoor.W
open Go.RowKit
set_option linter.unusedVariables false

theorem tlen_two {n : Nat} {l : List Int} (h : n ≤ 65535) : tlen (two n ++ l) = n := by
  unfold tlen two
  simp only [List.cons_append, List.nil_append, List.getD_cons_zero, List.getD_cons_succ]
  omega
theorem ptO_eq {q : Pt} (h : ptQ q = 0) : ptO q = two (encO (ptRec q)).length ++ (encO (ptRec q) ++ List.replicate (512 - (ptJ q).length) 0) := by
  unfold ptO
  rw [if_pos h, (ptJ_eq h).2, List.append_assoc]
theorem ints_pt {q : Pt} (h : ptQ q = 0) : ∀ x ∈ (ptRec q).2.1, I64 x := fun x hx => by
  obtain ⟨h1, h2, h3, h4, _⟩ := ptE_ok h
  simp only [ptRec, List.mem_cons, List.not_mem_nil, or_false] at hx
  rcases hx with rfl | rfl | rfl | rfl
  · exact in_I64 h1
  · exact in_I64 h2
  · exact in_I64 h3
  · exact in_I64 h4
theorem parts_pt {q : Pt} (h : ptQ q = 0) : tlen (ptO q) = (encO (ptRec q)).length ∧ bod (ptO q) = encO (ptRec q) ∧ rst (ptO q) = List.replicate (512 - (ptJ q).length) 0 := by
  have hl := rec_len h
  have h1 : tlen (ptO q) = (encO (ptRec q)).length := by rw [ptO_eq h]; exact tlen_two (by omega)
  have h2 : (ptO q).drop 2 = encO (ptRec q) ++ List.replicate (512 - (ptJ q).length) 0 := by rw [ptO_eq h]; rfl
  refine ⟨h1, ?_, ?_⟩
  · unfold bod; rw [h1, h2]; exact List.take_left' rfl
  · unfold rst; rw [h1, h2]; exact List.drop_left' rfl
theorem zeros_all (n : Nat) : (List.replicate n (0 : Int)).all (fun x => decide (x = 0)) = true := by
  rw [List.all_eq_true]
  intro x hx
  rw [(List.mem_replicate.1 hx).2]
  rfl
theorem back_pt {q : Pt} (h : ptQ q = 0) (ho : Oc q.2.2.2.2) : dptE (ptO q) = 0 ∧ dptV (ptO q) = q := by
  obtain ⟨h1, h2, h3⟩ := parts_pt h
  have hl := rec_len h
  obtain ⟨d1, d2⟩ := dec_enc (chk_pt h) (ints_pt h) (fun t ht => by
    simp only [ptRec, List.mem_singleton] at ht
    rw [ht]; exact ho)
  have hr : rdpE (bod (ptO q)) = 0 := by
    rw [h2]
    unfold rdpE
    rw [if_neg (by rw [d1]; simp), d2, if_neg (by simp [ptRec]), if_neg (by simp [ptRec])]
    exact h
  have he : dptE (ptO q) = 0 := by
    unfold dptE
    rw [if_neg (by rw [ptO_len h]; simp), h1, if_neg (by omega), if_neg (by rw [hr]; simp), h3, if_pos (zeros_all _)]
  refine ⟨he, ?_⟩
  unfold dptV
  rw [if_pos he, h2]
  unfold rdpV
  rw [if_pos ⟨d1, by rw [d2]; rfl, by rw [d2]; rfl, by rw [d2]; rfl⟩, d2]
  rfl

/-! Rows of a disk. -/

/-- Eight rows that stand for 512 octets. -/
def rows8 (sn : Nat) (d : List Int) : List (Nat × List Int) := (List.range 8).map fun i => (sn + i, Dk.pad (Dk.piece d i))
theorem piece_full (d : List Int) (h : d.length = 512) (i : Nat) (hi : i < 8) : Dk.pad (Dk.piece d i) = Dk.piece d i := by
  refine Dk.pad_full _ ?_
  unfold Dk.piece
  rw [List.length_take, List.length_drop]
  omega
theorem pieces_flat (d : List Int) (h : d.length = 512) : ((List.range 8).map fun i => Dk.pad (Dk.piece d i)).flatten = d := by
  have e : (List.range 8).map (fun i => Dk.pad (Dk.piece d i)) = (List.range 8).map (fun i => Dk.piece d i) := List.map_congr_left fun i hi => piece_full d h i (List.mem_range.1 hi)
  rw [e]
  have hs : ∀ k : Nat, (d.drop k).take 64 ++ d.drop (k + 64) = d.drop k := fun k => by
    have := List.take_append_drop 64 (d.drop k)
    rwa [List.drop_drop] at this
  have h8 : (d.drop 448).take 64 = d.drop 448 := List.take_of_length_le (by rw [List.length_drop]; omega)
  show (Dk.piece d 0 ++ (Dk.piece d 1 ++ (Dk.piece d 2 ++ (Dk.piece d 3 ++ (Dk.piece d 4 ++ (Dk.piece d 5 ++ (Dk.piece d 6 ++ (Dk.piece d 7 ++ [])))))))) = d
  unfold Dk.piece
  simp only [Nat.mul_zero, Nat.mul_one, Nat.reduceMul, List.append_nil]
  rw [h8, hs 384, hs 320, hs 256, hs 192, hs 128, hs 64]
  exact hs 0
theorem get_rows8 (T : List (List Int)) (sn : Nat) (d : List Int) (j : Nat) (hj : j < T.length) : (Dk.fill T (rows8 sn d))[j]? = if sn ≤ j ∧ j < sn + 8 then some (Dk.pad (Dk.piece d (j - sn))) else T[j]? :=
  Dk.fill_set_get T _ j hj (fun i => Dk.pad (Dk.piece d i)) sn 8 rfl
theorem win_new (T : List (List Int)) (sn : Nat) (d : List Int) (hd : d.length = 512) (hT : sn + 8 ≤ T.length) : Dk.window (Dk.fill T (rows8 sn d)) sn 8 = d := by
  unfold Dk.window
  have : ((Dk.fill T (rows8 sn d)).drop sn).take 8 = (List.range 8).map fun i => Dk.pad (Dk.piece d i) := by
    refine List.ext_getElem? fun i => ?_
    rw [List.getElem?_take, List.getElem?_map]
    by_cases hi : i < 8
    · rw [if_pos hi, List.getElem?_drop, get_rows8 T sn d _ (by omega), if_pos (by omega), List.getElem?_range hi, Nat.add_sub_cancel_left]
      rfl
    · rw [if_neg hi, List.getElem?_eq_none (by simpa using hi)]
      rfl
  rw [this, pieces_flat d hd]
/-- Rows elsewhere change nothing of a window. -/
theorem win_far (sm : Nat) : ∀ (ps : List (Nat × List Int)) (T : List (List Int)), (∀ p ∈ ps, p.1 < sm ∨ sm + 8 ≤ p.1) → Dk.window (Dk.fill T ps) sm 8 = Dk.window T sm 8
  | [], T, _ => rfl
  | p :: ps, T, h => by
    have e : Dk.fill T (p :: ps) = Dk.fill (T.set p.1 p.2) ps := rfl
    rw [e, win_far sm ps _ (fun x hx => h x (List.mem_cons_of_mem _ hx)), Dk.window_out T sm 8 p.1 p.2 (h p (List.mem_cons_self ..))]

theorem chk_rows {T : List (List Int)} (h1 : 1 ≤ T.length) (h2 : T.length ≤ 2048) (h : Dk.all64 T) : Dk.chk ⟨T, []⟩ = true := by
  simp only [Dk.chk, Bool.and_eq_true, decide_eq_true_eq, List.all_eq_true]
  exact ⟨⟨⟨⟨h1, h2⟩, by simp⟩, fun l hl => by simpa [Dk.okSec] using h l hl⟩, fun q hq => by cases hq⟩
theorem full_rows {T : List (List Int)} (hc : Dk.chk ⟨T, []⟩ = true) : Dk.full ⟨T, []⟩ = T := by
  have h := (Dk.stand_again hc (fun _ => true)).2
  rw [Dk.stand_good hc] at h
  injection h
theorem gout_rows {T : List (List Int)} (hc : Dk.chk ⟨T, []⟩ = true) (s : Int) (hs : s = 0 ∨ s = 8) (h16 : 16 ≤ T.length) : Dk.gout ⟨T, []⟩ s 8 = Dk.window T s.toNat 8 := by
  have hr : Dk.reach T.length s 8 = true := by unfold Dk.reach; rcases hs with rfl | rfl <;> simp <;> omega
  have he : Dk.gerr ⟨T, []⟩ s 8 = 0 := by
    unfold Dk.gerr
    rw [if_neg (by rw [hc]; simp), if_neg (by rw [hr]; simp)]
  unfold Dk.gout
  rw [if_pos he, full_rows hc]
  rfl
theorem reg_nat (e : Int) : reg e = 0 ∨ reg e = 8 := by unfold reg; split <;> simp
/-- What is put behind rows that stand. -/
theorem past_rows {T : List (List Int)} (hc : Dk.chk ⟨T, []⟩ = true) (h16 : 16 ≤ T.length) (s : Int) (hs : s = 0 ∨ s = 8) (d : List Int) (hd : d.length = 512) (ho : Oc d) :
    Dk.paerr ⟨T, []⟩ s d = 0 ∧ Dk.past ⟨T, []⟩ s d = ⟨T, Dk.pieces s d⟩ ∧ Dk.chk ⟨T, Dk.pieces s d⟩ = true ∧ (∀ lands, Dk.stand ⟨T, Dk.pieces s d⟩ lands = ⟨Dk.fill T (Dk.landed ⟨T, Dk.pieces s d⟩ lands 8), []⟩) := by
  have hn : Dk.need d = 8 := by unfold Dk.need; omega
  have hr : Dk.reach T.length s (Dk.need d) = true := by rw [hn]; unfold Dk.reach; rcases hs with rfl | rfl <;> simp <;> omega
  obtain ⟨k1, k2, -, k4, -, -⟩ := Dk.chk_facts hc
  have hp : Dk.paerr ⟨T, []⟩ s d = 0 := by
    unfold Dk.paerr
    rw [if_neg (by rw [hc]; simp), if_neg (by rw [hr]; simp), if_neg (by rw [hn]; simp)]
  have hq : Dk.past ⟨T, []⟩ s d = ⟨T, Dk.pieces s d⟩ := by
    unfold Dk.past
    rw [if_pos hp]
    rfl
  have hk : Dk.chk ⟨T, Dk.pieces s d⟩ = true := by
    simp only [Dk.chk, Bool.and_eq_true, decide_eq_true_eq, List.all_eq_true]
    refine ⟨⟨⟨⟨k1, k2⟩, by rw [Dk.pieces_length, hn]; omega⟩, fun l hl => by simpa [Dk.okSec] using k4 l hl⟩, fun q hq => ?_⟩
    unfold Dk.pieces at hq
    rw [hn] at hq
    obtain ⟨i, hi, rfl⟩ := List.mem_map.1 hq
    have hi := List.mem_range.1 hi
    have hl := Dk.pad_length (Dk.piece d i) (Dk.piece_le d i)
    unfold Dk.okWrite
    simp only [hl, Bool.and_eq_true, decide_eq_true_eq]
    rcases hs with rfl | rfl
    · exact ⟨⟨by omega, by omega⟩, rfl⟩
    · exact ⟨⟨by omega, by omega⟩, rfl⟩
  refine ⟨hp, hq, hk, fun lands => ?_⟩
  rw [Dk.stand_good hk]
  have := Dk.fill_all ⟨T, Dk.pieces s d⟩ lands
  simp only at this ⊢
  rw [this]
  have hl : (Dk.pieces s d).length = 8 := by rw [Dk.pieces_length, hn]
  rw [hl]
theorem write_rows {T : List (List Int)} {s : Int} (hs : s = 0 ∨ s = 8) (d : List Int) (hd : d.length = 512) (i : Nat) (hi : i < 8) : Dk.write ⟨T, Dk.pieces s d⟩ i = (s.toNat + i, Dk.pad (Dk.piece d i)) := by
  have hn : Dk.need d = 8 := by unfold Dk.need; omega
  unfold Dk.write
  simp only
  rw [Dk.pieces_get s d i (by rw [hn]; exact hi)]
  rcases hs with rfl | rfl
  · simp only [Prod.mk.injEq, and_true]; omega
  · simp only [Prod.mk.injEq, and_true]; omega
theorem landed_rows {T : List (List Int)} {s : Int} (hs : s = 0 ∨ s = 8) (d : List Int) (hd : d.length = 512) : Dk.landed ⟨T, Dk.pieces s d⟩ (fun _ => true) 8 = rows8 s.toNat d := by
  rw [Dk.landed_all]
  unfold rows8
  exact List.map_congr_left fun i hi => write_rows hs d hd i (List.mem_range.1 hi)
theorem landed_near {T : List (List Int)} {s : Int} (hs : s = 0 ∨ s = 8) (d : List Int) (hd : d.length = 512) (lands : Nat → Bool) : ∀ k, k ≤ 8 → ∀ p ∈ Dk.landed ⟨T, Dk.pieces s d⟩ lands k, s.toNat ≤ p.1 ∧ p.1 < s.toNat + 8 ∧ p.2.length = 64
  | 0, _, p, hp => by cases hp
  | k + 1, hk, p, hp => by
    rw [Dk.landed] at hp
    rcases List.mem_append.1 hp with h | h
    · exact landed_near hs d hd lands k (by omega) p h
    · split at h
      · obtain rfl := List.mem_singleton.1 h
        rw [write_rows hs d hd k (by omega)]
        exact ⟨by omega, by simp only; omega, Dk.pad_length _ (Dk.piece_le d k)⟩
      · cases h

/-- Rows of which a disk that serves consists. -/
def Serves (T : List (List Int)) : Prop := 16 ≤ T.length ∧ T.length ≤ 2048 ∧ Dk.all64 T ∧ ∀ l ∈ T, Oc l
theorem Serves.chk {T : List (List Int)} (h : Serves T) : Dk.chk ⟨T, []⟩ = true := chk_rows (by have := h.1; omega) h.2.1 h.2.2.1
theorem Serves.cd {T : List (List Int)} (h : Serves T) (C : List (Int × List Int)) (hc : Dk.chk ⟨T, C⟩ = true) : cdE ⟨T, C⟩ = 0 := by
  unfold cdE Dk.cerr
  rw [hc]
  simp only [if_true]
  rw [if_neg (by have := h.1; omega)]
theorem Serves.fill {T : List (List Int)} (h : Serves T) (ps : List (Nat × List Int)) (hp : ∀ p ∈ ps, p.2.length = 64 ∧ Oc p.2) : Serves (Dk.fill T ps) :=
  ⟨by rw [Dk.fill_length]; exact h.1, by rw [Dk.fill_length]; exact h.2.1, Dk.all64_fill _ _ h.2.2.1 fun p hx => (hp p hx).1, Dk.oct_fill ps T h.2.2.2 fun p hx => (hp p hx).2⟩
/-- The rows behind a point stored. -/
def stT (T : List (List Int)) (q : Pt) : List (List Int) := Dk.fill T (rows8 (reg q.1).toNat (ptO q))
theorem ptO_oc {q : Pt} (ho : Oc q.2.2.2.2) : Oc (ptO q) := by
  unfold ptO
  split
  · rename_i h
    rw [(ptJ_eq h).2]
    refine oc_append.2 ⟨oc_append.2 ⟨two_oc _ (by have := rec_len h; omega), ?_⟩, rep_oc _⟩
    unfold encO
    rw [if_pos (chk_pt h)]
    exact C.sealed_oct _ (laidR_oc (chk_pt h) (fun t ht => by
      simp only [ptRec, List.mem_singleton] at ht
      rw [ht]; exact ho))
  · exact oc_nil
theorem rows8_in {sn : Nat} {d : List Int} (ho : Oc d) : ∀ p ∈ rows8 sn d, p.2.length = 64 ∧ Oc p.2 := fun p hp => by
  obtain ⟨i, _, rfl⟩ := List.mem_map.1 hp
  exact ⟨Dk.pad_length _ (Dk.piece_le d i), Dk.pad_oct (Dk.piece_oct ho i)⟩
theorem Serves.st {T : List (List Int)} (h : Serves T) {q : Pt} (ho : Oc q.2.2.2.2) : Serves (stT T q) := h.fill _ (rows8_in (ptO_oc ho))
theorem store_rows {T : List (List Int)} (h : Serves T) {q : Pt} (hq : ptQ q = 0) (ho : Oc q.2.2.2.2) : stE ⟨T, []⟩ q = 0 ∧ stS ⟨T, []⟩ q = ⟨stT T q, []⟩ := by
  have hd := ptO_len hq
  obtain ⟨h1, h2, h3, h4⟩ := past_rows h.chk h.1 (reg q.1) (reg_nat q.1) (ptO q) hd (ptO_oc ho)
  have hc := h.cd [] h.chk
  refine ⟨?_, ?_⟩
  · unfold stE putS
    rw [if_neg (by rw [hc]; simp), if_neg (by rw [hq]; simp), if_neg (by rw [h1]; simp), h2]
    unfold Dk.cerr
    rw [h3]
    rfl
  · unfold stS putS
    rw [if_pos ⟨hc, hq, h1⟩, h2, h4, landed_rows (reg_nat q.1) (ptO q) hd]
    rfl
/-- What is loaded of rows. -/
theorem load_rows {T : List (List Int)} (h : Serves T) : ldE ⟨T, []⟩ = ldK (Dk.window T 0 8) (Dk.window T 8 8) ∧ ldV ⟨T, []⟩ = ldN (Dk.window T 0 8) (Dk.window T 8 8) := by
  have hc := h.cd [] h.chk
  unfold ldE ldV
  rw [if_neg (by rw [hc]; simp), if_neg (by rw [hc]; simp), gout_rows h.chk 0 (.inl rfl) h.1, gout_rows h.chk 8 (.inr rfl) h.1]
  exact ⟨rfl, rfl⟩
theorem win_st {T : List (List Int)} (h : Serves T) {q : Pt} (hq : ptQ q = 0) : Dk.window (stT T q) (reg q.1).toNat 8 = ptO q := win_new T _ _ (ptO_len hq) (by have := h.1; rcases reg_nat q.1 with e | e <;> rw [e] <;> simp <;> omega)
theorem win_st_far {T : List (List Int)} {q : Pt} (sm : Nat) (hs : sm = 0 ∨ sm = 8) (hn : (sm : Int) ≠ reg q.1) : Dk.window (stT T q) sm 8 = Dk.window T sm 8 := by
  refine win_far sm _ T fun p hp => ?_
  obtain ⟨i, hi, rfl⟩ := List.mem_map.1 hp
  have hi := List.mem_range.1 hi
  simp only
  rcases reg_nat q.1 with e | e <;> rw [e] at hn ⊢ <;> rcases hs with rfl | rfl <;> simp at hn ⊢ <;> omega
theorem new_serves (n : Nat) (h1 : 16 ≤ n) (h2 : n ≤ 2048) : Serves (List.replicate n Dk.zeros) :=
  ⟨by simpa using h1, by simpa using h2, Dk.all64_zeros n, fun l hl => by rw [(List.mem_replicate.1 hl).2]; exact Dk.zeros_oct⟩

end Go.Proofs.YthlfgpnabcplnaaGreatDoor.W

/-
  The laws' small functions on points: num, of, same.
-/
namespace Go.Proofs.YthlfgpnabcplnaaGreatDoor.W
open Go.RowKit
set_option linter.unusedVariables false

theorem fits_by {l : List Int} (h : bytesS.fits l) : l.length ≤ 140737488351232 := by
  have b5 : Tryz.prog.bytesOf 5 = 1 := by kernel_rfl
  have h5 : l.length * Tryz.prog.bytesOf 5 ≤ 140737488351232 := h
  rwa [b5, Nat.mul_one] at h5
theorem fits_pt {q : Pt} (h : ptF.fits q) : q.2.2.2.2.length ≤ 140737488351232 := by
  obtain ⟨_, _, _, _, h6⟩ := h
  exact fits_by h6

set_option maxHeartbeats 400000 in
theorem num17 (x : Int) (w : World) : Calls Tryz.prog 13 #[.int .i64 x] w fun e w' => e = .returned (.int .i64 x) ∧ w = w' := by
  go_enter Tryz.func13, Tryz.ntmps13
  go_wp2
  go_ret
  exact ⟨rfl, rfl⟩
theorem own_set5 {n B : Nat} {w : World} {v : Value} {l : List Int} {t : TypeId} {cs : Array Value} (h : Own1 n w v l) (hB : Box w B t cs) (hid : t ∉ bytesS.ids) (u0 u1 u2 u3 u4 : Value) : Own1 n (set5 w B u0 u1 u2 u3 u4) v l :=
  bytesS.ogrown (bytesS.ogrown (bytesS.ogrown (bytesS.ogrown (bytesS.ogrown h (grown_set w B 0 u0) (hB.clear hid)) (grown_set _ B 1 u1) ((hB.set 0 u0).clear hid)) (grown_set _ B 2 u2) (((hB.set 0 u0).set 1 u1).clear hid)) (grown_set _ B 3 u3) ((((hB.set 0 u0).set 1 u1).set 2 u2).clear hid)) (grown_set _ B 4 u4) (((((hB.set 0 u0).set 1 u1).set 2 u2).set 3 u3).clear hid)

set_option maxRecDepth 100000 in
set_option maxHeartbeats 4000000 in
theorem of17 {n1 : Nat} {e s v c : Int} {da : Option Addr} {dl dc : Nat} {d : List Int} (hd : dl = d.length) (hs : d.length ≤ 140737488355328) {w : World} (hD : Arg n1 w (.slice da dl dc) d) :
    Calls Tryz.prog 6 #[.agg #[.int .i64 e, .int .i64 s, .int .i64 v, .int .i64 c, .slice da dl dc]] w fun r w' => (∃ a z, r = .returned (.agg #[.int .i64 e, .int .i64 s, .int .i64 v, .int .i64 c, .slice a dl z]) ∧ Own1 w.heap.size w' (.slice a dl z) d) ∧ Below w.heap.size w w' := by
  obtain ⟨W1, hW1⟩ : ∃ W, W = (w.alloc (.cells #[.int .i64 e, .int .i64 s, .int .i64 v, .int .i64 c, .slice da dl dc] 24)).alloc (.cells #[.int .i64 0, .int .i64 0, .int .i64 0, .int .i64 0, .slice none 0 0] 25) := ⟨_, rfl⟩
  have hb1 : Below w.heap.size w W1 := by rw [hW1]; exact ((Below.refl _ w).alloc (Nat.le_refl _) _).alloc (by simp) _
  have hBp : Box W1 w.heap.size 24 #[.int .i64 e, .int .i64 s, .int .i64 v, .int .i64 c, .slice da dl dc] := by rw [hW1]; exact (Box.new _ _ _).alloc _
  have hBr : Box W1 (w.heap.size + 1) 25 #[.int .i64 0, .int .i64 0, .int .i64 0, .int .i64 0, .slice none 0 0] := by
    rw [hW1]
    have := Box.new (w.alloc (.cells #[.int .i64 e, .int .i64 s, .int .i64 v, .int .i64 c, .slice da dl dc] 24)) 25 #[.int .i64 0, .int .i64 0, .int .i64 0, .int .i64 0, .slice none 0 0]
    rwa [World.size_alloc] at this
  have HB : Hid (Below w.heap.size w W1 ∧ Box W1 w.heap.size 24 #[.int .i64 e, .int .i64 s, .int .i64 v, .int .i64 c, .slice da dl dc] ∧ Box W1 (w.heap.size + 1) 25 #[.int .i64 0, .int .i64 0, .int .i64 0, .int .i64 0, .slice none 0 0] ∧ dl = d.length ∧ Arg n1 w (.slice da dl dc) d ∧ d.length ≤ 140737488355328) := ⟨hb1, hBp, hBr, hd, hD, hs⟩
  have HS : Hid (∀ U, Below W1.heap.size W1 U → U.cell? ⟨w.heap.size, 0, none⟩ = some (.int .i64 e) ∧ U.cell? ⟨w.heap.size, 1, none⟩ = some (.int .i64 s) ∧ U.cell? ⟨w.heap.size, 2, none⟩ = some (.int .i64 v) ∧ U.cell? ⟨w.heap.size, 3, none⟩ = some (.int .i64 c) ∧ U.cell? ⟨w.heap.size, 4, none⟩ = some (.slice da dl dc)) := fun U hU => (box5 (hBp.below hU hBp.lt)).1
  clear hb1 hBp hBr hd hD hs
  go_enter Tryz.func6, Tryz.ntmps6
  go_upto_region 1 with fail
  rw [← hW1]
  clear hW1
  obtain ⟨X0, hX0⟩ : ∃ Z, Z = W1.drew := ⟨_, rfl⟩
  have hbX : Below W1.heap.size W1 X0 := by rw [hX0]; exact (Below.refl _ W1).drew
  refine AnyBut.begin (fun U => U.cell? ⟨w.heap.size, 0, none⟩ = some (.int .i64 e) ∧ U.cell? ⟨w.heap.size, 1, none⟩ = some (.int .i64 s) ∧ U.cell? ⟨w.heap.size, 2, none⟩ = some (.int .i64 v) ∧ U.cell? ⟨w.heap.size, 3, none⟩ = some (.int .i64 c) ∧ U.cell? ⟨w.heap.size, 4, none⟩ = some (.slice da dl dc)) 1000 (by kernel_rfl) ?_
  rw [← hX0]
  clear hX0
  have hSS := HS.out X0 hbX
  refine tx 0 3 hSS ?_
  simp only [ua, ub, uc, ud]
  refine tx 1 4 hSS ?_
  simp only [ua, ub, uc, ud]
  refine tx 2 5 hSS ?_
  simp only [ua, ub, uc, ud]
  refine tx 3 6 hSS ?_
  simp only [ua, ub, uc, ud]
  refine tx 4 7 hSS ?_
  simp only [ua, ub, uc, ud]
  refine tx 5 8 hSS ?_
  simp only [ua, ub, uc, ud]
  refine tx 6 9 hSS ?_
  simp only [ua, ub, uc, ud]
  refine tx 7 10 hSS ?_
  simp only [ua, ub, uc, ud]
  refine tx 8 11 hSS ?_
  simp only [ua, ub, uc, ud]
  refine tx 9 12 hSS ?_
  simp only [ua, ub, uc, ud]
  refine AnyBut.step (i := 10) (by kernel_rfl) rfl (fun K hK => ?_)
  go_simp
  refine (copy_any n1 (.slice da dl dc) d X0 (HB.out.2.2.2.2.1.below (HB.out.1.trans (hbX.mono HB.out.1.size))) HB.out.2.2.2.2.2).mono ?_
  rintro r w4 ⟨⟨v4, rfl, ho4⟩, hb4⟩
  dsimp only
  have hb4' := below_any hbX hb4
  obtain ⟨ga, gc, rfl⟩ := ho4.shape
  rw [← HB.out.2.2.2.1] at ho4 ⊢
  have hSS := HS.out w4 hb4'
  refine hK.out _ _ hSS ?_
  clear hK
  refine tx 11 14 hSS ?_
  simp only [ua, ub, uc, ud]
  have hBr4 := HB.out.2.2.1.below hb4' HB.out.2.2.1.lt
  obtain ⟨⟨d0, d1, d2, d3, d4⟩, e0, e1, e2, e3, e4⟩ := box5 hBr4
  refine AnyBut.step (i := 12) (by kernel_rfl) rfl (fun K hK => ?_)
  go_simp
  obtain ⟨X, hX⟩ : ∃ Z, Z = ((((w4.setCell ⟨w.heap.size + 1, 0, none⟩ (.int .i64 e)).setCell ⟨w.heap.size + 1, 1, none⟩ (.int .i64 s)).setCell ⟨w.heap.size + 1, 2, none⟩ (.int .i64 v)).setCell ⟨w.heap.size + 1, 3, none⟩ (.int .i64 c)).setCell ⟨w.heap.size + 1, 4, none⟩ (.slice ga dl gc) := ⟨_, rfl⟩
  have HX : Hid (Below w.heap.size w X ∧ Box X (w.heap.size + 1) 25 #[.int .i64 e, .int .i64 s, .int .i64 v, .int .i64 c, .slice ga dl gc] ∧ Own1 w.heap.size X (.slice ga dl gc) d) := by
    rw [hX]
    exact ⟨below_set5 (HB.out.1.trans (hb4'.mono HB.out.1.size)) (by omega) _ _ _ _ _, box_set5 hBr4 _ _ _ _ _, bytesS.oweaken (own_set5 ho4 hBr4 (by decide) _ _ _ _ _) (Nat.le_trans HB.out.1.size hbX.size)⟩
  have hSX : X.cell? ⟨w.heap.size, 0, none⟩ = some (.int .i64 e) ∧ X.cell? ⟨w.heap.size, 1, none⟩ = some (.int .i64 s) ∧ X.cell? ⟨w.heap.size, 2, none⟩ = some (.int .i64 v) ∧ X.cell? ⟨w.heap.size, 3, none⟩ = some (.int .i64 c) ∧ X.cell? ⟨w.heap.size, 4, none⟩ = some (.slice da dl dc) := by
    rw [hX]
    exact (box5 (box_oth5 (HB.out.2.1.below hb4' HB.out.2.1.lt) (by omega) _ _ _ _ _)).1
  rw [← hX]
  refine hK.out _ _ hSX ?_
  clear hK hX d0 d1 d2 d3 d4 e0 e1 e2 e3 e4 hBr4 ho4 hb4 hb4' hSS hbX HS hSX
  refine AnyBut.done (by kernel_rfl) ?_
  obtain ⟨⟨d0, d1, d2, d3, d4⟩, -⟩ := box5 HX.out.2.1
  go_wp2
  refine bodyPost_ret (v := .agg #[.int .i64 e, .int .i64 s, .int .i64 v, .int .i64 c, .slice ga dl gc]) (by simp [results, Tryz.results6, go_sem, *]) rfl ⟨⟨ga, gc, rfl, HX.out.2.2⟩, HX.out.1⟩

set_option maxRecDepth 100000 in
set_option maxHeartbeats 4000000 in
theorem same17 {n1 n2 : Nat} {e s v c : Int} {xa ya : Option Addr} {dl xc yc : Nat} {d : List Int} {w : World} (h1 : Arg n1 w (.slice xa dl xc) d) (h2 : Arg n2 w (.slice ya dl yc) d) :
    Calls Tryz.prog 14 #[.agg #[.int .i64 e, .int .i64 s, .int .i64 v, .int .i64 c, .slice xa dl xc], .agg #[.int .i64 e, .int .i64 s, .int .i64 v, .int .i64 c, .slice ya dl yc]] w fun r w' => r = .returned (.bool true) ∧ Below w.heap.size w w' := by
  obtain ⟨W1, hW1⟩ : ∃ W, W = (w.alloc (.cells #[.int .i64 e, .int .i64 s, .int .i64 v, .int .i64 c, .slice xa dl xc] 25)).alloc (.cells #[.int .i64 e, .int .i64 s, .int .i64 v, .int .i64 c, .slice ya dl yc] 24) := ⟨_, rfl⟩
  have hb1 : Below w.heap.size w W1 := by rw [hW1]; exact ((Below.refl _ w).alloc (Nat.le_refl _) _).alloc (by simp) _
  have hBp : Box W1 w.heap.size 25 #[.int .i64 e, .int .i64 s, .int .i64 v, .int .i64 c, .slice xa dl xc] := by rw [hW1]; exact (Box.new _ _ _).alloc _
  have hBr : Box W1 (w.heap.size + 1) 24 #[.int .i64 e, .int .i64 s, .int .i64 v, .int .i64 c, .slice ya dl yc] := by
    rw [hW1]
    have := Box.new (w.alloc (.cells #[.int .i64 e, .int .i64 s, .int .i64 v, .int .i64 c, .slice xa dl xc] 25)) 24 #[.int .i64 e, .int .i64 s, .int .i64 v, .int .i64 c, .slice ya dl yc]
    rwa [World.size_alloc] at this
  have HB : Hid (Below w.heap.size w W1) := hb1
  have HC := same_any n1 n2 (.slice xa dl xc) (.slice ya dl yc) d d W1 (h1.below hb1) (h2.below hb1)
  rw [decide_eq_true rfl] at HC
  obtain ⟨⟨f0, f1, f2, f3, f4⟩, -⟩ := box5 hBp
  obtain ⟨⟨g0, g1, g2, g3, g4⟩, -⟩ := box5 hBr
  clear hb1 hBp hBr h1 h2
  go_enter Tryz.func14, Tryz.ntmps14
  go_upto_region 1 with fail
  rw [← hW1]
  clear hW1
  go_wp2_with fail
  refine HC.mono ?_
  rintro r w2 ⟨rfl, q, rfl⟩
  have H2 : Hid (Below w.heap.size w (W1.drewN q)) := below_drewN HB.out q
  obtain ⟨X, hX⟩ : ∃ X, X = W1.drewN q := ⟨_, rfl⟩
  rw [← hX] at H2 ⊢
  clear hX f0 f1 f2 f3 f4 g0 g1 g2 g3 g4 HC
  go_wp2
  go_ret
  exact ⟨rfl, H2.out⟩

end Go.Proofs.YthlfgpnabcplnaaGreatDoor.W
/-
  The statements' helper alive: two points stored on a new disk, the second one loaded.
-/
namespace Go.Proofs.YthlfgpnabcplnaaGreatDoor.W
open Go.RowKit
set_option linter.unusedVariables false

def zrows : List (List Int) := List.replicate 16 Dk.zeros
theorem serves0 : Serves zrows := new_serves 16 (by decide) (by decide)
/-- Two points stored one behind the other on rows that serve: the second one is loaded. -/
theorem two_stored {T : List (List Int)} (h : Serves T) {p q : Pt} (hp : ptQ p = 0) (hq : ptQ q = 0) (op : Oc p.2.2.2.2) (oq : Oc q.2.2.2.2) (hr : reg q.1 ≠ reg p.1) (hlt : p.1 < q.1) : ldE ⟨stT (stT T p) q, []⟩ = 0 ∧ ldV ⟨stT (stT T p) q, []⟩ = q := by
  have h1 := h.st op
  obtain ⟨l1, l2⟩ := load_rows (h1.st oq)
  obtain ⟨p1, p2⟩ := back_pt hp op
  obtain ⟨q1, q2⟩ := back_pt hq oq
  have hw := win_st h1 hq
  have hv := win_st h hp
  rw [l1, l2]
  rcases reg_nat q.1 with e | e
  · have e2 : reg p.1 = 8 := by rcases reg_nat p.1 with f | f; · exact absurd (e.trans f.symm) hr
                                · exact f
    rw [e] at hw
    rw [e2] at hv
    have hf : Dk.window (stT (stT T p) q) 8 8 = Dk.window (stT T p) 8 8 := win_st_far 8 (.inr rfl) (by rw [e]; decide)
    have hw : Dk.window (stT (stT T p) q) 0 8 = ptO q := hw
    have hv : Dk.window (stT T p) 8 8 = ptO p := hv
    rw [hw, hf, hv]
    unfold ldK ldN
    rw [if_pos (.inl q1), if_pos q1, if_neg (fun x => by have := x.2; rw [p2, q2] at this; omega)]
    exact ⟨rfl, q2⟩
  · have e2 : reg p.1 = 0 := by rcases reg_nat p.1 with f | f; · exact f
                                · exact absurd (e.trans f.symm) hr
    rw [e] at hw
    rw [e2] at hv
    have hf : Dk.window (stT (stT T p) q) 0 8 = Dk.window (stT T p) 0 8 := win_st_far 0 (.inl rfl) (by rw [e]; decide)
    have hw : Dk.window (stT (stT T p) q) 8 8 = ptO q := hw
    have hv : Dk.window (stT T p) 0 8 = ptO p := hv
    rw [hw, hf, hv]
    unfold ldK ldN
    rw [if_pos (.inl p1), if_pos p1, if_pos ⟨q1, by rw [p2, q2]; exact hlt⟩]
    exact ⟨rfl, q2⟩
def p1 : Pt := (1, 0, 0, 0, [])
def p2 : Pt := (2, 7, 0, 0, [])
theorem al_math : stE ⟨zrows, []⟩ p1 = 0 ∧ stS ⟨zrows, []⟩ p1 = ⟨stT zrows p1, []⟩ ∧ stE ⟨stT zrows p1, []⟩ p2 = 0 ∧ stS ⟨stT zrows p1, []⟩ p2 = ⟨stT (stT zrows p1) p2, []⟩ ∧ ldE ⟨stT (stT zrows p1) p2, []⟩ = 0 ∧ ldV ⟨stT (stT zrows p1) p2, []⟩ = p2 := by
  have h1 : ptQ p1 = 0 := by decide
  have h2 : ptQ p2 = 0 := by decide
  obtain ⟨a1, a2⟩ := store_rows serves0 h1 oc_nil
  obtain ⟨b1, b2⟩ := store_rows (serves0.st (q := p1) oc_nil) h2 oc_nil
  obtain ⟨c1, c2⟩ := two_stored serves0 h1 h2 oc_nil oc_nil (by decide) (by decide)
  exact ⟨a1, a2, b1, b2, c1, c2⟩

set_option maxRecDepth 100000 in
set_option maxHeartbeats 8000000 in
theorem alive17 (w : World) (hg : Glob w) : Calls Tryz.prog 17 #[] w fun e w' => e = .returned (.bool true) ∧ Below w.heap.size w w' := by
  obtain ⟨m1, m2, m3, m4, m5, m6⟩ := al_math
  have HM : Hid (stE ⟨zrows, []⟩ p1 = 0 ∧ stS ⟨zrows, []⟩ p1 = ⟨stT zrows p1, []⟩ ∧ stE ⟨stT zrows p1, []⟩ p2 = 0 ∧ stS ⟨stT zrows p1, []⟩ p2 = ⟨stT (stT zrows p1) p2, []⟩ ∧ ldE ⟨stT (stT zrows p1) p2, []⟩ = 0 ∧ ldV ⟨stT (stT zrows p1) p2, []⟩ = p2) := ⟨m1, m2, m3, m4, m5, m6⟩
  have HG : Hid (∀ V, Below w.heap.size w V → Glob V) := fun V hV => hg.below hV hg.lt
  clear m1 m2 m3 m4 m5 m6 hg
  go_enter Tryz.func17, Tryz.ntmps17
  go_wp2_with fail
  refine (Dk.new_any 16 w (by omega) (by omega)).mono ?_
  rintro r w1 ⟨v1, rfl, hG, hb1⟩
  have hd1 : Dk.Disk w.heap.size w1 (.agg #[v1, .slice none 0 0]) ⟨zrows, []⟩ := Dk.Grid.disk hG
  obtain ⟨x1, y1, x2, y2, heq, -, -⟩ := hd1.shape
  simp only [Value.agg.injEq, Array.mk.injEq, List.cons.injEq, and_true] at heq
  obtain ⟨rfl, -⟩ := heq
  have h16 : zrows.length = 16 := by simp [zrows]
  rw [h16] at hd1 ⊢
  obtain ⟨V1, hV1⟩ : ∃ V, V = w1.alloc (.cells #[.slice x1 16 y1, .slice none 0 0] 50) := ⟨_, rfl⟩
  have hbV : Below w1.heap.size w1 V1 := by rw [hV1]; exact (Below.refl _ w1).alloc (Nat.le_refl _) _
  have hBV : Box V1 w1.heap.size 50 #[.slice x1 16 y1, .slice none 0 0] := by rw [hV1]; exact Box.new _ _ _
  obtain ⟨N, hN⟩ : ∃ N, N = w1.heap.size := ⟨_, rfl⟩
  have H1 : Hid (Below w.heap.size w V1 ∧ Box V1 w1.heap.size 50 #[.slice x1 16 y1, .slice none 0 0] ∧ Dk.Disk w.heap.size V1 (.agg #[.slice x1 16 y1, .slice none 0 0]) ⟨zrows, []⟩ ∧ w.heap.size ≤ N) := ⟨below_any hb1 hbV, hBV, hd1.below hbV, by rw [hN]; exact hb1.size⟩
  rw [← hN] at H1
  clear hG hb1 hd1 hbV hBV h16
  go_upto_region 2 with fail
  rw [← hV1, ← hN]
  clear hV1 hN
  have HS := store_any (S := ⟨zrows, []⟩) (e := 1) (s := 0) (v := 0) (c := 0) (d := []) (dl := 0) rfl H1.out.2.2.1 (Own1.nil V1.heap.size V1).arg
  rw [show ((1, 0, 0, 0, []) : Pt) = p1 from rfl, HM.out.1, HM.out.2.1] at HS
  obtain ⟨g0, g1, -, -⟩ := H1.out.2.1.two
  go_wp2_with fail
  clear g0 g1
  refine HS.mono ?_
  rintro r w2 ⟨v2, rfl, hd, hb⟩
  obtain ⟨a2, b2, c2, d2, rfl, -, -⟩ := hd.shape
  obtain ⟨k1, hk1⟩ : ∃ z, z = (⟨stT zrows p1, []⟩ : Dk.St).secs.length := ⟨_, rfl⟩
  obtain ⟨k2, hk2⟩ : ∃ z, z = (⟨stT zrows p1, []⟩ : Dk.St).cache.length := ⟨_, rfl⟩
  rw [← hk1, ← hk2] at hd ⊢
  have hB := H1.out.2.1.below hb H1.out.2.1.lt
  obtain ⟨n2, hn2⟩ : ∃ z, z = k1 := ⟨_, rfl⟩
  obtain ⟨l2, hl2⟩ : ∃ z, z = k2 := ⟨_, rfl⟩
  rw [← hn2, ← hl2] at hd ⊢
  clear hk1 hk2 hn2 hl2
  obtain ⟨V2, hV2⟩ : ∃ V, V = (w2.setCell ⟨N, 0, none⟩ (.slice a2 n2 b2)).setCell ⟨N, 1, none⟩ (.slice c2 l2 d2) := ⟨_, rfl⟩
  have H2 : Hid (Below w.heap.size w V2 ∧ Box V2 N 50 #[.slice a2 n2 b2, .slice c2 l2 d2] ∧ Dk.Disk w.heap.size V2 (.agg #[.slice a2 n2 b2, .slice c2 l2 d2]) ⟨stT zrows p1, []⟩ ∧ w.heap.size ≤ N) := by
    rw [hV2]
    exact ⟨below_set2 (below_any H1.out.1 hb) H1.out.2.2.2 _ _, (hB.set 0 _).set 1 _, (dkd_same2 hd H1.out.2.1.lt _ _).weaken H1.out.1.size, H1.out.2.2.2⟩
  obtain ⟨d0, d1, e0, e1⟩ := hB.two
  clear hd hb hB HS
  go_upto_region 3 with fail
  rw [← hV2]
  clear hV2 d0 d1 e0 e1 H1
  have HS := store_any (S := ⟨stT zrows p1, []⟩) (e := 2) (s := 7) (v := 0) (c := 0) (d := []) (dl := 0) rfl H2.out.2.2.1 (Own1.nil V2.heap.size V2).arg
  rw [show ((2, 7, 0, 0, []) : Pt) = p2 from rfl, HM.out.2.2.1, HM.out.2.2.2.1] at HS
  obtain ⟨g0, g1, -, -⟩ := H2.out.2.1.two
  go_wp2_with fail
  clear g0 g1
  refine HS.mono ?_
  rintro r w3 ⟨v3, rfl, hd, hb⟩
  obtain ⟨a3, b3, c3, d3, rfl, -, -⟩ := hd.shape
  obtain ⟨k1, hk1⟩ : ∃ z, z = (⟨stT (stT zrows p1) p2, []⟩ : Dk.St).secs.length := ⟨_, rfl⟩
  obtain ⟨k2, hk2⟩ : ∃ z, z = (⟨stT (stT zrows p1) p2, []⟩ : Dk.St).cache.length := ⟨_, rfl⟩
  rw [← hk1, ← hk2] at hd ⊢
  have hB := H2.out.2.1.below hb H2.out.2.1.lt
  obtain ⟨n3, hn3⟩ : ∃ z, z = k1 := ⟨_, rfl⟩
  obtain ⟨l3, hl3⟩ : ∃ z, z = k2 := ⟨_, rfl⟩
  rw [← hn3, ← hl3] at hd ⊢
  clear hk1 hk2 hn3 hl3
  obtain ⟨V3, hV3⟩ : ∃ V, V = (w3.setCell ⟨N, 0, none⟩ (.slice a3 n3 b3)).setCell ⟨N, 1, none⟩ (.slice c3 l3 d3) := ⟨_, rfl⟩
  have H3 : Hid (Below w.heap.size w V3 ∧ Box V3 N 50 #[.slice a3 n3 b3, .slice c3 l3 d3] ∧ Dk.Disk w.heap.size V3 (.agg #[.slice a3 n3 b3, .slice c3 l3 d3]) ⟨stT (stT zrows p1) p2, []⟩ ∧ w.heap.size ≤ N) := by
    rw [hV3]
    exact ⟨below_set2 (below_any H2.out.1 hb) H2.out.2.2.2 _ _, (hB.set 0 _).set 1 _, (dkd_same2 hd H2.out.2.1.lt _ _).weaken H2.out.1.size, H2.out.2.2.2⟩
  obtain ⟨d0, d1, e0, e1⟩ := hB.two
  clear hd hb hB HS
  go_upto_region 4 with fail
  rw [← hV3]
  clear hV3 d0 d1 e0 e1 H2
  have HL := load_any w.heap.size _ _ V3 H3.out.2.2.1 (HG.out V3 H3.out.1)
  rw [HM.out.2.2.2.2.1, HM.out.2.2.2.2.2] at HL
  obtain ⟨g0, g1, -, -⟩ := H3.out.2.1.two
  go_wp2_with fail
  clear g0 g1
  refine HL.mono ?_
  rintro r w4 ⟨u, rfl, ⟨ya, yc, rfl, hya⟩, hb⟩
  have HZ : Hid (Below w.heap.size w w4) := below_any H3.out.1 hb
  have hp : p2 = (2, 7, 0, 0, []) := rfl
  rw [hp] at hya ⊢
  simp only [List.length_nil] at hya ⊢
  clear hya hb HL hp
  go_wp2_with (first | (with_reducible refine Calls.mono (num17 _ _) ?_; rintro _ _ ⟨rfl, rfl⟩))
  go_ret
  refine ⟨rfl, ?_⟩
  exact HZ.out.alloc HZ.out.size _

end Go.Proofs.YthlfgpnabcplnaaGreatDoor.W
/-
  Checkpoints on a disk: what the document's Load answers.
-/
namespace Go.Proofs.YthlfgpnabcplnaaGreatDoor.W
open Go.RowKit
set_option linter.unusedVariables false

set_option maxRecDepth 100000 in
set_option maxHeartbeats 16000000 in
theorem rload_any (n0 : Nat) (vd : Value) (S : Dk.St) (w : World) (hS : Dk.Disk n0 w vd S) :
    Calls Tryz.prog 22 #[vd] w fun r w' => ∃ u, r = .returned (.tuple #[u, .int .i64 (ldE S)]) ∧ PtL w.heap.size w' u (ldV S) ∧ Below w.heap.size w w' := by
  obtain ⟨a1, c1, a2, c2, rfl, _, _⟩ := hS.shape
  obtain ⟨n, hn⟩ : ∃ z, z = S.secs.length := ⟨_, rfl⟩
  obtain ⟨m, hm⟩ : ∃ z, z = S.cache.length := ⟨_, rfl⟩
  rw [← hn, ← hm] at hS ⊢
  obtain ⟨W1, hW1⟩ : ∃ W, W = (w.alloc (.cells #[.slice a1 n c1, .slice a2 m c2] 47)).alloc (.cells #[.int .i64 0, .int .i64 0, .int .i64 0, .int .i64 0, .slice none 0 0] 24) := ⟨_, rfl⟩
  have hb1 : Below w.heap.size w W1 := by rw [hW1]; exact ((Below.refl _ w).alloc (Nat.le_refl _) _).alloc (by simp) _
  have hBd : Box W1 w.heap.size 47 #[.slice a1 n c1, .slice a2 m c2] := by rw [hW1]; exact (Box.new _ _ _).alloc _
  have hBr : Box W1 (w.heap.size + 1) 24 #[.int .i64 0, .int .i64 0, .int .i64 0, .int .i64 0, .slice none 0 0] := by
    rw [hW1]
    have := Box.new (w.alloc (.cells #[.slice a1 n c1, .slice a2 m c2] 47)) 24 #[.int .i64 0, .int .i64 0, .int .i64 0, .int .i64 0, .slice none 0 0]
    rwa [World.size_alloc] at this
  have HC := rcdisk_any n0 _ S W1 (hS.below hb1)
  have HB : Hid (Below w.heap.size w W1 ∧ Box W1 w.heap.size 47 #[.slice a1 n c1, .slice a2 m c2] ∧ Box W1 (w.heap.size + 1) 24 #[.int .i64 0, .int .i64 0, .int .i64 0, .int .i64 0, .slice none 0 0] ∧ w.heap.size + 1 < W1.heap.size) := ⟨hb1, hBd, hBr, hBr.lt⟩
  have HI : Hid (Dk.Disk n0 w (.agg #[.slice a1 n c1, .slice a2 m c2]) S) := hS
  obtain ⟨post, hpost⟩ : ∃ post : Ending → World → Prop, post = fun r w' => ∃ u, r = .returned (.tuple #[u, .int .i64 (ldE S)]) ∧ PtL w.heap.size w' u (ldV S) ∧ Below w.heap.size w w' := ⟨_, rfl⟩
  have HPo : Hid (∀ (k : Int) u w', k = ldE S → PtL w.heap.size w' u (ldV S) → Below w.heap.size w w' → post (.returned (.tuple #[u, .int .i64 k])) w') := fun k u w' h1 h2 h3 => by rw [hpost, h1]; exact ⟨u, rfl, h2, h3⟩
  have HPz : Hid (∀ (k : Int) V, k = ldE S → ldV S = zP → Below w.heap.size w V → ∀ u0 u1 u2 u3 u4 U, U = .tuple #[.agg #[.int .i64 0, .int .i64 0, .int .i64 0, .int .i64 0, .slice none 0 0], .int .i64 k] → post (.returned U) (set5 V (w.heap.size + 1) u0 u1 u2 u3 u4)) := fun k V h1 h0 h2 u0 u1 u2 u3 u4 U hU => by
    rw [hU]
    refine HPo.out _ _ _ h1 ?_ (below_set5 h2 (by omega) _ _ _ _ _)
    rw [h0]
    exact ptl_zero _ _
  have HPy : Hid (∀ V x0 x1 x2 x3 xa xl xc xd, Below w.heap.size w V → Arg W1.heap.size V (.slice xa xl xc) xd → xl = xd.length → ldE S = 0 → ldV S = (x0, x1, x2, x3, xd) → ∀ u0 u1 u2 u3 u4 U, U = .tuple #[.agg #[.int .i64 x0, .int .i64 x1, .int .i64 x2, .int .i64 x3, .slice xa xl xc], .int .i64 0] → post (.returned U) (set5 V (w.heap.size + 1) u0 u1 u2 u3 u4)) := fun V x0 x1 x2 x3 xa xl xc xd h2 hA hl h0 hv u0 u1 u2 u3 u4 U hU => by
    rw [hU]
    refine HPo.out 0 _ _ h0.symm ?_ (below_set5 h2 (by omega) _ _ _ _ _)
    rw [hv]
    have ha := (Arg.keep hA (same_set5 (u0 := u0) (u1 := u1) (u2 := u2) (u3 := u3) (u4 := u4) (B := w.heap.size + 1) HB.out.2.2.2)).weaken HB.out.1.size
    rw [hl] at ha ⊢
    exact ⟨xa, xc, rfl, ha⟩
  rw [← hpost]
  obtain ⟨oe, hoe⟩ : ∃ z, z = cdE S := ⟨_, rfl⟩
  have HOE : Hid (oe = cdE S) := hoe
  rw [← hoe] at HC
  obtain ⟨q0, q1, -, -⟩ := hBd.two
  rw [hW1] at q0 q1
  clear hpost hoe hb1 hBd hBr hS hn hm
  go_enter Tryz.func22, Tryz.ntmps22
  go_wp2_with fail
  rw [← hW1]
  clear hW1 q0 q1
  refine HC.mono ?_
  rintro r w2 ⟨rfl, hb2⟩
  have H2 : Hid (Below w.heap.size w w2 ∧ Box w2 w.heap.size 47 #[.slice a1 n c1, .slice a2 m c2] ∧ Box w2 (w.heap.size + 1) 24 #[.int .i64 0, .int .i64 0, .int .i64 0, .int .i64 0, .slice none 0 0] ∧ Below W1.heap.size W1 w2) := ⟨below_any HB.out.1 hb2, HB.out.2.1.below hb2 HB.out.2.1.lt, HB.out.2.2.1.below hb2 HB.out.2.2.1.lt, hb2⟩
  clear HC hb2
  by_cases hoz : oe = 0
  rotate_left
  · have HQ : Hid (∀ u0 u1 u2 u3 u4 U, U = .tuple #[.agg #[.int .i64 0, .int .i64 0, .int .i64 0, .int .i64 0, .slice none 0 0], .int .i64 oe] → post (.returned U) (set5 w2 (w.heap.size + 1) u0 u1 u2 u3 u4)) := HPz.out oe w2 (by unfold ldE; rw [if_pos (by rw [← HOE.out]; exact hoz), HOE.out]) (by unfold ldV; rw [if_pos (by rw [← HOE.out]; exact hoz)]) H2.out.1
    obtain ⟨⟨d0, d1, d2, d3, d4⟩, e0, e1, e2, e3, e4⟩ := box5 H2.out.2.2.1
    go_wp2
    refine bodyPost_ret (v := .tuple #[.agg #[.int .i64 0, .int .i64 0, .int .i64 0, .int .i64 0, .slice none 0 0], .int .i64 oe]) (by simp [results, Tryz.results22, go_sem, *]) rfl (HQ.out _ _ _ _ _ _ rfl)
  subst hoz
  obtain ⟨A, hA⟩ : ∃ z, z = Dk.gout S 0 8 := ⟨_, rfl⟩
  obtain ⟨B, hB⟩ : ∃ z, z = Dk.gout S 8 8 := ⟨_, rfl⟩
  have HAB : Hid (A = Dk.gout S 0 8 ∧ B = Dk.gout S 8 8 ∧ ldE S = ldK A B ∧ ldV S = ldN A B) := by
    refine ⟨hA, hB, ?_, ?_⟩
    · unfold ldE; rw [if_neg (by rw [← HOE.out]; simp), hA, hB]
    · unfold ldV; rw [if_neg (by rw [← HOE.out]; simp), hA, hB]
  clear hA hB
  have HG : Calls Tryz.prog 47 #[.agg #[.slice a1 n c1, .slice a2 m c2], .int .i64 0, .int .i64 8] w2 fun r w' => ∃ v', r = .returned (.tuple #[v', .int .i64 (Dk.gerr S 0 8)]) ∧ Own1 w2.heap.size w' v' A ∧ Below w2.heap.size w2 w' := by
    have hd := HI.out.below H2.out.1
    refine (Dk.rgetAll_any n0 _ S 0 8 w2 hd (by omega)).mono ?_
    rintro r w' ⟨v', rfl, h1, h2⟩
    refine ⟨v', rfl, ?_, h2⟩
    rw [HAB.out.1]
    exact .mk h1 (gout_oc hd _ _)
  obtain ⟨ge0, hge⟩ : ∃ z, z = Dk.gerr S 0 8 := ⟨_, rfl⟩
  rw [← hge] at HG
  obtain ⟨q0, q1, -, -⟩ := H2.out.2.1.two
  clear hge
  go_wp2_with fail
  clear q0 q1
  refine HG.mono ?_
  rintro r w3 ⟨va, rfl, ho, hb⟩
  obtain ⟨vaa, vac, rfl⟩ := ho.shape
  obtain ⟨val, hval⟩ : ∃ z, z = A.length := ⟨_, rfl⟩
  rw [← hval] at ho ⊢
  clear hval
  have H3 : Hid (Below w.heap.size w w3 ∧ Box w3 w.heap.size 47 #[.slice a1 n c1, .slice a2 m c2] ∧ Box w3 (w.heap.size + 1) 24 #[.int .i64 0, .int .i64 0, .int .i64 0, .int .i64 0, .slice none 0 0] ∧ Below W1.heap.size W1 w3 ∧ Arg 0 w3 (.slice vaa val vac) A) := ⟨below_any H2.out.1 hb, H2.out.2.1.below hb H2.out.2.1.lt, H2.out.2.2.1.below hb H2.out.2.2.1.lt, below_any H2.out.2.2.2 hb, ho.arg.weaken (Nat.zero_le _)⟩
  clear ho hb HG H2
  have HG : Calls Tryz.prog 47 #[.agg #[.slice a1 n c1, .slice a2 m c2], .int .i64 8, .int .i64 8] w3 fun r w' => ∃ v', r = .returned (.tuple #[v', .int .i64 (Dk.gerr S 8 8)]) ∧ Own1 w3.heap.size w' v' B ∧ Below w3.heap.size w3 w' := by
    have hd := HI.out.below H3.out.1
    refine (Dk.rgetAll_any n0 _ S 8 8 w3 hd (by omega)).mono ?_
    rintro r w' ⟨v', rfl, h1, h2⟩
    refine ⟨v', rfl, ?_, h2⟩
    rw [HAB.out.2.1]
    exact .mk h1 (gout_oc hd _ _)
  obtain ⟨ge1, hge⟩ : ∃ z, z = Dk.gerr S 8 8 := ⟨_, rfl⟩
  rw [← hge] at HG
  obtain ⟨q0, q1, -, -⟩ := H3.out.2.1.two
  clear hge
  go_wp2_with fail
  clear q0 q1
  refine HG.mono ?_
  rintro r w4 ⟨vb, rfl, ho, hb⟩
  obtain ⟨vba, vbc, rfl⟩ := ho.shape
  obtain ⟨vbl, hvbl⟩ : ∃ z, z = B.length := ⟨_, rfl⟩
  rw [← hvbl] at ho ⊢
  clear hvbl
  have H4 : Hid (Below w.heap.size w w4 ∧ Box w4 (w.heap.size + 1) 24 #[.int .i64 0, .int .i64 0, .int .i64 0, .int .i64 0, .slice none 0 0] ∧ Below W1.heap.size W1 w4 ∧ Arg 0 w4 (.slice vaa val vac) A ∧ Arg 0 w4 (.slice vba vbl vbc) B) := ⟨below_any H3.out.1 hb, H3.out.2.2.1.below hb H3.out.2.2.1.lt, below_any H3.out.2.2.2.1 hb, H3.out.2.2.2.2.below hb, ho.arg.weaken (Nat.zero_le _)⟩
  clear ho hb HG H3
  have HD := rpdec_any 0 (.slice vaa val vac) A w4 H4.out.2.2.2.1
  obtain ⟨fe, hfe⟩ : ∃ z, z = dptE A := ⟨_, rfl⟩
  obtain ⟨⟨x0, x1, x2, x3, xd⟩, hx⟩ : ∃ z, z = dptV A := ⟨_, rfl⟩
  rw [← hfe, ← hx] at HD
  have HFX : Hid (fe = dptE A ∧ (x0, x1, x2, x3, xd) = dptV A) := ⟨hfe, hx⟩
  clear hfe hx
  go_wp2_with fail
  refine HD.mono ?_
  rintro r w5 ⟨⟨u, rfl, xa, xc, rfl, hap⟩, hb5⟩
  simp only at hap ⊢
  obtain ⟨xl, hxl⟩ : ∃ z, z = xd.length := ⟨_, rfl⟩
  rw [← hxl] at hap ⊢
  obtain ⟨V, hV⟩ : ∃ V, V = w5.alloc (.cells #[.int .i64 x0, .int .i64 x1, .int .i64 x2, .int .i64 x3, .slice xa xl xc] 24) := ⟨_, rfl⟩
  have hbV : Below w5.heap.size w5 V := by rw [hV]; exact (Below.refl _ w5).alloc (Nat.le_refl _) _
  have hBV : Box V w5.heap.size 24 #[.int .i64 x0, .int .i64 x1, .int .i64 x2, .int .i64 x3, .slice xa xl xc] := by rw [hV]; exact Box.new _ _ _
  have b4V := below_any hb5 hbV
  have HV : Hid (Below w.heap.size w V ∧ Box V (w.heap.size + 1) 24 #[.int .i64 0, .int .i64 0, .int .i64 0, .int .i64 0, .slice none 0 0] ∧ Below W1.heap.size W1 V ∧ Arg 0 V (.slice vba vbl vbc) B ∧ Box V w5.heap.size 24 #[.int .i64 x0, .int .i64 x1, .int .i64 x2, .int .i64 x3, .slice xa xl xc] ∧ Arg W1.heap.size V (.slice xa xl xc) xd ∧ xl = xd.length) := ⟨below_any H4.out.1 b4V, H4.out.2.1.below b4V H4.out.2.1.lt, below_any H4.out.2.2.1 b4V, H4.out.2.2.2.2.below b4V, hBV, (hap.below hbV).weaken H4.out.2.2.1.size, hxl⟩
  clear hb5 hbV hBV b4V hap hxl HD H4
  have HD := rpdec_any 0 (.slice vba vbl vbc) B V HV.out.2.2.2.1
  obtain ⟨ge, hge⟩ : ∃ z, z = dptE B := ⟨_, rfl⟩
  obtain ⟨⟨y0, y1, y2, y3, yd⟩, hy⟩ : ∃ z, z = dptV B := ⟨_, rfl⟩
  rw [← hge, ← hy] at HD
  have HGY : Hid (ge = dptE B ∧ (y0, y1, y2, y3, yd) = dptV B) := ⟨hge, hy⟩
  clear hge hy
  go_upto_region 7 with fail
  rw [← hV]
  clear hV
  go_wp2_with fail
  refine HD.mono ?_
  rintro r w6 ⟨⟨u, rfl, ya, yc, rfl, hap⟩, hb6⟩
  simp only at hap ⊢
  obtain ⟨yl, hyl⟩ : ∃ z, z = yd.length := ⟨_, rfl⟩
  rw [← hyl] at hap ⊢
  obtain ⟨U, hU⟩ : ∃ V, V = w6.alloc (.cells #[.int .i64 y0, .int .i64 y1, .int .i64 y2, .int .i64 y3, .slice ya yl yc] 24) := ⟨_, rfl⟩
  have hbU : Below w6.heap.size w6 U := by rw [hU]; exact (Below.refl _ w6).alloc (Nat.le_refl _) _
  have hBU : Box U w6.heap.size 24 #[.int .i64 y0, .int .i64 y1, .int .i64 y2, .int .i64 y3, .slice ya yl yc] := by rw [hU]; exact Box.new _ _ _
  have bVU := below_any hb6 hbU
  have HU : Hid (Below w.heap.size w U ∧ Box U (w.heap.size + 1) 24 #[.int .i64 0, .int .i64 0, .int .i64 0, .int .i64 0, .slice none 0 0] ∧ Box U w5.heap.size 24 #[.int .i64 x0, .int .i64 x1, .int .i64 x2, .int .i64 x3, .slice xa xl xc] ∧ Arg W1.heap.size U (.slice xa xl xc) xd ∧ xl = xd.length ∧ Box U w6.heap.size 24 #[.int .i64 y0, .int .i64 y1, .int .i64 y2, .int .i64 y3, .slice ya yl yc] ∧ Arg W1.heap.size U (.slice ya yl yc) yd ∧ yl = yd.length) := ⟨below_any HV.out.1 bVU, HV.out.2.1.below bVU HV.out.2.1.lt, HV.out.2.2.2.2.1.below bVU HV.out.2.2.2.2.1.lt, HV.out.2.2.2.2.2.1.below bVU, HV.out.2.2.2.2.2.2, hBU, (hap.below hbU).weaken HV.out.2.2.1.size, hyl⟩
  clear hb6 hbU hBU bVU hap hyl HD HV
  go_upto_region 8 with fail
  rw [← hU]
  clear hU
  obtain ⟨⟨d0, d1, d2, d3, d4⟩, e0, e1, e2, e3, e4⟩ := box5 HU.out.2.1
  obtain ⟨⟨f0, f1, f2, f3, f4⟩, -⟩ := box5 HU.out.2.2.1
  obtain ⟨⟨g0, g1, g2, g3, g4⟩, -⟩ := box5 HU.out.2.2.2.2.2.1
  by_cases hf : fe = 0
  · subst hf
    by_cases hg : ge = 0
    · subst hg
      by_cases hlt : x0 < y0
      · skip
        have HQ : Hid (∀ u0 u1 u2 u3 u4 R, R = .tuple #[.agg #[.int .i64 y0, .int .i64 y1, .int .i64 y2, .int .i64 y3, .slice ya yl yc], .int .i64 0] → post (.returned R) (set5 U (w.heap.size + 1) u0 u1 u2 u3 u4)) := HPy.out U y0 y1 y2 y3 ya yl yc yd HU.out.1 HU.out.2.2.2.2.2.2.1 HU.out.2.2.2.2.2.2.2 (by rw [HAB.out.2.2.1]; unfold ldK; rw [if_pos (.inl (show dptE A = 0 from HFX.out.1.symm))]) (by rw [HAB.out.2.2.2]; unfold ldN; rw [if_pos (show dptE A = 0 from HFX.out.1.symm), if_pos ⟨show dptE B = 0 from HGY.out.1.symm, by rw [← HFX.out.2, ← HGY.out.2]; exact hlt⟩]; exact HGY.out.2.symm)
        clear HPz HPy HPo
        go_wp2
        refine bodyPost_ret (v := .tuple #[.agg #[.int .i64 y0, .int .i64 y1, .int .i64 y2, .int .i64 y3, .slice ya yl yc], .int .i64 0]) (by simp [results, Tryz.results22, go_sem, *]) rfl (HQ.out _ _ _ _ _ _ rfl)
      · skip
        have HQ : Hid (∀ u0 u1 u2 u3 u4 R, R = .tuple #[.agg #[.int .i64 x0, .int .i64 x1, .int .i64 x2, .int .i64 x3, .slice xa xl xc], .int .i64 0] → post (.returned R) (set5 U (w.heap.size + 1) u0 u1 u2 u3 u4)) := HPy.out U x0 x1 x2 x3 xa xl xc xd HU.out.1 HU.out.2.2.2.1 HU.out.2.2.2.2.1 (by rw [HAB.out.2.2.1]; unfold ldK; rw [if_pos (.inl (show dptE A = 0 from HFX.out.1.symm))]) (by rw [HAB.out.2.2.2]; unfold ldN; rw [if_pos (show dptE A = 0 from HFX.out.1.symm), if_neg (fun h => hlt (by have := h.2; rw [← HFX.out.2, ← HGY.out.2] at this; exact this))]; exact HFX.out.2.symm)
        clear HPz HPy HPo
        go_wp2
        refine bodyPost_ret (v := .tuple #[.agg #[.int .i64 x0, .int .i64 x1, .int .i64 x2, .int .i64 x3, .slice xa xl xc], .int .i64 0]) (by simp [results, Tryz.results22, go_sem, *]) rfl (HQ.out _ _ _ _ _ _ rfl)
    · skip
      have HQ : Hid (∀ u0 u1 u2 u3 u4 R, R = .tuple #[.agg #[.int .i64 x0, .int .i64 x1, .int .i64 x2, .int .i64 x3, .slice xa xl xc], .int .i64 0] → post (.returned R) (set5 U (w.heap.size + 1) u0 u1 u2 u3 u4)) := HPy.out U x0 x1 x2 x3 xa xl xc xd HU.out.1 HU.out.2.2.2.1 HU.out.2.2.2.2.1 (by rw [HAB.out.2.2.1]; unfold ldK; rw [if_pos (.inl (show dptE A = 0 from HFX.out.1.symm))]) (by rw [HAB.out.2.2.2]; unfold ldN; rw [if_pos (show dptE A = 0 from HFX.out.1.symm), if_neg (fun h => hg (by rw [HGY.out.1]; exact h.1))]; exact HFX.out.2.symm)
      clear HPz HPy HPo
      go_wp2
      refine bodyPost_ret (v := .tuple #[.agg #[.int .i64 x0, .int .i64 x1, .int .i64 x2, .int .i64 x3, .slice xa xl xc], .int .i64 0]) (by simp [results, Tryz.results22, go_sem, *]) rfl (HQ.out _ _ _ _ _ _ rfl)
  · by_cases hg : ge = 0
    · subst hg
      have HQ : Hid (∀ u0 u1 u2 u3 u4 R, R = .tuple #[.agg #[.int .i64 y0, .int .i64 y1, .int .i64 y2, .int .i64 y3, .slice ya yl yc], .int .i64 0] → post (.returned R) (set5 U (w.heap.size + 1) u0 u1 u2 u3 u4)) := HPy.out U y0 y1 y2 y3 ya yl yc yd HU.out.1 HU.out.2.2.2.2.2.2.1 HU.out.2.2.2.2.2.2.2 (by rw [HAB.out.2.2.1]; unfold ldK; rw [if_pos (.inr (show dptE B = 0 from HGY.out.1.symm))]) (by rw [HAB.out.2.2.2]; unfold ldN; rw [if_neg (show ¬ dptE A = 0 by rw [← HFX.out.1]; exact hf), if_pos (show dptE B = 0 from HGY.out.1.symm)]; exact HGY.out.2.symm)
      clear HPz HPy HPo
      go_wp2
      refine bodyPost_ret (v := .tuple #[.agg #[.int .i64 y0, .int .i64 y1, .int .i64 y2, .int .i64 y3, .slice ya yl yc], .int .i64 0]) (by simp [results, Tryz.results22, go_sem, *]) rfl (HQ.out _ _ _ _ _ _ rfl)
    · skip
      have HQ : Hid (∀ u0 u1 u2 u3 u4 R, R = .tuple #[.agg #[.int .i64 0, .int .i64 0, .int .i64 0, .int .i64 0, .slice none 0 0], .int .i64 21] → post (.returned R) (set5 U (w.heap.size + 1) u0 u1 u2 u3 u4)) := HPz.out 21 U (by rw [HAB.out.2.2.1]; unfold ldK; rw [if_neg]; exact fun h => h.elim (fun h => hf (by rw [HFX.out.1]; exact h)) (fun h => hg (by rw [HGY.out.1]; exact h))) (by rw [HAB.out.2.2.2]; unfold ldN; rw [if_neg (show ¬ dptE A = 0 by rw [← HFX.out.1]; exact hf), if_neg (show ¬ dptE B = 0 by rw [← HGY.out.1]; exact hg)]) HU.out.1
      clear HPz HPy HPo
      have hfb : (fe != 0) = true := by simpa using hf
      have hgb : (ge != 0) = true := by simpa using hg
      clear hf hg
      go_wp2
      refine bodyPost_ret (v := .tuple #[.agg #[.int .i64 0, .int .i64 0, .int .i64 0, .int .i64 0, .slice none 0 0], .int .i64 21]) (by simp [results, Tryz.results22, go_sem, *]) rfl (HQ.out _ _ _ _ _ _ rfl)

end Go.Proofs.YthlfgpnabcplnaaGreatDoor.W
/-
  Disks as the form reads them.
-/
namespace Go.Proofs.YthlfgpnabcplnaaGreatDoor.W
open Go.RowKit
set_option linter.unusedVariables false

abbrev Dsk := List (List Int) × List (Int × List Int)
def wrF : Fields (Int × List Int) := i64S.and bytesS.only
def wrR : Shape (Int × List Int) := wrF.struct 87 ⟨_, Tryz.underlying87, rfl, rfl⟩ (by kernel_rfl)
def wrsR : Shape (List (Int × List Int)) := wrR.list 45 Tryz.underlying45 (by kernel_rfl)
def dkF : Fields Dsk := textsS.and wrsR.only
def dkR : Shape Dsk := dkF.struct 47 ⟨_, Tryz.underlying47, rfl, rfl⟩ (by kernel_rfl)

theorem each_bytes {n : Nat} {w : World} : ∀ {vss : List (List Value)} {ls : List (List Int)}, Each (bytesS.lies n w) vss ls → ∃ us, vss.flatten = us ∧ Dk.Each (Dk.Arg n w) us ls
  | [], [], _ => ⟨[], rfl, trivial⟩
  | vs :: vss, l :: ls, h => by
    obtain ⟨h1, h2⟩ := h
    obtain ⟨us, e, hE⟩ := each_bytes h2
    obtain ⟨u, rfl, _⟩ := id h1
    exact ⟨u :: us, by simp [e], dk_arg h1, hE⟩
  | [], _ :: _, h => h.elim
  | _ :: _, [], h => h.elim
theorem each_writes {n : Nat} {w : World} : ∀ {vss : List (List Value)} {ws : List (Int × List Int)}, Each (wrF.lies n w) vss ws → ∃ ps, vss.flatten = Dk.flat ps ∧ Dk.Each (Dk.Write1 n w) ps ws
  | [], [], _ => ⟨[], rfl, trivial⟩
  | vs :: vss, q :: ws, h => by
    obtain ⟨h1, h2⟩ := h
    obtain ⟨ps, e, hE⟩ := each_writes h2
    obtain ⟨u1, u2, rfl, ⟨rfl, hx⟩, h3⟩ := h1
    have h3' := h3
    obtain ⟨u, rfl, _⟩ := h3
    have hb := bounds_i64 hx
    exact ⟨(q.1, u) :: ps, by simp [e, Dk.flat, i64L, intL], ⟨rfl, dk_arg h3', hb.1, hb.2⟩, hE⟩
  | [], _ :: _, h => h.elim
  | _ :: _, [], h => h.elim
theorem dk_view {n : Nat} {w : World} {us : List Value} {q : Dsk} (h : dkF.lies n w us q) : ∃ a1 c1 a2 c2, us = [.slice a1 q.1.length c1, .slice a2 q.2.length c2] ∧ Dk.Disk n w (.agg #[.slice a1 q.1.length c1, .slice a2 q.2.length c2]) ⟨q.1, q.2⟩ := by
  obtain ⟨u1, u2, rfl, h1, h2⟩ := h
  obtain ⟨v1, vss1, rfl, hC1, hE1⟩ := h1
  obtain ⟨v2, vss2, rfl, hC2, hE2⟩ := h2
  obtain ⟨xs, e1, hx⟩ := each_bytes hE1
  obtain ⟨ps, e2, hy⟩ := each_writes hE2
  rw [e1] at hC1
  rw [e2] at hC2
  have hd : Dk.Disk n w (.agg #[v1, v2]) ⟨q.1, q.2⟩ := ⟨v1, v2, rfl, ⟨xs, hC1, hx⟩, ⟨ps, hC2, hy⟩⟩
  obtain ⟨a1, c1, a2, c2, heq, _, _⟩ := hd.shape
  simp only [Value.agg.injEq, Array.mk.injEq, List.cons.injEq, and_true] at heq
  obtain ⟨rfl, rfl⟩ := heq
  exact ⟨a1, c1, a2, c2, rfl, hd⟩
theorem fits_dk {q : Dsk} (h : dkF.fits q) : Dk.Fits ⟨q.1, q.2⟩ := by
  obtain ⟨⟨h1, h2⟩, h3, h4⟩ := h
  have b1 : Tryz.prog.bytesOf bytesS.ty = 24 := by kernel_rfl
  have b2 : Tryz.prog.bytesOf wrR.ty = 32 := by kernel_rfl
  rw [b1] at h1
  rw [b2] at h3
  refine ⟨by simp only; omega, fun l hl => ?_, by simp only; omega, fun q hq => ?_⟩
  · have := fits_by (h2 l hl); omega
  · have := fits_by (h4 q hq).2; omega

end Go.Proofs.YthlfgpnabcplnaaGreatDoor.W

/-
  PointDisks: the walk of the law.
-/
namespace Go.Proofs.YthlfgpnabcplnaaGreatDoor.W.pointDisks
open Go.RowKit
set_option linter.unusedVariables false

set_option maxRecDepth 100000 in
set_option maxHeartbeats 32000000 in
theorem walk (ud : List Value) (D : Dsk) (uo : List Value) (q : Pt) (w : World) (hA : dkF.lies 0 w ud D) (hDf : Dk.Fits ⟨D.1, D.2⟩) (hO : ptF.lies 0 w uo q) (hqf : q.2.2.2.2.length ≤ 140737488351232) (hg : Glob w) :
    Calls Tryz.prog 4 #[.agg ud.toArray, .agg uo.toArray] w fun e w' => e = .returned (.bool true) ∧ Below w.heap.size w w' := by
  obtain ⟨a1, c1, a2, c2, rfl, hS⟩ := dk_view hA
  obtain ⟨S, hSS0⟩ : ∃ S : Dk.St, S = ⟨D.1, D.2⟩ := ⟨_, rfl⟩
  rw [← hSS0] at hS hDf
  have hn0 : D.1.length = S.secs.length := by rw [hSS0]
  have hm0 : D.2.length = S.cache.length := by rw [hSS0]
  obtain ⟨n, hn⟩ : ∃ z, z = D.1.length := ⟨_, rfl⟩
  obtain ⟨m, hm⟩ : ∃ z, z = D.2.length := ⟨_, rfl⟩
  rw [← hn, ← hm] at hS ⊢
  rw [← hn] at hn0
  rw [← hm] at hm0
  obtain ⟨da, dc, rfl, hD, -⟩ := pt_view hO
  obtain ⟨e, s, v, c, d⟩ := q
  simp only at hD hqf ⊢
  obtain ⟨dl, hdl⟩ : ∃ n, n = d.length := ⟨_, rfl⟩
  rw [← hdl] at hD ⊢
  have H0 : Hid (dl = d.length ∧ d.length ≤ 140737488351232 ∧ Dk.Fits S ∧ n = S.secs.length ∧ m = S.cache.length ∧ ∀ V, Below w.heap.size w V → Glob V ∧ Arg 0 V (.slice da dl dc) d ∧ Dk.Disk 0 V (.agg #[.slice a1 n c1, .slice a2 m c2]) S) := ⟨hdl, hqf, hDf, hn0, hm0, fun V hV => ⟨hg.below hV hg.lt, hD.below hV, hS.below hV⟩⟩
  obtain ⟨V0, hV0⟩ : ∃ V, V = (w.alloc (.cells #[.slice a1 n c1, .slice a2 m c2] 47)).alloc (.cells #[.int .i64 e, .int .i64 s, .int .i64 v, .int .i64 c, .slice da dl dc] 24) := ⟨_, rfl⟩
  have hB1 : Box V0 w.heap.size 47 #[.slice a1 n c1, .slice a2 m c2] := by rw [hV0]; exact (Box.new _ _ _).alloc _
  have hB2 : Box V0 (w.heap.size + 1) 24 #[.int .i64 e, .int .i64 s, .int .i64 v, .int .i64 c, .slice da dl dc] := by
    rw [hV0]
    have := Box.new (w.alloc (.cells #[.slice a1 n c1, .slice a2 m c2] 47)) 24 #[.int .i64 e, .int .i64 s, .int .i64 v, .int .i64 c, .slice da dl dc]
    rwa [World.size_alloc] at this
  have HB0 : Hid (Below w.heap.size w V0 ∧ Box V0 w.heap.size 47 #[.slice a1 n c1, .slice a2 m c2] ∧ Box V0 (w.heap.size + 1) 24 #[.int .i64 e, .int .i64 s, .int .i64 v, .int .i64 c, .slice da dl dc]) := ⟨by rw [hV0]; exact ((Below.refl _ w).alloc (Nat.le_refl _) _).alloc (by simp) _, hB1, hB2⟩
  clear hA hDf hO hqf hg hS hSS0 hn0 hm0 hn hm hD hdl hB1 hB2
  have HC1 := Dk.of_any 0 _ S V0 (H0.out.2.2.2.2.2 V0 HB0.out.1).2.2 H0.out.2.2.1
  obtain ⟨g0, g1, -, -⟩ := HB0.out.2.1.two
  rw [hV0] at g0 g1
  go_enter Tryz.func4, Tryz.ntmps4
  go_wp2_with fail
  rw [← hV0]
  clear hV0 g0 g1
  refine HC1.mono ?_
  rintro r w1 ⟨v1, rfl, ho1, hb1⟩
  have hd1 := ho1.disk
  obtain ⟨x1, y1, x2, y2, rfl, -, -⟩ := hd1.shape
  rw [← H0.out.2.2.2.1, ← H0.out.2.2.2.2.1] at hd1 ⊢
  obtain ⟨V1, hV1⟩ : ∃ V, V = w1.alloc (.cells #[.slice x1 n y1, .slice x2 m y2] 50) := ⟨_, rfl⟩
  have hbV : Below w1.heap.size w1 V1 := by rw [hV1]; exact (Below.refl _ w1).alloc (Nat.le_refl _) _
  have hBx : Box V1 w1.heap.size 50 #[.slice x1 n y1, .slice x2 m y2] := by rw [hV1]; exact Box.new _ _ _
  obtain ⟨N5, hN5⟩ : ∃ N, N = w1.heap.size := ⟨_, rfl⟩
  rw [← hN5] at hBx
  have H1 : Hid (Below w.heap.size w V1 ∧ Below V0.heap.size V0 V1 ∧ Dk.Disk 0 V1 (.agg #[.slice x1 n y1, .slice x2 m y2]) S ∧ Box V1 N5 50 #[.slice x1 n y1, .slice x2 m y2]) := ⟨below_any (below_any HB0.out.1 hb1) hbV, below_any hb1 hbV, (hd1.below hbV).weaken (Nat.zero_le _), hBx⟩
  clear HC1 ho1 hd1 hb1 hbV hBx
  go_upto_region 2 with fail
  rw [← hV1, ← hN5]
  clear hV1 hN5
  obtain ⟨se, hse⟩ : ∃ z, z = stE S (e, s, v, c, d) := ⟨_, rfl⟩
  have HSE : Hid (se = stE S (e, s, v, c, d)) := hse
  have HS : Hid (∀ V, Below V1.heap.size V1 V → (V.cell? ⟨N5, 0, none⟩ = some (.slice x1 n y1) ∧ V.cell? ⟨N5, 1, none⟩ = some (.slice x2 m y2) ∧ V.cell? ⟨(w.heap.size + 1), 0, none⟩ = some (.int .i64 e) ∧ V.cell? ⟨(w.heap.size + 1), 1, none⟩ = some (.int .i64 s) ∧ V.cell? ⟨(w.heap.size + 1), 2, none⟩ = some (.int .i64 v) ∧ V.cell? ⟨(w.heap.size + 1), 3, none⟩ = some (.int .i64 c) ∧ V.cell? ⟨(w.heap.size + 1), 4, none⟩ = some (.slice da dl dc))) := fun V hV => by
    have h1 := H1.out.2.2.2.below hV H1.out.2.2.2.lt
    have h2 := (HB0.out.2.2.below H1.out.2.1 HB0.out.2.2.lt).below hV (Nat.lt_of_lt_of_le HB0.out.2.2.lt H1.out.2.1.size)
    exact ⟨h1.cell 0 rfl, h1.cell 1 rfl, h2.cell 0 rfl, h2.cell 1 rfl, h2.cell 2 rfl, h2.cell 3 rfl, h2.cell 4 rfl⟩
  have HCO : Hid (∀ V, Below V1.heap.size V1 V → Calls Tryz.prog 6 #[.agg #[.int .i64 e, .int .i64 s, .int .i64 v, .int .i64 c, .slice da dl dc]] V fun r w' => (∃ a z, r = .returned (.agg #[.int .i64 e, .int .i64 s, .int .i64 v, .int .i64 c, .slice a dl z]) ∧ Own1 V.heap.size w' (.slice a dl z) d) ∧ Below V.heap.size V w') := fun V hV => of17 H0.out.1 (by have := H0.out.2.1; omega) (H0.out.2.2.2.2.2 V (below_any H1.out.1 hV)).2.1
  have HCS : Hid (∀ V a5 c5, Below V1.heap.size V1 V → Arg 0 V (.slice a5 dl c5) d → Calls Tryz.prog 19 #[.agg #[.slice x1 n y1, .slice x2 m y2], .agg #[.int .i64 e, .int .i64 s, .int .i64 v, .int .i64 c, .slice a5 dl c5]] V fun r w' => ∃ v', r = .returned (.tuple #[v', .int .i64 se]) ∧ Dk.Disk V.heap.size w' v' (stS S (e, s, v, c, d)) ∧ Below V.heap.size V w') := fun V a5 c5 hV hA => by
    rw [hse]
    exact store_any H0.out.1 (H1.out.2.2.1.below hV) hA
  clear hse
  go_cut [6, 7] (fun u6 u7 wx => ∃ (b6 : Nat), u6 = .pointer (some ⟨b6, 0, none⟩) ∧ u7 = .int .i64 se ∧ Hid (∃ k1 k2 z1 z2 z3 z4, Below V1.heap.size V1 wx ∧ Box wx b6 50 #[.slice z1 k1 z2, .slice z3 k2 z4] ∧ Dk.Disk 0 wx (.agg #[.slice z1 k1 z2, .slice z3 k2 z4]) (stS S (e, s, v, c, d))))
  case first =>
    rename_i J K1 hJ hMt
    refine AnyBut.begin (fun V => V.cell? ⟨N5, 0, none⟩ = some (.slice x1 n y1) ∧ V.cell? ⟨N5, 1, none⟩ = some (.slice x2 m y2) ∧ V.cell? ⟨(w.heap.size + 1), 0, none⟩ = some (.int .i64 e) ∧ V.cell? ⟨(w.heap.size + 1), 1, none⟩ = some (.int .i64 s) ∧ V.cell? ⟨(w.heap.size + 1), 2, none⟩ = some (.int .i64 v) ∧ V.cell? ⟨(w.heap.size + 1), 3, none⟩ = some (.int .i64 c) ∧ V.cell? ⟨(w.heap.size + 1), 4, none⟩ = some (.slice da dl dc)) 1000 (by kernel_rfl) ?_
    obtain ⟨X0, hX0⟩ : ∃ Z, Z = V1.drew := ⟨_, rfl⟩
    have hbV : Below V1.heap.size V1 X0 := by rw [hX0]; exact (Below.refl _ V1).drew
    rw [← hX0]
    clear hX0
    have hSS := HS.out X0 hbV
    refine tx 0 17 hSS ?_
    simp only [ua, ub, uc, ud]
    refine tx 1 18 hSS ?_
    simp only [ua, ub, uc, ud]
    clear hSS
    refine AnyBut.two (i := 2) (j := 7) (by kernel_rfl) rfl rfl (fun K hK => ?_) (fun K hK => ?_)
    · skip
      go_simp
      refine Calls.mono (HCO.out X0 hbV) ?_
      rintro r Y1 ⟨⟨a5, c5, rfl, ho5⟩, hb9⟩
      dsimp only
      have HA5 : Arg 0 Y1 (.slice a5 dl c5) d := ho5.arg.weaken (Nat.zero_le _)
      clear ho5
      replace hbV : Below V1.heap.size V1 Y1 := below_any hbV hb9
      refine hK.out _ _ (HS.out Y1 hbV) ?_
      clear hK hb9
      refine AnyBut.two (i := 3) (j := 7) (by kernel_rfl) rfl rfl (fun K hK => ?_) (fun K hK => ?_)
      · skip
        go_simp
        refine Calls.mono (HCS.out Y1 a5 c5 hbV HA5) ?_
        rintro r Y2 ⟨v4, rfl, hd4, hb9⟩
        dsimp only
        obtain ⟨z1, z2, z3, z4, rfl, -, -⟩ := hd4.shape
        obtain ⟨k1, hk1⟩ : ∃ z, z = (stS S (e, s, v, c, d)).secs.length := ⟨_, rfl⟩
        obtain ⟨k2, hk2⟩ : ∃ z, z = (stS S (e, s, v, c, d)).cache.length := ⟨_, rfl⟩
        rw [← hk1, ← hk2] at hd4 ⊢
        clear hk1 hk2
        have HDK : Dk.Disk Y1.heap.size Y2 (.agg #[.slice z1 k1 z2, .slice z3 k2 z4]) (stS S (e, s, v, c, d)) := hd4
        have HBW : Below Y2.heap.size Y2 Y2 := Below.refl _ _
        clear hd4
        replace hbV : Below V1.heap.size V1 Y2 := below_any hbV hb9
        refine hK.out _ _ (HS.out Y2 hbV) ?_
        clear hK hb9
        have hSS := HS.out Y2 hbV
        refine tx 4 16 hSS ?_
        simp only [ua, ub, uc, ud]
        refine tx 5 21 hSS ?_
        simp only [ua, ub, uc, ud]
        refine tx 6 22 hSS ?_
        simp only [ua, ub, uc, ud]
        clear hSS
        refine AnyBut.step (i := 7) (by kernel_rfl) rfl (fun K hK => ?_)
        go_simp
        obtain ⟨Y3, hY3⟩ : ∃ Z, Z = Y2.alloc (.cells #[.slice none 0 0, .slice none 0 0] 50) := ⟨_, rfl⟩
        have hb9 : Below Y2.heap.size Y2 Y3 := by rw [hY3]; exact (Below.refl _ _).alloc (Nat.le_refl _) _
        have B6 : Box Y3 Y2.heap.size 50 #[.slice none 0 0, .slice none 0 0] := by rw [hY3]; exact Box.new _ _ _
        obtain ⟨b6, hb6⟩ : ∃ b, b = Y2.heap.size := ⟨_, rfl⟩
        have hb6' : V1.heap.size ≤ b6 := by rw [hb6]; exact hbV.size
        have hge6 : Y2.heap.size ≤ b6 := by rw [hb6]; exact HBW.size
        rw [← hb6] at B6 ⊢
        rw [← hY3]
        clear hY3 hb6
        replace HBW := below_any HBW hb9
        replace hbV : Below V1.heap.size V1 Y3 := below_any hbV hb9
        refine hK.out _ _ (HS.out Y3 hbV) ?_
        clear hK hb9
        obtain ⟨d0, d1, e0, e1⟩ := B6.two
        refine AnyBut.step (i := 8) (by kernel_rfl) rfl (fun K hK => ?_)
        go_simp
        have C6 : Box ((Y3.setCell ⟨b6, 0, none⟩ (.slice z1 k1 z2)).setCell ⟨b6, 1, none⟩ (.slice z3 k2 z4)) b6 50 #[.slice z1 k1 z2, .slice z3 k2 z4] := (B6.set 0 _).set 1 _
        have hbW : Below V1.heap.size V1 ((Y3.setCell ⟨b6, 0, none⟩ (.slice z1 k1 z2)).setCell ⟨b6, 1, none⟩ (.slice z3 k2 z4)) := below_set2 hbV hb6' _ _
        have CD : Dk.Disk 0 ((Y3.setCell ⟨b6, 0, none⟩ (.slice z1 k1 z2)).setCell ⟨b6, 1, none⟩ (.slice z3 k2 z4)) (.agg #[.slice z1 k1 z2, .slice z3 k2 z4]) (stS S (e, s, v, c, d)) := (HDK.below (below_set2 HBW hge6 _ _)).weaken (Nat.zero_le _)
        obtain ⟨Z, hZ⟩ : ∃ Z, Z = (Y3.setCell ⟨b6, 0, none⟩ (.slice z1 k1 z2)).setCell ⟨b6, 1, none⟩ (.slice z3 k2 z4) := ⟨_, rfl⟩
        rw [← hZ] at C6 hbW CD ⊢
        refine hK.out _ _ (HS.out Z hbW) ?_
        clear hK hZ d0 d1 e0 e1
        refine AnyBut.step (i := 9) (by kernel_rfl) rfl (fun K hK => ?_)
        go_simp
        refine hK.out _ _ (HS.out Z hbW) ?_
        clear hK
        refine AnyBut.done (by kernel_rfl) ?_
        refine hMt _ _ (Go.Met.intro (hJ _ _ ?_))
        (repeat (refine Exists.intro ?_ ?_; rotate_left 1))
        refine ⟨?rel, ?fr⟩
        case fr => rfl
        case rel => exact ⟨b6, rfl, rfl, k1, k2, z1, z2, z3, z4, hbW, C6, CD⟩
      · skip
        go_simp
        obtain ⟨Y4, hY4⟩ : ∃ Z, Z = Y1.alloc (.cells #[.slice none 0 0, .slice none 0 0] 50) := ⟨_, rfl⟩
        have hb9 : Below Y1.heap.size Y1 Y4 := by rw [hY4]; exact (Below.refl _ _).alloc (Nat.le_refl _) _
        have B6 : Box Y4 Y1.heap.size 50 #[.slice none 0 0, .slice none 0 0] := by rw [hY4]; exact Box.new _ _ _
        obtain ⟨b6, hb6⟩ : ∃ b, b = Y1.heap.size := ⟨_, rfl⟩
        have hb6' : V1.heap.size ≤ b6 := by rw [hb6]; exact hbV.size
        rw [← hb6] at B6 ⊢
        rw [← hY4]
        clear hY4 hb6
        replace HA5 := HA5.below hb9
        replace hbV : Below V1.heap.size V1 Y4 := below_any hbV hb9
        refine hK.out _ _ (HS.out Y4 hbV) ?_
        clear hK hb9
        refine AnyBut.step (i := 3) (by kernel_rfl) rfl (fun K hK => ?_)
        go_simp
        refine Calls.mono (HCS.out Y4 a5 c5 hbV HA5) ?_
        rintro r Y5 ⟨v4, rfl, hd4, hb9⟩
        dsimp only
        obtain ⟨z1, z2, z3, z4, rfl, -, -⟩ := hd4.shape
        obtain ⟨k1, hk1⟩ : ∃ z, z = (stS S (e, s, v, c, d)).secs.length := ⟨_, rfl⟩
        obtain ⟨k2, hk2⟩ : ∃ z, z = (stS S (e, s, v, c, d)).cache.length := ⟨_, rfl⟩
        rw [← hk1, ← hk2] at hd4 ⊢
        clear hk1 hk2
        have hlt6 : b6 < Y4.heap.size := B6.lt
        have HDK : Dk.Disk Y4.heap.size Y5 (.agg #[.slice z1 k1 z2, .slice z3 k2 z4]) (stS S (e, s, v, c, d)) := hd4
        have HBW : Below Y5.heap.size Y5 Y5 := Below.refl _ _
        clear hd4
        replace B6 := B6.below hb9 B6.lt
        replace hbV : Below V1.heap.size V1 Y5 := below_any hbV hb9
        refine hK.out _ _ (HS.out Y5 hbV) ?_
        clear hK hb9
        have hSS := HS.out Y5 hbV
        refine tx 4 16 hSS ?_
        simp only [ua, ub, uc, ud]
        refine tx 5 21 hSS ?_
        simp only [ua, ub, uc, ud]
        refine tx 6 22 hSS ?_
        simp only [ua, ub, uc, ud]
        clear hSS
        obtain ⟨d0, d1, e0, e1⟩ := B6.two
        refine AnyBut.step (i := 8) (by kernel_rfl) rfl (fun K hK => ?_)
        go_simp
        have C6 : Box ((Y5.setCell ⟨b6, 0, none⟩ (.slice z1 k1 z2)).setCell ⟨b6, 1, none⟩ (.slice z3 k2 z4)) b6 50 #[.slice z1 k1 z2, .slice z3 k2 z4] := (B6.set 0 _).set 1 _
        have hbW : Below V1.heap.size V1 ((Y5.setCell ⟨b6, 0, none⟩ (.slice z1 k1 z2)).setCell ⟨b6, 1, none⟩ (.slice z3 k2 z4)) := below_set2 hbV hb6' _ _
        have CD : Dk.Disk 0 ((Y5.setCell ⟨b6, 0, none⟩ (.slice z1 k1 z2)).setCell ⟨b6, 1, none⟩ (.slice z3 k2 z4)) (.agg #[.slice z1 k1 z2, .slice z3 k2 z4]) (stS S (e, s, v, c, d)) := (dkd_same2 (HDK.below HBW) hlt6 _ _).weaken (Nat.zero_le _)
        obtain ⟨Z, hZ⟩ : ∃ Z, Z = (Y5.setCell ⟨b6, 0, none⟩ (.slice z1 k1 z2)).setCell ⟨b6, 1, none⟩ (.slice z3 k2 z4) := ⟨_, rfl⟩
        rw [← hZ] at C6 hbW CD ⊢
        refine hK.out _ _ (HS.out Z hbW) ?_
        clear hK hZ d0 d1 e0 e1
        refine AnyBut.step (i := 9) (by kernel_rfl) rfl (fun K hK => ?_)
        go_simp
        refine hK.out _ _ (HS.out Z hbW) ?_
        clear hK
        refine AnyBut.done (by kernel_rfl) ?_
        refine hMt _ _ (Go.Met.intro (hJ _ _ ?_))
        (repeat (refine Exists.intro ?_ ?_; rotate_left 1))
        refine ⟨?rel, ?fr⟩
        case fr => rfl
        case rel => exact ⟨b6, rfl, rfl, k1, k2, z1, z2, z3, z4, hbW, C6, CD⟩
    · skip
      go_simp
      obtain ⟨Y6, hY6⟩ : ∃ Z, Z = X0.alloc (.cells #[.slice none 0 0, .slice none 0 0] 50) := ⟨_, rfl⟩
      have hb9 : Below X0.heap.size X0 Y6 := by rw [hY6]; exact (Below.refl _ _).alloc (Nat.le_refl _) _
      have B6 : Box Y6 X0.heap.size 50 #[.slice none 0 0, .slice none 0 0] := by rw [hY6]; exact Box.new _ _ _
      obtain ⟨b6, hb6⟩ : ∃ b, b = X0.heap.size := ⟨_, rfl⟩
      have hb6' : V1.heap.size ≤ b6 := by rw [hb6]; exact hbV.size
      rw [← hb6] at B6 ⊢
      rw [← hY6]
      clear hY6 hb6
      replace hbV : Below V1.heap.size V1 Y6 := below_any hbV hb9
      refine hK.out _ _ (HS.out Y6 hbV) ?_
      clear hK hb9
      refine AnyBut.step (i := 2) (by kernel_rfl) rfl (fun K hK => ?_)
      go_simp
      refine Calls.mono (HCO.out Y6 hbV) ?_
      rintro r Y7 ⟨⟨a5, c5, rfl, ho5⟩, hb9⟩
      dsimp only
      have HA5 : Arg 0 Y7 (.slice a5 dl c5) d := ho5.arg.weaken (Nat.zero_le _)
      clear ho5
      replace B6 := B6.below hb9 B6.lt
      replace hbV : Below V1.heap.size V1 Y7 := below_any hbV hb9
      refine hK.out _ _ (HS.out Y7 hbV) ?_
      clear hK hb9
      refine AnyBut.step (i := 3) (by kernel_rfl) rfl (fun K hK => ?_)
      go_simp
      refine Calls.mono (HCS.out Y7 a5 c5 hbV HA5) ?_
      rintro r Y8 ⟨v4, rfl, hd4, hb9⟩
      dsimp only
      obtain ⟨z1, z2, z3, z4, rfl, -, -⟩ := hd4.shape
      obtain ⟨k1, hk1⟩ : ∃ z, z = (stS S (e, s, v, c, d)).secs.length := ⟨_, rfl⟩
      obtain ⟨k2, hk2⟩ : ∃ z, z = (stS S (e, s, v, c, d)).cache.length := ⟨_, rfl⟩
      rw [← hk1, ← hk2] at hd4 ⊢
      clear hk1 hk2
      have hlt6 : b6 < Y7.heap.size := B6.lt
      have HDK : Dk.Disk Y7.heap.size Y8 (.agg #[.slice z1 k1 z2, .slice z3 k2 z4]) (stS S (e, s, v, c, d)) := hd4
      have HBW : Below Y8.heap.size Y8 Y8 := Below.refl _ _
      clear hd4
      replace B6 := B6.below hb9 B6.lt
      replace hbV : Below V1.heap.size V1 Y8 := below_any hbV hb9
      refine hK.out _ _ (HS.out Y8 hbV) ?_
      clear hK hb9
      have hSS := HS.out Y8 hbV
      refine tx 4 16 hSS ?_
      simp only [ua, ub, uc, ud]
      refine tx 5 21 hSS ?_
      simp only [ua, ub, uc, ud]
      refine tx 6 22 hSS ?_
      simp only [ua, ub, uc, ud]
      clear hSS
      obtain ⟨d0, d1, e0, e1⟩ := B6.two
      refine AnyBut.step (i := 8) (by kernel_rfl) rfl (fun K hK => ?_)
      go_simp
      have C6 : Box ((Y8.setCell ⟨b6, 0, none⟩ (.slice z1 k1 z2)).setCell ⟨b6, 1, none⟩ (.slice z3 k2 z4)) b6 50 #[.slice z1 k1 z2, .slice z3 k2 z4] := (B6.set 0 _).set 1 _
      have hbW : Below V1.heap.size V1 ((Y8.setCell ⟨b6, 0, none⟩ (.slice z1 k1 z2)).setCell ⟨b6, 1, none⟩ (.slice z3 k2 z4)) := below_set2 hbV hb6' _ _
      have CD : Dk.Disk 0 ((Y8.setCell ⟨b6, 0, none⟩ (.slice z1 k1 z2)).setCell ⟨b6, 1, none⟩ (.slice z3 k2 z4)) (.agg #[.slice z1 k1 z2, .slice z3 k2 z4]) (stS S (e, s, v, c, d)) := (dkd_same2 (HDK.below HBW) hlt6 _ _).weaken (Nat.zero_le _)
      obtain ⟨Z, hZ⟩ : ∃ Z, Z = (Y8.setCell ⟨b6, 0, none⟩ (.slice z1 k1 z2)).setCell ⟨b6, 1, none⟩ (.slice z3 k2 z4) := ⟨_, rfl⟩
      rw [← hZ] at C6 hbW CD ⊢
      refine hK.out _ _ (HS.out Z hbW) ?_
      clear hK hZ d0 d1 e0 e1
      refine AnyBut.step (i := 9) (by kernel_rfl) rfl (fun K hK => ?_)
      go_simp
      refine hK.out _ _ (HS.out Z hbW) ?_
      clear hK
      refine AnyBut.done (by kernel_rfl) ?_
      refine hMt _ _ (Go.Met.intro (hJ _ _ ?_))
      (repeat (refine Exists.intro ?_ ?_; rotate_left 1))
      refine ⟨?rel, ?fr⟩
      case fr => rfl
      case rel => exact ⟨b6, rfl, rfl, k1, k2, z1, z2, z3, z4, hbW, C6, CD⟩
  case rest =>
    obtain ⟨b6, rfl, rfl, HR⟩ := hcut
    obtain ⟨wx, hwx⟩ : ∃ U, U = wc := ⟨_, rfl⟩
    rw [← hwx] at HR ⊢
    clear hwx
    obtain ⟨k1, k2, z1, z2, z3, z4, hbx, hB6, hDK⟩ := HR.out
    have H2 : Hid (Below w.heap.size w wx ∧ Below V0.heap.size V0 wx ∧ Below V1.heap.size V1 wx ∧ Box wx b6 50 #[.slice z1 k1 z2, .slice z3 k2 z4] ∧ Dk.Disk 0 wx (.agg #[.slice z1 k1 z2, .slice z3 k2 z4]) (stS S (e, s, v, c, d))) := ⟨below_any H1.out.1 hbx, below_any H1.out.2.1 hbx, hbx, hB6, hDK⟩
    clear HR hbx hB6 hDK HCO HCS HS
    have HC3 := rstore_any (e := e) (s := s) (v := v) (c := c) H0.out.1 (H0.out.2.2.2.2.2 wx H2.out.1).2.2 (H0.out.2.2.2.2.2 wx H2.out.1).2.1
    rw [← HSE.out] at HC3
    obtain ⟨g0, g1, -, -⟩ := (HB0.out.2.1.below H2.out.2.1 HB0.out.2.1.lt).two
    obtain ⟨⟨d0, d1, d2, d3, d4⟩, -⟩ := box5 (HB0.out.2.2.below H2.out.2.1 HB0.out.2.2.lt)
    go_wp2_with fail
    clear g0 g1 d0 d1 d2 d3 d4
    refine HC3.mono ?_
    rintro r w3 ⟨v3, rfl, hd3, hb3⟩
    obtain ⟨q1, q2, q3, q4, rfl, -, -⟩ := hd3.shape
    obtain ⟨j1, hj1⟩ : ∃ z, z = (stS S (e, s, v, c, d)).secs.length := ⟨_, rfl⟩
    obtain ⟨j2, hj2⟩ : ∃ z, z = (stS S (e, s, v, c, d)).cache.length := ⟨_, rfl⟩
    rw [← hj1, ← hj2] at hd3 ⊢
    obtain ⟨V3, hV3⟩ : ∃ V, V = w3.alloc (.cells #[.slice q1 j1 q2, .slice q3 j2 q4] 47) := ⟨_, rfl⟩
    have hbV : Below w3.heap.size w3 V3 := by rw [hV3]; exact (Below.refl _ w3).alloc (Nat.le_refl _) _
    have hB8 : Box V3 w3.heap.size 47 #[.slice q1 j1 q2, .slice q3 j2 q4] := by rw [hV3]; exact Box.new _ _ _
    have H3 : Hid (Below w.heap.size w V3 ∧ Below V0.heap.size V0 V3 ∧ Below V1.heap.size V1 V3 ∧ Below wx.heap.size wx V3 ∧ Box V3 w3.heap.size 47 #[.slice q1 j1 q2, .slice q3 j2 q4] ∧ Dk.Disk 0 V3 (.agg #[.slice q1 j1 q2, .slice q3 j2 q4]) (stS S (e, s, v, c, d))) := ⟨below_any (below_any H2.out.1 hb3) hbV, below_any (below_any H2.out.2.1 hb3) hbV, below_any (below_any H2.out.2.2.1 hb3) hbV, below_any hb3 hbV, hB8, (hd3.below hbV).weaken (Nat.zero_le _)⟩
    clear HC3 hd3 hb3 hbV hB8 hj1 hj2
    have HC4 := load_any 0 _ S V3 (H1.out.2.2.1.below H3.out.2.2.1) (H0.out.2.2.2.2.2 V3 H3.out.1).1
    obtain ⟨⟨k0, p1, p2, p3, ld⟩, hlv⟩ : ∃ z, z = ldV S := ⟨_, rfl⟩
    obtain ⟨le, hle⟩ : ∃ z, z = ldE S := ⟨_, rfl⟩
    rw [← hlv, ← hle] at HC4
    have HLV : Hid ((k0, p1, p2, p3, ld) = ldV S ∧ le = ldE S) := ⟨hlv, hle⟩
    clear hlv hle
    obtain ⟨ll, hll⟩ : ∃ z, z = ld.length := ⟨_, rfl⟩
    have HLL : Hid (ll = ld.length) := hll
    clear hll
    go_upto_region 4 with fail
    rw [← hV3]
    clear hV3
    obtain ⟨g0, g1, -, -⟩ := (H1.out.2.2.2.below H3.out.2.2.1 H1.out.2.2.2.lt).two
    go_wp2_with fail
    clear g0 g1
    refine HC4.mono ?_
    rintro r w4 ⟨u4, rfl, ⟨a10, c10, rfl, ho4⟩, hb4⟩
    simp only at ho4 ⊢
    rw [← HLL.out] at ho4 ⊢
    obtain ⟨V4, hV4⟩ : ∃ V, V = w4.alloc (.cells #[.int .i64 k0, .int .i64 p1, .int .i64 p2, .int .i64 p3, .slice a10 ll c10] 25) := ⟨_, rfl⟩
    have hbV : Below w4.heap.size w4 V4 := by rw [hV4]; exact (Below.refl _ w4).alloc (Nat.le_refl _) _
    have hB10 : Box V4 w4.heap.size 25 #[.int .i64 k0, .int .i64 p1, .int .i64 p2, .int .i64 p3, .slice a10 ll c10] := by rw [hV4]; exact Box.new _ _ _
    have b34 := below_any hb4 hbV
    have H4 : Hid (Below w.heap.size w V4 ∧ Below V3.heap.size V3 V4 ∧ Box V4 w4.heap.size 25 #[.int .i64 k0, .int .i64 p1, .int .i64 p2, .int .i64 p3, .slice a10 ll c10] ∧ Arg 0 V4 (.slice a10 ll c10) ld ∧ Below V0.heap.size V0 V4) := ⟨below_any H3.out.1 b34, b34, hB10, (ho4.below hbV).weaken (Nat.zero_le _), below_any H3.out.2.1 b34⟩
    clear HC4 ho4 hb4 hbV hB10 b34
    have HC5 := rload_any 0 _ S V4 (H0.out.2.2.2.2.2 V4 H4.out.1).2.2
    rw [← HLV.out.1, ← HLV.out.2] at HC5
    go_upto_region 5 with fail
    rw [← hV4]
    clear hV4
    obtain ⟨g0, g1, -, -⟩ := (HB0.out.2.1.below H4.out.2.2.2.2 HB0.out.2.1.lt).two
    go_wp2_with fail
    clear g0 g1
    refine HC5.mono ?_
    rintro r w5 ⟨u5, rfl, ⟨a12, c12, rfl, ho5⟩, hb5⟩
    simp only at ho5 ⊢
    rw [← HLL.out] at ho5 ⊢
    obtain ⟨X, hX⟩ : ∃ V, V = w5.alloc (.cells #[.int .i64 k0, .int .i64 p1, .int .i64 p2, .int .i64 p3, .slice a12 ll c12] 24) := ⟨_, rfl⟩
    have hbV : Below w5.heap.size w5 X := by rw [hX]; exact (Below.refl _ w5).alloc (Nat.le_refl _) _
    have hB12 : Box X w5.heap.size 24 #[.int .i64 k0, .int .i64 p1, .int .i64 p2, .int .i64 p3, .slice a12 ll c12] := by rw [hX]; exact Box.new _ _ _
    have b4X := below_any hb5 hbV
    have b3X := below_any H4.out.2.1 b4X
    have bxX := below_any H3.out.2.2.2.1 b3X
    have b1X := below_any H2.out.2.2.1 bxX
    have HX : Hid (Below w.heap.size w X ∧ Dk.Disk 0 X (.agg #[.slice z1 k1 z2, .slice z3 k2 z4]) (stS S (e, s, v, c, d)) ∧ Dk.Disk 0 X (.agg #[.slice q1 j1 q2, .slice q3 j2 q4]) (stS S (e, s, v, c, d)) ∧ Arg 0 X (.slice a10 ll c10) ld ∧ Arg 0 X (.slice a12 ll c12) ld ∧ Dk.Disk 0 X (.agg #[.slice x1 n y1, .slice x2 m y2]) S ∧ Box X b6 50 #[.slice z1 k1 z2, .slice z3 k2 z4] ∧ Box X w3.heap.size 47 #[.slice q1 j1 q2, .slice q3 j2 q4] ∧ Box X w4.heap.size 25 #[.int .i64 k0, .int .i64 p1, .int .i64 p2, .int .i64 p3, .slice a10 ll c10] ∧ Box X w5.heap.size 24 #[.int .i64 k0, .int .i64 p1, .int .i64 p2, .int .i64 p3, .slice a12 ll c12] ∧ Box X N5 50 #[.slice x1 n y1, .slice x2 m y2] ∧ Box X w.heap.size 47 #[.slice a1 n c1, .slice a2 m c2]) :=
      ⟨below_any H4.out.1 b4X, H2.out.2.2.2.2.below bxX, H3.out.2.2.2.2.2.below b3X, H4.out.2.2.2.1.below b4X, (ho5.below hbV).weaken (Nat.zero_le _), H1.out.2.2.1.below b1X, H2.out.2.2.2.1.below bxX H2.out.2.2.2.1.lt, H3.out.2.2.2.2.1.below b3X H3.out.2.2.2.2.1.lt, H4.out.2.2.1.below b4X H4.out.2.2.1.lt, hB12, H1.out.2.2.2.below b1X H1.out.2.2.2.lt, HB0.out.2.1.below (below_any H4.out.2.2.2.2 b4X) HB0.out.2.1.lt⟩
    clear HC5 ho5 hb5 hbV hB12 b4X b3X bxX b1X H1 H2 H3 H4 HB0
    go_upto_region 6 with fail
    rw [← hX]
    clear hX
    have HA : Hid (∀ V, Below X.heap.size X V → Below w.heap.size w V) := fun V hV => below_any HX.out.1 hV
    have HS : Hid (∀ V, Below X.heap.size X V → (V.cell? ⟨b6, 0, none⟩ = some (.slice z1 k1 z2) ∧ V.cell? ⟨b6, 1, none⟩ = some (.slice z3 k2 z4) ∧ V.cell? ⟨w3.heap.size, 0, none⟩ = some (.slice q1 j1 q2) ∧ V.cell? ⟨w3.heap.size, 1, none⟩ = some (.slice q3 j2 q4) ∧ V.cell? ⟨w4.heap.size, 0, none⟩ = some (.int .i64 k0) ∧ V.cell? ⟨w4.heap.size, 1, none⟩ = some (.int .i64 p1) ∧ V.cell? ⟨w4.heap.size, 2, none⟩ = some (.int .i64 p2) ∧ V.cell? ⟨w4.heap.size, 3, none⟩ = some (.int .i64 p3) ∧ V.cell? ⟨w4.heap.size, 4, none⟩ = some (.slice a10 ll c10) ∧ V.cell? ⟨w5.heap.size, 0, none⟩ = some (.int .i64 k0) ∧ V.cell? ⟨w5.heap.size, 1, none⟩ = some (.int .i64 p1) ∧ V.cell? ⟨w5.heap.size, 2, none⟩ = some (.int .i64 p2) ∧ V.cell? ⟨w5.heap.size, 3, none⟩ = some (.int .i64 p3) ∧ V.cell? ⟨w5.heap.size, 4, none⟩ = some (.slice a12 ll c12) ∧ V.cell? ⟨N5, 0, none⟩ = some (.slice x1 n y1) ∧ V.cell? ⟨N5, 1, none⟩ = some (.slice x2 m y2) ∧ V.cell? ⟨w.heap.size, 0, none⟩ = some (.slice a1 n c1) ∧ V.cell? ⟨w.heap.size, 1, none⟩ = some (.slice a2 m c2))) := fun V hV => by
      have h0 := HX.out.2.2.2.2.2.2.1.below hV HX.out.2.2.2.2.2.2.1.lt
      have h1 := HX.out.2.2.2.2.2.2.2.1.below hV HX.out.2.2.2.2.2.2.2.1.lt
      have h2 := HX.out.2.2.2.2.2.2.2.2.1.below hV HX.out.2.2.2.2.2.2.2.2.1.lt
      have h3 := HX.out.2.2.2.2.2.2.2.2.2.1.below hV HX.out.2.2.2.2.2.2.2.2.2.1.lt
      have h4 := HX.out.2.2.2.2.2.2.2.2.2.2.1.below hV HX.out.2.2.2.2.2.2.2.2.2.2.1.lt
      have h5 := HX.out.2.2.2.2.2.2.2.2.2.2.2.below hV HX.out.2.2.2.2.2.2.2.2.2.2.2.lt
      exact ⟨h0.cell 0 rfl, h0.cell 1 rfl, h1.cell 0 rfl, h1.cell 1 rfl, h2.cell 0 rfl, h2.cell 1 rfl, h2.cell 2 rfl, h2.cell 3 rfl, h2.cell 4 rfl, h3.cell 0 rfl, h3.cell 1 rfl, h3.cell 2 rfl, h3.cell 3 rfl, h3.cell 4 rfl, h4.cell 0 rfl, h4.cell 1 rfl, h5.cell 0 rfl, h5.cell 1 rfl⟩
    have hbx : Below X.heap.size X X := Below.refl _ _
    have HK := Dk.alike_any 0 0 _ _ _ X (HX.out.2.1.below hbx) (HX.out.2.2.1.below hbx)
    obtain ⟨f0, f1, f2, f3, f4, f5, f6, f7, f8, f9, f10, f11, f12, f13, f14, f15, f16, f17⟩ := HS.out X hbx
    go_wp2_with fail
    clear f0 f1 f2 f3 f4 f5 f6 f7 f8 f9 f10 f11 f12 f13 f14 f15 f16 f17
    refine HK.mono ?_
    rintro r Z0 ⟨rfl, hz⟩
    replace hbx : Below X.heap.size X Z0 := below_any hbx hz
    clear hz HK
    have HK := same17 (e := k0) (s := p1) (v := p2) (c := p3) (HX.out.2.2.2.1.below hbx) (HX.out.2.2.2.2.1.below hbx)
    obtain ⟨f0, f1, f2, f3, f4, f5, f6, f7, f8, f9, f10, f11, f12, f13, f14, f15, f16, f17⟩ := HS.out Z0 hbx
    go_wp2_with (first | (with_reducible refine Calls.mono (num17 _ _) ?_; rintro _ _ ⟨rfl, rfl⟩))
    clear f0 f1 f2 f3 f4 f5 f6 f7 f8 f9 f10 f11 f12 f13 f14 f15 f16 f17
    refine HK.mono ?_
    rintro r Z1 ⟨rfl, hz⟩
    replace hbx : Below X.heap.size X Z1 := below_any hbx hz
    clear hz HK
    have HK := Dk.alike_any 0 0 _ _ _ Z1 (HX.out.2.2.2.2.2.1.below hbx) (H0.out.2.2.2.2.2 Z1 (HA.out _ hbx)).2.2
    obtain ⟨f0, f1, f2, f3, f4, f5, f6, f7, f8, f9, f10, f11, f12, f13, f14, f15, f16, f17⟩ := HS.out Z1 hbx
    go_wp2_with (first | (with_reducible refine Calls.mono (num17 _ _) ?_; rintro _ _ ⟨rfl, rfl⟩))
    clear f0 f1 f2 f3 f4 f5 f6 f7 f8 f9 f10 f11 f12 f13 f14 f15 f16 f17
    refine HK.mono ?_
    rintro r Z2 ⟨rfl, hz⟩
    replace hbx : Below X.heap.size X Z2 := below_any hbx hz
    clear hz HK
    have HK := alive17 Z2 (H0.out.2.2.2.2.2 Z2 (HA.out _ hbx)).1
    obtain ⟨f0, f1, f2, f3, f4, f5, f6, f7, f8, f9, f10, f11, f12, f13, f14, f15, f16, f17⟩ := HS.out Z2 hbx
    go_wp2_with (first | (with_reducible refine Calls.mono (num17 _ _) ?_; rintro _ _ ⟨rfl, rfl⟩))
    clear f0 f1 f2 f3 f4 f5 f6 f7 f8 f9 f10 f11 f12 f13 f14 f15 f16 f17
    refine HK.mono ?_
    rintro r Z3 ⟨rfl, hz⟩
    replace hbx : Below X.heap.size X Z3 := below_any hbx hz
    clear hz HK
    have HZ : Hid (Below w.heap.size w Z3) := HA.out _ hbx
    clear hbx
    go_wp2
    go_ret
    exact ⟨by simp, HZ.out⟩

end Go.Proofs.YthlfgpnabcplnaaGreatDoor.W.pointDisks
