import Derived.Test.YthlfgpnabcplnaaGreatDoorTe39
import Derived.Test.YthlfgpnabcplnaaGreatDoorTe36
import Derived.Test.YthlfgpnabcplnaaGreatDoorTe29
import Derived.Test.YthlfgpnabcplnaaGreatDoorTe40
import Derived.Test.YthlfgpnabcplnaaGreatDoorTe30
import Derived.Test.YthlfgpnabcplnaaGreatDoorTe16
import Derived.Test.YthlfgpnabcplnaaGreatDoorTe32
/-
  A point is read back from its octets; what stands on a disk's regions behind what was put, flushed, or kept by a crash.
-/
namespace Go.Proofs.YthlfgpnabcplnaaGreatDoor.W
open Go.RowKit
set_option linter.unusedVariables false

theorem tlen_two {n : Nat} {l : List Int} (h : n ≤ 65535) : tlen (two n ++ l) = n := by
  unfold tlen two
  simp only [List.cons_append, List.nil_append, List.getD_cons_zero, List.getD_cons_succ]
  omega
theorem ptO_eq {q : Pt} (h : ptQ q = 0) : ptO q = two (encO (ptRec q)).length ++ (encO (ptRec q) ++ List.replicate (512 - (ptJ q).length) 0) := by
  unfold ptO
  rw [if_pos h, (ptJ_eq h).2, List.append_assoc]
theorem ints_pt {q : Pt} (h : ptQ q = 0) : ∀ x ∈ (ptRec q).2.1, I64 x := fun x hx => by
  obtain ⟨h1, h2, h3, h4, _⟩ := ptE_ok h
  simp only [ptRec, List.mem_cons, List.not_mem_nil, or_false] at hx
  rcases hx with rfl | rfl | rfl | rfl
  · exact in_I64 h1
  · exact in_I64 h2
  · exact in_I64 h3
  · exact in_I64 h4
theorem parts_pt {q : Pt} (h : ptQ q = 0) : tlen (ptO q) = (encO (ptRec q)).length ∧ bod (ptO q) = encO (ptRec q) ∧ rst (ptO q) = List.replicate (512 - (ptJ q).length) 0 := by
  have hl := rec_len h
  have h1 : tlen (ptO q) = (encO (ptRec q)).length := by rw [ptO_eq h]; exact tlen_two (by omega)
  have h2 : (ptO q).drop 2 = encO (ptRec q) ++ List.replicate (512 - (ptJ q).length) 0 := by rw [ptO_eq h]; rfl
  refine ⟨h1, ?_, ?_⟩
  · unfold bod; rw [h1, h2]; exact List.take_left' rfl
  · unfold rst; rw [h1, h2]; exact List.drop_left' rfl
theorem zeros_all (n : Nat) : (List.replicate n (0 : Int)).all (fun x => decide (x = 0)) = true := by
  rw [List.all_eq_true]
  intro x hx
  rw [(List.mem_replicate.1 hx).2]
  rfl
theorem back_pt {q : Pt} (h : ptQ q = 0) (ho : Oc q.2.2.2.2) : dptE (ptO q) = 0 ∧ dptV (ptO q) = q := by
  obtain ⟨h1, h2, h3⟩ := parts_pt h
  have hl := rec_len h
  obtain ⟨d1, d2⟩ := dec_enc (chk_pt h) (ints_pt h) (fun t ht => by
    simp only [ptRec, List.mem_singleton] at ht
    rw [ht]; exact ho)
  have hr : rdpE (bod (ptO q)) = 0 := by
    rw [h2]
    unfold rdpE
    rw [if_neg (by rw [d1]; simp), d2, if_neg (by simp [ptRec]), if_neg (by simp [ptRec])]
    exact h
  have he : dptE (ptO q) = 0 := by
    unfold dptE
    rw [if_neg (by rw [ptO_len h]; simp), h1, if_neg (by omega), if_neg (by rw [hr]; simp), h3, if_pos (zeros_all _)]
  refine ⟨he, ?_⟩
  unfold dptV
  rw [if_pos he, h2]
  unfold rdpV
  rw [if_pos ⟨d1, by rw [d2]; rfl, by rw [d2]; rfl, by rw [d2]; rfl⟩, d2]
  rfl

/-! Rows of a disk. -/

/-- Eight rows that stand for 512 octets. -/
def rows8 (sn : Nat) (d : List Int) : List (Nat × List Int) := (List.range 8).map fun i => (sn + i, Dk.pad (Dk.piece d i))
theorem piece_full (d : List Int) (h : d.length = 512) (i : Nat) (hi : i < 8) : Dk.pad (Dk.piece d i) = Dk.piece d i := by
  refine Dk.pad_full _ ?_
  unfold Dk.piece
  rw [List.length_take, List.length_drop]
  omega
theorem pieces_flat (d : List Int) (h : d.length = 512) : ((List.range 8).map fun i => Dk.pad (Dk.piece d i)).flatten = d := by
  have e : (List.range 8).map (fun i => Dk.pad (Dk.piece d i)) = (List.range 8).map (fun i => Dk.piece d i) := List.map_congr_left fun i hi => piece_full d h i (List.mem_range.1 hi)
  rw [e]
  have hs : ∀ k : Nat, (d.drop k).take 64 ++ d.drop (k + 64) = d.drop k := fun k => by
    have := List.take_append_drop 64 (d.drop k)
    rwa [List.drop_drop] at this
  have h8 : (d.drop 448).take 64 = d.drop 448 := List.take_of_length_le (by rw [List.length_drop]; omega)
  show (Dk.piece d 0 ++ (Dk.piece d 1 ++ (Dk.piece d 2 ++ (Dk.piece d 3 ++ (Dk.piece d 4 ++ (Dk.piece d 5 ++ (Dk.piece d 6 ++ (Dk.piece d 7 ++ [])))))))) = d
  unfold Dk.piece
  simp only [Nat.mul_zero, Nat.mul_one, Nat.reduceMul, List.append_nil]
  rw [h8, hs 384, hs 320, hs 256, hs 192, hs 128, hs 64]
  exact hs 0
theorem get_rows8 (T : List (List Int)) (sn : Nat) (d : List Int) (j : Nat) (hj : j < T.length) : (Dk.fill T (rows8 sn d))[j]? = if sn ≤ j ∧ j < sn + 8 then some (Dk.pad (Dk.piece d (j - sn))) else T[j]? :=
  Dk.fill_set_get T _ j hj (fun i => Dk.pad (Dk.piece d i)) sn 8 rfl
theorem win_new (T : List (List Int)) (sn : Nat) (d : List Int) (hd : d.length = 512) (hT : sn + 8 ≤ T.length) : Dk.window (Dk.fill T (rows8 sn d)) sn 8 = d := by
  unfold Dk.window
  have : ((Dk.fill T (rows8 sn d)).drop sn).take 8 = (List.range 8).map fun i => Dk.pad (Dk.piece d i) := by
    refine List.ext_getElem? fun i => ?_
    rw [List.getElem?_take, List.getElem?_map]
    by_cases hi : i < 8
    · rw [if_pos hi, List.getElem?_drop, get_rows8 T sn d _ (by omega), if_pos (by omega), List.getElem?_range hi, Nat.add_sub_cancel_left]
      rfl
    · rw [if_neg hi, List.getElem?_eq_none (by simpa using hi)]
      rfl
  rw [this, pieces_flat d hd]
/-- Rows elsewhere change nothing of a window. -/
theorem win_far (sm : Nat) : ∀ (ps : List (Nat × List Int)) (T : List (List Int)), (∀ p ∈ ps, p.1 < sm ∨ sm + 8 ≤ p.1) → Dk.window (Dk.fill T ps) sm 8 = Dk.window T sm 8
  | [], T, _ => rfl
  | p :: ps, T, h => by
    have e : Dk.fill T (p :: ps) = Dk.fill (T.set p.1 p.2) ps := rfl
    rw [e, win_far sm ps _ (fun x hx => h x (List.mem_cons_of_mem _ hx)), Dk.window_out T sm 8 p.1 p.2 (h p (List.mem_cons_self ..))]

theorem chk_rows {T : List (List Int)} (h1 : 1 ≤ T.length) (h2 : T.length ≤ 2048) (h : Dk.all64 T) : Dk.chk ⟨T, []⟩ = true := by
  simp only [Dk.chk, Bool.and_eq_true, decide_eq_true_eq, List.all_eq_true]
  exact ⟨⟨⟨⟨h1, h2⟩, by simp⟩, fun l hl => by simpa [Dk.okSec] using h l hl⟩, fun q hq => by cases hq⟩
theorem full_rows {T : List (List Int)} (hc : Dk.chk ⟨T, []⟩ = true) : Dk.full ⟨T, []⟩ = T := by
  have h := (Dk.stand_again hc (fun _ => true)).2
  rw [Dk.stand_good hc] at h
  injection h
theorem gout_rows {T : List (List Int)} (hc : Dk.chk ⟨T, []⟩ = true) (s : Int) (hs : s = 0 ∨ s = 8) (h16 : 16 ≤ T.length) : Dk.gout ⟨T, []⟩ s 8 = Dk.window T s.toNat 8 := by
  have hr : Dk.reach T.length s 8 = true := by unfold Dk.reach; rcases hs with rfl | rfl <;> simp <;> omega
  have he : Dk.gerr ⟨T, []⟩ s 8 = 0 := by
    unfold Dk.gerr
    rw [if_neg (by rw [hc]; simp), if_neg (by rw [hr]; simp)]
  unfold Dk.gout
  rw [if_pos he, full_rows hc]
  rfl
theorem reg_nat (e : Int) : reg e = 0 ∨ reg e = 8 := by unfold reg; split <;> simp
/-- What is put behind rows that stand. -/
theorem past_rows {T : List (List Int)} (hc : Dk.chk ⟨T, []⟩ = true) (h16 : 16 ≤ T.length) (s : Int) (hs : s = 0 ∨ s = 8) (d : List Int) (hd : d.length = 512) (ho : Oc d) :
    Dk.paerr ⟨T, []⟩ s d = 0 ∧ Dk.past ⟨T, []⟩ s d = ⟨T, Dk.pieces s d⟩ ∧ Dk.chk ⟨T, Dk.pieces s d⟩ = true ∧ (∀ lands, Dk.stand ⟨T, Dk.pieces s d⟩ lands = ⟨Dk.fill T (Dk.landed ⟨T, Dk.pieces s d⟩ lands 8), []⟩) := by
  have hn : Dk.need d = 8 := by unfold Dk.need; omega
  have hr : Dk.reach T.length s (Dk.need d) = true := by rw [hn]; unfold Dk.reach; rcases hs with rfl | rfl <;> simp <;> omega
  obtain ⟨k1, k2, -, k4, -, -⟩ := Dk.chk_facts hc
  have hp : Dk.paerr ⟨T, []⟩ s d = 0 := by
    unfold Dk.paerr
    rw [if_neg (by rw [hc]; simp), if_neg (by rw [hr]; simp), if_neg (by rw [hn]; simp)]
  have hq : Dk.past ⟨T, []⟩ s d = ⟨T, Dk.pieces s d⟩ := by
    unfold Dk.past
    rw [if_pos hp]
    rfl
  have hk : Dk.chk ⟨T, Dk.pieces s d⟩ = true := by
    simp only [Dk.chk, Bool.and_eq_true, decide_eq_true_eq, List.all_eq_true]
    refine ⟨⟨⟨⟨k1, k2⟩, by rw [Dk.pieces_length, hn]; omega⟩, fun l hl => by simpa [Dk.okSec] using k4 l hl⟩, fun q hq => ?_⟩
    unfold Dk.pieces at hq
    rw [hn] at hq
    obtain ⟨i, hi, rfl⟩ := List.mem_map.1 hq
    have hi := List.mem_range.1 hi
    have hl := Dk.pad_length (Dk.piece d i) (Dk.piece_le d i)
    unfold Dk.okWrite
    simp only [hl, Bool.and_eq_true, decide_eq_true_eq]
    rcases hs with rfl | rfl
    · exact ⟨⟨by omega, by omega⟩, rfl⟩
    · exact ⟨⟨by omega, by omega⟩, rfl⟩
  refine ⟨hp, hq, hk, fun lands => ?_⟩
  rw [Dk.stand_good hk]
  have := Dk.fill_all ⟨T, Dk.pieces s d⟩ lands
  simp only at this ⊢
  rw [this]
  have hl : (Dk.pieces s d).length = 8 := by rw [Dk.pieces_length, hn]
  rw [hl]
theorem write_rows {T : List (List Int)} {s : Int} (hs : s = 0 ∨ s = 8) (d : List Int) (hd : d.length = 512) (i : Nat) (hi : i < 8) : Dk.write ⟨T, Dk.pieces s d⟩ i = (s.toNat + i, Dk.pad (Dk.piece d i)) := by
  have hn : Dk.need d = 8 := by unfold Dk.need; omega
  unfold Dk.write
  simp only
  rw [Dk.pieces_get s d i (by rw [hn]; exact hi)]
  rcases hs with rfl | rfl
  · simp only [Prod.mk.injEq, and_true]; omega
  · simp only [Prod.mk.injEq, and_true]; omega
theorem landed_rows {T : List (List Int)} {s : Int} (hs : s = 0 ∨ s = 8) (d : List Int) (hd : d.length = 512) : Dk.landed ⟨T, Dk.pieces s d⟩ (fun _ => true) 8 = rows8 s.toNat d := by
  rw [Dk.landed_all]
  unfold rows8
  exact List.map_congr_left fun i hi => write_rows hs d hd i (List.mem_range.1 hi)
theorem landed_near {T : List (List Int)} {s : Int} (hs : s = 0 ∨ s = 8) (d : List Int) (hd : d.length = 512) (lands : Nat → Bool) : ∀ k, k ≤ 8 → ∀ p ∈ Dk.landed ⟨T, Dk.pieces s d⟩ lands k, s.toNat ≤ p.1 ∧ p.1 < s.toNat + 8 ∧ p.2.length = 64
  | 0, _, p, hp => by cases hp
  | k + 1, hk, p, hp => by
    rw [Dk.landed] at hp
    rcases List.mem_append.1 hp with h | h
    · exact landed_near hs d hd lands k (by omega) p h
    · split at h
      · obtain rfl := List.mem_singleton.1 h
        rw [write_rows hs d hd k (by omega)]
        exact ⟨by omega, by simp only; omega, Dk.pad_length _ (Dk.piece_le d k)⟩
      · cases h

/-- Rows of which a disk that serves consists. -/
def Serves (T : List (List Int)) : Prop := 16 ≤ T.length ∧ T.length ≤ 2048 ∧ Dk.all64 T ∧ ∀ l ∈ T, Oc l
theorem Serves.chk {T : List (List Int)} (h : Serves T) : Dk.chk ⟨T, []⟩ = true := chk_rows (by have := h.1; omega) h.2.1 h.2.2.1
theorem Serves.cd {T : List (List Int)} (h : Serves T) (C : List (Int × List Int)) (hc : Dk.chk ⟨T, C⟩ = true) : cdE ⟨T, C⟩ = 0 := by
  unfold cdE Dk.cerr
  rw [hc]
  simp only [if_true]
  rw [if_neg (by have := h.1; omega)]
theorem Serves.fill {T : List (List Int)} (h : Serves T) (ps : List (Nat × List Int)) (hp : ∀ p ∈ ps, p.2.length = 64 ∧ Oc p.2) : Serves (Dk.fill T ps) :=
  ⟨by rw [Dk.fill_length]; exact h.1, by rw [Dk.fill_length]; exact h.2.1, Dk.all64_fill _ _ h.2.2.1 fun p hx => (hp p hx).1, Dk.oct_fill ps T h.2.2.2 fun p hx => (hp p hx).2⟩
/-- The rows behind a point stored. -/
def stT (T : List (List Int)) (q : Pt) : List (List Int) := Dk.fill T (rows8 (reg q.1).toNat (ptO q))
theorem ptO_oc {q : Pt} (ho : Oc q.2.2.2.2) : Oc (ptO q) := by
  unfold ptO
  split
  · rename_i h
    rw [(ptJ_eq h).2]
    refine oc_append.2 ⟨oc_append.2 ⟨two_oc _ (by have := rec_len h; omega), ?_⟩, rep_oc _⟩
    unfold encO
    rw [if_pos (chk_pt h)]
    exact C.sealed_oct _ (laidR_oc (chk_pt h) (fun t ht => by
      simp only [ptRec, List.mem_singleton] at ht
      rw [ht]; exact ho))
  · exact oc_nil
theorem rows8_in {sn : Nat} {d : List Int} (ho : Oc d) : ∀ p ∈ rows8 sn d, p.2.length = 64 ∧ Oc p.2 := fun p hp => by
  obtain ⟨i, _, rfl⟩ := List.mem_map.1 hp
  exact ⟨Dk.pad_length _ (Dk.piece_le d i), Dk.pad_oct (Dk.piece_oct ho i)⟩
theorem Serves.st {T : List (List Int)} (h : Serves T) {q : Pt} (ho : Oc q.2.2.2.2) : Serves (stT T q) := h.fill _ (rows8_in (ptO_oc ho))
theorem store_rows {T : List (List Int)} (h : Serves T) {q : Pt} (hq : ptQ q = 0) (ho : Oc q.2.2.2.2) : stE ⟨T, []⟩ q = 0 ∧ stS ⟨T, []⟩ q = ⟨stT T q, []⟩ := by
  have hd := ptO_len hq
  obtain ⟨h1, h2, h3, h4⟩ := past_rows h.chk h.1 (reg q.1) (reg_nat q.1) (ptO q) hd (ptO_oc ho)
  have hc := h.cd [] h.chk
  refine ⟨?_, ?_⟩
  · unfold stE putS
    rw [if_neg (by rw [hc]; simp), if_neg (by rw [hq]; simp), if_neg (by rw [h1]; simp), h2]
    unfold Dk.cerr
    rw [h3]
    rfl
  · unfold stS putS
    rw [if_pos ⟨hc, hq, h1⟩, h2, h4, landed_rows (reg_nat q.1) (ptO q) hd]
    rfl
/-- What is loaded of rows. -/
theorem load_rows {T : List (List Int)} (h : Serves T) : ldE ⟨T, []⟩ = ldK (Dk.window T 0 8) (Dk.window T 8 8) ∧ ldV ⟨T, []⟩ = ldN (Dk.window T 0 8) (Dk.window T 8 8) := by
  have hc := h.cd [] h.chk
  unfold ldE ldV
  rw [if_neg (by rw [hc]; simp), if_neg (by rw [hc]; simp), gout_rows h.chk 0 (.inl rfl) h.1, gout_rows h.chk 8 (.inr rfl) h.1]
  exact ⟨rfl, rfl⟩
theorem win_st {T : List (List Int)} (h : Serves T) {q : Pt} (hq : ptQ q = 0) : Dk.window (stT T q) (reg q.1).toNat 8 = ptO q := win_new T _ _ (ptO_len hq) (by have := h.1; rcases reg_nat q.1 with e | e <;> rw [e] <;> simp <;> omega)
theorem win_st_far {T : List (List Int)} {q : Pt} (sm : Nat) (hs : sm = 0 ∨ sm = 8) (hn : (sm : Int) ≠ reg q.1) : Dk.window (stT T q) sm 8 = Dk.window T sm 8 := by
  refine win_far sm _ T fun p hp => ?_
  obtain ⟨i, hi, rfl⟩ := List.mem_map.1 hp
  have hi := List.mem_range.1 hi
  simp only
  rcases reg_nat q.1 with e | e <;> rw [e] at hn ⊢ <;> rcases hs with rfl | rfl <;> simp at hn ⊢ <;> omega
theorem new_serves (n : Nat) (h1 : 16 ≤ n) (h2 : n ≤ 2048) : Serves (List.replicate n Dk.zeros) :=
  ⟨by simpa using h1, by simpa using h2, Dk.all64_zeros n, fun l hl => by rw [(List.mem_replicate.1 hl).2]; exact Dk.zeros_oct⟩

end Go.Proofs.YthlfgpnabcplnaaGreatDoor.W

/-
  The laws' small functions on points: num, of, same.
-/
namespace Go.Proofs.YthlfgpnabcplnaaGreatDoor.W
open Go.RowKit
set_option linter.unusedVariables false

theorem fits_by {l : List Int} (h : bytesS.fits l) : l.length ≤ 140737488351232 := by
  have b5 : Tryz.prog.bytesOf 5 = 1 := by kernel_rfl
  have h5 : l.length * Tryz.prog.bytesOf 5 ≤ 140737488351232 := h
  rwa [b5, Nat.mul_one] at h5
theorem fits_pt {q : Pt} (h : ptF.fits q) : q.2.2.2.2.length ≤ 140737488351232 := by
  obtain ⟨_, _, _, _, h6⟩ := h
  exact fits_by h6

set_option maxHeartbeats 400000 in
theorem num17 (x : Int) (w : World) : Calls Tryz.prog 13 #[.int .i64 x] w fun e w' => e = .returned (.int .i64 x) ∧ w = w' := by
  go_enter Tryz.func13, Tryz.ntmps13
  go_wp2
  go_ret
  exact ⟨rfl, rfl⟩
theorem own_set5 {n B : Nat} {w : World} {v : Value} {l : List Int} {t : TypeId} {cs : Array Value} (h : Own1 n w v l) (hB : Box w B t cs) (hid : t ∉ bytesS.ids) (u0 u1 u2 u3 u4 : Value) : Own1 n (set5 w B u0 u1 u2 u3 u4) v l :=
  bytesS.ogrown (bytesS.ogrown (bytesS.ogrown (bytesS.ogrown (bytesS.ogrown h (grown_set w B 0 u0) (hB.clear hid)) (grown_set _ B 1 u1) ((hB.set 0 u0).clear hid)) (grown_set _ B 2 u2) (((hB.set 0 u0).set 1 u1).clear hid)) (grown_set _ B 3 u3) ((((hB.set 0 u0).set 1 u1).set 2 u2).clear hid)) (grown_set _ B 4 u4) (((((hB.set 0 u0).set 1 u1).set 2 u2).set 3 u3).clear hid)

set_option maxRecDepth 100000 in
set_option maxHeartbeats 4000000 in
theorem of17 {n1 : Nat} {e s v c : Int} {da : Option Addr} {dl dc : Nat} {d : List Int} (hd : dl = d.length) (hs : d.length ≤ 140737488355328) {w : World} (hD : Arg n1 w (.slice da dl dc) d) :
    Calls Tryz.prog 6 #[.agg #[.int .i64 e, .int .i64 s, .int .i64 v, .int .i64 c, .slice da dl dc]] w fun r w' => (∃ a z, r = .returned (.agg #[.int .i64 e, .int .i64 s, .int .i64 v, .int .i64 c, .slice a dl z]) ∧ Own1 w.heap.size w' (.slice a dl z) d) ∧ Below w.heap.size w w' := by
  obtain ⟨W1, hW1⟩ : ∃ W, W = (w.alloc (.cells #[.int .i64 e, .int .i64 s, .int .i64 v, .int .i64 c, .slice da dl dc] 24)).alloc (.cells #[.int .i64 0, .int .i64 0, .int .i64 0, .int .i64 0, .slice none 0 0] 25) := ⟨_, rfl⟩
  have hb1 : Below w.heap.size w W1 := by rw [hW1]; exact ((Below.refl _ w).alloc (Nat.le_refl _) _).alloc (by simp) _
  have hBp : Box W1 w.heap.size 24 #[.int .i64 e, .int .i64 s, .int .i64 v, .int .i64 c, .slice da dl dc] := by rw [hW1]; exact (Box.new _ _ _).alloc _
  have hBr : Box W1 (w.heap.size + 1) 25 #[.int .i64 0, .int .i64 0, .int .i64 0, .int .i64 0, .slice none 0 0] := by
    rw [hW1]
    have := Box.new (w.alloc (.cells #[.int .i64 e, .int .i64 s, .int .i64 v, .int .i64 c, .slice da dl dc] 24)) 25 #[.int .i64 0, .int .i64 0, .int .i64 0, .int .i64 0, .slice none 0 0]
    rwa [World.size_alloc] at this
  have HB : Hid (Below w.heap.size w W1 ∧ Box W1 w.heap.size 24 #[.int .i64 e, .int .i64 s, .int .i64 v, .int .i64 c, .slice da dl dc] ∧ Box W1 (w.heap.size + 1) 25 #[.int .i64 0, .int .i64 0, .int .i64 0, .int .i64 0, .slice none 0 0] ∧ dl = d.length ∧ Arg n1 w (.slice da dl dc) d ∧ d.length ≤ 140737488355328) := ⟨hb1, hBp, hBr, hd, hD, hs⟩
  have HS : Hid (∀ U, Below W1.heap.size W1 U → U.cell? ⟨w.heap.size, 0, none⟩ = some (.int .i64 e) ∧ U.cell? ⟨w.heap.size, 1, none⟩ = some (.int .i64 s) ∧ U.cell? ⟨w.heap.size, 2, none⟩ = some (.int .i64 v) ∧ U.cell? ⟨w.heap.size, 3, none⟩ = some (.int .i64 c) ∧ U.cell? ⟨w.heap.size, 4, none⟩ = some (.slice da dl dc)) := fun U hU => (box5 (hBp.below hU hBp.lt)).1
  clear hb1 hBp hBr hd hD hs
  go_enter Tryz.func6, Tryz.ntmps6
  go_upto_region 1 with fail
  rw [← hW1]
  clear hW1
  obtain ⟨X0, hX0⟩ : ∃ Z, Z = W1.drew := ⟨_, rfl⟩
  have hbX : Below W1.heap.size W1 X0 := by rw [hX0]; exact (Below.refl _ W1).drew
  refine AnyBut.begin (fun U => U.cell? ⟨w.heap.size, 0, none⟩ = some (.int .i64 e) ∧ U.cell? ⟨w.heap.size, 1, none⟩ = some (.int .i64 s) ∧ U.cell? ⟨w.heap.size, 2, none⟩ = some (.int .i64 v) ∧ U.cell? ⟨w.heap.size, 3, none⟩ = some (.int .i64 c) ∧ U.cell? ⟨w.heap.size, 4, none⟩ = some (.slice da dl dc)) 1000 (by kernel_rfl) ?_
  rw [← hX0]
  clear hX0
  have hSS := HS.out X0 hbX
  refine tx 0 3 hSS ?_
  simp only [ua, ub, uc, ud]
  refine tx 1 4 hSS ?_
  simp only [ua, ub, uc, ud]
  refine tx 2 5 hSS ?_
  simp only [ua, ub, uc, ud]
  refine tx 3 6 hSS ?_
  simp only [ua, ub, uc, ud]
  refine tx 4 7 hSS ?_
  simp only [ua, ub, uc, ud]
  refine tx 5 8 hSS ?_
  simp only [ua, ub, uc, ud]
  refine tx 6 9 hSS ?_
  simp only [ua, ub, uc, ud]
  refine tx 7 10 hSS ?_
  simp only [ua, ub, uc, ud]
  refine tx 8 11 hSS ?_
  simp only [ua, ub, uc, ud]
  refine tx 9 12 hSS ?_
  simp only [ua, ub, uc, ud]
  refine AnyBut.step (i := 10) (by kernel_rfl) rfl (fun K hK => ?_)
  go_simp
  refine (copy_any n1 (.slice da dl dc) d X0 (HB.out.2.2.2.2.1.below (HB.out.1.trans (hbX.mono HB.out.1.size))) HB.out.2.2.2.2.2).mono ?_
  rintro r w4 ⟨⟨v4, rfl, ho4⟩, hb4⟩
  dsimp only
  have hb4' := below_any hbX hb4
  obtain ⟨ga, gc, rfl⟩ := ho4.shape
  rw [← HB.out.2.2.2.1] at ho4 ⊢
  have hSS := HS.out w4 hb4'
  refine hK.out _ _ hSS ?_
  clear hK
  refine tx 11 14 hSS ?_
  simp only [ua, ub, uc, ud]
  have hBr4 := HB.out.2.2.1.below hb4' HB.out.2.2.1.lt
  obtain ⟨⟨d0, d1, d2, d3, d4⟩, e0, e1, e2, e3, e4⟩ := box5 hBr4
  refine AnyBut.step (i := 12) (by kernel_rfl) rfl (fun K hK => ?_)
  go_simp
  obtain ⟨X, hX⟩ : ∃ Z, Z = ((((w4.setCell ⟨w.heap.size + 1, 0, none⟩ (.int .i64 e)).setCell ⟨w.heap.size + 1, 1, none⟩ (.int .i64 s)).setCell ⟨w.heap.size + 1, 2, none⟩ (.int .i64 v)).setCell ⟨w.heap.size + 1, 3, none⟩ (.int .i64 c)).setCell ⟨w.heap.size + 1, 4, none⟩ (.slice ga dl gc) := ⟨_, rfl⟩
  have HX : Hid (Below w.heap.size w X ∧ Box X (w.heap.size + 1) 25 #[.int .i64 e, .int .i64 s, .int .i64 v, .int .i64 c, .slice ga dl gc] ∧ Own1 w.heap.size X (.slice ga dl gc) d) := by
    rw [hX]
    exact ⟨below_set5 (HB.out.1.trans (hb4'.mono HB.out.1.size)) (by omega) _ _ _ _ _, box_set5 hBr4 _ _ _ _ _, bytesS.oweaken (own_set5 ho4 hBr4 (by decide) _ _ _ _ _) (Nat.le_trans HB.out.1.size hbX.size)⟩
  have hSX : X.cell? ⟨w.heap.size, 0, none⟩ = some (.int .i64 e) ∧ X.cell? ⟨w.heap.size, 1, none⟩ = some (.int .i64 s) ∧ X.cell? ⟨w.heap.size, 2, none⟩ = some (.int .i64 v) ∧ X.cell? ⟨w.heap.size, 3, none⟩ = some (.int .i64 c) ∧ X.cell? ⟨w.heap.size, 4, none⟩ = some (.slice da dl dc) := by
    rw [hX]
    exact (box5 (box_oth5 (HB.out.2.1.below hb4' HB.out.2.1.lt) (by omega) _ _ _ _ _)).1
  rw [← hX]
  refine hK.out _ _ hSX ?_
  clear hK hX d0 d1 d2 d3 d4 e0 e1 e2 e3 e4 hBr4 ho4 hb4 hb4' hSS hbX HS hSX
  refine AnyBut.done (by kernel_rfl) ?_
  obtain ⟨⟨d0, d1, d2, d3, d4⟩, -⟩ := box5 HX.out.2.1
  go_wp2
  refine bodyPost_ret (v := .agg #[.int .i64 e, .int .i64 s, .int .i64 v, .int .i64 c, .slice ga dl gc]) (by simp [results, Tryz.results6, go_sem, *]) rfl ⟨⟨ga, gc, rfl, HX.out.2.2⟩, HX.out.1⟩

set_option maxRecDepth 100000 in
set_option maxHeartbeats 4000000 in
theorem same17 {n1 n2 : Nat} {e s v c : Int} {xa ya : Option Addr} {dl xc yc : Nat} {d : List Int} {w : World} (h1 : Arg n1 w (.slice xa dl xc) d) (h2 : Arg n2 w (.slice ya dl yc) d) :
    Calls Tryz.prog 14 #[.agg #[.int .i64 e, .int .i64 s, .int .i64 v, .int .i64 c, .slice xa dl xc], .agg #[.int .i64 e, .int .i64 s, .int .i64 v, .int .i64 c, .slice ya dl yc]] w fun r w' => r = .returned (.bool true) ∧ Below w.heap.size w w' := by
  obtain ⟨W1, hW1⟩ : ∃ W, W = (w.alloc (.cells #[.int .i64 e, .int .i64 s, .int .i64 v, .int .i64 c, .slice xa dl xc] 25)).alloc (.cells #[.int .i64 e, .int .i64 s, .int .i64 v, .int .i64 c, .slice ya dl yc] 24) := ⟨_, rfl⟩
  have hb1 : Below w.heap.size w W1 := by rw [hW1]; exact ((Below.refl _ w).alloc (Nat.le_refl _) _).alloc (by simp) _
  have hBp : Box W1 w.heap.size 25 #[.int .i64 e, .int .i64 s, .int .i64 v, .int .i64 c, .slice xa dl xc] := by rw [hW1]; exact (Box.new _ _ _).alloc _
  have hBr : Box W1 (w.heap.size + 1) 24 #[.int .i64 e, .int .i64 s, .int .i64 v, .int .i64 c, .slice ya dl yc] := by
    rw [hW1]
    have := Box.new (w.alloc (.cells #[.int .i64 e, .int .i64 s, .int .i64 v, .int .i64 c, .slice xa dl xc] 25)) 24 #[.int .i64 e, .int .i64 s, .int .i64 v, .int .i64 c, .slice ya dl yc]
    rwa [World.size_alloc] at this
  have HB : Hid (Below w.heap.size w W1) := hb1
  have HC := same_any n1 n2 (.slice xa dl xc) (.slice ya dl yc) d d W1 (h1.below hb1) (h2.below hb1)
  rw [decide_eq_true rfl] at HC
  obtain ⟨⟨f0, f1, f2, f3, f4⟩, -⟩ := box5 hBp
  obtain ⟨⟨g0, g1, g2, g3, g4⟩, -⟩ := box5 hBr
  clear hb1 hBp hBr h1 h2
  go_enter Tryz.func14, Tryz.ntmps14
  go_upto_region 1 with fail
  rw [← hW1]
  clear hW1
  go_wp2_with fail
  refine HC.mono ?_
  rintro r w2 ⟨rfl, q, rfl⟩
  have H2 : Hid (Below w.heap.size w (W1.drewN q)) := below_drewN HB.out q
  obtain ⟨X, hX⟩ : ∃ X, X = W1.drewN q := ⟨_, rfl⟩
  rw [← hX] at H2 ⊢
  clear hX f0 f1 f2 f3 f4 g0 g1 g2 g3 g4 HC
  go_wp2
  go_ret
  exact ⟨rfl, H2.out⟩

end Go.Proofs.YthlfgpnabcplnaaGreatDoor.W
/-
  The statements' helper alive: two points stored on a new disk, the second one loaded.
-/
namespace Go.Proofs.YthlfgpnabcplnaaGreatDoor.W
open Go.RowKit
set_option linter.unusedVariables false

def zrows : List (List Int) := List.replicate 16 Dk.zeros
theorem serves0 : Serves zrows := new_serves 16 (by decide) (by decide)
/-- Two points stored one behind the other on rows that serve: the second one is loaded. -/
theorem two_stored {T : List (List Int)} (h : Serves T) {p q : Pt} (hp : ptQ p = 0) (hq : ptQ q = 0) (op : Oc p.2.2.2.2) (oq : Oc q.2.2.2.2) (hr : reg q.1 ≠ reg p.1) (hlt : p.1 < q.1) : ldE ⟨stT (stT T p) q, []⟩ = 0 ∧ ldV ⟨stT (stT T p) q, []⟩ = q := by
  have h1 := h.st op
  obtain ⟨l1, l2⟩ := load_rows (h1.st oq)
  obtain ⟨p1, p2⟩ := back_pt hp op
  obtain ⟨q1, q2⟩ := back_pt hq oq
  have hw := win_st h1 hq
  have hv := win_st h hp
  rw [l1, l2]
  rcases reg_nat q.1 with e | e
  · have e2 : reg p.1 = 8 := by rcases reg_nat p.1 with f | f; · exact absurd (e.trans f.symm) hr
                                · exact f
    rw [e] at hw
    rw [e2] at hv
    have hf : Dk.window (stT (stT T p) q) 8 8 = Dk.window (stT T p) 8 8 := win_st_far 8 (.inr rfl) (by rw [e]; decide)
    have hw : Dk.window (stT (stT T p) q) 0 8 = ptO q := hw
    have hv : Dk.window (stT T p) 8 8 = ptO p := hv
    rw [hw, hf, hv]
    unfold ldK ldN
    rw [if_pos (.inl q1), if_pos q1, if_neg (fun x => by have := x.2; rw [p2, q2] at this; omega)]
    exact ⟨rfl, q2⟩
  · have e2 : reg p.1 = 0 := by rcases reg_nat p.1 with f | f; · exact f
                                · exact absurd (e.trans f.symm) hr
    rw [e] at hw
    rw [e2] at hv
    have hf : Dk.window (stT (stT T p) q) 0 8 = Dk.window (stT T p) 0 8 := win_st_far 0 (.inl rfl) (by rw [e]; decide)
    have hw : Dk.window (stT (stT T p) q) 8 8 = ptO q := hw
    have hv : Dk.window (stT T p) 0 8 = ptO p := hv
    rw [hw, hf, hv]
    unfold ldK ldN
    rw [if_pos (.inl p1), if_pos p1, if_pos ⟨q1, by rw [p2, q2]; exact hlt⟩]
    exact ⟨rfl, q2⟩
def p1 : Pt := (1, 0, 0, 0, [])
def p2 : Pt := (2, 7, 0, 0, [])
theorem al_math : stE ⟨zrows, []⟩ p1 = 0 ∧ stS ⟨zrows, []⟩ p1 = ⟨stT zrows p1, []⟩ ∧ stE ⟨stT zrows p1, []⟩ p2 = 0 ∧ stS ⟨stT zrows p1, []⟩ p2 = ⟨stT (stT zrows p1) p2, []⟩ ∧ ldE ⟨stT (stT zrows p1) p2, []⟩ = 0 ∧ ldV ⟨stT (stT zrows p1) p2, []⟩ = p2 := by
  have h1 : ptQ p1 = 0 := by decide
  have h2 : ptQ p2 = 0 := by decide
  obtain ⟨a1, a2⟩ := store_rows serves0 h1 oc_nil
  obtain ⟨b1, b2⟩ := store_rows (serves0.st (q := p1) oc_nil) h2 oc_nil
  obtain ⟨c1, c2⟩ := two_stored serves0 h1 h2 oc_nil oc_nil (by decide) (by decide)
  exact ⟨a1, a2, b1, b2, c1, c2⟩

set_option maxRecDepth 100000 in
set_option maxHeartbeats 8000000 in
theorem alive17 (w : World) (hg : Glob w) : Calls Tryz.prog 17 #[] w fun e w' => e = .returned (.bool true) ∧ Below w.heap.size w w' := by
  obtain ⟨m1, m2, m3, m4, m5, m6⟩ := al_math
  have HM : Hid (stE ⟨zrows, []⟩ p1 = 0 ∧ stS ⟨zrows, []⟩ p1 = ⟨stT zrows p1, []⟩ ∧ stE ⟨stT zrows p1, []⟩ p2 = 0 ∧ stS ⟨stT zrows p1, []⟩ p2 = ⟨stT (stT zrows p1) p2, []⟩ ∧ ldE ⟨stT (stT zrows p1) p2, []⟩ = 0 ∧ ldV ⟨stT (stT zrows p1) p2, []⟩ = p2) := ⟨m1, m2, m3, m4, m5, m6⟩
  have HG : Hid (∀ V, Below w.heap.size w V → Glob V) := fun V hV => hg.below hV hg.lt
  clear m1 m2 m3 m4 m5 m6 hg
  go_enter Tryz.func17, Tryz.ntmps17
  go_wp2_with fail
  refine (Dk.new_any 16 w (by omega) (by omega)).mono ?_
  rintro r w1 ⟨v1, rfl, hG, hb1⟩
  have hd1 : Dk.Disk w.heap.size w1 (.agg #[v1, .slice none 0 0]) ⟨zrows, []⟩ := Dk.Grid.disk hG
  obtain ⟨x1, y1, x2, y2, heq, -, -⟩ := hd1.shape
  simp only [Value.agg.injEq, Array.mk.injEq, List.cons.injEq, and_true] at heq
  obtain ⟨rfl, -⟩ := heq
  have h16 : zrows.length = 16 := by simp [zrows]
  rw [h16] at hd1 ⊢
  obtain ⟨V1, hV1⟩ : ∃ V, V = w1.alloc (.cells #[.slice x1 16 y1, .slice none 0 0] 50) := ⟨_, rfl⟩
  have hbV : Below w1.heap.size w1 V1 := by rw [hV1]; exact (Below.refl _ w1).alloc (Nat.le_refl _) _
  have hBV : Box V1 w1.heap.size 50 #[.slice x1 16 y1, .slice none 0 0] := by rw [hV1]; exact Box.new _ _ _
  obtain ⟨N, hN⟩ : ∃ N, N = w1.heap.size := ⟨_, rfl⟩
  have H1 : Hid (Below w.heap.size w V1 ∧ Box V1 w1.heap.size 50 #[.slice x1 16 y1, .slice none 0 0] ∧ Dk.Disk w.heap.size V1 (.agg #[.slice x1 16 y1, .slice none 0 0]) ⟨zrows, []⟩ ∧ w.heap.size ≤ N) := ⟨below_any hb1 hbV, hBV, hd1.below hbV, by rw [hN]; exact hb1.size⟩
  rw [← hN] at H1
  clear hG hb1 hd1 hbV hBV h16
  go_upto_region 2 with fail
  rw [← hV1, ← hN]
  clear hV1 hN
  have HS := store_any (S := ⟨zrows, []⟩) (e := 1) (s := 0) (v := 0) (c := 0) (d := []) (dl := 0) rfl H1.out.2.2.1 (Own1.nil V1.heap.size V1).arg
  rw [show ((1, 0, 0, 0, []) : Pt) = p1 from rfl, HM.out.1, HM.out.2.1] at HS
  obtain ⟨g0, g1, -, -⟩ := H1.out.2.1.two
  go_wp2_with fail
  clear g0 g1
  refine HS.mono ?_
  rintro r w2 ⟨v2, rfl, hd, hb⟩
  obtain ⟨a2, b2, c2, d2, rfl, -, -⟩ := hd.shape
  obtain ⟨k1, hk1⟩ : ∃ z, z = (⟨stT zrows p1, []⟩ : Dk.St).secs.length := ⟨_, rfl⟩
  obtain ⟨k2, hk2⟩ : ∃ z, z = (⟨stT zrows p1, []⟩ : Dk.St).cache.length := ⟨_, rfl⟩
  rw [← hk1, ← hk2] at hd ⊢
  have hB := H1.out.2.1.below hb H1.out.2.1.lt
  obtain ⟨n2, hn2⟩ : ∃ z, z = k1 := ⟨_, rfl⟩
  obtain ⟨l2, hl2⟩ : ∃ z, z = k2 := ⟨_, rfl⟩
  rw [← hn2, ← hl2] at hd ⊢
  clear hk1 hk2 hn2 hl2
  obtain ⟨V2, hV2⟩ : ∃ V, V = (w2.setCell ⟨N, 0, none⟩ (.slice a2 n2 b2)).setCell ⟨N, 1, none⟩ (.slice c2 l2 d2) := ⟨_, rfl⟩
  have H2 : Hid (Below w.heap.size w V2 ∧ Box V2 N 50 #[.slice a2 n2 b2, .slice c2 l2 d2] ∧ Dk.Disk w.heap.size V2 (.agg #[.slice a2 n2 b2, .slice c2 l2 d2]) ⟨stT zrows p1, []⟩ ∧ w.heap.size ≤ N) := by
    rw [hV2]
    exact ⟨below_set2 (below_any H1.out.1 hb) H1.out.2.2.2 _ _, (hB.set 0 _).set 1 _, (dkd_same2 hd H1.out.2.1.lt _ _).weaken H1.out.1.size, H1.out.2.2.2⟩
  obtain ⟨d0, d1, e0, e1⟩ := hB.two
  clear hd hb hB HS
  go_upto_region 3 with fail
  rw [← hV2]
  clear hV2 d0 d1 e0 e1 H1
  have HS := store_any (S := ⟨stT zrows p1, []⟩) (e := 2) (s := 7) (v := 0) (c := 0) (d := []) (dl := 0) rfl H2.out.2.2.1 (Own1.nil V2.heap.size V2).arg
  rw [show ((2, 7, 0, 0, []) : Pt) = p2 from rfl, HM.out.2.2.1, HM.out.2.2.2.1] at HS
  obtain ⟨g0, g1, -, -⟩ := H2.out.2.1.two
  go_wp2_with fail
  clear g0 g1
  refine HS.mono ?_
  rintro r w3 ⟨v3, rfl, hd, hb⟩
  obtain ⟨a3, b3, c3, d3, rfl, -, -⟩ := hd.shape
  obtain ⟨k1, hk1⟩ : ∃ z, z = (⟨stT (stT zrows p1) p2, []⟩ : Dk.St).secs.length := ⟨_, rfl⟩
  obtain ⟨k2, hk2⟩ : ∃ z, z = (⟨stT (stT zrows p1) p2, []⟩ : Dk.St).cache.length := ⟨_, rfl⟩
  rw [← hk1, ← hk2] at hd ⊢
  have hB := H2.out.2.1.below hb H2.out.2.1.lt
  obtain ⟨n3, hn3⟩ : ∃ z, z = k1 := ⟨_, rfl⟩
  obtain ⟨l3, hl3⟩ : ∃ z, z = k2 := ⟨_, rfl⟩
  rw [← hn3, ← hl3] at hd ⊢
  clear hk1 hk2 hn3 hl3
  obtain ⟨V3, hV3⟩ : ∃ V, V = (w3.setCell ⟨N, 0, none⟩ (.slice a3 n3 b3)).setCell ⟨N, 1, none⟩ (.slice c3 l3 d3) := ⟨_, rfl⟩
  have H3 : Hid (Below w.heap.size w V3 ∧ Box V3 N 50 #[.slice a3 n3 b3, .slice c3 l3 d3] ∧ Dk.Disk w.heap.size V3 (.agg #[.slice a3 n3 b3, .slice c3 l3 d3]) ⟨stT (stT zrows p1) p2, []⟩ ∧ w.heap.size ≤ N) := by
    rw [hV3]
    exact ⟨below_set2 (below_any H2.out.1 hb) H2.out.2.2.2 _ _, (hB.set 0 _).set 1 _, (dkd_same2 hd H2.out.2.1.lt _ _).weaken H2.out.1.size, H2.out.2.2.2⟩
  obtain ⟨d0, d1, e0, e1⟩ := hB.two
  clear hd hb hB HS
  go_upto_region 4 with fail
  rw [← hV3]
  clear hV3 d0 d1 e0 e1 H2
  have HL := load_any w.heap.size _ _ V3 H3.out.2.2.1 (HG.out V3 H3.out.1)
  rw [HM.out.2.2.2.2.1, HM.out.2.2.2.2.2] at HL
  obtain ⟨g0, g1, -, -⟩ := H3.out.2.1.two
  go_wp2_with fail
  clear g0 g1
  refine HL.mono ?_
  rintro r w4 ⟨u, rfl, ⟨ya, yc, rfl, hya⟩, hb⟩
  have HZ : Hid (Below w.heap.size w w4) := below_any H3.out.1 hb
  have hp : p2 = (2, 7, 0, 0, []) := rfl
  rw [hp] at hya ⊢
  simp only [List.length_nil] at hya ⊢
  clear hya hb HL hp
  go_wp2_with (first | (with_reducible refine Calls.mono (num17 _ _) ?_; rintro _ _ ⟨rfl, rfl⟩))
  go_ret
  refine ⟨rfl, ?_⟩
  exact HZ.out.alloc HZ.out.size _

end Go.Proofs.YthlfgpnabcplnaaGreatDoor.W
/-
  What is loaded behind a crash that keeps some of a point's sectors: the old point, or what the new one's region tells.
-/
namespace Go.Proofs.YthlfgpnabcplnaaGreatDoor.W
open Go.RowKit
set_option linter.unusedVariables false

def boolsS : Shape (List Bool) := (boolL 4 Tryz.underlying4 (by kernel_rfl)).row 60 Tryz.underlying60 (by kernel_rfl)
theorem bools_of {n : Nat} {w : World} {v : Value} {l : List Bool} (h : boolsS.lies n w [v] l) : Dk.Bools n w v l := by
  obtain ⟨v', hv, hC, _⟩ := h
  obtain rfl : v = v' := by simpa using hv
  exact hC

def crT (T : List (List Int)) (q : Pt) (bl : List Bool) : List (List Int) := Dk.fill T (Dk.landed ⟨T, Dk.pieces (reg q.1) (ptO q)⟩ (Dk.kept bl) 8)
theorem landed_oc {T : List (List Int)} {s : Int} (hs : s = 0 ∨ s = 8) (d : List Int) (hd : d.length = 512) (ho : Oc d) (lands : Nat → Bool) : ∀ k, k ≤ 8 → ∀ p ∈ Dk.landed ⟨T, Dk.pieces s d⟩ lands k, Oc p.2
  | 0, _, p, hp => by cases hp
  | k + 1, hk, p, hp => by
    rw [Dk.landed] at hp
    rcases List.mem_append.1 hp with h | h
    · exact landed_oc hs d hd ho lands k (by omega) p h
    · split at h
      · obtain rfl := List.mem_singleton.1 h
        rw [write_rows hs d hd k (by omega)]
        exact Dk.pad_oct (Dk.piece_oct ho k)
      · cases h
theorem cr_serves {T : List (List Int)} (h : Serves T) {q : Pt} (hq : ptQ q = 0) (oq : Oc q.2.2.2.2) (bl : List Bool) : Serves (crT T q bl) :=
  h.fill _ fun p hp => ⟨(landed_near (reg_nat q.1) _ (ptO_len hq) _ 8 (Nat.le_refl _) p hp).2.2, landed_oc (reg_nat q.1) _ (ptO_len hq) (ptO_oc oq) _ 8 (Nat.le_refl _) p hp⟩
/-- A point put, and what a crash keeps of it. -/
theorem put_rows {T : List (List Int)} (h : Serves T) {q : Pt} (hq : ptQ q = 0) (oq : Oc q.2.2.2.2) (bl : List Bool) : Dk.paerr ⟨T, []⟩ (reg q.1) (ptO q) = 0 ∧ Dk.past ⟨T, []⟩ (reg q.1) (ptO q) = ⟨T, Dk.pieces (reg q.1) (ptO q)⟩ ∧ Dk.cerr ⟨T, Dk.pieces (reg q.1) (ptO q)⟩ = 0 ∧ Dk.stand ⟨T, Dk.pieces (reg q.1) (ptO q)⟩ (Dk.kept bl) = ⟨crT T q bl, []⟩ := by
  obtain ⟨h1, h2, h3, h4⟩ := past_rows h.chk h.1 (reg q.1) (reg_nat q.1) (ptO q) (ptO_len hq) (ptO_oc oq)
  refine ⟨h1, h2, ?_, h4 _⟩
  unfold Dk.cerr
  rw [h3]
  rfl
theorem old_new {T : List (List Int)} (h : Serves T) {p q : Pt} (hp : ptQ p = 0) (hq : ptQ q = 0) (op : Oc p.2.2.2.2) (oq : Oc q.2.2.2.2) (hr : reg q.1 ≠ reg p.1) (hlt : p.1 < q.1) (hw : Dk.window T (reg p.1).toNat 8 = ptO p) (bl : List Bool) :
    ldE ⟨crT T q bl, []⟩ = 0 ∧ ((∀ i, i < 8 → Dk.kept bl i = true) → ldV ⟨crT T q bl, []⟩ = q) := by
  obtain ⟨l1, l2⟩ := load_rows (cr_serves h hq oq bl)
  obtain ⟨p1, p2⟩ := back_pt hp op
  obtain ⟨q1, q2⟩ := back_pt hq oq
  have hfar : ∀ (ps : List (Nat × List Int)), (∀ x ∈ ps, (reg q.1).toNat ≤ x.1 ∧ x.1 < (reg q.1).toNat + 8) → Dk.window (Dk.fill T ps) (reg p.1).toNat 8 = ptO p := fun ps hps => by
    rw [← hw]
    refine win_far _ ps T fun x hx => ?_
    have := hps x hx
    rcases reg_nat p.1 with e | e <;> rcases reg_nat q.1 with f | f <;> rw [e, f] at hr <;> rw [e] <;> rw [f] at this <;> simp at hr this ⊢ <;> omega
  have hA : Dk.window (crT T q bl) (reg p.1).toNat 8 = ptO p := hfar _ fun x hx => by
    have := landed_near (reg_nat q.1) _ (ptO_len hq) (Dk.kept bl) 8 (Nat.le_refl _) x hx
    exact ⟨this.1, this.2.1⟩
  have hall : (∀ i, i < 8 → Dk.kept bl i = true) → Dk.window (crT T q bl) (reg q.1).toNat 8 = ptO q := fun hk => by
    unfold crT
    rw [Dk.landed_congr _ 8 (g := fun _ => true) hk, landed_rows (reg_nat q.1) _ (ptO_len hq)]
    exact win_new T _ _ (ptO_len hq) (by have := h.1; rcases reg_nat q.1 with e | e <;> rw [e] <;> simp <;> omega)
  rw [l1, l2]
  rcases reg_nat p.1 with e | e
  · have f : reg q.1 = 8 := by rcases reg_nat q.1 with f | f; · exact absurd (f.trans e.symm) hr
                               · exact f
    rw [e] at hA
    rw [f] at hall
    have hA : Dk.window (crT T q bl) 0 8 = ptO p := hA
    have hall : (∀ i, i < 8 → Dk.kept bl i = true) → Dk.window (crT T q bl) 8 8 = ptO q := hall
    rw [hA]
    refine ⟨by unfold ldK; rw [if_pos (.inl p1)], fun hk => ?_⟩
    rw [hall hk]
    unfold ldN
    rw [if_pos p1, if_pos ⟨q1, by rw [p2, q2]; exact hlt⟩]
    exact q2
  · have f : reg q.1 = 0 := by rcases reg_nat q.1 with f | f; · exact f
                               · exact absurd (f.trans e.symm) hr
    rw [e] at hA
    rw [f] at hall
    have hA : Dk.window (crT T q bl) 8 8 = ptO p := hA
    have hall : (∀ i, i < 8 → Dk.kept bl i = true) → Dk.window (crT T q bl) 0 8 = ptO q := hall
    rw [hA]
    refine ⟨by unfold ldK; rw [if_pos (.inr p1)], fun hk => ?_⟩
    rw [hall hk]
    unfold ldN
    rw [if_pos q1, if_neg (fun x => by have := x.2; rw [p2, q2] at this; omega)]
    exact q2

end Go.Proofs.YthlfgpnabcplnaaGreatDoor.W

/-
  Checkpoints on a disk: what the document's Load answers.
-/
namespace Go.Proofs.YthlfgpnabcplnaaGreatDoor.W
open Go.RowKit
set_option linter.unusedVariables false

set_option maxRecDepth 100000 in
set_option maxHeartbeats 16000000 in
theorem rload_any (n0 : Nat) (vd : Value) (S : Dk.St) (w : World) (hS : Dk.Disk n0 w vd S) :
    Calls Tryz.prog 22 #[vd] w fun r w' => ∃ u, r = .returned (.tuple #[u, .int .i64 (ldE S)]) ∧ PtL w.heap.size w' u (ldV S) ∧ Below w.heap.size w w' := by
  obtain ⟨a1, c1, a2, c2, rfl, _, _⟩ := hS.shape
  obtain ⟨n, hn⟩ : ∃ z, z = S.secs.length := ⟨_, rfl⟩
  obtain ⟨m, hm⟩ : ∃ z, z = S.cache.length := ⟨_, rfl⟩
  rw [← hn, ← hm] at hS ⊢
  obtain ⟨W1, hW1⟩ : ∃ W, W = (w.alloc (.cells #[.slice a1 n c1, .slice a2 m c2] 47)).alloc (.cells #[.int .i64 0, .int .i64 0, .int .i64 0, .int .i64 0, .slice none 0 0] 24) := ⟨_, rfl⟩
  have hb1 : Below w.heap.size w W1 := by rw [hW1]; exact ((Below.refl _ w).alloc (Nat.le_refl _) _).alloc (by simp) _
  have hBd : Box W1 w.heap.size 47 #[.slice a1 n c1, .slice a2 m c2] := by rw [hW1]; exact (Box.new _ _ _).alloc _
  have hBr : Box W1 (w.heap.size + 1) 24 #[.int .i64 0, .int .i64 0, .int .i64 0, .int .i64 0, .slice none 0 0] := by
    rw [hW1]
    have := Box.new (w.alloc (.cells #[.slice a1 n c1, .slice a2 m c2] 47)) 24 #[.int .i64 0, .int .i64 0, .int .i64 0, .int .i64 0, .slice none 0 0]
    rwa [World.size_alloc] at this
  have HC := rcdisk_any n0 _ S W1 (hS.below hb1)
  have HB : Hid (Below w.heap.size w W1 ∧ Box W1 w.heap.size 47 #[.slice a1 n c1, .slice a2 m c2] ∧ Box W1 (w.heap.size + 1) 24 #[.int .i64 0, .int .i64 0, .int .i64 0, .int .i64 0, .slice none 0 0] ∧ w.heap.size + 1 < W1.heap.size) := ⟨hb1, hBd, hBr, hBr.lt⟩
  have HI : Hid (Dk.Disk n0 w (.agg #[.slice a1 n c1, .slice a2 m c2]) S) := hS
  obtain ⟨post, hpost⟩ : ∃ post : Ending → World → Prop, post = fun r w' => ∃ u, r = .returned (.tuple #[u, .int .i64 (ldE S)]) ∧ PtL w.heap.size w' u (ldV S) ∧ Below w.heap.size w w' := ⟨_, rfl⟩
  have HPo : Hid (∀ (k : Int) u w', k = ldE S → PtL w.heap.size w' u (ldV S) → Below w.heap.size w w' → post (.returned (.tuple #[u, .int .i64 k])) w') := fun k u w' h1 h2 h3 => by rw [hpost, h1]; exact ⟨u, rfl, h2, h3⟩
  have HPz : Hid (∀ (k : Int) V, k = ldE S → ldV S = zP → Below w.heap.size w V → ∀ u0 u1 u2 u3 u4 U, U = .tuple #[.agg #[.int .i64 0, .int .i64 0, .int .i64 0, .int .i64 0, .slice none 0 0], .int .i64 k] → post (.returned U) (set5 V (w.heap.size + 1) u0 u1 u2 u3 u4)) := fun k V h1 h0 h2 u0 u1 u2 u3 u4 U hU => by
    rw [hU]
    refine HPo.out _ _ _ h1 ?_ (below_set5 h2 (by omega) _ _ _ _ _)
    rw [h0]
    exact ptl_zero _ _
  have HPy : Hid (∀ V x0 x1 x2 x3 xa xl xc xd, Below w.heap.size w V → Arg W1.heap.size V (.slice xa xl xc) xd → xl = xd.length → ldE S = 0 → ldV S = (x0, x1, x2, x3, xd) → ∀ u0 u1 u2 u3 u4 U, U = .tuple #[.agg #[.int .i64 x0, .int .i64 x1, .int .i64 x2, .int .i64 x3, .slice xa xl xc], .int .i64 0] → post (.returned U) (set5 V (w.heap.size + 1) u0 u1 u2 u3 u4)) := fun V x0 x1 x2 x3 xa xl xc xd h2 hA hl h0 hv u0 u1 u2 u3 u4 U hU => by
    rw [hU]
    refine HPo.out 0 _ _ h0.symm ?_ (below_set5 h2 (by omega) _ _ _ _ _)
    rw [hv]
    have ha := (Arg.keep hA (same_set5 (u0 := u0) (u1 := u1) (u2 := u2) (u3 := u3) (u4 := u4) (B := w.heap.size + 1) HB.out.2.2.2)).weaken HB.out.1.size
    rw [hl] at ha ⊢
    exact ⟨xa, xc, rfl, ha⟩
  rw [← hpost]
  obtain ⟨oe, hoe⟩ : ∃ z, z = cdE S := ⟨_, rfl⟩
  have HOE : Hid (oe = cdE S) := hoe
  rw [← hoe] at HC
  obtain ⟨q0, q1, -, -⟩ := hBd.two
  rw [hW1] at q0 q1
  clear hpost hoe hb1 hBd hBr hS hn hm
  go_enter Tryz.func22, Tryz.ntmps22
  go_wp2_with fail
  rw [← hW1]
  clear hW1 q0 q1
  refine HC.mono ?_
  rintro r w2 ⟨rfl, hb2⟩
  have H2 : Hid (Below w.heap.size w w2 ∧ Box w2 w.heap.size 47 #[.slice a1 n c1, .slice a2 m c2] ∧ Box w2 (w.heap.size + 1) 24 #[.int .i64 0, .int .i64 0, .int .i64 0, .int .i64 0, .slice none 0 0] ∧ Below W1.heap.size W1 w2) := ⟨below_any HB.out.1 hb2, HB.out.2.1.below hb2 HB.out.2.1.lt, HB.out.2.2.1.below hb2 HB.out.2.2.1.lt, hb2⟩
  clear HC hb2
  by_cases hoz : oe = 0
  rotate_left
  · have HQ : Hid (∀ u0 u1 u2 u3 u4 U, U = .tuple #[.agg #[.int .i64 0, .int .i64 0, .int .i64 0, .int .i64 0, .slice none 0 0], .int .i64 oe] → post (.returned U) (set5 w2 (w.heap.size + 1) u0 u1 u2 u3 u4)) := HPz.out oe w2 (by unfold ldE; rw [if_pos (by rw [← HOE.out]; exact hoz), HOE.out]) (by unfold ldV; rw [if_pos (by rw [← HOE.out]; exact hoz)]) H2.out.1
    obtain ⟨⟨d0, d1, d2, d3, d4⟩, e0, e1, e2, e3, e4⟩ := box5 H2.out.2.2.1
    go_wp2
    refine bodyPost_ret (v := .tuple #[.agg #[.int .i64 0, .int .i64 0, .int .i64 0, .int .i64 0, .slice none 0 0], .int .i64 oe]) (by simp [results, Tryz.results22, go_sem, *]) rfl (HQ.out _ _ _ _ _ _ rfl)
  subst hoz
  obtain ⟨A, hA⟩ : ∃ z, z = Dk.gout S 0 8 := ⟨_, rfl⟩
  obtain ⟨B, hB⟩ : ∃ z, z = Dk.gout S 8 8 := ⟨_, rfl⟩
  have HAB : Hid (A = Dk.gout S 0 8 ∧ B = Dk.gout S 8 8 ∧ ldE S = ldK A B ∧ ldV S = ldN A B) := by
    refine ⟨hA, hB, ?_, ?_⟩
    · unfold ldE; rw [if_neg (by rw [← HOE.out]; simp), hA, hB]
    · unfold ldV; rw [if_neg (by rw [← HOE.out]; simp), hA, hB]
  clear hA hB
  have HG : Calls Tryz.prog 47 #[.agg #[.slice a1 n c1, .slice a2 m c2], .int .i64 0, .int .i64 8] w2 fun r w' => ∃ v', r = .returned (.tuple #[v', .int .i64 (Dk.gerr S 0 8)]) ∧ Own1 w2.heap.size w' v' A ∧ Below w2.heap.size w2 w' := by
    have hd := HI.out.below H2.out.1
    refine (Dk.rgetAll_any n0 _ S 0 8 w2 hd (by omega)).mono ?_
    rintro r w' ⟨v', rfl, h1, h2⟩
    refine ⟨v', rfl, ?_, h2⟩
    rw [HAB.out.1]
    exact .mk h1 (gout_oc hd _ _)
  obtain ⟨ge0, hge⟩ : ∃ z, z = Dk.gerr S 0 8 := ⟨_, rfl⟩
  rw [← hge] at HG
  obtain ⟨q0, q1, -, -⟩ := H2.out.2.1.two
  clear hge
  go_wp2_with fail
  clear q0 q1
  refine HG.mono ?_
  rintro r w3 ⟨va, rfl, ho, hb⟩
  obtain ⟨vaa, vac, rfl⟩ := ho.shape
  obtain ⟨val, hval⟩ : ∃ z, z = A.length := ⟨_, rfl⟩
  rw [← hval] at ho ⊢
  clear hval
  have H3 : Hid (Below w.heap.size w w3 ∧ Box w3 w.heap.size 47 #[.slice a1 n c1, .slice a2 m c2] ∧ Box w3 (w.heap.size + 1) 24 #[.int .i64 0, .int .i64 0, .int .i64 0, .int .i64 0, .slice none 0 0] ∧ Below W1.heap.size W1 w3 ∧ Arg 0 w3 (.slice vaa val vac) A) := ⟨below_any H2.out.1 hb, H2.out.2.1.below hb H2.out.2.1.lt, H2.out.2.2.1.below hb H2.out.2.2.1.lt, below_any H2.out.2.2.2 hb, ho.arg.weaken (Nat.zero_le _)⟩
  clear ho hb HG H2
  have HG : Calls Tryz.prog 47 #[.agg #[.slice a1 n c1, .slice a2 m c2], .int .i64 8, .int .i64 8] w3 fun r w' => ∃ v', r = .returned (.tuple #[v', .int .i64 (Dk.gerr S 8 8)]) ∧ Own1 w3.heap.size w' v' B ∧ Below w3.heap.size w3 w' := by
    have hd := HI.out.below H3.out.1
    refine (Dk.rgetAll_any n0 _ S 8 8 w3 hd (by omega)).mono ?_
    rintro r w' ⟨v', rfl, h1, h2⟩
    refine ⟨v', rfl, ?_, h2⟩
    rw [HAB.out.2.1]
    exact .mk h1 (gout_oc hd _ _)
  obtain ⟨ge1, hge⟩ : ∃ z, z = Dk.gerr S 8 8 := ⟨_, rfl⟩
  rw [← hge] at HG
  obtain ⟨q0, q1, -, -⟩ := H3.out.2.1.two
  clear hge
  go_wp2_with fail
  clear q0 q1
  refine HG.mono ?_
  rintro r w4 ⟨vb, rfl, ho, hb⟩
  obtain ⟨vba, vbc, rfl⟩ := ho.shape
  obtain ⟨vbl, hvbl⟩ : ∃ z, z = B.length := ⟨_, rfl⟩
  rw [← hvbl] at ho ⊢
  clear hvbl
  have H4 : Hid (Below w.heap.size w w4 ∧ Box w4 (w.heap.size + 1) 24 #[.int .i64 0, .int .i64 0, .int .i64 0, .int .i64 0, .slice none 0 0] ∧ Below W1.heap.size W1 w4 ∧ Arg 0 w4 (.slice vaa val vac) A ∧ Arg 0 w4 (.slice vba vbl vbc) B) := ⟨below_any H3.out.1 hb, H3.out.2.2.1.below hb H3.out.2.2.1.lt, below_any H3.out.2.2.2.1 hb, H3.out.2.2.2.2.below hb, ho.arg.weaken (Nat.zero_le _)⟩
  clear ho hb HG H3
  have HD := rpdec_any 0 (.slice vaa val vac) A w4 H4.out.2.2.2.1
  obtain ⟨fe, hfe⟩ : ∃ z, z = dptE A := ⟨_, rfl⟩
  obtain ⟨⟨x0, x1, x2, x3, xd⟩, hx⟩ : ∃ z, z = dptV A := ⟨_, rfl⟩
  rw [← hfe, ← hx] at HD
  have HFX : Hid (fe = dptE A ∧ (x0, x1, x2, x3, xd) = dptV A) := ⟨hfe, hx⟩
  clear hfe hx
  go_wp2_with fail
  refine HD.mono ?_
  rintro r w5 ⟨⟨u, rfl, xa, xc, rfl, hap⟩, hb5⟩
  simp only at hap ⊢
  obtain ⟨xl, hxl⟩ : ∃ z, z = xd.length := ⟨_, rfl⟩
  rw [← hxl] at hap ⊢
  obtain ⟨V, hV⟩ : ∃ V, V = w5.alloc (.cells #[.int .i64 x0, .int .i64 x1, .int .i64 x2, .int .i64 x3, .slice xa xl xc] 24) := ⟨_, rfl⟩
  have hbV : Below w5.heap.size w5 V := by rw [hV]; exact (Below.refl _ w5).alloc (Nat.le_refl _) _
  have hBV : Box V w5.heap.size 24 #[.int .i64 x0, .int .i64 x1, .int .i64 x2, .int .i64 x3, .slice xa xl xc] := by rw [hV]; exact Box.new _ _ _
  have b4V := below_any hb5 hbV
  have HV : Hid (Below w.heap.size w V ∧ Box V (w.heap.size + 1) 24 #[.int .i64 0, .int .i64 0, .int .i64 0, .int .i64 0, .slice none 0 0] ∧ Below W1.heap.size W1 V ∧ Arg 0 V (.slice vba vbl vbc) B ∧ Box V w5.heap.size 24 #[.int .i64 x0, .int .i64 x1, .int .i64 x2, .int .i64 x3, .slice xa xl xc] ∧ Arg W1.heap.size V (.slice xa xl xc) xd ∧ xl = xd.length) := ⟨below_any H4.out.1 b4V, H4.out.2.1.below b4V H4.out.2.1.lt, below_any H4.out.2.2.1 b4V, H4.out.2.2.2.2.below b4V, hBV, (hap.below hbV).weaken H4.out.2.2.1.size, hxl⟩
  clear hb5 hbV hBV b4V hap hxl HD H4
  have HD := rpdec_any 0 (.slice vba vbl vbc) B V HV.out.2.2.2.1
  obtain ⟨ge, hge⟩ : ∃ z, z = dptE B := ⟨_, rfl⟩
  obtain ⟨⟨y0, y1, y2, y3, yd⟩, hy⟩ : ∃ z, z = dptV B := ⟨_, rfl⟩
  rw [← hge, ← hy] at HD
  have HGY : Hid (ge = dptE B ∧ (y0, y1, y2, y3, yd) = dptV B) := ⟨hge, hy⟩
  clear hge hy
  go_upto_region 7 with fail
  rw [← hV]
  clear hV
  go_wp2_with fail
  refine HD.mono ?_
  rintro r w6 ⟨⟨u, rfl, ya, yc, rfl, hap⟩, hb6⟩
  simp only at hap ⊢
  obtain ⟨yl, hyl⟩ : ∃ z, z = yd.length := ⟨_, rfl⟩
  rw [← hyl] at hap ⊢
  obtain ⟨U, hU⟩ : ∃ V, V = w6.alloc (.cells #[.int .i64 y0, .int .i64 y1, .int .i64 y2, .int .i64 y3, .slice ya yl yc] 24) := ⟨_, rfl⟩
  have hbU : Below w6.heap.size w6 U := by rw [hU]; exact (Below.refl _ w6).alloc (Nat.le_refl _) _
  have hBU : Box U w6.heap.size 24 #[.int .i64 y0, .int .i64 y1, .int .i64 y2, .int .i64 y3, .slice ya yl yc] := by rw [hU]; exact Box.new _ _ _
  have bVU := below_any hb6 hbU
  have HU : Hid (Below w.heap.size w U ∧ Box U (w.heap.size + 1) 24 #[.int .i64 0, .int .i64 0, .int .i64 0, .int .i64 0, .slice none 0 0] ∧ Box U w5.heap.size 24 #[.int .i64 x0, .int .i64 x1, .int .i64 x2, .int .i64 x3, .slice xa xl xc] ∧ Arg W1.heap.size U (.slice xa xl xc) xd ∧ xl = xd.length ∧ Box U w6.heap.size 24 #[.int .i64 y0, .int .i64 y1, .int .i64 y2, .int .i64 y3, .slice ya yl yc] ∧ Arg W1.heap.size U (.slice ya yl yc) yd ∧ yl = yd.length) := ⟨below_any HV.out.1 bVU, HV.out.2.1.below bVU HV.out.2.1.lt, HV.out.2.2.2.2.1.below bVU HV.out.2.2.2.2.1.lt, HV.out.2.2.2.2.2.1.below bVU, HV.out.2.2.2.2.2.2, hBU, (hap.below hbU).weaken HV.out.2.2.1.size, hyl⟩
  clear hb6 hbU hBU bVU hap hyl HD HV
  go_upto_region 8 with fail
  rw [← hU]
  clear hU
  obtain ⟨⟨d0, d1, d2, d3, d4⟩, e0, e1, e2, e3, e4⟩ := box5 HU.out.2.1
  obtain ⟨⟨f0, f1, f2, f3, f4⟩, -⟩ := box5 HU.out.2.2.1
  obtain ⟨⟨g0, g1, g2, g3, g4⟩, -⟩ := box5 HU.out.2.2.2.2.2.1
  by_cases hf : fe = 0
  · subst hf
    by_cases hg : ge = 0
    · subst hg
      by_cases hlt : x0 < y0
      · skip
        have HQ : Hid (∀ u0 u1 u2 u3 u4 R, R = .tuple #[.agg #[.int .i64 y0, .int .i64 y1, .int .i64 y2, .int .i64 y3, .slice ya yl yc], .int .i64 0] → post (.returned R) (set5 U (w.heap.size + 1) u0 u1 u2 u3 u4)) := HPy.out U y0 y1 y2 y3 ya yl yc yd HU.out.1 HU.out.2.2.2.2.2.2.1 HU.out.2.2.2.2.2.2.2 (by rw [HAB.out.2.2.1]; unfold ldK; rw [if_pos (.inl (show dptE A = 0 from HFX.out.1.symm))]) (by rw [HAB.out.2.2.2]; unfold ldN; rw [if_pos (show dptE A = 0 from HFX.out.1.symm), if_pos ⟨show dptE B = 0 from HGY.out.1.symm, by rw [← HFX.out.2, ← HGY.out.2]; exact hlt⟩]; exact HGY.out.2.symm)
        clear HPz HPy HPo
        go_wp2
        refine bodyPost_ret (v := .tuple #[.agg #[.int .i64 y0, .int .i64 y1, .int .i64 y2, .int .i64 y3, .slice ya yl yc], .int .i64 0]) (by simp [results, Tryz.results22, go_sem, *]) rfl (HQ.out _ _ _ _ _ _ rfl)
      · skip
        have HQ : Hid (∀ u0 u1 u2 u3 u4 R, R = .tuple #[.agg #[.int .i64 x0, .int .i64 x1, .int .i64 x2, .int .i64 x3, .slice xa xl xc], .int .i64 0] → post (.returned R) (set5 U (w.heap.size + 1) u0 u1 u2 u3 u4)) := HPy.out U x0 x1 x2 x3 xa xl xc xd HU.out.1 HU.out.2.2.2.1 HU.out.2.2.2.2.1 (by rw [HAB.out.2.2.1]; unfold ldK; rw [if_pos (.inl (show dptE A = 0 from HFX.out.1.symm))]) (by rw [HAB.out.2.2.2]; unfold ldN; rw [if_pos (show dptE A = 0 from HFX.out.1.symm), if_neg (fun h => hlt (by have := h.2; rw [← HFX.out.2, ← HGY.out.2] at this; exact this))]; exact HFX.out.2.symm)
        clear HPz HPy HPo
        go_wp2
        refine bodyPost_ret (v := .tuple #[.agg #[.int .i64 x0, .int .i64 x1, .int .i64 x2, .int .i64 x3, .slice xa xl xc], .int .i64 0]) (by simp [results, Tryz.results22, go_sem, *]) rfl (HQ.out _ _ _ _ _ _ rfl)
    · skip
      have HQ : Hid (∀ u0 u1 u2 u3 u4 R, R = .tuple #[.agg #[.int .i64 x0, .int .i64 x1, .int .i64 x2, .int .i64 x3, .slice xa xl xc], .int .i64 0] → post (.returned R) (set5 U (w.heap.size + 1) u0 u1 u2 u3 u4)) := HPy.out U x0 x1 x2 x3 xa xl xc xd HU.out.1 HU.out.2.2.2.1 HU.out.2.2.2.2.1 (by rw [HAB.out.2.2.1]; unfold ldK; rw [if_pos (.inl (show dptE A = 0 from HFX.out.1.symm))]) (by rw [HAB.out.2.2.2]; unfold ldN; rw [if_pos (show dptE A = 0 from HFX.out.1.symm), if_neg (fun h => hg (by rw [HGY.out.1]; exact h.1))]; exact HFX.out.2.symm)
      clear HPz HPy HPo
      go_wp2
      refine bodyPost_ret (v := .tuple #[.agg #[.int .i64 x0, .int .i64 x1, .int .i64 x2, .int .i64 x3, .slice xa xl xc], .int .i64 0]) (by simp [results, Tryz.results22, go_sem, *]) rfl (HQ.out _ _ _ _ _ _ rfl)
  · by_cases hg : ge = 0
    · subst hg
      have HQ : Hid (∀ u0 u1 u2 u3 u4 R, R = .tuple #[.agg #[.int .i64 y0, .int .i64 y1, .int .i64 y2, .int .i64 y3, .slice ya yl yc], .int .i64 0] → post (.returned R) (set5 U (w.heap.size + 1) u0 u1 u2 u3 u4)) := HPy.out U y0 y1 y2 y3 ya yl yc yd HU.out.1 HU.out.2.2.2.2.2.2.1 HU.out.2.2.2.2.2.2.2 (by rw [HAB.out.2.2.1]; unfold ldK; rw [if_pos (.inr (show dptE B = 0 from HGY.out.1.symm))]) (by rw [HAB.out.2.2.2]; unfold ldN; rw [if_neg (show ¬ dptE A = 0 by rw [← HFX.out.1]; exact hf), if_pos (show dptE B = 0 from HGY.out.1.symm)]; exact HGY.out.2.symm)
      clear HPz HPy HPo
      go_wp2
      refine bodyPost_ret (v := .tuple #[.agg #[.int .i64 y0, .int .i64 y1, .int .i64 y2, .int .i64 y3, .slice ya yl yc], .int .i64 0]) (by simp [results, Tryz.results22, go_sem, *]) rfl (HQ.out _ _ _ _ _ _ rfl)
    · skip
      have HQ : Hid (∀ u0 u1 u2 u3 u4 R, R = .tuple #[.agg #[.int .i64 0, .int .i64 0, .int .i64 0, .int .i64 0, .slice none 0 0], .int .i64 21] → post (.returned R) (set5 U (w.heap.size + 1) u0 u1 u2 u3 u4)) := HPz.out 21 U (by rw [HAB.out.2.2.1]; unfold ldK; rw [if_neg]; exact fun h => h.elim (fun h => hf (by rw [HFX.out.1]; exact h)) (fun h => hg (by rw [HGY.out.1]; exact h))) (by rw [HAB.out.2.2.2]; unfold ldN; rw [if_neg (show ¬ dptE A = 0 by rw [← HFX.out.1]; exact hf), if_neg (show ¬ dptE B = 0 by rw [← HGY.out.1]; exact hg)]) HU.out.1
      clear HPz HPy HPo
      have hfb : (fe != 0) = true := by simpa using hf
      have hgb : (ge != 0) = true := by simpa using hg
      clear hf hg
      go_wp2
      refine bodyPost_ret (v := .tuple #[.agg #[.int .i64 0, .int .i64 0, .int .i64 0, .int .i64 0, .slice none 0 0], .int .i64 21]) (by simp [results, Tryz.results22, go_sem, *]) rfl (HQ.out _ _ _ _ _ _ rfl)

end Go.Proofs.YthlfgpnabcplnaaGreatDoor.W
/-
  PointOldOrNew: the walk of the law.
-/
namespace Go.Proofs.YthlfgpnabcplnaaGreatDoor.W.pointOldOrNew
open Go.RowKit
set_option linter.unusedVariables false

theorem spot (x : Int) (n : Nat) (hn : 0 < n) (hn2 : n ≤ 1000000) : ∃ (t : Int) (j : Nat), Int.tmod x n = t ∧ -(n : Int) < t ∧ t < (n : Int) ∧ Int.tmod (t + n) n = j ∧ j < n := by
  have h1 := Int.tmod_lt_of_pos x (show (0 : Int) < n by omega)
  have h2 : -(n : Int) < Int.tmod x n := by
    have := Int.lt_tmod_of_pos x (show (0 : Int) < n by omega)
    exact this
  refine ⟨_, (Int.tmod (Int.tmod x n + n) n).toNat, rfl, h2, h1, ?_, ?_⟩
  · have := Int.tmod_nonneg (a := Int.tmod x n + n) n (by omega)
    omega
  · have := Int.tmod_lt_of_pos (Int.tmod x n + n) (show (0 : Int) < n by omega)
    have h0 := Int.tmod_nonneg (a := Int.tmod x n + n) n (by omega)
    omega

/-- The three points' variables. -/
structure TB (w : World) (B : Nat) (PA PB PE : Array Value) (V : World) : Prop where
  bel : Below w.heap.size w V
  a : Box V B 24 PA
  b : Box V (B + 1) 24 PB
  e : Box V (B + 1 + 1) 24 PE
theorem TB.below {w : World} {B : Nat} {PA PB PE : Array Value} {V U : World} (h : TB w B PA PB PE V) (hb : Below V.heap.size V U) : TB w B PA PB PE U := ⟨below_any h.bel hb, h.a.below hb h.a.lt, h.b.below hb h.b.lt, h.e.below hb h.e.lt⟩
theorem TB.set2 {w : World} {B N : Nat} {PA PB PE : Array Value} {V : World} (h : TB w B PA PB PE V) (hw : w.heap.size ≤ N) (hN : B + 1 + 1 < N) (x y : Value) : TB w B PA PB PE ((V.setCell ⟨N, 0, none⟩ x).setCell ⟨N, 1, none⟩ y) :=
  ⟨below_set2 h.bel hw _ _, (h.a.other (by omega)).other (by omega), (h.b.other (by omega)).other (by omega), (h.e.other (by omega)).other (by omega)⟩
theorem arg_set2 {n N : Nat} {V : World} {v : Value} {l : List Int} (h : Arg n V v l) (hN : N < n) (x y : Value) : Arg n ((V.setCell ⟨N, 0, none⟩ x).setCell ⟨N, 1, none⟩ y) v l := h.keep (.set2 hN)

theorem bools_at1 {n0 : Nat} {w : World} {v : Value} {bl : List Bool} (h : Dk.Bools n0 w v bl) (i : Nat) (b : Bool) (hb : bl[i]? = some b) :
    ∃ k o, (∀ W, (Instr.indexAt 60 v (.int .i64 i)).run Tryz.prog W = .ok (.pointer (some ⟨k, o, none⟩)) W) ∧ n0 ≤ k ∧ w.cell? ⟨k, o, none⟩ = some (.bool b) := by
  obtain ⟨i4, hi4, _, hz4, _⟩ := info_parts Dk.Tryz.info4
  have hi : i < bl.length := (List.getElem?_eq_some_iff.1 hb).1
  obtain ⟨k, o, cap, rfl, _, _, h3, h4⟩ := Dk.Cells.place h (by omega) i hi
  refine ⟨k, o + i, ?_, h3, ?_⟩
  · intro W
    have := run_index Tryz.underlying60 hi4 hz4 k o bl.length cap i hi W
    rwa [Nat.mul_one] at this
  · have := h4 0 (.bool b) (by simp [hb])
    simpa using this

set_option maxRecDepth 100000 in
set_option maxHeartbeats 64000000 in
theorem walk (ua : List Value) (qa : Pt) (ub : List Value) (qb : Pt) (ue : List Value) (qe : Pt) (xk : Option Addr) (nk ck : Nat) (kl : List Bool) (w : World) (hA : ptF.lies 0 w ua qa) (fA : qa.2.2.2.2.length ≤ 140737488351232) (hB : ptF.lies 0 w ub qb) (fB : qb.2.2.2.2.length ≤ 140737488351232) (hE : ptF.lies 0 w ue qe) (fE : qe.2.2.2.2.length ≤ 140737488351232) (hK : boolsS.lies 0 w [.slice xk nk ck] kl) (hg : Glob w) :
    Calls Tryz.prog 5 #[.agg ua.toArray, .agg ub.toArray, .agg ue.toArray, .slice xk nk ck] w fun e w' => e = .returned (.bool true) ∧ Below w.heap.size w w' := by
  obtain ⟨aa, ka, rfl, hDa, -⟩ := pt_view hA
  obtain ⟨ab, kb, rfl, hDb, -⟩ := pt_view hB
  obtain ⟨ae, ke, rfl, hDe, -⟩ := pt_view hE
  obtain ⟨ea, sa, va, ca, da⟩ := qa
  obtain ⟨eb, sb, vb, cb, db⟩ := qb
  obtain ⟨ee, se, ve, ce, de⟩ := qe
  simp only at hDa hDb hDe fA fB fE ⊢
  have hKB := bools_of hK
  have hnk : nk = kl.length ∧ nk ≤ maxLen := by
    obtain ⟨x, y, h, h1, h2, _⟩ := Dk.Cells.shape hKB
    obtain ⟨_, rfl, _⟩ := Value.slice.inj h
    exact ⟨rfl, h2⟩
  have hma : da.length ≤ maxLen := by obtain ⟨_, _, _, _, h, _⟩ := hDa.shape; exact h
  have hmb : db.length ≤ maxLen := by obtain ⟨_, _, _, _, h, _⟩ := hDb.shape; exact h
  have hme : de.length ≤ maxLen := by obtain ⟨_, _, _, _, h, _⟩ := hDe.shape; exact h
  obtain ⟨la, hla⟩ : ∃ z, z = da.length := ⟨_, rfl⟩
  obtain ⟨lb, hlb⟩ : ∃ z, z = db.length := ⟨_, rfl⟩
  obtain ⟨le, hle⟩ : ∃ z, z = de.length := ⟨_, rfl⟩
  rw [← hla] at hDa hma ⊢
  rw [← hlb] at hDb hmb ⊢
  rw [← hle] at hDe hme ⊢
  have H0 : Hid ((la = da.length ∧ lb = db.length ∧ le = de.length) ∧ (da.length ≤ 140737488351232 ∧ db.length ≤ 140737488351232 ∧ de.length ≤ 140737488351232) ∧ (la ≤ maxLen ∧ lb ≤ maxLen ∧ le ≤ maxLen) ∧ (Oc da ∧ Oc db ∧ Oc de) ∧ (nk = kl.length ∧ nk ≤ maxLen) ∧ ∀ V, Below w.heap.size w V → Glob V ∧ Arg 0 V (.slice aa la ka) da ∧ Arg 0 V (.slice ab lb kb) db ∧ Arg 0 V (.slice ae le ke) de ∧ Dk.Bools 0 V (.slice xk nk ck) kl) :=
    ⟨⟨hla, hlb, hle⟩, ⟨fA, fB, fE⟩, ⟨hma, hmb, hme⟩, ⟨hDa.oct, hDb.oct, hDe.oct⟩, hnk, fun V hV => ⟨hg.below hV hg.lt, hDa.below hV, hDb.below hV, hDe.below hV, hKB.below hV⟩⟩
  obtain ⟨V0, hV0⟩ : ∃ V, V = ((w.alloc (.cells #[.int .i64 ea, .int .i64 sa, .int .i64 va, .int .i64 ca, .slice aa la ka] 24)).alloc (.cells #[.int .i64 eb, .int .i64 sb, .int .i64 vb, .int .i64 cb, .slice ab lb kb] 24)).alloc (.cells #[.int .i64 ee, .int .i64 se, .int .i64 ve, .int .i64 ce, .slice ae le ke] 24) := ⟨_, rfl⟩
  have HB0 : Hid (TB w w.heap.size #[.int .i64 ea, .int .i64 sa, .int .i64 va, .int .i64 ca, .slice aa la ka] #[.int .i64 eb, .int .i64 sb, .int .i64 vb, .int .i64 cb, .slice ab lb kb] #[.int .i64 ee, .int .i64 se, .int .i64 ve, .int .i64 ce, .slice ae le ke] V0) := by
    rw [hV0]
    refine ⟨(((Below.refl _ w).alloc (Nat.le_refl _) _).alloc (by simp) _).alloc (by simp; omega) _, ((Box.new _ _ _).alloc _).alloc _, ?_, ?_⟩
    · have := (Box.new (w.alloc (.cells #[.int .i64 ea, .int .i64 sa, .int .i64 va, .int .i64 ca, .slice aa la ka] 24)) 24 #[.int .i64 eb, .int .i64 sb, .int .i64 vb, .int .i64 cb, .slice ab lb kb]).alloc (.cells #[.int .i64 ee, .int .i64 se, .int .i64 ve, .int .i64 ce, .slice ae le ke] 24)
      rwa [World.size_alloc] at this
    · have := Box.new ((w.alloc (.cells #[.int .i64 ea, .int .i64 sa, .int .i64 va, .int .i64 ca, .slice aa la ka] 24)).alloc (.cells #[.int .i64 eb, .int .i64 sb, .int .i64 vb, .int .i64 cb, .slice ab lb kb] 24)) 24 #[.int .i64 ee, .int .i64 se, .int .i64 ve, .int .i64 ce, .slice ae le ke]
      rwa [World.size_alloc, World.size_alloc] at this
  have HAl := alive17 V0 (H0.out.2.2.2.2.2 V0 HB0.out.bel).1
  clear hA hB hE hK fA fB fE hg hDa hDb hDe hKB hnk hma hmb hme hla hlb hle
  go_enter Tryz.func5, Tryz.ntmps5
  go_upto_region 1 with fail
  rw [← hV0]
  clear hV0
  go_wp2_with fail
  refine HAl.mono ?_
  rintro r w1 ⟨rfl, hb1⟩
  have H1 : Hid (TB w w.heap.size #[.int .i64 ea, .int .i64 sa, .int .i64 va, .int .i64 ca, .slice aa la ka] #[.int .i64 eb, .int .i64 sb, .int .i64 vb, .int .i64 cb, .slice ab lb kb] #[.int .i64 ee, .int .i64 se, .int .i64 ve, .int .i64 ce, .slice ae le ke] w1) := HB0.out.below hb1
  clear HAl hb1 HB0
  obtain ⟨t, j0, ht, ht1, ht2, hj, hj2⟩ := spot ea 1000 (by decide) (by decide)
  have ht : ea.tmod 1000 = t := ht
  have hj : (t + 1000).tmod 1000 = (j0 : Int) := hj
  have ht1 : -1000 < t := ht1
  have ht2 : t < 1000 := ht2
  obtain ⟨n, hn⟩ : ∃ n : Int, n = 2 + (j0 : Int) := ⟨_, rfl⟩
  have HN : Hid (2 ≤ n ∧ n ≤ 1001) := ⟨by omega, by omega⟩
  have hn' : 2 + (j0 : Int) = n := hn.symm
  obtain ⟨⟨d0, d1, d2, d3, d4⟩, e0, e1, e2, e3, e4⟩ := box5 H1.out.a
  clear hn
  obtain ⟨V1, hV1⟩ : ∃ V, V = w1.setCell ⟨w.heap.size, 0, none⟩ (.int .i64 n) := ⟨_, rfl⟩
  have H2 : Hid (TB w w.heap.size #[.int .i64 n, .int .i64 sa, .int .i64 va, .int .i64 ca, .slice aa la ka] #[.int .i64 eb, .int .i64 sb, .int .i64 vb, .int .i64 cb, .slice ab lb kb] #[.int .i64 ee, .int .i64 se, .int .i64 ve, .int .i64 ce, .slice ae le ke] V1) := by
    rw [hV1]
    exact ⟨H1.out.bel.setCell (p := ⟨w.heap.size, 0, none⟩) (Nat.le_refl _) _, H1.out.a.set 0 _, H1.out.b.other (by omega), H1.out.e.other (by omega)⟩
  go_upto_region 4 with fail
  rw [← hV1]
  clear hV1 ht hj ht1 ht2 hj2 hn' d0 d1 d2 d3 d4 e0 e1 e2 e3 e4 H1
  obtain ⟨X0, hX0⟩ : ∃ Z, Z = V1.drew := ⟨_, rfl⟩
  have hbX : Below V1.heap.size V1 X0 := by rw [hX0]; exact (Below.refl _ V1).drew
  refine AnyBut.begin (fun U => U.cell? ⟨w.heap.size, 0, none⟩ = some (.int .i64 n)) 1000 (by kernel_rfl) ?_
  rw [← hX0]
  clear hX0
  have HX0 := H2.out.below hbX
  have HX0H : Hid (TB w w.heap.size #[.int .i64 n, .int .i64 sa, .int .i64 va, .int .i64 ca, .slice aa la ka] #[.int .i64 eb, .int .i64 sb, .int .i64 vb, .int .i64 cb, .slice ab lb kb] #[.int .i64 ee, .int .i64 se, .int .i64 ve, .int .i64 ce, .slice ae le ke] X0) := HX0
  have hSS : X0.cell? ⟨w.heap.size, 0, none⟩ = some (.int .i64 n) := HX0.a.cell 0 rfl
  clear HX0 hbX
  have hs1 : wrap64 (n - 1) = n - 1 := by have := HN.out; unfold wrap64; omega
  have hs2 : wrap64 (n + 1) = n + 1 := by have := HN.out; unfold wrap64; omega
  have hs3 : IntKind.i64.wrap (n - 1) = n - 1 := by have := HN.out; rw [IntKind.wrap_i64]; omega
  have hs4 : IntKind.i64.wrap (n + 1) = n + 1 := by have := HN.out; rw [IntKind.wrap_i64]; omega
  refine tx 0 36 hSS ?_
  simp only [ua, ub, uc, ud]
  refine tx 1 37 hSS ?_
  simp only [ua, ub, uc, ud]
  refine tx 2 38 (v := .int .i64 (n - 1)) hSS ?_
  simp only [ua, ub, uc, ud]
  refine tx 3 39 hSS ?_
  simp only [ua, ub, uc, ud]
  refine tx 4 40 hSS ?_
  simp only [ua, ub, uc, ud]
  refine tx 5 41 (v := .int .i64 (n + 1)) hSS ?_
  simp only [ua, ub, uc, ud]
  clear hs1 hs2 hs3 hs4
  refine tx 6 42 hSS ?_
  simp only [ua, ub, uc, ud]
  have f0 := HX0H.out.e.cell 0 rfl
  have f1 := HX0H.out.e.frozen 0
  have f0 : X0.cell? ⟨w.heap.size + 1 + 1, 0, none⟩ = some (.int .i64 ee) := f0
  refine AnyBut.step (i := 7) (by kernel_rfl) rfl (fun K hK => ?_)
  go_simp
  obtain ⟨X1, hX1⟩ : ∃ V, V = X0.setCell ⟨w.heap.size + 1 + 1, 0, none⟩ (.int .i64 (n - 1)) := ⟨_, rfl⟩
  have HX1 : Hid (TB w w.heap.size #[.int .i64 n, .int .i64 sa, .int .i64 va, .int .i64 ca, .slice aa la ka] #[.int .i64 eb, .int .i64 sb, .int .i64 vb, .int .i64 cb, .slice ab lb kb] #[.int .i64 (n - 1), .int .i64 se, .int .i64 ve, .int .i64 ce, .slice ae le ke] X1) := by
    rw [hX1]
    exact ⟨HX0H.out.bel.setCell (p := ⟨w.heap.size + 1 + 1, 0, none⟩) (by simp; omega) _, HX0H.out.a.other (by omega), HX0H.out.b.other (by omega), HX0H.out.e.set 0 _⟩
  have hSS : X1.cell? ⟨w.heap.size, 0, none⟩ = some (.int .i64 n) := HX1.out.a.cell 0 rfl
  rw [← hX1]
  refine hK.out _ _ hSS ?_
  clear hK hX1 f0 f1
  refine tx 8 43 hSS ?_
  simp only [ua, ub, uc, ud]
  have f0 : X1.cell? ⟨w.heap.size + 1, 0, none⟩ = some (.int .i64 eb) := HX1.out.b.cell 0 rfl
  have f1 := HX1.out.b.frozen 0
  refine AnyBut.step (i := 9) (by kernel_rfl) rfl (fun K hK => ?_)
  go_simp
  obtain ⟨X, hX⟩ : ∃ V, V = X1.setCell ⟨w.heap.size + 1, 0, none⟩ (.int .i64 (n + 1)) := ⟨_, rfl⟩
  have HX : Hid (TB w w.heap.size #[.int .i64 n, .int .i64 sa, .int .i64 va, .int .i64 ca, .slice aa la ka] #[.int .i64 (n + 1), .int .i64 sb, .int .i64 vb, .int .i64 cb, .slice ab lb kb] #[.int .i64 (n - 1), .int .i64 se, .int .i64 ve, .int .i64 ce, .slice ae le ke] X) := by
    rw [hX]
    exact ⟨HX1.out.bel.setCell (p := ⟨w.heap.size + 1, 0, none⟩) (by simp) _, HX1.out.a.other (by omega), HX1.out.b.set 0 _, HX1.out.e.other (by omega)⟩
  have hSS : X.cell? ⟨w.heap.size, 0, none⟩ = some (.int .i64 n) := HX.out.a.cell 0 rfl
  rw [← hX]
  refine hK.out _ _ hSS ?_
  clear hK hX f0 f1 hSS HX1 HX0H H2
  refine AnyBut.done (by kernel_rfl) ?_
  have HC := rpcheck_any n sa va ca aa la ka H0.out.2.2.1.1 X
  obtain ⟨oe, hoe⟩ : ∃ z, z = ptE n sa va ca la := ⟨_, rfl⟩
  rw [← hoe] at HC
  obtain ⟨⟨d0, d1, d2, d3, d4⟩, -⟩ := box5 HX.out.a
  go_wp2_with fail
  clear d0 d1 d2 d3 d4
  refine HC.mono ?_
  rintro r c0 ⟨rfl, hb⟩
  have HC0 : Hid (TB w w.heap.size #[.int .i64 n, .int .i64 sa, .int .i64 va, .int .i64 ca, .slice aa la ka] #[.int .i64 (n + 1), .int .i64 sb, .int .i64 vb, .int .i64 cb, .slice ab lb kb] #[.int .i64 (n - 1), .int .i64 se, .int .i64 ve, .int .i64 ce, .slice ae le ke] c0) := HX.out.below hb
  clear HC hb HX
  by_cases hz0 : oe = 0
  rotate_left
  · have HZ : Hid (Below w.heap.size w c0) := HC0.out.bel
    have hzb : (oe != 0) = true := by simpa using hz0
    go_wp2
    go_ret
    exact ⟨rfl, HZ.out⟩
  have HQa : Hid (ptQ (n, sa, va, ca, da) = 0) := by
    show _ = _
    have := H0.out.1.1
    rw [hz0] at hoe
    unfold ptQ
    simp only
    rw [← this]
    exact hoe.symm
  subst hz0
  clear hoe
  have HC := rpcheck_any (n + 1) sb vb cb ab lb kb H0.out.2.2.1.2.1 c0
  obtain ⟨oe, hoe⟩ : ∃ z, z = ptE (n + 1) sb vb cb lb := ⟨_, rfl⟩
  rw [← hoe] at HC
  obtain ⟨⟨d0, d1, d2, d3, d4⟩, -⟩ := box5 HC0.out.b
  go_wp2_with fail
  clear d0 d1 d2 d3 d4
  refine HC.mono ?_
  rintro r c1 ⟨rfl, hb⟩
  have HC1 : Hid (TB w w.heap.size #[.int .i64 n, .int .i64 sa, .int .i64 va, .int .i64 ca, .slice aa la ka] #[.int .i64 (n + 1), .int .i64 sb, .int .i64 vb, .int .i64 cb, .slice ab lb kb] #[.int .i64 (n - 1), .int .i64 se, .int .i64 ve, .int .i64 ce, .slice ae le ke] c1) := HC0.out.below hb
  clear HC hb HC0
  by_cases hz1 : oe = 0
  rotate_left
  · have HZ : Hid (Below w.heap.size w c1) := HC1.out.bel
    have hzb : (oe != 0) = true := by simpa using hz1
    go_wp2
    go_ret
    exact ⟨rfl, HZ.out⟩
  have HQb : Hid (ptQ (n + 1, sb, vb, cb, db) = 0) := by
    show _ = _
    have := H0.out.1.2.1
    rw [hz1] at hoe
    unfold ptQ
    simp only
    rw [← this]
    exact hoe.symm
  subst hz1
  clear hoe
  have HC := rpcheck_any (n - 1) se ve ce ae le ke H0.out.2.2.1.2.2 c1
  obtain ⟨oe, hoe⟩ : ∃ z, z = ptE (n - 1) se ve ce le := ⟨_, rfl⟩
  rw [← hoe] at HC
  obtain ⟨⟨d0, d1, d2, d3, d4⟩, -⟩ := box5 HC1.out.e
  go_wp2_with fail
  clear d0 d1 d2 d3 d4
  refine HC.mono ?_
  rintro r c2 ⟨rfl, hb⟩
  have HC2 : Hid (TB w w.heap.size #[.int .i64 n, .int .i64 sa, .int .i64 va, .int .i64 ca, .slice aa la ka] #[.int .i64 (n + 1), .int .i64 sb, .int .i64 vb, .int .i64 cb, .slice ab lb kb] #[.int .i64 (n - 1), .int .i64 se, .int .i64 ve, .int .i64 ce, .slice ae le ke] c2) := HC1.out.below hb
  clear HC hb HC1
  by_cases hz2 : oe = 0
  rotate_left
  · have HZ : Hid (Below w.heap.size w c2) := HC2.out.bel
    have hzb : (oe != 0) = true := by simpa using hz2
    go_wp2
    go_ret
    exact ⟨rfl, HZ.out⟩
  have HQe : Hid (ptQ (n - 1, se, ve, ce, de) = 0) := by
    show _ = _
    have := H0.out.1.2.2
    rw [hz2] at hoe
    unfold ptQ
    simp only
    rw [← this]
    exact hoe.symm
  subst hz2
  clear hoe
  have HM : Hid (reg (n - 1) = reg (n + 1) ∧ reg (n + 1) ≠ reg n ∧ inN n = true ∧ inN (n + 1) = true) := by
    have h := HN.out
    have h1 : inN n = true := (ptE_ok HQa.out).1
    have h2 : inN (n + 1) = true := (ptE_ok HQb.out).1
    refine ⟨?_, ?_, h1, h2⟩
    · unfold reg; split <;> split <;> omega
    · unfold reg; split <;> split <;> omega
  obtain ⟨T1, hT1⟩ : ∃ T, T = stT zrows (n - 1, se, ve, ce, de) := ⟨_, rfl⟩
  obtain ⟨T2, hT2⟩ : ∃ T, T = stT T1 (n, sa, va, ca, da) := ⟨_, rfl⟩
  obtain ⟨T4, hT4⟩ : ∃ T, T = crT T2 (n + 1, sb, vb, cb, db) kl := ⟨_, rfl⟩
  obtain ⟨S1, hS1⟩ : ∃ S : Dk.St, S = ⟨T1, []⟩ := ⟨_, rfl⟩
  obtain ⟨S2, hS2⟩ : ∃ S : Dk.St, S = ⟨T2, []⟩ := ⟨_, rfl⟩
  obtain ⟨S3, hS3⟩ : ∃ S : Dk.St, S = ⟨T2, Dk.pieces (reg (n + 1)) (ptO (n + 1, sb, vb, cb, db))⟩ := ⟨_, rfl⟩
  obtain ⟨S4, hS4⟩ : ∃ S : Dk.St, S = ⟨T4, []⟩ := ⟨_, rfl⟩
  have HS : Hid ((stE ⟨zrows, []⟩ (n - 1, se, ve, ce, de) = 0 ∧ stS ⟨zrows, []⟩ (n - 1, se, ve, ce, de) = S1) ∧ (stE S1 (n, sa, va, ca, da) = 0 ∧ stS S1 (n, sa, va, ca, da) = S2) ∧ (Dk.paerr S2 (reg (n + 1)) (ptO (n + 1, sb, vb, cb, db)) = 0 ∧ Dk.past S2 (reg (n + 1)) (ptO (n + 1, sb, vb, cb, db)) = S3 ∧ Dk.cerr S3 = 0 ∧ Dk.stand S3 (Dk.kept kl) = S4) ∧ ldE S4 = 0 ∧ ((∀ i, i < 8 → Dk.kept kl i = true) → ldV S4 = (n + 1, sb, vb, cb, db))) := by
    have o1 := H0.out.2.2.2.1
    have s1 : Serves T1 := by rw [hT1]; exact serves0.st (q := (n - 1, se, ve, ce, de)) o1.2.2
    have s2 : Serves T2 := by rw [hT2]; exact s1.st (q := (n, sa, va, ca, da)) o1.1
    have x1 := store_rows serves0 HQe.out o1.2.2
    have x2 := store_rows s1 HQa.out o1.1
    have x3 := put_rows s2 HQb.out o1.2.1 kl
    have x4 := old_new s2 HQa.out HQb.out o1.1 o1.2.1 HM.out.2.1 (by simp only; omega) (by rw [hT2]; exact win_st s1 HQa.out) kl
    rw [← hT1] at x1
    rw [← hT2] at x2
    rw [← hT4] at x3 x4
    rw [hS1, hS2, hS3, hS4]
    exact ⟨x1, x2, x3, x4⟩
  clear hT1 hT2 hT4 hS1 hS2 hS3 hS4
  go_wp2_with fail
  refine (Dk.new_any 16 c2 (by omega) (by omega)).mono ?_
  rintro r w7 ⟨v1, rfl, hG, hb⟩
  have hd1 : Dk.Disk c2.heap.size w7 (.agg #[v1, .slice none 0 0]) ⟨zrows, []⟩ := Dk.Grid.disk hG
  obtain ⟨x1, y1, x2, y2, heq, -, -⟩ := hd1.shape
  simp only [Value.agg.injEq, Array.mk.injEq, List.cons.injEq, and_true] at heq
  obtain ⟨rfl, -⟩ := heq
  have h16 : zrows.length = 16 := by simp [zrows]
  rw [h16] at hd1 ⊢
  obtain ⟨V7, hV7⟩ : ∃ V, V = w7.alloc (.cells #[.slice x1 16 y1, .slice none 0 0] 50) := ⟨_, rfl⟩
  have hbV : Below w7.heap.size w7 V7 := by rw [hV7]; exact (Below.refl _ w7).alloc (Nat.le_refl _) _
  have hBV : Box V7 w7.heap.size 50 #[.slice x1 16 y1, .slice none 0 0] := by rw [hV7]; exact Box.new _ _ _
  obtain ⟨N, hN⟩ : ∃ N, N = w7.heap.size := ⟨_, rfl⟩
  rw [← hN] at hBV
  have b0V := below_any hb hbV
  have H7 : Hid (TB w w.heap.size #[.int .i64 n, .int .i64 sa, .int .i64 va, .int .i64 ca, .slice aa la ka] #[.int .i64 (n + 1), .int .i64 sb, .int .i64 vb, .int .i64 cb, .slice ab lb kb] #[.int .i64 (n - 1), .int .i64 se, .int .i64 ve, .int .i64 ce, .slice ae le ke] V7 ∧ Box V7 N 50 #[.slice x1 16 y1, .slice none 0 0] ∧ Dk.Disk 0 V7 (.agg #[.slice x1 16 y1, .slice none 0 0]) ⟨zrows, []⟩ ∧ w.heap.size + 1 + 1 < N) := ⟨HC2.out.below b0V, hBV, (hd1.below hbV).weaken (Nat.zero_le _), by rw [hN]; exact Nat.lt_of_lt_of_le HC2.out.e.lt hb.size⟩
  clear hG hb hd1 hbV hBV h16 HC2 b0V
  go_upto_region 8 with fail
  rw [← hV7, ← hN]
  clear hV7 hN
  have HS5 : Hid (∀ U, Below V7.heap.size V7 U → (U.cell? ⟨w.heap.size + 1 + 1, 0, none⟩ = some (.int .i64 (n - 1)) ∧ U.cell? ⟨w.heap.size + 1 + 1, 1, none⟩ = some (.int .i64 se) ∧ U.cell? ⟨w.heap.size + 1 + 1, 2, none⟩ = some (.int .i64 ve) ∧ U.cell? ⟨w.heap.size + 1 + 1, 3, none⟩ = some (.int .i64 ce) ∧ U.cell? ⟨w.heap.size + 1 + 1, 4, none⟩ = some (.slice ae le ke))) := fun U hU => (box5 (H7.out.1.below hU).e).1
  have HDB : Hid (∀ U, Below V7.heap.size V7 U → U.cell? ⟨N, 0, none⟩ = some (.slice x1 16 y1) ∧ U.cell? ⟨N, 1, none⟩ = some (.slice none 0 0)) := fun U hU => by
    obtain ⟨h0, h1, -, -⟩ := (H7.out.2.1.below hU H7.out.2.1.lt).two
    exact ⟨h0, h1⟩
  have HCO : Hid (∀ U, Below V7.heap.size V7 U → Calls Tryz.prog 6 #[.agg #[.int .i64 (n - 1), .int .i64 se, .int .i64 ve, .int .i64 ce, .slice ae le ke]] U fun r w' => (∃ a z, r = .returned (.agg #[.int .i64 (n - 1), .int .i64 se, .int .i64 ve, .int .i64 ce, .slice a le z]) ∧ Own1 U.heap.size w' (.slice a le z) de) ∧ Below U.heap.size U w') := fun U hU => of17 H0.out.1.2.2 (by have := H0.out.2.1.2.2; omega) (H0.out.2.2.2.2.2 U (H7.out.1.below hU).bel).2.2.2.1
  have HCS : Hid (∀ U a5 c5, Below V7.heap.size V7 U → Arg 0 U (.slice a5 le c5) de → Calls Tryz.prog 19 #[.agg #[.slice x1 16 y1, .slice none 0 0], .agg #[.int .i64 (n - 1), .int .i64 se, .int .i64 ve, .int .i64 ce, .slice a5 le c5]] U fun r w' => ∃ v', r = .returned (.tuple #[v', .int .i64 0]) ∧ Dk.Disk U.heap.size w' v' S1 ∧ Below U.heap.size U w') := fun U a5 c5 hU hA => by
    have h := store_any (e := (n - 1)) (s := se) (v := ve) (c := ce) H0.out.1.2.2 (H7.out.2.2.1.below hU) hA
    rw [HS.out.1.1, HS.out.1.2] at h
    exact h
  go_cut [9, 11] (fun u9 ue wx => u9 = .pointer (some ⟨N, 0, none⟩) ∧ ue = .int .i64 0 ∧ Hid (∃ z1 k1 z2 z3 k2 z4, TB w w.heap.size #[.int .i64 n, .int .i64 sa, .int .i64 va, .int .i64 ca, .slice aa la ka] #[.int .i64 (n + 1), .int .i64 sb, .int .i64 vb, .int .i64 cb, .slice ab lb kb] #[.int .i64 (n - 1), .int .i64 se, .int .i64 ve, .int .i64 ce, .slice ae le ke] wx ∧ Box wx N 50 #[.slice z1 k1 z2, .slice z3 k2 z4] ∧ Dk.Disk 0 wx (.agg #[.slice z1 k1 z2, .slice z3 k2 z4]) S1 ∧ w.heap.size + 1 + 1 < N))
  case first =>
    rename_i J K1 hJ hMt
    obtain ⟨X0, hX0⟩ : ∃ Z, Z = V7.drew := ⟨_, rfl⟩
    have hbX : Below V7.heap.size V7 X0 := by rw [hX0]; exact (Below.refl _ V7).drew
    refine AnyBut.begin (fun U => U.cell? ⟨w.heap.size + 1 + 1, 0, none⟩ = some (.int .i64 (n - 1)) ∧ U.cell? ⟨w.heap.size + 1 + 1, 1, none⟩ = some (.int .i64 se) ∧ U.cell? ⟨w.heap.size + 1 + 1, 2, none⟩ = some (.int .i64 ve) ∧ U.cell? ⟨w.heap.size + 1 + 1, 3, none⟩ = some (.int .i64 ce) ∧ U.cell? ⟨w.heap.size + 1 + 1, 4, none⟩ = some (.slice ae le ke)) 1000 (by kernel_rfl) ?_
    rw [← hX0]
    clear hX0
    have hSS := HS5.out X0 hbX
    refine tx 1 63 hSS ?_
    simp only [ua, ub, uc, ud]
    obtain ⟨g0, g1⟩ := HDB.out X0 hbX
    refine AnyBut.two (i := 0) (j := 2) (by kernel_rfl) rfl rfl (fun K hK => ?_) (fun K hK => ?_)
    · skip
      go_simp
      refine hK.out _ _ hSS ?_
      clear hK
      refine AnyBut.step (i := 2) (by kernel_rfl) rfl (fun K hK => ?_)
      go_simp
      refine (HCO.out X0 hbX).mono ?_
      rintro r Y5 ⟨⟨a5, c5, rfl, ho5⟩, hb9⟩
      dsimp only
      have hb5 := below_any hbX hb9
      have hA5 : Arg 0 Y5 (.slice a5 le c5) de := ho5.arg.weaken (Nat.zero_le _)
      clear ho5 hb9
      have hSS5 := HS5.out Y5 hb5
      refine hK.out _ _ hSS5 ?_
      clear hK
      clear g0 g1
      refine AnyBut.step (i := 3) (by kernel_rfl) rfl (fun K hK => ?_)
      go_simp
      refine (HCS.out Y5 a5 c5 hb5 hA5).mono ?_
      rintro r Y6 ⟨v6, rfl, hd6, hb9⟩
      dsimp only
      have hb6 := below_any hb5 hb9
      obtain ⟨z1, z2, z3, z4, rfl, -, -⟩ := hd6.shape
      obtain ⟨k1, hk1⟩ : ∃ z, z = S1.secs.length := ⟨_, rfl⟩
      obtain ⟨k2, hk2⟩ : ∃ z, z = S1.cache.length := ⟨_, rfl⟩
      rw [← hk1, ← hk2] at hd6 ⊢
      clear hk1 hk2
      have hSS6 := HS5.out Y6 hb6
      refine hK.out _ _ hSS6 ?_
      clear hK
      refine tx 4 61 hSS6 ?_
      simp only [ua, ub, uc, ud]
      refine tx 5 66 hSS6 ?_
      simp only [ua, ub, uc, ud]
      refine tx 6 67 hSS6 ?_
      simp only [ua, ub, uc, ud]
      have hB6 := H7.out.2.1.below hb6 H7.out.2.1.lt
      obtain ⟨f0, f1, f2, f3⟩ := hB6.two
      refine AnyBut.step (i := 7) (by kernel_rfl) rfl (fun K hK => ?_)
      go_simp
      obtain ⟨Z, hZ⟩ : ∃ Z, Z = (Y6.setCell ⟨N, 0, none⟩ (.slice z1 k1 z2)).setCell ⟨N, 1, none⟩ (.slice z3 k2 z4) := ⟨_, rfl⟩
      have hTB : TB w w.heap.size #[.int .i64 n, .int .i64 sa, .int .i64 va, .int .i64 ca, .slice aa la ka] #[.int .i64 (n + 1), .int .i64 sb, .int .i64 vb, .int .i64 cb, .slice ab lb kb] #[.int .i64 (n - 1), .int .i64 se, .int .i64 ve, .int .i64 ce, .slice ae le ke] Z := by rw [hZ]; exact (H7.out.1.below hb6).set2 (by have := H7.out.2.2.2; omega) H7.out.2.2.2 _ _
      have hBZ : Box Z N 50 #[.slice z1 k1 z2, .slice z3 k2 z4] := by rw [hZ]; exact (hB6.set 0 _).set 1 _
      have hDZ : Dk.Disk 0 Z (.agg #[.slice z1 k1 z2, .slice z3 k2 z4]) S1 := by rw [hZ]; exact (dkd_same2 hd6 (Nat.lt_of_lt_of_le H7.out.2.1.lt hb5.size) _ _).weaken (Nat.zero_le _)
      have hSSZ : Z.cell? ⟨w.heap.size + 1 + 1, 0, none⟩ = some (.int .i64 (n - 1)) ∧ Z.cell? ⟨w.heap.size + 1 + 1, 1, none⟩ = some (.int .i64 se) ∧ Z.cell? ⟨w.heap.size + 1 + 1, 2, none⟩ = some (.int .i64 ve) ∧ Z.cell? ⟨w.heap.size + 1 + 1, 3, none⟩ = some (.int .i64 ce) ∧ Z.cell? ⟨w.heap.size + 1 + 1, 4, none⟩ = some (.slice ae le ke) := (box5 hTB.e).1
      rw [← hZ]
      refine hK.out _ _ hSSZ ?_
      clear hK hZ f0 f1 f2 f3
      refine AnyBut.step (i := 8) (by kernel_rfl) rfl (fun K hK => ?_)
      go_simp
      refine hK.out _ _ hSSZ ?_
      clear hK
      refine AnyBut.done (by kernel_rfl) ?_
      refine hMt _ _ (Go.Met.intro (hJ _ _ ?_))
      (repeat (refine Exists.intro ?_ ?_; rotate_left 1))
      refine ⟨?rel, ?fr⟩
      case fr => rfl
      case rel => exact ⟨rfl, rfl, z1, k1, z2, z3, k2, z4, hTB, hBZ, hDZ, H7.out.2.2.2⟩
    · skip
      go_simp
      refine (HCO.out X0 hbX).mono ?_
      rintro r Y5 ⟨⟨a5, c5, rfl, ho5⟩, hb9⟩
      dsimp only
      have hb5 := below_any hbX hb9
      have hA5 : Arg 0 Y5 (.slice a5 le c5) de := ho5.arg.weaken (Nat.zero_le _)
      clear ho5 hb9
      have hSS5 := HS5.out Y5 hb5
      refine hK.out _ _ hSS5 ?_
      clear hK
      clear g0 g1
      obtain ⟨g0, g1⟩ := HDB.out Y5 hb5
      refine AnyBut.step (i := 0) (by kernel_rfl) rfl (fun K hK => ?_)
      go_simp
      refine hK.out _ _ hSS5 ?_
      clear hK g0 g1
      refine AnyBut.step (i := 3) (by kernel_rfl) rfl (fun K hK => ?_)
      go_simp
      refine (HCS.out Y5 a5 c5 hb5 hA5).mono ?_
      rintro r Y6 ⟨v6, rfl, hd6, hb9⟩
      dsimp only
      have hb6 := below_any hb5 hb9
      obtain ⟨z1, z2, z3, z4, rfl, -, -⟩ := hd6.shape
      obtain ⟨k1, hk1⟩ : ∃ z, z = S1.secs.length := ⟨_, rfl⟩
      obtain ⟨k2, hk2⟩ : ∃ z, z = S1.cache.length := ⟨_, rfl⟩
      rw [← hk1, ← hk2] at hd6 ⊢
      clear hk1 hk2
      have hSS6 := HS5.out Y6 hb6
      refine hK.out _ _ hSS6 ?_
      clear hK
      refine tx 4 61 hSS6 ?_
      simp only [ua, ub, uc, ud]
      refine tx 5 66 hSS6 ?_
      simp only [ua, ub, uc, ud]
      refine tx 6 67 hSS6 ?_
      simp only [ua, ub, uc, ud]
      have hB6 := H7.out.2.1.below hb6 H7.out.2.1.lt
      obtain ⟨f0, f1, f2, f3⟩ := hB6.two
      refine AnyBut.step (i := 7) (by kernel_rfl) rfl (fun K hK => ?_)
      go_simp
      obtain ⟨Z, hZ⟩ : ∃ Z, Z = (Y6.setCell ⟨N, 0, none⟩ (.slice z1 k1 z2)).setCell ⟨N, 1, none⟩ (.slice z3 k2 z4) := ⟨_, rfl⟩
      have hTB : TB w w.heap.size #[.int .i64 n, .int .i64 sa, .int .i64 va, .int .i64 ca, .slice aa la ka] #[.int .i64 (n + 1), .int .i64 sb, .int .i64 vb, .int .i64 cb, .slice ab lb kb] #[.int .i64 (n - 1), .int .i64 se, .int .i64 ve, .int .i64 ce, .slice ae le ke] Z := by rw [hZ]; exact (H7.out.1.below hb6).set2 (by have := H7.out.2.2.2; omega) H7.out.2.2.2 _ _
      have hBZ : Box Z N 50 #[.slice z1 k1 z2, .slice z3 k2 z4] := by rw [hZ]; exact (hB6.set 0 _).set 1 _
      have hDZ : Dk.Disk 0 Z (.agg #[.slice z1 k1 z2, .slice z3 k2 z4]) S1 := by rw [hZ]; exact (dkd_same2 hd6 (Nat.lt_of_lt_of_le H7.out.2.1.lt hb5.size) _ _).weaken (Nat.zero_le _)
      have hSSZ : Z.cell? ⟨w.heap.size + 1 + 1, 0, none⟩ = some (.int .i64 (n - 1)) ∧ Z.cell? ⟨w.heap.size + 1 + 1, 1, none⟩ = some (.int .i64 se) ∧ Z.cell? ⟨w.heap.size + 1 + 1, 2, none⟩ = some (.int .i64 ve) ∧ Z.cell? ⟨w.heap.size + 1 + 1, 3, none⟩ = some (.int .i64 ce) ∧ Z.cell? ⟨w.heap.size + 1 + 1, 4, none⟩ = some (.slice ae le ke) := (box5 hTB.e).1
      rw [← hZ]
      refine hK.out _ _ hSSZ ?_
      clear hK hZ f0 f1 f2 f3
      refine AnyBut.step (i := 8) (by kernel_rfl) rfl (fun K hK => ?_)
      go_simp
      refine hK.out _ _ hSSZ ?_
      clear hK
      refine AnyBut.done (by kernel_rfl) ?_
      refine hMt _ _ (Go.Met.intro (hJ _ _ ?_))
      (repeat (refine Exists.intro ?_ ?_; rotate_left 1))
      refine ⟨?rel, ?fr⟩
      case fr => rfl
      case rel => exact ⟨rfl, rfl, z1, k1, z2, z3, k2, z4, hTB, hBZ, hDZ, H7.out.2.2.2⟩
  case rest =>
  obtain ⟨rfl, rfl, HR⟩ := hcut
  obtain ⟨V8, hwx⟩ : ∃ U, U = wc := ⟨_, rfl⟩
  rw [← hwx] at HR ⊢
  clear hwx HS5 HDB HCO HCS H7
  obtain ⟨g1, g2, g3, g4, g5, g6, hTB, hBZ, hDZ, hNN⟩ := HR.out
  have Hg : Hid (TB w w.heap.size #[.int .i64 n, .int .i64 sa, .int .i64 va, .int .i64 ca, .slice aa la ka] #[.int .i64 (n + 1), .int .i64 sb, .int .i64 vb, .int .i64 cb, .slice ab lb kb] #[.int .i64 (n - 1), .int .i64 se, .int .i64 ve, .int .i64 ce, .slice ae le ke] V8 ∧ Box V8 N 50 #[.slice g1 g2 g3, .slice g4 g5 g6] ∧ Dk.Disk 0 V8 (.agg #[.slice g1 g2 g3, .slice g4 g5 g6]) S1 ∧ w.heap.size + 1 + 1 < N) := ⟨hTB, hBZ, hDZ, hNN⟩
  clear HR hTB hBZ hDZ hNN
  go_upto_region 9 with fail
  have HS5 : Hid (∀ U, Below V8.heap.size V8 U → (U.cell? ⟨w.heap.size, 0, none⟩ = some (.int .i64 n) ∧ U.cell? ⟨w.heap.size, 1, none⟩ = some (.int .i64 sa) ∧ U.cell? ⟨w.heap.size, 2, none⟩ = some (.int .i64 va) ∧ U.cell? ⟨w.heap.size, 3, none⟩ = some (.int .i64 ca) ∧ U.cell? ⟨w.heap.size, 4, none⟩ = some (.slice aa la ka))) := fun U hU => (box5 (Hg.out.1.below hU).a).1
  have HDB : Hid (∀ U, Below V8.heap.size V8 U → U.cell? ⟨N, 0, none⟩ = some (.slice g1 g2 g3) ∧ U.cell? ⟨N, 1, none⟩ = some (.slice g4 g5 g6)) := fun U hU => by
    obtain ⟨h0, h1, -, -⟩ := (Hg.out.2.1.below hU Hg.out.2.1.lt).two
    exact ⟨h0, h1⟩
  have HCO : Hid (∀ U, Below V8.heap.size V8 U → Calls Tryz.prog 6 #[.agg #[.int .i64 n, .int .i64 sa, .int .i64 va, .int .i64 ca, .slice aa la ka]] U fun r w' => (∃ a z, r = .returned (.agg #[.int .i64 n, .int .i64 sa, .int .i64 va, .int .i64 ca, .slice a la z]) ∧ Own1 U.heap.size w' (.slice a la z) da) ∧ Below U.heap.size U w') := fun U hU => of17 H0.out.1.1 (by have := H0.out.2.1.1; omega) (H0.out.2.2.2.2.2 U (Hg.out.1.below hU).bel).2.1
  have HCS : Hid (∀ U a5 c5, Below V8.heap.size V8 U → Arg 0 U (.slice a5 la c5) da → Calls Tryz.prog 19 #[.agg #[.slice g1 g2 g3, .slice g4 g5 g6], .agg #[.int .i64 n, .int .i64 sa, .int .i64 va, .int .i64 ca, .slice a5 la c5]] U fun r w' => ∃ v', r = .returned (.tuple #[v', .int .i64 0]) ∧ Dk.Disk U.heap.size w' v' S2 ∧ Below U.heap.size U w') := fun U a5 c5 hU hA => by
    have h := store_any (e := n) (s := sa) (v := va) (c := ca) H0.out.1.1 (Hg.out.2.2.1.below hU) hA
    rw [HS.out.2.1.1, HS.out.2.1.2] at h
    exact h
  go_cut [9, 12] (fun u9 ue wx => u9 = .pointer (some ⟨N, 0, none⟩) ∧ ue = .int .i64 0 ∧ Hid (∃ z1 k1 z2 z3 k2 z4, TB w w.heap.size #[.int .i64 n, .int .i64 sa, .int .i64 va, .int .i64 ca, .slice aa la ka] #[.int .i64 (n + 1), .int .i64 sb, .int .i64 vb, .int .i64 cb, .slice ab lb kb] #[.int .i64 (n - 1), .int .i64 se, .int .i64 ve, .int .i64 ce, .slice ae le ke] wx ∧ Box wx N 50 #[.slice z1 k1 z2, .slice z3 k2 z4] ∧ Dk.Disk 0 wx (.agg #[.slice z1 k1 z2, .slice z3 k2 z4]) S2 ∧ w.heap.size + 1 + 1 < N))
  case first =>
    rename_i J K1 hJ hMt
    obtain ⟨X0, hX0⟩ : ∃ Z, Z = V8.drew := ⟨_, rfl⟩
    have hbX : Below V8.heap.size V8 X0 := by rw [hX0]; exact (Below.refl _ V8).drew
    refine AnyBut.begin (fun U => U.cell? ⟨w.heap.size, 0, none⟩ = some (.int .i64 n) ∧ U.cell? ⟨w.heap.size, 1, none⟩ = some (.int .i64 sa) ∧ U.cell? ⟨w.heap.size, 2, none⟩ = some (.int .i64 va) ∧ U.cell? ⟨w.heap.size, 3, none⟩ = some (.int .i64 ca) ∧ U.cell? ⟨w.heap.size, 4, none⟩ = some (.slice aa la ka)) 1000 (by kernel_rfl) ?_
    rw [← hX0]
    clear hX0
    have hSS := HS5.out X0 hbX
    refine tx 1 70 hSS ?_
    simp only [ua, ub, uc, ud]
    obtain ⟨g0, g1⟩ := HDB.out X0 hbX
    refine AnyBut.two (i := 0) (j := 2) (by kernel_rfl) rfl rfl (fun K hK => ?_) (fun K hK => ?_)
    · skip
      go_simp
      refine hK.out _ _ hSS ?_
      clear hK
      refine AnyBut.step (i := 2) (by kernel_rfl) rfl (fun K hK => ?_)
      go_simp
      refine (HCO.out X0 hbX).mono ?_
      rintro r Y5 ⟨⟨a5, c5, rfl, ho5⟩, hb9⟩
      dsimp only
      have hb5 := below_any hbX hb9
      have hA5 : Arg 0 Y5 (.slice a5 la c5) da := ho5.arg.weaken (Nat.zero_le _)
      clear ho5 hb9
      have hSS5 := HS5.out Y5 hb5
      refine hK.out _ _ hSS5 ?_
      clear hK
      clear g0 g1
      refine AnyBut.step (i := 3) (by kernel_rfl) rfl (fun K hK => ?_)
      go_simp
      refine (HCS.out Y5 a5 c5 hb5 hA5).mono ?_
      rintro r Y6 ⟨v6, rfl, hd6, hb9⟩
      dsimp only
      have hb6 := below_any hb5 hb9
      obtain ⟨z1, z2, z3, z4, rfl, -, -⟩ := hd6.shape
      obtain ⟨k1, hk1⟩ : ∃ z, z = S2.secs.length := ⟨_, rfl⟩
      obtain ⟨k2, hk2⟩ : ∃ z, z = S2.cache.length := ⟨_, rfl⟩
      rw [← hk1, ← hk2] at hd6 ⊢
      clear hk1 hk2
      have hSS6 := HS5.out Y6 hb6
      refine hK.out _ _ hSS6 ?_
      clear hK
      refine tx 4 68 hSS6 ?_
      simp only [ua, ub, uc, ud]
      refine tx 5 73 hSS6 ?_
      simp only [ua, ub, uc, ud]
      refine tx 6 74 hSS6 ?_
      simp only [ua, ub, uc, ud]
      have hB6 := Hg.out.2.1.below hb6 Hg.out.2.1.lt
      obtain ⟨f0, f1, f2, f3⟩ := hB6.two
      refine AnyBut.step (i := 7) (by kernel_rfl) rfl (fun K hK => ?_)
      go_simp
      obtain ⟨Z, hZ⟩ : ∃ Z, Z = (Y6.setCell ⟨N, 0, none⟩ (.slice z1 k1 z2)).setCell ⟨N, 1, none⟩ (.slice z3 k2 z4) := ⟨_, rfl⟩
      have hTB : TB w w.heap.size #[.int .i64 n, .int .i64 sa, .int .i64 va, .int .i64 ca, .slice aa la ka] #[.int .i64 (n + 1), .int .i64 sb, .int .i64 vb, .int .i64 cb, .slice ab lb kb] #[.int .i64 (n - 1), .int .i64 se, .int .i64 ve, .int .i64 ce, .slice ae le ke] Z := by rw [hZ]; exact (Hg.out.1.below hb6).set2 (by have := Hg.out.2.2.2; omega) Hg.out.2.2.2 _ _
      have hBZ : Box Z N 50 #[.slice z1 k1 z2, .slice z3 k2 z4] := by rw [hZ]; exact (hB6.set 0 _).set 1 _
      have hDZ : Dk.Disk 0 Z (.agg #[.slice z1 k1 z2, .slice z3 k2 z4]) S2 := by rw [hZ]; exact (dkd_same2 hd6 (Nat.lt_of_lt_of_le Hg.out.2.1.lt hb5.size) _ _).weaken (Nat.zero_le _)
      have hSSZ : Z.cell? ⟨w.heap.size, 0, none⟩ = some (.int .i64 n) ∧ Z.cell? ⟨w.heap.size, 1, none⟩ = some (.int .i64 sa) ∧ Z.cell? ⟨w.heap.size, 2, none⟩ = some (.int .i64 va) ∧ Z.cell? ⟨w.heap.size, 3, none⟩ = some (.int .i64 ca) ∧ Z.cell? ⟨w.heap.size, 4, none⟩ = some (.slice aa la ka) := (box5 hTB.a).1
      rw [← hZ]
      refine hK.out _ _ hSSZ ?_
      clear hK hZ f0 f1 f2 f3
      refine AnyBut.step (i := 8) (by kernel_rfl) rfl (fun K hK => ?_)
      go_simp
      refine hK.out _ _ hSSZ ?_
      clear hK
      refine AnyBut.done (by kernel_rfl) ?_
      refine hMt _ _ (Go.Met.intro (hJ _ _ ?_))
      (repeat (refine Exists.intro ?_ ?_; rotate_left 1))
      refine ⟨?rel, ?fr⟩
      case fr => rfl
      case rel => exact ⟨rfl, rfl, z1, k1, z2, z3, k2, z4, hTB, hBZ, hDZ, Hg.out.2.2.2⟩
    · skip
      go_simp
      refine (HCO.out X0 hbX).mono ?_
      rintro r Y5 ⟨⟨a5, c5, rfl, ho5⟩, hb9⟩
      dsimp only
      have hb5 := below_any hbX hb9
      have hA5 : Arg 0 Y5 (.slice a5 la c5) da := ho5.arg.weaken (Nat.zero_le _)
      clear ho5 hb9
      have hSS5 := HS5.out Y5 hb5
      refine hK.out _ _ hSS5 ?_
      clear hK
      clear g0 g1
      obtain ⟨g0, g1⟩ := HDB.out Y5 hb5
      refine AnyBut.step (i := 0) (by kernel_rfl) rfl (fun K hK => ?_)
      go_simp
      refine hK.out _ _ hSS5 ?_
      clear hK g0 g1
      refine AnyBut.step (i := 3) (by kernel_rfl) rfl (fun K hK => ?_)
      go_simp
      refine (HCS.out Y5 a5 c5 hb5 hA5).mono ?_
      rintro r Y6 ⟨v6, rfl, hd6, hb9⟩
      dsimp only
      have hb6 := below_any hb5 hb9
      obtain ⟨z1, z2, z3, z4, rfl, -, -⟩ := hd6.shape
      obtain ⟨k1, hk1⟩ : ∃ z, z = S2.secs.length := ⟨_, rfl⟩
      obtain ⟨k2, hk2⟩ : ∃ z, z = S2.cache.length := ⟨_, rfl⟩
      rw [← hk1, ← hk2] at hd6 ⊢
      clear hk1 hk2
      have hSS6 := HS5.out Y6 hb6
      refine hK.out _ _ hSS6 ?_
      clear hK
      refine tx 4 68 hSS6 ?_
      simp only [ua, ub, uc, ud]
      refine tx 5 73 hSS6 ?_
      simp only [ua, ub, uc, ud]
      refine tx 6 74 hSS6 ?_
      simp only [ua, ub, uc, ud]
      have hB6 := Hg.out.2.1.below hb6 Hg.out.2.1.lt
      obtain ⟨f0, f1, f2, f3⟩ := hB6.two
      refine AnyBut.step (i := 7) (by kernel_rfl) rfl (fun K hK => ?_)
      go_simp
      obtain ⟨Z, hZ⟩ : ∃ Z, Z = (Y6.setCell ⟨N, 0, none⟩ (.slice z1 k1 z2)).setCell ⟨N, 1, none⟩ (.slice z3 k2 z4) := ⟨_, rfl⟩
      have hTB : TB w w.heap.size #[.int .i64 n, .int .i64 sa, .int .i64 va, .int .i64 ca, .slice aa la ka] #[.int .i64 (n + 1), .int .i64 sb, .int .i64 vb, .int .i64 cb, .slice ab lb kb] #[.int .i64 (n - 1), .int .i64 se, .int .i64 ve, .int .i64 ce, .slice ae le ke] Z := by rw [hZ]; exact (Hg.out.1.below hb6).set2 (by have := Hg.out.2.2.2; omega) Hg.out.2.2.2 _ _
      have hBZ : Box Z N 50 #[.slice z1 k1 z2, .slice z3 k2 z4] := by rw [hZ]; exact (hB6.set 0 _).set 1 _
      have hDZ : Dk.Disk 0 Z (.agg #[.slice z1 k1 z2, .slice z3 k2 z4]) S2 := by rw [hZ]; exact (dkd_same2 hd6 (Nat.lt_of_lt_of_le Hg.out.2.1.lt hb5.size) _ _).weaken (Nat.zero_le _)
      have hSSZ : Z.cell? ⟨w.heap.size, 0, none⟩ = some (.int .i64 n) ∧ Z.cell? ⟨w.heap.size, 1, none⟩ = some (.int .i64 sa) ∧ Z.cell? ⟨w.heap.size, 2, none⟩ = some (.int .i64 va) ∧ Z.cell? ⟨w.heap.size, 3, none⟩ = some (.int .i64 ca) ∧ Z.cell? ⟨w.heap.size, 4, none⟩ = some (.slice aa la ka) := (box5 hTB.a).1
      rw [← hZ]
      refine hK.out _ _ hSSZ ?_
      clear hK hZ f0 f1 f2 f3
      refine AnyBut.step (i := 8) (by kernel_rfl) rfl (fun K hK => ?_)
      go_simp
      refine hK.out _ _ hSSZ ?_
      clear hK
      refine AnyBut.done (by kernel_rfl) ?_
      refine hMt _ _ (Go.Met.intro (hJ _ _ ?_))
      (repeat (refine Exists.intro ?_ ?_; rotate_left 1))
      refine ⟨?rel, ?fr⟩
      case fr => rfl
      case rel => exact ⟨rfl, rfl, z1, k1, z2, z3, k2, z4, hTB, hBZ, hDZ, Hg.out.2.2.2⟩
  case rest =>
  obtain ⟨rfl, rfl, HR⟩ := hcut
  obtain ⟨V9, hwx⟩ : ∃ U, U = wc := ⟨_, rfl⟩
  rw [← hwx] at HR ⊢
  clear hwx HS5 HDB HCO HCS Hg
  obtain ⟨h1, h2, h3, h4, h5, h6, hTB, hBZ, hDZ, hNN⟩ := HR.out
  have Hh : Hid (TB w w.heap.size #[.int .i64 n, .int .i64 sa, .int .i64 va, .int .i64 ca, .slice aa la ka] #[.int .i64 (n + 1), .int .i64 sb, .int .i64 vb, .int .i64 cb, .slice ab lb kb] #[.int .i64 (n - 1), .int .i64 se, .int .i64 ve, .int .i64 ce, .slice ae le ke] V9 ∧ Box V9 N 50 #[.slice h1 h2 h3, .slice h4 h5 h6] ∧ Dk.Disk 0 V9 (.agg #[.slice h1 h2 h3, .slice h4 h5 h6]) S2 ∧ w.heap.size + 1 + 1 < N) := ⟨hTB, hBZ, hDZ, hNN⟩
  clear HR hTB hBZ hDZ hNN
  have HC := of17 (e := n + 1) (s := sb) (v := vb) (c := cb) H0.out.1.2.1 (by have := H0.out.2.1.2.1; omega) (H0.out.2.2.2.2.2 V9 Hh.out.1.bel).2.2.1
  obtain ⟨⟨d0, d1, d2, d3, d4⟩, -⟩ := box5 Hh.out.1.b
  go_upto_region 10 with fail
  go_wp2_with fail
  clear d0 d1 d2 d3 d4
  refine HC.mono ?_
  rintro r y1 ⟨⟨a5, c5, rfl, ho5⟩, hb1⟩
  have HC2 := penc_any (e := n + 1) (s := sb) (v := vb) (c := cb) H0.out.1.2.1 ho5.arg
  obtain ⟨B, hBB⟩ : ∃ z, z = ptO (n + 1, sb, vb, cb, db) := ⟨_, rfl⟩
  have HBE : Hid (B = ptO (n + 1, sb, vb, cb, db) ∧ B.length = 512) := ⟨hBB, by rw [hBB]; exact ptO_len HQb.out⟩
  rw [← hBB, show ptE (n + 1) sb vb cb db.length = 0 from HQb.out, HBE.out.2] at HC2
  clear hBB
  go_wp2_with fail
  refine HC2.mono ?_
  rintro r y2 ⟨⟨a13, c13, rfl, ho13⟩, hb2⟩
  have b9 := below_any hb1 hb2
  have H10 : Hid (TB w w.heap.size #[.int .i64 n, .int .i64 sa, .int .i64 va, .int .i64 ca, .slice aa la ka] #[.int .i64 (n + 1), .int .i64 sb, .int .i64 vb, .int .i64 cb, .slice ab lb kb] #[.int .i64 (n - 1), .int .i64 se, .int .i64 ve, .int .i64 ce, .slice ae le ke] y2 ∧ Box y2 N 50 #[.slice h1 h2 h3, .slice h4 h5 h6] ∧ Dk.Disk 0 y2 (.agg #[.slice h1 h2 h3, .slice h4 h5 h6]) S2 ∧ w.heap.size + 1 + 1 < N ∧ Arg 0 y2 (.slice a13 512 c13) B) := ⟨Hh.out.1.below b9, Hh.out.2.1.below b9 Hh.out.2.1.lt, Hh.out.2.2.1.below b9, Hh.out.2.2.2, by
    have := ho13.arg.weaken (Nat.zero_le _)
    exact this⟩
  clear HC HC2 ho5 ho13 hb1 hb2 b9 Hh
  have hk8 : 8 * ((n + 1) % 2) = reg (n + 1) := by unfold reg; split <;> omega
  have h0n : 0 ≤ n + 1 := by have := HN.out; omega
  have h1n : n + 1 ≤ 1002 := by have := HN.out; omega
  have HP := Dk.putAll_any 0 0 _ _ S2 (reg (n + 1)) B y2 H10.out.2.2.1 (reg_in _) (dk_arg H10.out.2.2.2.2) (by rw [HBE.out.2]; omega)
  rw [HBE.out.1, HS.out.2.2.1.1, HS.out.2.2.1.2.1, ← hk8] at HP
  clear hk8
  obtain ⟨d0, d1, -, -⟩ := H10.out.2.1.two
  have f0 : y2.cell? ⟨w.heap.size + 1, 0, none⟩ = some (.int .i64 (n + 1)) := H10.out.1.b.cell 0 rfl
  go_wp2_with fail
  clear d0 d1 f0
  refine HP.mono ?_
  rintro r w11 ⟨v6, rfl, hd6, hb9⟩
  have hd6 := hd6.disk
  obtain ⟨i1, i3, i4, i6, rfl, -, -⟩ := hd6.shape
  obtain ⟨i2, hk1⟩ : ∃ z, z = S3.secs.length := ⟨_, rfl⟩
  obtain ⟨i5, hk2⟩ : ∃ z, z = S3.cache.length := ⟨_, rfl⟩
  rw [← hk1, ← hk2] at hd6 ⊢
  clear hk1 hk2
  have hB6 := H10.out.2.1.below hb9 H10.out.2.1.lt
  obtain ⟨f0, f1, f2, f3⟩ := hB6.two
  obtain ⟨V11, hV11⟩ : ∃ Z, Z = (w11.setCell ⟨N, 0, none⟩ (.slice i1 i2 i3)).setCell ⟨N, 1, none⟩ (.slice i4 i5 i6) := ⟨_, rfl⟩
  have hBZ : Box V11 N 50 #[.slice i1 i2 i3, .slice i4 i5 i6] := by rw [hV11]; exact (hB6.set 0 _).set 1 _
  have hDZ : Dk.Disk 0 V11 (.agg #[.slice i1 i2 i3, .slice i4 i5 i6]) S3 := by rw [hV11]; exact (dkd_same2 hd6 H10.out.2.1.lt _ _).weaken (Nat.zero_le _)
  have hTB : TB w w.heap.size #[.int .i64 n, .int .i64 sa, .int .i64 va, .int .i64 ca, .slice aa la ka] #[.int .i64 (n + 1), .int .i64 sb, .int .i64 vb, .int .i64 cb, .slice ab lb kb] #[.int .i64 (n - 1), .int .i64 se, .int .i64 ve, .int .i64 ce, .slice ae le ke] V11 := by rw [hV11]; exact (H10.out.1.below hb9).set2 (by have := H10.out.2.2.2.1; omega) H10.out.2.2.2.1 _ _
  have H11 : Hid (TB w w.heap.size #[.int .i64 n, .int .i64 sa, .int .i64 va, .int .i64 ca, .slice aa la ka] #[.int .i64 (n + 1), .int .i64 sb, .int .i64 vb, .int .i64 cb, .slice ab lb kb] #[.int .i64 (n - 1), .int .i64 se, .int .i64 ve, .int .i64 ce, .slice ae le ke] V11 ∧ Box V11 N 50 #[.slice i1 i2 i3, .slice i4 i5 i6] ∧ Dk.Disk 0 V11 (.agg #[.slice i1 i2 i3, .slice i4 i5 i6]) S3 ∧ w.heap.size + 1 + 1 < N ∧ True) := ⟨hTB, hBZ, hDZ, H10.out.2.2.2.1, trivial⟩
  clear hTB
  go_upto_region 12 with fail
  rw [← hV11]
  clear hV11 f0 f1 f2 f3 hd6 hb9 hB6 hBZ hDZ
  clear HP H10
  have HP := Dk.crash_any 0 0 _ _ S3 kl V11 H11.out.2.2.1 (H0.out.2.2.2.2.2 V11 H11.out.1.bel).2.2.2.2
  rw [HS.out.2.2.1.2.2.1, HS.out.2.2.1.2.2.2] at HP
  obtain ⟨d0, d1, -, -⟩ := H11.out.2.1.two
  go_wp2_with fail
  clear d0 d1
  refine HP.mono ?_
  rintro r w12 ⟨v6, rfl, hd6, hb9⟩
  have hd6 := hd6
  obtain ⟨j1, j3, j4, j6, rfl, -, -⟩ := hd6.shape
  obtain ⟨j2, hk1⟩ : ∃ z, z = S4.secs.length := ⟨_, rfl⟩
  obtain ⟨j5, hk2⟩ : ∃ z, z = S4.cache.length := ⟨_, rfl⟩
  rw [← hk1, ← hk2] at hd6 ⊢
  clear hk1 hk2
  have hB6 := H11.out.2.1.below hb9 H11.out.2.1.lt
  obtain ⟨f0, f1, f2, f3⟩ := hB6.two
  obtain ⟨V12, hV12⟩ : ∃ Z, Z = (w12.setCell ⟨N, 0, none⟩ (.slice j1 j2 j3)).setCell ⟨N, 1, none⟩ (.slice j4 j5 j6) := ⟨_, rfl⟩
  have hBZ : Box V12 N 50 #[.slice j1 j2 j3, .slice j4 j5 j6] := by rw [hV12]; exact (hB6.set 0 _).set 1 _
  have hDZ : Dk.Disk 0 V12 (.agg #[.slice j1 j2 j3, .slice j4 j5 j6]) S4 := by rw [hV12]; exact (dkd_same2 hd6 H11.out.2.1.lt _ _).weaken (Nat.zero_le _)
  have hTB : TB w w.heap.size #[.int .i64 n, .int .i64 sa, .int .i64 va, .int .i64 ca, .slice aa la ka] #[.int .i64 (n + 1), .int .i64 sb, .int .i64 vb, .int .i64 cb, .slice ab lb kb] #[.int .i64 (n - 1), .int .i64 se, .int .i64 ve, .int .i64 ce, .slice ae le ke] V12 := by rw [hV12]; exact (H11.out.1.below hb9).set2 (by have := H11.out.2.2.2.1; omega) H11.out.2.2.2.1 _ _
  have H12 : Hid (TB w w.heap.size #[.int .i64 n, .int .i64 sa, .int .i64 va, .int .i64 ca, .slice aa la ka] #[.int .i64 (n + 1), .int .i64 sb, .int .i64 vb, .int .i64 cb, .slice ab lb kb] #[.int .i64 (n - 1), .int .i64 se, .int .i64 ve, .int .i64 ce, .slice ae le ke] V12 ∧ Box V12 N 50 #[.slice j1 j2 j3, .slice j4 j5 j6] ∧ Dk.Disk 0 V12 (.agg #[.slice j1 j2 j3, .slice j4 j5 j6]) S4) := ⟨hTB, hBZ, hDZ⟩
  clear hTB
  go_upto_region 13 with fail
  rw [← hV12]
  clear hV12 f0 f1 f2 f3 hd6 hb9 hB6 hBZ hDZ
  clear HP H11
  have HP := load_any 0 _ S4 V12 H12.out.2.2 (H0.out.2.2.2.2.2 V12 H12.out.1.bel).1
  rw [HS.out.2.2.2.1] at HP
  obtain ⟨⟨p0, p1, p2, p3, pd⟩, hlv⟩ : ∃ z, z = ldV S4 := ⟨_, rfl⟩
  rw [← hlv] at HP
  have HLV : Hid ((p0, p1, p2, p3, pd) = ldV S4) := hlv
  clear hlv
  obtain ⟨pl, hpl⟩ : ∃ z, z = pd.length := ⟨_, rfl⟩
  have HPL : Hid (pl = pd.length) := hpl
  clear hpl
  obtain ⟨d0, d1, -, -⟩ := H12.out.2.1.two
  go_wp2_with fail
  clear d0 d1
  refine HP.mono ?_
  rintro r w13 ⟨u, rfl, ⟨pa, pc, rfl, hap⟩, hb⟩
  simp only at hap ⊢
  rw [← HPL.out] at hap ⊢
  obtain ⟨Z, hZ⟩ : ∃ V, V = w13.alloc (.cells #[.int .i64 p0, .int .i64 p1, .int .i64 p2, .int .i64 p3, .slice pa pl pc] 25) := ⟨_, rfl⟩
  have hbV : Below w13.heap.size w13 Z := by rw [hZ]; exact (Below.refl _ w13).alloc (Nat.le_refl _) _
  have hBp : Box Z w13.heap.size 25 #[.int .i64 p0, .int .i64 p1, .int .i64 p2, .int .i64 p3, .slice pa pl pc] := by rw [hZ]; exact Box.new _ _ _
  have b12 := below_any hb hbV
  have HZZ : Hid (TB w w.heap.size #[.int .i64 n, .int .i64 sa, .int .i64 va, .int .i64 ca, .slice aa la ka] #[.int .i64 (n + 1), .int .i64 sb, .int .i64 vb, .int .i64 cb, .slice ab lb kb] #[.int .i64 (n - 1), .int .i64 se, .int .i64 ve, .int .i64 ce, .slice ae le ke] Z ∧ Box Z w13.heap.size 25 #[.int .i64 p0, .int .i64 p1, .int .i64 p2, .int .i64 p3, .slice pa pl pc] ∧ Arg 0 Z (.slice pa pl pc) pd) := ⟨H12.out.1.below b12, hBp, (hap.below hbV).weaken (Nat.zero_le _)⟩
  clear hb hbV hBp b12 hap HP H12
  go_upto_region 14 with fail
  rw [← hZ]
  clear hZ
  go_wp2_with (first | (with_reducible refine Calls.mono (num17 _ _) ?_; rintro _ _ ⟨rfl, rfl⟩))
  refine (Dk.rnew_any 16 Z (by omega) (by omega)).mono ?_
  rintro r w16 ⟨v1, rfl, hG, hb⟩
  have hd1 : Dk.Disk Z.heap.size w16 (.agg #[v1, .slice none 0 0]) ⟨zrows, []⟩ := Dk.Grid.disk hG
  obtain ⟨m1, m3, x2, y2x, heq, -, -⟩ := hd1.shape
  simp only [Value.agg.injEq, Array.mk.injEq, List.cons.injEq, and_true] at heq
  obtain ⟨rfl, -⟩ := heq
  have h16 : zrows.length = 16 := by simp [zrows]
  rw [h16] at hd1 ⊢
  obtain ⟨V16, hV16⟩ : ∃ V, V = w16.alloc (.cells #[.slice m1 16 m3, .slice none 0 0] 47) := ⟨_, rfl⟩
  have hbV : Below w16.heap.size w16 V16 := by rw [hV16]; exact (Below.refl _ w16).alloc (Nat.le_refl _) _
  have hBV : Box V16 w16.heap.size 47 #[.slice m1 16 m3, .slice none 0 0] := by rw [hV16]; exact Box.new _ _ _
  obtain ⟨M, hM⟩ : ∃ N, N = w16.heap.size := ⟨_, rfl⟩
  rw [← hM] at hBV
  have H16 : Hid (Below Z.heap.size Z V16 ∧ Box V16 M 47 #[.slice m1 16 m3, .slice none 0 0] ∧ Dk.Disk 0 V16 (.agg #[.slice m1 16 m3, .slice none 0 0]) ⟨zrows, []⟩ ∧ Z.heap.size ≤ M ∧ True) := ⟨below_any hb hbV, hBV, (hd1.below hbV).weaken (Nat.zero_le _), by rw [hM]; exact hb.size, trivial⟩
  clear hG hb hd1 hbV hBV h16
  go_upto_region 17 with fail
  rw [← hV16, ← hM]
  clear hV16 hM
  have HTV : Hid (TB w w.heap.size #[.int .i64 n, .int .i64 sa, .int .i64 va, .int .i64 ca, .slice aa la ka] #[.int .i64 (n + 1), .int .i64 sb, .int .i64 vb, .int .i64 cb, .slice ab lb kb] #[.int .i64 (n - 1), .int .i64 se, .int .i64 ve, .int .i64 ce, .slice ae le ke] V16) := HZZ.out.1.below H16.out.1
  have HP := rstore_any (e := (n - 1)) (s := se) (v := ve) (c := ce) H0.out.1.2.2 H16.out.2.2.1 (H0.out.2.2.2.2.2 V16 HTV.out.bel).2.2.2.1
  rw [HS.out.1.1, HS.out.1.2] at HP
  obtain ⟨d0, d1, -, -⟩ := H16.out.2.1.two
  obtain ⟨⟨g0, g1, g2, g3, g4⟩, -⟩ := box5 HTV.out.e
  go_wp2_with fail
  clear d0 d1 g0 g1 g2 g3 g4
  refine HP.mono ?_
  rintro r w17 ⟨v6, rfl, hd6, hb9⟩
  have hd6 := hd6
  obtain ⟨k1, k3, k4, k6, rfl, -, -⟩ := hd6.shape
  obtain ⟨k2, hk1⟩ : ∃ z, z = S1.secs.length := ⟨_, rfl⟩
  obtain ⟨k5, hk2⟩ : ∃ z, z = S1.cache.length := ⟨_, rfl⟩
  rw [← hk1, ← hk2] at hd6 ⊢
  clear hk1 hk2
  have hB6 := H16.out.2.1.below hb9 H16.out.2.1.lt
  obtain ⟨f0, f1, f2, f3⟩ := hB6.two
  obtain ⟨V17, hV17⟩ : ∃ Z, Z = (w17.setCell ⟨M, 0, none⟩ (.slice k1 k2 k3)).setCell ⟨M, 1, none⟩ (.slice k4 k5 k6) := ⟨_, rfl⟩
  have hBZ : Box V17 M 47 #[.slice k1 k2 k3, .slice k4 k5 k6] := by rw [hV17]; exact (hB6.set 0 _).set 1 _
  have hDZ : Dk.Disk 0 V17 (.agg #[.slice k1 k2 k3, .slice k4 k5 k6]) S1 := by rw [hV17]; exact (dkd_same2 hd6 H16.out.2.1.lt _ _).weaken (Nat.zero_le _)
  have hZV : Below Z.heap.size Z V17 := by rw [hV17]; exact below_set2 (below_any H16.out.1 hb9) H16.out.2.2.2.1 _ _
  have H17 : Hid (Below Z.heap.size Z V17 ∧ Box V17 M 47 #[.slice k1 k2 k3, .slice k4 k5 k6] ∧ Dk.Disk 0 V17 (.agg #[.slice k1 k2 k3, .slice k4 k5 k6]) S1 ∧ Z.heap.size ≤ M ∧ True) := ⟨hZV, hBZ, hDZ, H16.out.2.2.2.1, trivial⟩
  clear hZV
  go_upto_region 18 with fail
  rw [← hV17]
  clear hV17 f0 f1 f2 f3 hd6 hb9 hB6 hBZ hDZ
  clear HP HTV H16
  have HTV : Hid (TB w w.heap.size #[.int .i64 n, .int .i64 sa, .int .i64 va, .int .i64 ca, .slice aa la ka] #[.int .i64 (n + 1), .int .i64 sb, .int .i64 vb, .int .i64 cb, .slice ab lb kb] #[.int .i64 (n - 1), .int .i64 se, .int .i64 ve, .int .i64 ce, .slice ae le ke] V17) := HZZ.out.1.below H17.out.1
  have HP := rstore_any (e := n) (s := sa) (v := va) (c := ca) H0.out.1.1 H17.out.2.2.1 (H0.out.2.2.2.2.2 V17 HTV.out.bel).2.1
  rw [HS.out.2.1.1, HS.out.2.1.2] at HP
  obtain ⟨d0, d1, -, -⟩ := H17.out.2.1.two
  obtain ⟨⟨g0, g1, g2, g3, g4⟩, -⟩ := box5 HTV.out.a
  go_wp2_with fail
  clear d0 d1 g0 g1 g2 g3 g4
  refine HP.mono ?_
  rintro r w18 ⟨v6, rfl, hd6, hb9⟩
  have hd6 := hd6
  obtain ⟨l1, l3, l4, l6, rfl, -, -⟩ := hd6.shape
  obtain ⟨l2, hk1⟩ : ∃ z, z = S2.secs.length := ⟨_, rfl⟩
  obtain ⟨l5, hk2⟩ : ∃ z, z = S2.cache.length := ⟨_, rfl⟩
  rw [← hk1, ← hk2] at hd6 ⊢
  clear hk1 hk2
  have hB6 := H17.out.2.1.below hb9 H17.out.2.1.lt
  obtain ⟨f0, f1, f2, f3⟩ := hB6.two
  obtain ⟨V18, hV18⟩ : ∃ Z, Z = (w18.setCell ⟨M, 0, none⟩ (.slice l1 l2 l3)).setCell ⟨M, 1, none⟩ (.slice l4 l5 l6) := ⟨_, rfl⟩
  have hBZ : Box V18 M 47 #[.slice l1 l2 l3, .slice l4 l5 l6] := by rw [hV18]; exact (hB6.set 0 _).set 1 _
  have hDZ : Dk.Disk 0 V18 (.agg #[.slice l1 l2 l3, .slice l4 l5 l6]) S2 := by rw [hV18]; exact (dkd_same2 hd6 H17.out.2.1.lt _ _).weaken (Nat.zero_le _)
  have hZV : Below Z.heap.size Z V18 := by rw [hV18]; exact below_set2 (below_any H17.out.1 hb9) H17.out.2.2.2.1 _ _
  have H18 : Hid (Below Z.heap.size Z V18 ∧ Box V18 M 47 #[.slice l1 l2 l3, .slice l4 l5 l6] ∧ Dk.Disk 0 V18 (.agg #[.slice l1 l2 l3, .slice l4 l5 l6]) S2 ∧ Z.heap.size ≤ M ∧ True) := ⟨hZV, hBZ, hDZ, H17.out.2.2.2.1, trivial⟩
  clear hZV
  go_upto_region 19 with fail
  rw [← hV18]
  clear hV18 f0 f1 f2 f3 hd6 hb9 hB6 hBZ hDZ
  clear HP HTV H17
  have HTV : Hid (TB w w.heap.size #[.int .i64 n, .int .i64 sa, .int .i64 va, .int .i64 ca, .slice aa la ka] #[.int .i64 (n + 1), .int .i64 sb, .int .i64 vb, .int .i64 cb, .slice ab lb kb] #[.int .i64 (n - 1), .int .i64 se, .int .i64 ve, .int .i64 ce, .slice ae le ke] V18) := HZZ.out.1.below H18.out.1
  have HP := rpenc_any (e := n + 1) (s := sb) (v := vb) (c := cb) H0.out.1.2.1 (H0.out.2.2.2.2.2 V18 HTV.out.bel).2.2.1
  rw [← HBE.out.1, show ptE (n + 1) sb vb cb db.length = 0 from HQb.out, HBE.out.2] at HP
  obtain ⟨⟨g0, g1, g2, g3, g4⟩, -⟩ := box5 HTV.out.b
  go_wp2_with fail
  clear g0 g1 g2 g3 g4
  refine HP.mono ?_
  rintro r y19 ⟨⟨a21, c21, rfl, ho21⟩, hb⟩
  have H19 : Hid (Below Z.heap.size Z y19 ∧ Box y19 M 47 #[.slice l1 l2 l3, .slice l4 l5 l6] ∧ Dk.Disk 0 y19 (.agg #[.slice l1 l2 l3, .slice l4 l5 l6]) S2 ∧ Z.heap.size ≤ M ∧ Arg 0 y19 (.slice a21 512 c21) B) := ⟨below_any H18.out.1 hb, H18.out.2.1.below hb H18.out.2.1.lt, H18.out.2.2.1.below hb, H18.out.2.2.2.1, ho21.arg.weaken (Nat.zero_le _)⟩
  clear HP HTV ho21 hb H18
  have hk8 : 8 * ((n + 1) % 2) = reg (n + 1) := by unfold reg; split <;> omega
  have HP := Dk.rputAll_any 0 0 _ _ S2 (reg (n + 1)) B y19 H19.out.2.2.1 (reg_in _) (dk_arg H19.out.2.2.2.2) (by rw [HBE.out.2]; omega)
  rw [HBE.out.1, HS.out.2.2.1.1, HS.out.2.2.1.2.1, ← hk8] at HP
  clear hk8
  obtain ⟨d0, d1, -, -⟩ := H19.out.2.1.two
  have f0 : y19.cell? ⟨w.heap.size + 1, 0, none⟩ = some (.int .i64 (n + 1)) := (HZZ.out.1.below H19.out.1).b.cell 0 rfl
  go_wp2_with fail
  clear d0 d1 f0
  refine HP.mono ?_
  rintro r w20 ⟨v6, rfl, hd6, hb9⟩
  have hd6 := hd6.disk
  obtain ⟨o1, o3, o4, o6, rfl, -, -⟩ := hd6.shape
  obtain ⟨o2, hk1⟩ : ∃ z, z = S3.secs.length := ⟨_, rfl⟩
  obtain ⟨o5, hk2⟩ : ∃ z, z = S3.cache.length := ⟨_, rfl⟩
  rw [← hk1, ← hk2] at hd6 ⊢
  clear hk1 hk2
  have hB6 := H19.out.2.1.below hb9 H19.out.2.1.lt
  obtain ⟨f0, f1, f2, f3⟩ := hB6.two
  obtain ⟨V20, hV20⟩ : ∃ Z, Z = (w20.setCell ⟨M, 0, none⟩ (.slice o1 o2 o3)).setCell ⟨M, 1, none⟩ (.slice o4 o5 o6) := ⟨_, rfl⟩
  have hBZ : Box V20 M 47 #[.slice o1 o2 o3, .slice o4 o5 o6] := by rw [hV20]; exact (hB6.set 0 _).set 1 _
  have hDZ : Dk.Disk 0 V20 (.agg #[.slice o1 o2 o3, .slice o4 o5 o6]) S3 := by rw [hV20]; exact (dkd_same2 hd6 H19.out.2.1.lt _ _).weaken (Nat.zero_le _)
  have hZV : Below Z.heap.size Z V20 := by rw [hV20]; exact below_set2 (below_any H19.out.1 hb9) H19.out.2.2.2.1 _ _
  have H20 : Hid (Below Z.heap.size Z V20 ∧ Box V20 M 47 #[.slice o1 o2 o3, .slice o4 o5 o6] ∧ Dk.Disk 0 V20 (.agg #[.slice o1 o2 o3, .slice o4 o5 o6]) S3 ∧ Z.heap.size ≤ M ∧ True) := ⟨hZV, hBZ, hDZ, H19.out.2.2.2.1, trivial⟩
  clear hZV
  go_upto_region 21 with fail
  rw [← hV20]
  clear hV20 f0 f1 f2 f3 hd6 hb9 hB6 hBZ hDZ
  clear HP H19
  have HP := Dk.rcrash_any 0 0 _ _ S3 kl V20 H20.out.2.2.1 (H0.out.2.2.2.2.2 V20 (HZZ.out.1.below H20.out.1).bel).2.2.2.2
  rw [HS.out.2.2.1.2.2.1, HS.out.2.2.1.2.2.2] at HP
  obtain ⟨d0, d1, -, -⟩ := H20.out.2.1.two
  go_wp2_with fail
  clear d0 d1
  refine HP.mono ?_
  rintro r w21 ⟨v6, rfl, hd6, hb9⟩
  have hd6 := hd6.disk
  obtain ⟨q1, q3, q4, q6, rfl, -, -⟩ := hd6.shape
  obtain ⟨q2, hk1⟩ : ∃ z, z = S4.secs.length := ⟨_, rfl⟩
  obtain ⟨q5, hk2⟩ : ∃ z, z = S4.cache.length := ⟨_, rfl⟩
  rw [← hk1, ← hk2] at hd6 ⊢
  clear hk1 hk2
  have hB6 := H20.out.2.1.below hb9 H20.out.2.1.lt
  obtain ⟨f0, f1, f2, f3⟩ := hB6.two
  obtain ⟨V21, hV21⟩ : ∃ Z, Z = (w21.setCell ⟨M, 0, none⟩ (.slice q1 q2 q3)).setCell ⟨M, 1, none⟩ (.slice q4 q5 q6) := ⟨_, rfl⟩
  have hBZ : Box V21 M 47 #[.slice q1 q2 q3, .slice q4 q5 q6] := by rw [hV21]; exact (hB6.set 0 _).set 1 _
  have hDZ : Dk.Disk 0 V21 (.agg #[.slice q1 q2 q3, .slice q4 q5 q6]) S4 := by rw [hV21]; exact (dkd_same2 hd6 H20.out.2.1.lt _ _).weaken (Nat.zero_le _)
  have hZV : Below Z.heap.size Z V21 := by rw [hV21]; exact below_set2 (below_any H20.out.1 hb9) H20.out.2.2.2.1 _ _
  have H21 : Hid (Below Z.heap.size Z V21 ∧ Box V21 M 47 #[.slice q1 q2 q3, .slice q4 q5 q6] ∧ Dk.Disk 0 V21 (.agg #[.slice q1 q2 q3, .slice q4 q5 q6]) S4) := ⟨hZV, hBZ, hDZ⟩
  clear hZV
  go_upto_region 22 with fail
  rw [← hV21]
  clear hV21 f0 f1 f2 f3 hd6 hb9 hB6 hBZ hDZ
  clear HP H20
  have HP := rload_any 0 _ S4 V21 H21.out.2.2
  rw [HS.out.2.2.2.1, ← HLV.out] at HP
  obtain ⟨d0, d1, -, -⟩ := H21.out.2.1.two
  go_wp2_with fail
  clear d0 d1
  refine HP.mono ?_
  rintro r w22 ⟨u, rfl, ⟨qa, qc, rfl, haq⟩, hb⟩
  simp only at haq ⊢
  rw [← HPL.out] at haq ⊢
  obtain ⟨Y, hY⟩ : ∃ V, V = w22.alloc (.cells #[.int .i64 p0, .int .i64 p1, .int .i64 p2, .int .i64 p3, .slice qa pl qc] 24) := ⟨_, rfl⟩
  have hbV : Below w22.heap.size w22 Y := by rw [hY]; exact (Below.refl _ w22).alloc (Nat.le_refl _) _
  have hBq : Box Y w22.heap.size 24 #[.int .i64 p0, .int .i64 p1, .int .i64 p2, .int .i64 p3, .slice qa pl qc] := by rw [hY]; exact Box.new _ _ _
  have bZY := below_any (below_any H21.out.1 hb) hbV
  have HY : Hid (TB w w.heap.size #[.int .i64 n, .int .i64 sa, .int .i64 va, .int .i64 ca, .slice aa la ka] #[.int .i64 (n + 1), .int .i64 sb, .int .i64 vb, .int .i64 cb, .slice ab lb kb] #[.int .i64 (n - 1), .int .i64 se, .int .i64 ve, .int .i64 ce, .slice ae le ke] Y ∧ Box Y w13.heap.size 25 #[.int .i64 p0, .int .i64 p1, .int .i64 p2, .int .i64 p3, .slice pa pl pc] ∧ Arg 0 Y (.slice pa pl pc) pd ∧ Box Y w22.heap.size 24 #[.int .i64 p0, .int .i64 p1, .int .i64 p2, .int .i64 p3, .slice qa pl qc] ∧ Arg 0 Y (.slice qa pl qc) pd) := ⟨HZZ.out.1.below bZY, HZZ.out.2.1.below bZY HZZ.out.2.1.lt, HZZ.out.2.2.below bZY, hBq, (haq.below hbV).weaken (Nat.zero_le _)⟩
  clear hb hbV hBq bZY haq HP H21 HZZ
  go_upto_region 23 with fail
  rw [← hY]
  clear hY
  go_wp2
  have hlk := run_len Tryz.underlying60 xk nk ck
  go_loopw [25, 26] (fun al i wr => ∃ (k : Nat) (ab : Bool), k ≤ 8 ∧ al = .bool ab ∧ i = .int .i64 k ∧ Hid (ab = true → ∀ j, j < k → Dk.kept kl j = true) ∧ wr = Y) (fun _ i _ => 8 - (intOf i).toNat)
  case atStart => exact ⟨0, true, by omega, rfl, rfl, fun _ j hj => by omega, rfl⟩
  case round =>
    obtain ⟨k, ab, hk, rfl, rfl, HK, rfl⟩ := hrel
    by_cases hlt : k < 8
    · have hki : (k : Int) < 8 := by omega
      cases ab
      · have HK2 : Hid (false = true → ∀ j, j < k + 1 → Dk.kept kl j = true) := fun h => by cases h
        go_wp2
        go_roundw
        case rel => exact ⟨k + 1, false, by omega, rfl, by go_num, HK2, trivial⟩
        case measure => simp [intOf]; omega
      · by_cases hkn : k < nk
        · have hkn' : (k : Int) < (nk : Int) := by omega
          obtain ⟨bv, hbv⟩ : ∃ b, kl[k]? = some b := ⟨_, List.getElem?_eq_getElem (by rw [← H0.out.2.2.2.2.1.1]; exact hkn)⟩
          obtain ⟨b, oo, hix, -, hcb⟩ := bools_at1 (H0.out.2.2.2.2.2 wr HY.out.1.bel).2.2.2.2 k bv hbv
          have HK2 : Hid (bv = true → ∀ j, j < k + 1 → Dk.kept kl j = true) := fun h j hj => by
            by_cases hjk : j = k
            · subst hjk
              rw [Dk.kept_get hbv, h]
            · exact HK.out rfl j (by omega)
          clear hbv
          go_wp2
          go_roundw
          case rel => exact ⟨k + 1, bv, by omega, rfl, by go_num, HK2, trivial⟩
          case measure => simp [intOf]; omega
        · have hkn' : ¬ (k : Int) < (nk : Int) := by omega
          have HK2 : Hid (false = true → ∀ j, j < k + 1 → Dk.kept kl j = true) := fun h => by cases h
          go_wp2
          go_roundw
          case rel => exact ⟨k + 1, false, by omega, rfl, by go_num, HK2, trivial⟩
          case measure => simp [intOf]; omega
    · obtain rfl : k = 8 := by omega
      have HC := same17 (e := p0) (s := p1) (v := p2) (c := p3) HY.out.2.2.1 HY.out.2.2.2.2
      clear hlt hk
      cases ab
      · skip
        obtain ⟨⟨d0, d1, d2, d3, d4⟩, -⟩ := box5 HY.out.2.1
        obtain ⟨⟨g0, g1, g2, g3, g4⟩, -⟩ := box5 HY.out.2.2.2.1
        go_wp2_with (first | (with_reducible refine Calls.mono (num17 _ _) ?_; rintro _ _ ⟨rfl, rfl⟩))
        clear d0 d1 d2 d3 d4 g0 g1 g2 g3 g4
        refine HC.mono ?_
        rintro r z1 ⟨rfl, hb⟩
        have HZ : Hid (Below w.heap.size w z1) := below_any HY.out.1.bel hb
        clear HC hb
        go_wp2
        go_ret
        exact ⟨rfl, HZ.out⟩
      · have HV : Hid ((p0, p1, p2, p3, pd) = (n + 1, sb, vb, cb, db)) := by rw [HLV.out]; exact HS.out.2.2.2.2 fun i hi => HK.out rfl i hi
        obtain ⟨⟨d0, d1, d2, d3, d4⟩, -⟩ := box5 HY.out.2.1
        obtain ⟨⟨g0, g1, g2, g3, g4⟩, -⟩ := box5 HY.out.2.2.2.1
        go_wp2_with (first | (with_reducible refine Calls.mono (num17 _ _) ?_; rintro _ _ ⟨rfl, rfl⟩))
        clear d0 d1 d2 d3 d4 g0 g1 g2 g3 g4
        refine HC.mono ?_
        rintro r z1 ⟨rfl, hb⟩
        have H30 : Hid (TB w w.heap.size #[.int .i64 n, .int .i64 sa, .int .i64 va, .int .i64 ca, .slice aa la ka] #[.int .i64 (n + 1), .int .i64 sb, .int .i64 vb, .int .i64 cb, .slice ab lb kb] #[.int .i64 (n - 1), .int .i64 se, .int .i64 ve, .int .i64 ce, .slice ae le ke] z1 ∧ Box z1 w13.heap.size 25 #[.int .i64 p0, .int .i64 p1, .int .i64 p2, .int .i64 p3, .slice pa pl pc] ∧ Arg 0 z1 (.slice pa pl pc) pd) := ⟨HY.out.1.below hb, HY.out.2.1.below hb HY.out.2.1.lt, HY.out.2.2.1.below hb⟩
        have e := HV.out
        simp only [Prod.mk.injEq] at e
        obtain ⟨rfl, rfl, rfl, rfl, rfl⟩ := e
        have hpl : pl = lb := by rw [HPL.out, H0.out.1.2.1]
        subst hpl
        have HC2 := same17 (e := n + 1) (s := p1) (v := p2) (c := p3) H30.out.2.2 (H0.out.2.2.2.2.2 z1 H30.out.1.bel).2.2.1
        clear HC hb
        obtain ⟨⟨d0, d1, d2, d3, d4⟩, -⟩ := box5 H30.out.1.b
        obtain ⟨⟨g0, g1, g2, g3, g4⟩, -⟩ := box5 H30.out.2.1
        go_wp2_with (first | (with_reducible refine Calls.mono (num17 _ _) ?_; rintro _ _ ⟨rfl, rfl⟩))
        clear d0 d1 d2 d3 d4 g0 g1 g2 g3 g4
        refine HC2.mono ?_
        rintro r z2 ⟨rfl, hb⟩
        have HZ : Hid (Below w.heap.size w z2) := below_any H30.out.1.bel hb
        clear HC2 hb
        go_wp2
        go_ret
        exact ⟨rfl, HZ.out⟩

end Go.Proofs.YthlfgpnabcplnaaGreatDoor.W.pointOldOrNew