import Derived.Test.YthlfgpnabcplnaaDoorTf36
import Derived.Test.YthlfgpnabcplnaaDoorTf33
import Derived.Test.YthlfgpnabcplnaaDoorTf15
import Derived.Test.YthlfgpnabcplnaaDoorTf28
import Derived.Test.YthlfgpnabcplnaaDoorTf19
/-
  A point is read back from its octets; what stands on a disk's regions behind what was put, flushed, or kept by a crash.
-/
namespace Go.Proofs.YthlfgpnabcplnaaDoor.W
open Go.RowKit
set_option linter.unusedVariables false

theorem tlen_two {n : Nat} {l : List Int} (h : n ≤ 65535) : tlen (two n ++ l) = n := by
  unfold tlen two
  simp only [List.cons_append, List.nil_append, List.getD_cons_zero, List.getD_cons_succ]
  omega
theorem ptO_eq {q : Pt} (h : ptQ q = 0) : ptO q = two (encO (ptRec q)).length ++ (encO (ptRec q) ++ List.replicate (512 - (ptJ q).length) 0) := by
  unfold ptO
  rw [if_pos h, (ptJ_eq h).2, List.append_assoc]
theorem ints_pt {q : Pt} (h : ptQ q = 0) : ∀ x ∈ (ptRec q).2.1, I64 x := fun x hx => by
  obtain ⟨h1, h2, h3, h4, _⟩ := ptE_ok h
  simp only [ptRec, List.mem_cons, List.not_mem_nil, or_false] at hx
  rcases hx with rfl | rfl | rfl | rfl
  · exact in_I64 h1
  · exact in_I64 h2
  · exact in_I64 h3
  · exact in_I64 h4
theorem parts_pt {q : Pt} (h : ptQ q = 0) : tlen (ptO q) = (encO (ptRec q)).length ∧ bod (ptO q) = encO (ptRec q) ∧ rst (ptO q) = List.replicate (512 - (ptJ q).length) 0 := by
  have hl := rec_len h
  have h1 : tlen (ptO q) = (encO (ptRec q)).length := by rw [ptO_eq h]; exact tlen_two (by omega)
  have h2 : (ptO q).drop 2 = encO (ptRec q) ++ List.replicate (512 - (ptJ q).length) 0 := by rw [ptO_eq h]; rfl
  refine ⟨h1, ?_, ?_⟩
  · unfold bod; rw [h1, h2]; exact List.take_left' rfl
  · unfold rst; rw [h1, h2]; exact List.drop_left' rfl
theorem zeros_all (n : Nat) : (List.replicate n (0 : Int)).all (fun x => decide (x = 0)) = true := by
  rw [List.all_eq_true]
  intro x hx
  rw [(List.mem_replicate.1 hx).2]
  rfl
theorem back_pt {q : Pt} (h : ptQ q = 0) (ho : Oc q.2.2.2.2) : dptE (ptO q) = 0 ∧ dptV (ptO q) = q := by
  obtain ⟨h1, h2, h3⟩ := parts_pt h
  have hl := rec_len h
  obtain ⟨d1, d2⟩ := dec_enc (chk_pt h) (ints_pt h) (fun t ht => by
    simp only [ptRec, List.mem_singleton] at ht
    rw [ht]; exact ho)
  have hr : rdpE (bod (ptO q)) = 0 := by
    rw [h2]
    unfold rdpE
    rw [if_neg (by rw [d1]; simp), d2, if_neg (by simp [ptRec]), if_neg (by simp [ptRec])]
    exact h
  have he : dptE (ptO q) = 0 := by
    unfold dptE
    rw [if_neg (by rw [ptO_len h]; simp), h1, if_neg (by omega), if_neg (by rw [hr]; simp), h3, if_pos (zeros_all _)]
  refine ⟨he, ?_⟩
  unfold dptV
  rw [if_pos he, h2]
  unfold rdpV
  rw [if_pos ⟨d1, by rw [d2]; rfl, by rw [d2]; rfl, by rw [d2]; rfl⟩, d2]
  rfl

/-! Rows of a disk. -/

/-- Eight rows that stand for 512 octets. -/
def rows8 (sn : Nat) (d : List Int) : List (Nat × List Int) := (List.range 8).map fun i => (sn + i, Dk.pad (Dk.piece d i))
theorem piece_full (d : List Int) (h : d.length = 512) (i : Nat) (hi : i < 8) : Dk.pad (Dk.piece d i) = Dk.piece d i := by
  refine Dk.pad_full _ ?_
  unfold Dk.piece
  rw [List.length_take, List.length_drop]
  omega
theorem pieces_flat (d : List Int) (h : d.length = 512) : ((List.range 8).map fun i => Dk.pad (Dk.piece d i)).flatten = d := by
  have e : (List.range 8).map (fun i => Dk.pad (Dk.piece d i)) = (List.range 8).map (fun i => Dk.piece d i) := List.map_congr_left fun i hi => piece_full d h i (List.mem_range.1 hi)
  rw [e]
  have hs : ∀ k : Nat, (d.drop k).take 64 ++ d.drop (k + 64) = d.drop k := fun k => by
    have := List.take_append_drop 64 (d.drop k)
    rwa [List.drop_drop] at this
  have h8 : (d.drop 448).take 64 = d.drop 448 := List.take_of_length_le (by rw [List.length_drop]; omega)
  show (Dk.piece d 0 ++ (Dk.piece d 1 ++ (Dk.piece d 2 ++ (Dk.piece d 3 ++ (Dk.piece d 4 ++ (Dk.piece d 5 ++ (Dk.piece d 6 ++ (Dk.piece d 7 ++ [])))))))) = d
  unfold Dk.piece
  simp only [Nat.mul_zero, Nat.mul_one, Nat.reduceMul, List.append_nil]
  rw [h8, hs 384, hs 320, hs 256, hs 192, hs 128, hs 64]
  exact hs 0
theorem get_rows8 (T : List (List Int)) (sn : Nat) (d : List Int) (j : Nat) (hj : j < T.length) : (Dk.fill T (rows8 sn d))[j]? = if sn ≤ j ∧ j < sn + 8 then some (Dk.pad (Dk.piece d (j - sn))) else T[j]? :=
  Dk.fill_set_get T _ j hj (fun i => Dk.pad (Dk.piece d i)) sn 8 rfl
theorem win_new (T : List (List Int)) (sn : Nat) (d : List Int) (hd : d.length = 512) (hT : sn + 8 ≤ T.length) : Dk.window (Dk.fill T (rows8 sn d)) sn 8 = d := by
  unfold Dk.window
  have : ((Dk.fill T (rows8 sn d)).drop sn).take 8 = (List.range 8).map fun i => Dk.pad (Dk.piece d i) := by
    refine List.ext_getElem? fun i => ?_
    rw [List.getElem?_take, List.getElem?_map]
    by_cases hi : i < 8
    · rw [if_pos hi, List.getElem?_drop, get_rows8 T sn d _ (by omega), if_pos (by omega), List.getElem?_range hi, Nat.add_sub_cancel_left]
      rfl
    · rw [if_neg hi, List.getElem?_eq_none (by simpa using hi)]
      rfl
  rw [this, pieces_flat d hd]
/-- Rows elsewhere change nothing of a window. -/
theorem win_far (sm : Nat) : ∀ (ps : List (Nat × List Int)) (T : List (List Int)), (∀ p ∈ ps, p.1 < sm ∨ sm + 8 ≤ p.1) → Dk.window (Dk.fill T ps) sm 8 = Dk.window T sm 8
  | [], T, _ => rfl
  | p :: ps, T, h => by
    have e : Dk.fill T (p :: ps) = Dk.fill (T.set p.1 p.2) ps := rfl
    rw [e, win_far sm ps _ (fun x hx => h x (List.mem_cons_of_mem _ hx)), Dk.window_out T sm 8 p.1 p.2 (h p (List.mem_cons_self ..))]

theorem chk_rows {T : List (List Int)} (h1 : 1 ≤ T.length) (h2 : T.length ≤ 2048) (h : Dk.all64 T) : Dk.chk ⟨T, []⟩ = true := by
  simp only [Dk.chk, Bool.and_eq_true, decide_eq_true_eq, List.all_eq_true]
  exact ⟨⟨⟨⟨h1, h2⟩, by simp⟩, fun l hl => by simpa [Dk.okSec] using h l hl⟩, fun q hq => by cases hq⟩
theorem full_rows {T : List (List Int)} (hc : Dk.chk ⟨T, []⟩ = true) : Dk.full ⟨T, []⟩ = T := by
  have h := (Dk.stand_again hc (fun _ => true)).2
  rw [Dk.stand_good hc] at h
  injection h
theorem gout_rows {T : List (List Int)} (hc : Dk.chk ⟨T, []⟩ = true) (s : Int) (hs : s = 0 ∨ s = 8) (h16 : 16 ≤ T.length) : Dk.gout ⟨T, []⟩ s 8 = Dk.window T s.toNat 8 := by
  have hr : Dk.reach T.length s 8 = true := by unfold Dk.reach; rcases hs with rfl | rfl <;> simp <;> omega
  have he : Dk.gerr ⟨T, []⟩ s 8 = 0 := by
    unfold Dk.gerr
    rw [if_neg (by rw [hc]; simp), if_neg (by rw [hr]; simp)]
  unfold Dk.gout
  rw [if_pos he, full_rows hc]
  rfl
theorem reg_nat (e : Int) : reg e = 0 ∨ reg e = 8 := by unfold reg; split <;> simp
/-- What is put behind rows that stand. -/
theorem past_rows {T : List (List Int)} (hc : Dk.chk ⟨T, []⟩ = true) (h16 : 16 ≤ T.length) (s : Int) (hs : s = 0 ∨ s = 8) (d : List Int) (hd : d.length = 512) (ho : Oc d) :
    Dk.paerr ⟨T, []⟩ s d = 0 ∧ Dk.past ⟨T, []⟩ s d = ⟨T, Dk.pieces s d⟩ ∧ Dk.chk ⟨T, Dk.pieces s d⟩ = true ∧ (∀ lands, Dk.stand ⟨T, Dk.pieces s d⟩ lands = ⟨Dk.fill T (Dk.landed ⟨T, Dk.pieces s d⟩ lands 8), []⟩) := by
  have hn : Dk.need d = 8 := by unfold Dk.need; omega
  have hr : Dk.reach T.length s (Dk.need d) = true := by rw [hn]; unfold Dk.reach; rcases hs with rfl | rfl <;> simp <;> omega
  obtain ⟨k1, k2, -, k4, -, -⟩ := Dk.chk_facts hc
  have hp : Dk.paerr ⟨T, []⟩ s d = 0 := by
    unfold Dk.paerr
    rw [if_neg (by rw [hc]; simp), if_neg (by rw [hr]; simp), if_neg (by rw [hn]; simp)]
  have hq : Dk.past ⟨T, []⟩ s d = ⟨T, Dk.pieces s d⟩ := by
    unfold Dk.past
    rw [if_pos hp]
    rfl
  have hk : Dk.chk ⟨T, Dk.pieces s d⟩ = true := by
    simp only [Dk.chk, Bool.and_eq_true, decide_eq_true_eq, List.all_eq_true]
    refine ⟨⟨⟨⟨k1, k2⟩, by rw [Dk.pieces_length, hn]; omega⟩, fun l hl => by simpa [Dk.okSec] using k4 l hl⟩, fun q hq => ?_⟩
    unfold Dk.pieces at hq
    rw [hn] at hq
    obtain ⟨i, hi, rfl⟩ := List.mem_map.1 hq
    have hi := List.mem_range.1 hi
    have hl := Dk.pad_length (Dk.piece d i) (Dk.piece_le d i)
    unfold Dk.okWrite
    simp only [hl, Bool.and_eq_true, decide_eq_true_eq]
    rcases hs with rfl | rfl
    · exact ⟨⟨by omega, by omega⟩, rfl⟩
    · exact ⟨⟨by omega, by omega⟩, rfl⟩
  refine ⟨hp, hq, hk, fun lands => ?_⟩
  rw [Dk.stand_good hk]
  have := Dk.fill_all ⟨T, Dk.pieces s d⟩ lands
  simp only at this ⊢
  rw [this]
  have hl : (Dk.pieces s d).length = 8 := by rw [Dk.pieces_length, hn]
  rw [hl]
theorem write_rows {T : List (List Int)} {s : Int} (hs : s = 0 ∨ s = 8) (d : List Int) (hd : d.length = 512) (i : Nat) (hi : i < 8) : Dk.write ⟨T, Dk.pieces s d⟩ i = (s.toNat + i, Dk.pad (Dk.piece d i)) := by
  have hn : Dk.need d = 8 := by unfold Dk.need; omega
  unfold Dk.write
  simp only
  rw [Dk.pieces_get s d i (by rw [hn]; exact hi)]
  rcases hs with rfl | rfl
  · simp only [Prod.mk.injEq, and_true]; omega
  · simp only [Prod.mk.injEq, and_true]; omega
theorem landed_rows {T : List (List Int)} {s : Int} (hs : s = 0 ∨ s = 8) (d : List Int) (hd : d.length = 512) : Dk.landed ⟨T, Dk.pieces s d⟩ (fun _ => true) 8 = rows8 s.toNat d := by
  rw [Dk.landed_all]
  unfold rows8
  exact List.map_congr_left fun i hi => write_rows hs d hd i (List.mem_range.1 hi)
theorem landed_near {T : List (List Int)} {s : Int} (hs : s = 0 ∨ s = 8) (d : List Int) (hd : d.length = 512) (lands : Nat → Bool) : ∀ k, k ≤ 8 → ∀ p ∈ Dk.landed ⟨T, Dk.pieces s d⟩ lands k, s.toNat ≤ p.1 ∧ p.1 < s.toNat + 8 ∧ p.2.length = 64
  | 0, _, p, hp => by cases hp
  | k + 1, hk, p, hp => by
    rw [Dk.landed] at hp
    rcases List.mem_append.1 hp with h | h
    · exact landed_near hs d hd lands k (by omega) p h
    · split at h
      · obtain rfl := List.mem_singleton.1 h
        rw [write_rows hs d hd k (by omega)]
        exact ⟨by omega, by simp only; omega, Dk.pad_length _ (Dk.piece_le d k)⟩
      · cases h

/-- Rows of which a disk that serves consists. -/
def Serves (T : List (List Int)) : Prop := 16 ≤ T.length ∧ T.length ≤ 2048 ∧ Dk.all64 T ∧ ∀ l ∈ T, Oc l
theorem Serves.chk {T : List (List Int)} (h : Serves T) : Dk.chk ⟨T, []⟩ = true := chk_rows (by have := h.1; omega) h.2.1 h.2.2.1
theorem Serves.cd {T : List (List Int)} (h : Serves T) (C : List (Int × List Int)) (hc : Dk.chk ⟨T, C⟩ = true) : cdE ⟨T, C⟩ = 0 := by
  unfold cdE Dk.cerr
  rw [hc]
  simp only [if_true]
  rw [if_neg (by have := h.1; omega)]
theorem Serves.fill {T : List (List Int)} (h : Serves T) (ps : List (Nat × List Int)) (hp : ∀ p ∈ ps, p.2.length = 64 ∧ Oc p.2) : Serves (Dk.fill T ps) :=
  ⟨by rw [Dk.fill_length]; exact h.1, by rw [Dk.fill_length]; exact h.2.1, Dk.all64_fill _ _ h.2.2.1 fun p hx => (hp p hx).1, Dk.oct_fill ps T h.2.2.2 fun p hx => (hp p hx).2⟩
/-- The rows behind a point stored. -/
def stT (T : List (List Int)) (q : Pt) : List (List Int) := Dk.fill T (rows8 (reg q.1).toNat (ptO q))
theorem ptO_oc {q : Pt} (ho : Oc q.2.2.2.2) : Oc (ptO q) := by
  unfold ptO
  split
  · rename_i h
    rw [(ptJ_eq h).2]
    refine oc_append.2 ⟨oc_append.2 ⟨two_oc _ (by have := rec_len h; omega), ?_⟩, rep_oc _⟩
    unfold encO
    rw [if_pos (chk_pt h)]
    exact C.sealed_oct _ (laidR_oc (chk_pt h) (fun t ht => by
      simp only [ptRec, List.mem_singleton] at ht
      rw [ht]; exact ho))
  · exact oc_nil
theorem rows8_in {sn : Nat} {d : List Int} (ho : Oc d) : ∀ p ∈ rows8 sn d, p.2.length = 64 ∧ Oc p.2 := fun p hp => by
  obtain ⟨i, _, rfl⟩ := List.mem_map.1 hp
  exact ⟨Dk.pad_length _ (Dk.piece_le d i), Dk.pad_oct (Dk.piece_oct ho i)⟩
theorem Serves.st {T : List (List Int)} (h : Serves T) {q : Pt} (ho : Oc q.2.2.2.2) : Serves (stT T q) := h.fill _ (rows8_in (ptO_oc ho))
theorem store_rows {T : List (List Int)} (h : Serves T) {q : Pt} (hq : ptQ q = 0) (ho : Oc q.2.2.2.2) : stE ⟨T, []⟩ q = 0 ∧ stS ⟨T, []⟩ q = ⟨stT T q, []⟩ := by
  have hd := ptO_len hq
  obtain ⟨h1, h2, h3, h4⟩ := past_rows h.chk h.1 (reg q.1) (reg_nat q.1) (ptO q) hd (ptO_oc ho)
  have hc := h.cd [] h.chk
  refine ⟨?_, ?_⟩
  · unfold stE putS
    rw [if_neg (by rw [hc]; simp), if_neg (by rw [hq]; simp), if_neg (by rw [h1]; simp), h2]
    unfold Dk.cerr
    rw [h3]
    rfl
  · unfold stS putS
    rw [if_pos ⟨hc, hq, h1⟩, h2, h4, landed_rows (reg_nat q.1) (ptO q) hd]
    rfl
/-- What is loaded of rows. -/
theorem load_rows {T : List (List Int)} (h : Serves T) : ldE ⟨T, []⟩ = ldK (Dk.window T 0 8) (Dk.window T 8 8) ∧ ldV ⟨T, []⟩ = ldN (Dk.window T 0 8) (Dk.window T 8 8) := by
  have hc := h.cd [] h.chk
  unfold ldE ldV
  rw [if_neg (by rw [hc]; simp), if_neg (by rw [hc]; simp), gout_rows h.chk 0 (.inl rfl) h.1, gout_rows h.chk 8 (.inr rfl) h.1]
  exact ⟨rfl, rfl⟩
theorem win_st {T : List (List Int)} (h : Serves T) {q : Pt} (hq : ptQ q = 0) : Dk.window (stT T q) (reg q.1).toNat 8 = ptO q := win_new T _ _ (ptO_len hq) (by have := h.1; rcases reg_nat q.1 with e | e <;> rw [e] <;> simp <;> omega)
theorem win_st_far {T : List (List Int)} {q : Pt} (sm : Nat) (hs : sm = 0 ∨ sm = 8) (hn : (sm : Int) ≠ reg q.1) : Dk.window (stT T q) sm 8 = Dk.window T sm 8 := by
  refine win_far sm _ T fun p hp => ?_
  obtain ⟨i, hi, rfl⟩ := List.mem_map.1 hp
  have hi := List.mem_range.1 hi
  simp only
  rcases reg_nat q.1 with e | e <;> rw [e] at hn ⊢ <;> rcases hs with rfl | rfl <;> simp at hn ⊢ <;> omega
theorem new_serves (n : Nat) (h1 : 16 ≤ n) (h2 : n ≤ 2048) : Serves (List.replicate n Dk.zeros) :=
  ⟨by simpa using h1, by simpa using h2, Dk.all64_zeros n, fun l hl => by rw [(List.mem_replicate.1 hl).2]; exact Dk.zeros_oct⟩

end Go.Proofs.YthlfgpnabcplnaaDoor.W

/-
  The laws' small functions on points: num, of, same.
-/
namespace Go.Proofs.YthlfgpnabcplnaaDoor.W
open Go.RowKit
set_option linter.unusedVariables false

theorem fits_by {l : List Int} (h : bytesS.fits l) : l.length ≤ 140737488351232 := by
  have b5 : Tryd.prog.bytesOf 5 = 1 := by kernel_rfl
  have h5 : l.length * Tryd.prog.bytesOf 5 ≤ 140737488351232 := h
  rwa [b5, Nat.mul_one] at h5
theorem fits_pt {q : Pt} (h : ptF.fits q) : q.2.2.2.2.length ≤ 140737488351232 := by
  obtain ⟨_, _, _, _, h6⟩ := h
  exact fits_by h6

set_option maxHeartbeats 400000 in
theorem num17 (x : Int) (w : World) : Calls Tryd.prog 9 #[.int .i64 x] w fun e w' => e = .returned (.int .i64 x) ∧ w = w' := by
  go_enter Tryd.func9, Tryd.ntmps9
  go_wp2
  go_ret
  exact ⟨rfl, rfl⟩
theorem own_set5 {n B : Nat} {w : World} {v : Value} {l : List Int} {t : TypeId} {cs : Array Value} (h : Own1 n w v l) (hB : Box w B t cs) (hid : t ∉ bytesS.ids) (u0 u1 u2 u3 u4 : Value) : Own1 n (set5 w B u0 u1 u2 u3 u4) v l :=
  bytesS.ogrown (bytesS.ogrown (bytesS.ogrown (bytesS.ogrown (bytesS.ogrown h (grown_set w B 0 u0) (hB.clear hid)) (grown_set _ B 1 u1) ((hB.set 0 u0).clear hid)) (grown_set _ B 2 u2) (((hB.set 0 u0).set 1 u1).clear hid)) (grown_set _ B 3 u3) ((((hB.set 0 u0).set 1 u1).set 2 u2).clear hid)) (grown_set _ B 4 u4) (((((hB.set 0 u0).set 1 u1).set 2 u2).set 3 u3).clear hid)

set_option maxRecDepth 100000 in
set_option maxHeartbeats 4000000 in
theorem of17 {n1 : Nat} {e s v c : Int} {da : Option Addr} {dl dc : Nat} {d : List Int} (hd : dl = d.length) (hs : d.length ≤ 140737488355328) {w : World} (hD : Arg n1 w (.slice da dl dc) d) :
    Calls Tryd.prog 8 #[.agg #[.int .i64 e, .int .i64 s, .int .i64 v, .int .i64 c, .slice da dl dc]] w fun r w' => (∃ a z, r = .returned (.agg #[.int .i64 e, .int .i64 s, .int .i64 v, .int .i64 c, .slice a dl z]) ∧ Own1 w.heap.size w' (.slice a dl z) d) ∧ Below w.heap.size w w' := by
  obtain ⟨W1, hW1⟩ : ∃ W, W = (w.alloc (.cells #[.int .i64 e, .int .i64 s, .int .i64 v, .int .i64 c, .slice da dl dc] 24)).alloc (.cells #[.int .i64 0, .int .i64 0, .int .i64 0, .int .i64 0, .slice none 0 0] 29) := ⟨_, rfl⟩
  have hb1 : Below w.heap.size w W1 := by rw [hW1]; exact ((Below.refl _ w).alloc (Nat.le_refl _) _).alloc (by simp) _
  have hBp : Box W1 w.heap.size 24 #[.int .i64 e, .int .i64 s, .int .i64 v, .int .i64 c, .slice da dl dc] := by rw [hW1]; exact (Box.new _ _ _).alloc _
  have hBr : Box W1 (w.heap.size + 1) 29 #[.int .i64 0, .int .i64 0, .int .i64 0, .int .i64 0, .slice none 0 0] := by
    rw [hW1]
    have := Box.new (w.alloc (.cells #[.int .i64 e, .int .i64 s, .int .i64 v, .int .i64 c, .slice da dl dc] 24)) 29 #[.int .i64 0, .int .i64 0, .int .i64 0, .int .i64 0, .slice none 0 0]
    rwa [World.size_alloc] at this
  have HB : Hid (Below w.heap.size w W1 ∧ Box W1 w.heap.size 24 #[.int .i64 e, .int .i64 s, .int .i64 v, .int .i64 c, .slice da dl dc] ∧ Box W1 (w.heap.size + 1) 29 #[.int .i64 0, .int .i64 0, .int .i64 0, .int .i64 0, .slice none 0 0] ∧ dl = d.length ∧ Arg n1 w (.slice da dl dc) d ∧ d.length ≤ 140737488355328) := ⟨hb1, hBp, hBr, hd, hD, hs⟩
  have HS : Hid (∀ U, Below W1.heap.size W1 U → U.cell? ⟨w.heap.size, 0, none⟩ = some (.int .i64 e) ∧ U.cell? ⟨w.heap.size, 1, none⟩ = some (.int .i64 s) ∧ U.cell? ⟨w.heap.size, 2, none⟩ = some (.int .i64 v) ∧ U.cell? ⟨w.heap.size, 3, none⟩ = some (.int .i64 c) ∧ U.cell? ⟨w.heap.size, 4, none⟩ = some (.slice da dl dc)) := fun U hU => (box5 (hBp.below hU hBp.lt)).1
  clear hb1 hBp hBr hd hD hs
  go_enter Tryd.func8, Tryd.ntmps8
  go_upto_region 1 with fail
  rw [← hW1]
  clear hW1
  obtain ⟨X0, hX0⟩ : ∃ Z, Z = W1.drew := ⟨_, rfl⟩
  have hbX : Below W1.heap.size W1 X0 := by rw [hX0]; exact (Below.refl _ W1).drew
  refine AnyBut.begin (fun U => U.cell? ⟨w.heap.size, 0, none⟩ = some (.int .i64 e) ∧ U.cell? ⟨w.heap.size, 1, none⟩ = some (.int .i64 s) ∧ U.cell? ⟨w.heap.size, 2, none⟩ = some (.int .i64 v) ∧ U.cell? ⟨w.heap.size, 3, none⟩ = some (.int .i64 c) ∧ U.cell? ⟨w.heap.size, 4, none⟩ = some (.slice da dl dc)) 1000 (by kernel_rfl) ?_
  rw [← hX0]
  clear hX0
  have hSS := HS.out X0 hbX
  refine tx 0 3 hSS ?_
  simp only [ua, ub, uc, ud]
  refine tx 1 4 hSS ?_
  simp only [ua, ub, uc, ud]
  refine tx 2 5 hSS ?_
  simp only [ua, ub, uc, ud]
  refine tx 3 6 hSS ?_
  simp only [ua, ub, uc, ud]
  refine tx 4 7 hSS ?_
  simp only [ua, ub, uc, ud]
  refine tx 5 8 hSS ?_
  simp only [ua, ub, uc, ud]
  refine tx 6 9 hSS ?_
  simp only [ua, ub, uc, ud]
  refine tx 7 10 hSS ?_
  simp only [ua, ub, uc, ud]
  refine tx 8 11 hSS ?_
  simp only [ua, ub, uc, ud]
  refine tx 9 12 hSS ?_
  simp only [ua, ub, uc, ud]
  refine AnyBut.step (i := 10) (by kernel_rfl) rfl (fun K hK => ?_)
  go_simp
  refine (copy_any n1 (.slice da dl dc) d X0 (HB.out.2.2.2.2.1.below (HB.out.1.trans (hbX.mono HB.out.1.size))) HB.out.2.2.2.2.2).mono ?_
  rintro r w4 ⟨⟨v4, rfl, ho4⟩, hb4⟩
  dsimp only
  have hb4' := below_any hbX hb4
  obtain ⟨ga, gc, rfl⟩ := ho4.shape
  rw [← HB.out.2.2.2.1] at ho4 ⊢
  have hSS := HS.out w4 hb4'
  refine hK.out _ _ hSS ?_
  clear hK
  refine tx 11 14 hSS ?_
  simp only [ua, ub, uc, ud]
  have hBr4 := HB.out.2.2.1.below hb4' HB.out.2.2.1.lt
  obtain ⟨⟨d0, d1, d2, d3, d4⟩, e0, e1, e2, e3, e4⟩ := box5 hBr4
  refine AnyBut.step (i := 12) (by kernel_rfl) rfl (fun K hK => ?_)
  go_simp
  obtain ⟨X, hX⟩ : ∃ Z, Z = ((((w4.setCell ⟨w.heap.size + 1, 0, none⟩ (.int .i64 e)).setCell ⟨w.heap.size + 1, 1, none⟩ (.int .i64 s)).setCell ⟨w.heap.size + 1, 2, none⟩ (.int .i64 v)).setCell ⟨w.heap.size + 1, 3, none⟩ (.int .i64 c)).setCell ⟨w.heap.size + 1, 4, none⟩ (.slice ga dl gc) := ⟨_, rfl⟩
  have HX : Hid (Below w.heap.size w X ∧ Box X (w.heap.size + 1) 29 #[.int .i64 e, .int .i64 s, .int .i64 v, .int .i64 c, .slice ga dl gc] ∧ Own1 w.heap.size X (.slice ga dl gc) d) := by
    rw [hX]
    exact ⟨below_set5 (HB.out.1.trans (hb4'.mono HB.out.1.size)) (by omega) _ _ _ _ _, box_set5 hBr4 _ _ _ _ _, bytesS.oweaken (own_set5 ho4 hBr4 (by decide) _ _ _ _ _) (Nat.le_trans HB.out.1.size hbX.size)⟩
  have hSX : X.cell? ⟨w.heap.size, 0, none⟩ = some (.int .i64 e) ∧ X.cell? ⟨w.heap.size, 1, none⟩ = some (.int .i64 s) ∧ X.cell? ⟨w.heap.size, 2, none⟩ = some (.int .i64 v) ∧ X.cell? ⟨w.heap.size, 3, none⟩ = some (.int .i64 c) ∧ X.cell? ⟨w.heap.size, 4, none⟩ = some (.slice da dl dc) := by
    rw [hX]
    exact (box5 (box_oth5 (HB.out.2.1.below hb4' HB.out.2.1.lt) (by omega) _ _ _ _ _)).1
  rw [← hX]
  refine hK.out _ _ hSX ?_
  clear hK hX d0 d1 d2 d3 d4 e0 e1 e2 e3 e4 hBr4 ho4 hb4 hb4' hSS hbX HS hSX
  refine AnyBut.done (by kernel_rfl) ?_
  obtain ⟨⟨d0, d1, d2, d3, d4⟩, -⟩ := box5 HX.out.2.1
  go_wp2
  refine bodyPost_ret (v := .agg #[.int .i64 e, .int .i64 s, .int .i64 v, .int .i64 c, .slice ga dl gc]) (by simp [results, Tryd.results8, go_sem, *]) rfl ⟨⟨ga, gc, rfl, HX.out.2.2⟩, HX.out.1⟩

set_option maxRecDepth 100000 in
set_option maxHeartbeats 4000000 in
theorem same17 {n1 n2 : Nat} {e s v c : Int} {xa ya : Option Addr} {dl xc yc : Nat} {d : List Int} {w : World} (h1 : Arg n1 w (.slice xa dl xc) d) (h2 : Arg n2 w (.slice ya dl yc) d) :
    Calls Tryd.prog 11 #[.agg #[.int .i64 e, .int .i64 s, .int .i64 v, .int .i64 c, .slice xa dl xc], .agg #[.int .i64 e, .int .i64 s, .int .i64 v, .int .i64 c, .slice ya dl yc]] w fun r w' => r = .returned (.bool true) ∧ Below w.heap.size w w' := by
  obtain ⟨W1, hW1⟩ : ∃ W, W = (w.alloc (.cells #[.int .i64 e, .int .i64 s, .int .i64 v, .int .i64 c, .slice xa dl xc] 29)).alloc (.cells #[.int .i64 e, .int .i64 s, .int .i64 v, .int .i64 c, .slice ya dl yc] 24) := ⟨_, rfl⟩
  have hb1 : Below w.heap.size w W1 := by rw [hW1]; exact ((Below.refl _ w).alloc (Nat.le_refl _) _).alloc (by simp) _
  have hBp : Box W1 w.heap.size 29 #[.int .i64 e, .int .i64 s, .int .i64 v, .int .i64 c, .slice xa dl xc] := by rw [hW1]; exact (Box.new _ _ _).alloc _
  have hBr : Box W1 (w.heap.size + 1) 24 #[.int .i64 e, .int .i64 s, .int .i64 v, .int .i64 c, .slice ya dl yc] := by
    rw [hW1]
    have := Box.new (w.alloc (.cells #[.int .i64 e, .int .i64 s, .int .i64 v, .int .i64 c, .slice xa dl xc] 29)) 24 #[.int .i64 e, .int .i64 s, .int .i64 v, .int .i64 c, .slice ya dl yc]
    rwa [World.size_alloc] at this
  have HB : Hid (Below w.heap.size w W1) := hb1
  have HC := same_any n1 n2 (.slice xa dl xc) (.slice ya dl yc) d d W1 (h1.below hb1) (h2.below hb1)
  rw [decide_eq_true rfl] at HC
  obtain ⟨⟨f0, f1, f2, f3, f4⟩, -⟩ := box5 hBp
  obtain ⟨⟨g0, g1, g2, g3, g4⟩, -⟩ := box5 hBr
  clear hb1 hBp hBr h1 h2
  go_enter Tryd.func11, Tryd.ntmps11
  go_upto_region 1 with fail
  rw [← hW1]
  clear hW1
  go_wp2_with fail
  refine HC.mono ?_
  rintro r w2 ⟨rfl, q, rfl⟩
  have H2 : Hid (Below w.heap.size w (W1.drewN q)) := below_drewN HB.out q
  obtain ⟨X, hX⟩ : ∃ X, X = W1.drewN q := ⟨_, rfl⟩
  rw [← hX] at H2 ⊢
  clear hX f0 f1 f2 f3 f4 g0 g1 g2 g3 g4 HC
  go_wp2
  go_ret
  exact ⟨rfl, H2.out⟩

end Go.Proofs.YthlfgpnabcplnaaDoor.W
/-
  A point's octets of which one was turned are no point.
-/
namespace Go.Proofs.YthlfgpnabcplnaaDoor.W
open Go.RowKit
set_option linter.unusedVariables false

theorem turn_pt {q : Pt} (h : ptQ q = 0) (ho : Oc q.2.2.2.2) (j : Nat) (hj : 2 ≤ j) (hj2 : j < 512) (y : Int) (hy : 0 ≤ y ∧ y ≤ 255) (hne : y ≠ (ptO q).getD j 0) : dptE ((ptO q).set j y) ≠ 0 ∧ dptV ((ptO q).set j y) = zP := by
  have hV : dptE ((ptO q).set j y) ≠ 0 → dptV ((ptO q).set j y) = zP := fun h => by unfold dptV; rw [if_neg h]
  have hE : dptE ((ptO q).set j y) ≠ 0 := by
    have hrl := rec_len h
    have hlen := ptO_len h
    have hw := ptO_eq h
    obtain ⟨R, hR⟩ : ∃ R, R = encO (ptRec q) := ⟨_, rfl⟩
    obtain ⟨Z, hZ⟩ : ∃ Z : List Int, Z = List.replicate (512 - (ptJ q).length) 0 := ⟨_, rfl⟩
    have hRs : R = C.sealed (laidR (ptRec q)) := by rw [hR]; unfold encO; rw [if_pos (chk_pt h)]
    have hRo : Oc (laidR (ptRec q)) := laidR_oc (chk_pt h) (fun t ht => by
      simp only [ptRec, List.mem_singleton] at ht
      rw [ht]; exact ho)
    rw [← hR] at hrl
    rw [← hR, ← hZ] at hw
    rw [hw] at hlen hne ⊢
    have h2 : (two R.length).length = 2 := rfl
    rw [List.set_append_right j y (by rw [h2]; exact hj), h2]
    have hl2 : (two R.length ++ (R ++ Z).set (j - 2) y).length = 512 := by
      rw [List.length_append, List.length_set, ← List.length_append]; exact hlen
    have ht : tlen (two R.length ++ (R ++ Z).set (j - 2) y) = R.length := tlen_two (by omega)
    have hd : (two R.length ++ (R ++ Z).set (j - 2) y).drop 2 = (R ++ Z).set (j - 2) y := rfl
    have hg : (two R.length ++ (R ++ Z)).getD j 0 = (R ++ Z).getD (j - 2) 0 := by
      simp only [List.getD, List.getElem?_append_right (show (two R.length).length ≤ j by rw [h2]; exact hj), h2]
    rw [hg] at hne
    unfold dptE
    rw [if_neg (by rw [hl2]; simp), ht, if_neg (by omega)]
    by_cases hk : j - 2 < R.length
    · have hb : bod (two R.length ++ (R ++ Z).set (j - 2) y) = R.set (j - 2) y := by
        unfold bod
        rw [ht, hd, List.set_append_left _ _ hk]
        exact List.take_left' (by rw [List.length_set])
      have hne2 : y ≠ R.getD (j - 2) 0 := by
        simp only [List.getD, List.getElem?_append_left hk] at hne
        exact hne
      have hr : C.oerr (R.set (j - 2) y) = 21 := by
        rw [hRs] at hk hne2 ⊢
        exact rot_bad _ hRo _ hk y hy hne2
      have he : rdpE (R.set (j - 2) y) = 21 := by
        have hd : decE (R.set (j - 2) y) = 21 := by
          unfold decE
          rw [if_neg (by rw [hr]; decide), hr]
        unfold rdpE
        rw [if_pos (by rw [hd]; decide), hd]
      rw [hb, if_pos (by rw [he]; decide), he]
      decide
    · have hb : bod (two R.length ++ (R ++ Z).set (j - 2) y) = R := by
        unfold bod
        rw [ht, hd, List.set_append_right _ _ (by omega)]
        exact List.take_left' rfl
      have hs : rst (two R.length ++ (R ++ Z).set (j - 2) y) = Z.set (j - 2 - R.length) y := by
        unfold rst
        rw [ht, hd, List.set_append_right _ _ (by omega)]
        exact List.drop_left' rfl
      have hkz : j - 2 - R.length < Z.length := by
        rw [List.length_append, List.length_append, h2] at hlen
        omega
      have h0 : y ≠ 0 := by
        simp only [List.getD, List.getElem?_append_right (show R.length ≤ j - 2 by omega)] at hne
        rw [hZ] at hne hkz
        rw [List.length_replicate] at hkz
        rw [List.getElem?_replicate, if_pos hkz] at hne
        exact hne
      have he : rdpE R = 0 := by
        have := (parts_pt h).2.1
        obtain ⟨d1, d2⟩ := back_pt h ho
        rw [hR, ← this]
        unfold dptE at d1
        rw [if_neg (by rw [ptO_len h]; simp), (parts_pt h).1, if_neg (by rw [← hR]; omega)] at d1
        by_cases hx : rdpE (bod (ptO q)) = 0
        · exact hx
        · rw [if_pos hx] at d1; exact absurd d1 hx
      rw [hb, if_neg (by rw [he]; simp), hs, if_neg]
      · decide
      · rw [Bool.not_eq_true, List.all_eq_false]
        refine ⟨y, ?_, by simpa using h0⟩
        exact List.mem_of_getElem? (i := j - 2 - R.length) (by rw [List.getElem?_set, if_pos rfl, if_pos hkz])
  exact ⟨hE, hV hE⟩

theorem spot (x : Int) (n : Nat) (hn : 0 < n) (hn2 : n ≤ 1000000) : ∃ (t : Int) (j : Nat), Int.tmod x n = t ∧ -(n : Int) < t ∧ t < (n : Int) ∧ Int.tmod (t + n) n = j ∧ j < n := by
  have h1 := Int.tmod_lt_of_pos x (show (0 : Int) < n by omega)
  have h2 : -(n : Int) < Int.tmod x n := by
    have := Int.lt_tmod_of_pos x (show (0 : Int) < n by omega)
    exact this
  refine ⟨_, (Int.tmod (Int.tmod x n + n) n).toNat, rfl, h2, h1, ?_, ?_⟩
  · have := Int.tmod_nonneg (a := Int.tmod x n + n) n (by omega)
    omega
  · have := Int.tmod_lt_of_pos (Int.tmod x n + n) (show (0 : Int) < n by omega)
    have h0 := Int.tmod_nonneg (a := Int.tmod x n + n) n (by omega)
    omega
theorem xor_ne : ∀ x b : Fin 256, b.val ≠ 0 → bits .xor .u8 (x.val : Int) (b.val : Int) ≠ (x.val : Int) ∧ 0 ≤ bits .xor .u8 (x.val : Int) (b.val : Int) ∧ bits .xor .u8 (x.val : Int) (b.val : Int) ≤ 255 := by
  intro x b hb
  rw [u8_xor_nat _ _ x.isLt b.isLt]
  refine ⟨fun h => hb ?_, by omega, ?_⟩
  · have h1 : x.val ^^^ b.val = x.val := by omega
    have h2 : x.val ^^^ (x.val ^^^ b.val) = x.val ^^^ x.val := by rw [h1]
    rw [← Nat.xor_assoc, Nat.xor_self, Nat.zero_xor] at h2
    exact h2
  · have := Nat.xor_lt_two_pow (n := 8) x.isLt b.isLt
    omega

end Go.Proofs.YthlfgpnabcplnaaDoor.W

/-
  The statements' helper alive: two points stored on a new disk, the second one loaded.
-/
namespace Go.Proofs.YthlfgpnabcplnaaDoor.W
open Go.RowKit
set_option linter.unusedVariables false

def zrows : List (List Int) := List.replicate 16 Dk.zeros
theorem serves0 : Serves zrows := new_serves 16 (by decide) (by decide)
/-- Two points stored one behind the other on rows that serve: the second one is loaded. -/
theorem two_stored {T : List (List Int)} (h : Serves T) {p q : Pt} (hp : ptQ p = 0) (hq : ptQ q = 0) (op : Oc p.2.2.2.2) (oq : Oc q.2.2.2.2) (hr : reg q.1 ≠ reg p.1) (hlt : p.1 < q.1) : ldE ⟨stT (stT T p) q, []⟩ = 0 ∧ ldV ⟨stT (stT T p) q, []⟩ = q := by
  have h1 := h.st op
  obtain ⟨l1, l2⟩ := load_rows (h1.st oq)
  obtain ⟨p1, p2⟩ := back_pt hp op
  obtain ⟨q1, q2⟩ := back_pt hq oq
  have hw := win_st h1 hq
  have hv := win_st h hp
  rw [l1, l2]
  rcases reg_nat q.1 with e | e
  · have e2 : reg p.1 = 8 := by rcases reg_nat p.1 with f | f; · exact absurd (e.trans f.symm) hr
                                · exact f
    rw [e] at hw
    rw [e2] at hv
    have hf : Dk.window (stT (stT T p) q) 8 8 = Dk.window (stT T p) 8 8 := win_st_far 8 (.inr rfl) (by rw [e]; decide)
    have hw : Dk.window (stT (stT T p) q) 0 8 = ptO q := hw
    have hv : Dk.window (stT T p) 8 8 = ptO p := hv
    rw [hw, hf, hv]
    unfold ldK ldN
    rw [if_pos (.inl q1), if_pos q1, if_neg (fun x => by have := x.2; rw [p2, q2] at this; omega)]
    exact ⟨rfl, q2⟩
  · have e2 : reg p.1 = 0 := by rcases reg_nat p.1 with f | f; · exact f
                                · exact absurd (e.trans f.symm) hr
    rw [e] at hw
    rw [e2] at hv
    have hf : Dk.window (stT (stT T p) q) 0 8 = Dk.window (stT T p) 0 8 := win_st_far 0 (.inl rfl) (by rw [e]; decide)
    have hw : Dk.window (stT (stT T p) q) 8 8 = ptO q := hw
    have hv : Dk.window (stT T p) 0 8 = ptO p := hv
    rw [hw, hf, hv]
    unfold ldK ldN
    rw [if_pos (.inl p1), if_pos p1, if_pos ⟨q1, by rw [p2, q2]; exact hlt⟩]
    exact ⟨rfl, q2⟩
def p1 : Pt := (1, 0, 0, 0, [])
def p2 : Pt := (2, 7, 0, 0, [])
theorem al_math : stE ⟨zrows, []⟩ p1 = 0 ∧ stS ⟨zrows, []⟩ p1 = ⟨stT zrows p1, []⟩ ∧ stE ⟨stT zrows p1, []⟩ p2 = 0 ∧ stS ⟨stT zrows p1, []⟩ p2 = ⟨stT (stT zrows p1) p2, []⟩ ∧ ldE ⟨stT (stT zrows p1) p2, []⟩ = 0 ∧ ldV ⟨stT (stT zrows p1) p2, []⟩ = p2 := by
  have h1 : ptQ p1 = 0 := by decide
  have h2 : ptQ p2 = 0 := by decide
  obtain ⟨a1, a2⟩ := store_rows serves0 h1 oc_nil
  obtain ⟨b1, b2⟩ := store_rows (serves0.st (q := p1) oc_nil) h2 oc_nil
  obtain ⟨c1, c2⟩ := two_stored serves0 h1 h2 oc_nil oc_nil (by decide) (by decide)
  exact ⟨a1, a2, b1, b2, c1, c2⟩

set_option maxRecDepth 100000 in
set_option maxHeartbeats 8000000 in
theorem alive17 (w : World) (hg : Glob w) : Calls Tryd.prog 6 #[] w fun e w' => e = .returned (.bool true) ∧ Below w.heap.size w w' := by
  obtain ⟨m1, m2, m3, m4, m5, m6⟩ := al_math
  have HM : Hid (stE ⟨zrows, []⟩ p1 = 0 ∧ stS ⟨zrows, []⟩ p1 = ⟨stT zrows p1, []⟩ ∧ stE ⟨stT zrows p1, []⟩ p2 = 0 ∧ stS ⟨stT zrows p1, []⟩ p2 = ⟨stT (stT zrows p1) p2, []⟩ ∧ ldE ⟨stT (stT zrows p1) p2, []⟩ = 0 ∧ ldV ⟨stT (stT zrows p1) p2, []⟩ = p2) := ⟨m1, m2, m3, m4, m5, m6⟩
  have HG : Hid (∀ V, Below w.heap.size w V → Glob V) := fun V hV => hg.below hV hg.lt
  clear m1 m2 m3 m4 m5 m6 hg
  go_enter Tryd.func6, Tryd.ntmps6
  go_wp2_with fail
  refine (Dk.new_any 16 w (by omega) (by omega)).mono ?_
  rintro r w1 ⟨v1, rfl, hG, hb1⟩
  have hd1 : Dk.Disk w.heap.size w1 (.agg #[v1, .slice none 0 0]) ⟨zrows, []⟩ := Dk.Grid.disk hG
  obtain ⟨x1, y1, x2, y2, heq, -, -⟩ := hd1.shape
  simp only [Value.agg.injEq, Array.mk.injEq, List.cons.injEq, and_true] at heq
  obtain ⟨rfl, -⟩ := heq
  have h16 : zrows.length = 16 := by simp [zrows]
  rw [h16] at hd1 ⊢
  obtain ⟨V1, hV1⟩ : ∃ V, V = w1.alloc (.cells #[.slice x1 16 y1, .slice none 0 0] 40) := ⟨_, rfl⟩
  have hbV : Below w1.heap.size w1 V1 := by rw [hV1]; exact (Below.refl _ w1).alloc (Nat.le_refl _) _
  have hBV : Box V1 w1.heap.size 40 #[.slice x1 16 y1, .slice none 0 0] := by rw [hV1]; exact Box.new _ _ _
  obtain ⟨N, hN⟩ : ∃ N, N = w1.heap.size := ⟨_, rfl⟩
  have H1 : Hid (Below w.heap.size w V1 ∧ Box V1 w1.heap.size 40 #[.slice x1 16 y1, .slice none 0 0] ∧ Dk.Disk w.heap.size V1 (.agg #[.slice x1 16 y1, .slice none 0 0]) ⟨zrows, []⟩ ∧ w.heap.size ≤ N) := ⟨below_any hb1 hbV, hBV, hd1.below hbV, by rw [hN]; exact hb1.size⟩
  rw [← hN] at H1
  clear hG hb1 hd1 hbV hBV h16
  go_upto_region 2 with fail
  rw [← hV1, ← hN]
  clear hV1 hN
  have HS := store_any (S := ⟨zrows, []⟩) (e := 1) (s := 0) (v := 0) (c := 0) (d := []) (dl := 0) rfl H1.out.2.2.1 (Own1.nil V1.heap.size V1).arg
  rw [show ((1, 0, 0, 0, []) : Pt) = p1 from rfl, HM.out.1, HM.out.2.1] at HS
  obtain ⟨g0, g1, -, -⟩ := H1.out.2.1.two
  go_wp2_with fail
  clear g0 g1
  refine HS.mono ?_
  rintro r w2 ⟨v2, rfl, hd, hb⟩
  obtain ⟨a2, b2, c2, d2, rfl, -, -⟩ := hd.shape
  obtain ⟨k1, hk1⟩ : ∃ z, z = (⟨stT zrows p1, []⟩ : Dk.St).secs.length := ⟨_, rfl⟩
  obtain ⟨k2, hk2⟩ : ∃ z, z = (⟨stT zrows p1, []⟩ : Dk.St).cache.length := ⟨_, rfl⟩
  rw [← hk1, ← hk2] at hd ⊢
  have hB := H1.out.2.1.below hb H1.out.2.1.lt
  obtain ⟨n2, hn2⟩ : ∃ z, z = k1 := ⟨_, rfl⟩
  obtain ⟨l2, hl2⟩ : ∃ z, z = k2 := ⟨_, rfl⟩
  rw [← hn2, ← hl2] at hd ⊢
  clear hk1 hk2 hn2 hl2
  obtain ⟨V2, hV2⟩ : ∃ V, V = (w2.setCell ⟨N, 0, none⟩ (.slice a2 n2 b2)).setCell ⟨N, 1, none⟩ (.slice c2 l2 d2) := ⟨_, rfl⟩
  have H2 : Hid (Below w.heap.size w V2 ∧ Box V2 N 40 #[.slice a2 n2 b2, .slice c2 l2 d2] ∧ Dk.Disk w.heap.size V2 (.agg #[.slice a2 n2 b2, .slice c2 l2 d2]) ⟨stT zrows p1, []⟩ ∧ w.heap.size ≤ N) := by
    rw [hV2]
    exact ⟨below_set2 (below_any H1.out.1 hb) H1.out.2.2.2 _ _, (hB.set 0 _).set 1 _, (dkd_same2 hd H1.out.2.1.lt _ _).weaken H1.out.1.size, H1.out.2.2.2⟩
  obtain ⟨d0, d1, e0, e1⟩ := hB.two
  clear hd hb hB HS
  go_upto_region 3 with fail
  rw [← hV2]
  clear hV2 d0 d1 e0 e1 H1
  have HS := store_any (S := ⟨stT zrows p1, []⟩) (e := 2) (s := 7) (v := 0) (c := 0) (d := []) (dl := 0) rfl H2.out.2.2.1 (Own1.nil V2.heap.size V2).arg
  rw [show ((2, 7, 0, 0, []) : Pt) = p2 from rfl, HM.out.2.2.1, HM.out.2.2.2.1] at HS
  obtain ⟨g0, g1, -, -⟩ := H2.out.2.1.two
  go_wp2_with fail
  clear g0 g1
  refine HS.mono ?_
  rintro r w3 ⟨v3, rfl, hd, hb⟩
  obtain ⟨a3, b3, c3, d3, rfl, -, -⟩ := hd.shape
  obtain ⟨k1, hk1⟩ : ∃ z, z = (⟨stT (stT zrows p1) p2, []⟩ : Dk.St).secs.length := ⟨_, rfl⟩
  obtain ⟨k2, hk2⟩ : ∃ z, z = (⟨stT (stT zrows p1) p2, []⟩ : Dk.St).cache.length := ⟨_, rfl⟩
  rw [← hk1, ← hk2] at hd ⊢
  have hB := H2.out.2.1.below hb H2.out.2.1.lt
  obtain ⟨n3, hn3⟩ : ∃ z, z = k1 := ⟨_, rfl⟩
  obtain ⟨l3, hl3⟩ : ∃ z, z = k2 := ⟨_, rfl⟩
  rw [← hn3, ← hl3] at hd ⊢
  clear hk1 hk2 hn3 hl3
  obtain ⟨V3, hV3⟩ : ∃ V, V = (w3.setCell ⟨N, 0, none⟩ (.slice a3 n3 b3)).setCell ⟨N, 1, none⟩ (.slice c3 l3 d3) := ⟨_, rfl⟩
  have H3 : Hid (Below w.heap.size w V3 ∧ Box V3 N 40 #[.slice a3 n3 b3, .slice c3 l3 d3] ∧ Dk.Disk w.heap.size V3 (.agg #[.slice a3 n3 b3, .slice c3 l3 d3]) ⟨stT (stT zrows p1) p2, []⟩ ∧ w.heap.size ≤ N) := by
    rw [hV3]
    exact ⟨below_set2 (below_any H2.out.1 hb) H2.out.2.2.2 _ _, (hB.set 0 _).set 1 _, (dkd_same2 hd H2.out.2.1.lt _ _).weaken H2.out.1.size, H2.out.2.2.2⟩
  obtain ⟨d0, d1, e0, e1⟩ := hB.two
  clear hd hb hB HS
  go_upto_region 4 with fail
  rw [← hV3]
  clear hV3 d0 d1 e0 e1 H2
  have HL := load_any w.heap.size _ _ V3 H3.out.2.2.1 (HG.out V3 H3.out.1)
  rw [HM.out.2.2.2.2.1, HM.out.2.2.2.2.2] at HL
  obtain ⟨g0, g1, -, -⟩ := H3.out.2.1.two
  go_wp2_with fail
  clear g0 g1
  refine HL.mono ?_
  rintro r w4 ⟨u, rfl, ⟨ya, yc, rfl, hya⟩, hb⟩
  have HZ : Hid (Below w.heap.size w w4) := below_any H3.out.1 hb
  have hp : p2 = (2, 7, 0, 0, []) := rfl
  rw [hp] at hya ⊢
  simp only [List.length_nil] at hya ⊢
  clear hya hb HL hp
  go_wp2_with (first | (with_reducible refine Calls.mono (num17 _ _) ?_; rintro _ _ ⟨rfl, rfl⟩))
  go_ret
  refine ⟨rfl, ?_⟩
  exact HZ.out.alloc HZ.out.size _

end Go.Proofs.YthlfgpnabcplnaaDoor.W
/-
  A point stored on a disk that serves: the rows that follow are rows of their own.
-/
namespace Go.Proofs.YthlfgpnabcplnaaDoor.W
open Go.RowKit
set_option linter.unusedVariables false

set_option maxRecDepth 100000 in
set_option maxHeartbeats 8000000 in
theorem storeg_any {n0 n1 : Nat} {vd : Value} {S : Dk.St} {e s v c : Int} {da : Option Addr} {dl dc : Nat} {d : List Int} (hd : dl = d.length) {w : World} (hS : Dk.Disk n0 w vd S) (hD : Arg n1 w (.slice da dl dc) d) (hok1 : cdE S = 0) (hok2 : ptQ (e, s, v, c, d) = 0) (hok3 : Dk.paerr S (reg e) (ptO (e, s, v, c, d)) = 0) (hok4 : Dk.chk (putS S (e, s, v, c, d)) = true) :
    Calls Tryd.prog 13 #[vd, .agg #[.int .i64 e, .int .i64 s, .int .i64 v, .int .i64 c, .slice da dl dc]] w fun r w' => ∃ vs, r = .returned (.tuple #[.agg #[vs, .slice none 0 0], .int .i64 0]) ∧ Dk.Grid w.heap.size w' vs (stS S (e, s, v, c, d)).secs ∧ Below w.heap.size w w' := by
  obtain ⟨a1, c1, a2, c2, rfl, _, _⟩ := hS.shape
  obtain ⟨n, hn⟩ : ∃ z, z = S.secs.length := ⟨_, rfl⟩
  obtain ⟨m, hm⟩ : ∃ z, z = S.cache.length := ⟨_, rfl⟩
  rw [← hn, ← hm] at hS ⊢
  obtain ⟨W1, hW1⟩ : ∃ W, W = ((w.alloc (.cells #[.slice a1 n c1, .slice a2 m c2] 40)).alloc (.cells #[.int .i64 e, .int .i64 s, .int .i64 v, .int .i64 c, .slice da dl dc] 29)).alloc (.cells #[.slice none 0 0, .slice none 0 0] 40) := ⟨_, rfl⟩
  have hb1 : Below w.heap.size w W1 := by rw [hW1]; exact (((Below.refl _ w).alloc (Nat.le_refl _) _).alloc (by simp) _).alloc (by simp; omega) _
  have hBd : Box W1 w.heap.size 40 #[.slice a1 n c1, .slice a2 m c2] := by rw [hW1]; exact ((Box.new _ _ _).alloc _).alloc _
  have hBp : Box W1 (w.heap.size + 1) 29 #[.int .i64 e, .int .i64 s, .int .i64 v, .int .i64 c, .slice da dl dc] := by
    rw [hW1]
    have := (Box.new (w.alloc (.cells #[.slice a1 n c1, .slice a2 m c2] 40)) 29 #[.int .i64 e, .int .i64 s, .int .i64 v, .int .i64 c, .slice da dl dc]).alloc (.cells #[.slice none 0 0, .slice none 0 0] 40)
    rwa [World.size_alloc] at this
  have hBr : Box W1 (w.heap.size + 1 + 1) 40 #[.slice none 0 0, .slice none 0 0] := by
    rw [hW1]
    have := Box.new ((w.alloc (.cells #[.slice a1 n c1, .slice a2 m c2] 40)).alloc (.cells #[.int .i64 e, .int .i64 s, .int .i64 v, .int .i64 c, .slice da dl dc] 29)) 40 #[.slice none 0 0, .slice none 0 0]
    rwa [World.size_alloc, World.size_alloc] at this
  have HC := cdisk_any n0 _ S W1 (hS.below hb1)
  have HB : Hid (Below w.heap.size w W1 ∧ Box W1 w.heap.size 40 #[.slice a1 n c1, .slice a2 m c2] ∧ Box W1 (w.heap.size + 1) 29 #[.int .i64 e, .int .i64 s, .int .i64 v, .int .i64 c, .slice da dl dc] ∧ Box W1 (w.heap.size + 1 + 1) 40 #[.slice none 0 0, .slice none 0 0] ∧ w.heap.size + 1 + 1 < W1.heap.size) := ⟨hb1, hBd, hBp, hBr, hBr.lt⟩
  have HI : Hid (dl = d.length ∧ Arg n1 w (.slice da dl dc) d ∧ Dk.Disk n0 w (.agg #[.slice a1 n c1, .slice a2 m c2]) S) := ⟨hd, hD, hS⟩
  obtain ⟨post, hpost⟩ : ∃ post : Ending → World → Prop, post = fun r w' => ∃ vs, r = .returned (.tuple #[.agg #[vs, .slice none 0 0], .int .i64 0]) ∧ Dk.Grid w.heap.size w' vs (stS S (e, s, v, c, d)).secs ∧ Below w.heap.size w w' := ⟨_, rfl⟩
  have HPo : Hid (∀ vs w', Dk.Grid w.heap.size w' vs (stS S (e, s, v, c, d)).secs → Below w.heap.size w w' → post (.returned (.tuple #[.agg #[vs, .slice none 0 0], .int .i64 0])) w') := fun vs w' h2 h3 => by rw [hpost]; exact ⟨vs, rfl, h2, h3⟩
  have HOK : Hid (cdE S = 0 ∧ ptQ (e, s, v, c, d) = 0 ∧ Dk.paerr S (reg e) (ptO (e, s, v, c, d)) = 0 ∧ Dk.chk (putS S (e, s, v, c, d)) = true) := ⟨hok1, hok2, hok3, hok4⟩
  clear hok1 hok2 hok3 hok4
  rw [← hpost]
  obtain ⟨oe, hoe⟩ : ∃ z, z = cdE S := ⟨_, rfl⟩
  have HOE : Hid (oe = cdE S) := hoe
  rw [← hoe] at HC
  obtain ⟨y0, y1, -, -⟩ := hBd.two
  rw [hW1] at y0 y1
  clear hpost hoe hb1 hBd hBp hBr hd hD hS hn hm
  go_enter Tryd.func13, Tryd.ntmps13
  go_wp2_with fail
  rw [← hW1]
  clear hW1 y0 y1
  refine HC.mono ?_
  rintro r w2 ⟨rfl, hb2⟩
  have H2 : Hid (Below w.heap.size w w2 ∧ Box w2 w.heap.size 40 #[.slice a1 n c1, .slice a2 m c2] ∧ Box w2 (w.heap.size + 1) 29 #[.int .i64 e, .int .i64 s, .int .i64 v, .int .i64 c, .slice da dl dc] ∧ Box w2 (w.heap.size + 1 + 1) 40 #[.slice none 0 0, .slice none 0 0]) := ⟨below_any HB.out.1 hb2, HB.out.2.1.below hb2 HB.out.2.1.lt, HB.out.2.2.1.below hb2 HB.out.2.2.1.lt, HB.out.2.2.2.1.below hb2 HB.out.2.2.2.1.lt⟩
  clear HC hb2
  have hoz : oe = 0 := by rw [HOE.out]; exact HOK.out.1
  subst hoz
  have HE := penc_any (e := e) (s := s) (v := v) (c := c) HI.out.1 (HI.out.2.1.below H2.out.1)
  obtain ⟨pe, hpe⟩ : ∃ z, z = ptE e s v c d.length := ⟨_, rfl⟩
  obtain ⟨B, hBB⟩ : ∃ z, z = ptO (e, s, v, c, d) := ⟨_, rfl⟩
  rw [← hpe, ← hBB] at HE
  have HPE : Hid (pe = ptQ (e, s, v, c, d) ∧ B = ptO (e, s, v, c, d)) := ⟨hpe, hBB⟩
  obtain ⟨bl, hbl⟩ : ∃ z, z = B.length := ⟨_, rfl⟩
  rw [← hbl] at HE
  have HBL : Hid (bl = B.length) := hbl
  obtain ⟨⟨z0, z1, z2, z3, z4⟩, -⟩ := box5 H2.out.2.2.1
  clear hpe hBB hbl
  go_wp2_with fail
  clear z0 z1 z2 z3 z4
  refine HE.mono ?_
  rintro r w3 ⟨⟨a7, c7, rfl, ho7⟩, hb3⟩
  have H3 : Hid (Below w.heap.size w w3 ∧ Box w3 w.heap.size 40 #[.slice a1 n c1, .slice a2 m c2] ∧ Box w3 (w.heap.size + 1) 29 #[.int .i64 e, .int .i64 s, .int .i64 v, .int .i64 c, .slice da dl dc] ∧ Box w3 (w.heap.size + 1 + 1) 40 #[.slice none 0 0, .slice none 0 0] ∧ Arg 0 w3 (.slice a7 bl c7) B) := ⟨below_any H2.out.1 hb3, H2.out.2.1.below hb3 H2.out.2.1.lt, H2.out.2.2.1.below hb3 H2.out.2.2.1.lt, H2.out.2.2.2.below hb3 H2.out.2.2.2.lt, ho7.arg.weaken (Nat.zero_le _)⟩
  clear HE hb3 ho7 H2
  have hpz : pe = 0 := by rw [HPE.out.1]; exact HOK.out.2.1
  subst hpz
  obtain ⟨hin, -⟩ := ptE_ok HPE.out.1.symm
  obtain ⟨h0e, h1e⟩ := inN_iff.1 hin
  have HREG : Hid (e % 2 * 8 = reg e ∧ 8 * (e % 2) = reg e ∧ 0 ≤ e % 2 ∧ e % 2 ≤ 1 ∧ bl = 512 ∧ B.length = 512 ) := by
    have h512 : B.length = 512 := by rw [HPE.out.2]; exact ptO_len HPE.out.1.symm
    refine ⟨?_, ?_, by omega, by omega, by rw [HBL.out]; exact h512, h512⟩
    · unfold reg; split <;> omega
    · unfold reg; split <;> omega
  have HPUT : Hid (∀ V k, Below w.heap.size w V → Arg 0 V (.slice a7 bl c7) B → k = reg e → Calls Tryd.prog 28 #[.agg #[.slice a1 n c1, .slice a2 m c2], .int .i64 k, .slice a7 bl c7] V fun r w' => ∃ v', r = .returned (.tuple #[v', .int .i64 (Dk.paerr S (reg e) B)]) ∧ Dk.OwnDisk V.heap.size w' 81 v' (Dk.past S (reg e) B) ∧ Below V.heap.size V w') := fun V k hV hA hk => by
    rw [hk]
    exact Dk.putAll_any n0 0 _ _ S (reg e) B V (HI.out.2.2.below hV) (reg_in e) (dk_arg hA) (by rw [HREG.out.2.2.2.2.2]; omega)
  obtain ⟨ue, hue⟩ : ∃ z, z = Dk.paerr S (reg e) B := ⟨_, rfl⟩
  rw [← hue] at HPUT
  have HUE : Hid (ue = Dk.paerr S (reg e) B) := hue
  clear hin hue
  have hee : e % 2 = e % 2 := rfl
  have htm : e.tmod 2 = e % 2 := by rw [Int.tmod_eq_emod_of_nonneg h0e]
  have HEM : Hid (e.tmod 2 = e % 2) := htm
  clear htm hee
  go_upto_region 7 with fail
  obtain ⟨X0, hX0⟩ : ∃ Z, Z = w3.drew := ⟨_, rfl⟩
  have hbX : Below w3.heap.size w3 X0 := by rw [hX0]; exact (Below.refl _ w3).drew
  have hbp0 := (H3.out.2.2.1.below hbX H3.out.2.2.1.lt).cell 0 rfl
  have hSS : X0.cell? ⟨w.heap.size + 1, 0, none⟩ = some (.int .i64 e) := hbp0
  refine AnyBut.begin (fun U => U.cell? ⟨w.heap.size + 1, 0, none⟩ = some (.int .i64 e)) 1000 (by kernel_rfl) ?_
  rw [← hX0]
  clear hX0 hbp0
  have hrem : e.tmod 2 = e % 2 := HEM.out
  refine tx 1 26 hSS ?_
  simp only [ua, ub, uc, ud]
  refine tx 2 27 hSS ?_
  simp only [ua, ub, uc, ud]
  refine tx 3 28 (v := .int .i64 (e % 2)) hSS ?_
  simp only [ua, ub, uc, ud]
  refine tx 5 30 hSS ?_
  simp only [ua, ub, uc, ud]
  obtain ⟨g0, g1, -, -⟩ := (H3.out.2.1.below hbX H3.out.2.1.lt).two
  refine AnyBut.two (i := 0) (j := 4) (by kernel_rfl) rfl rfl (fun K hK => ?_) (fun K hK => ?_)
  · skip
    go_simp
    refine hK.out _ _ hSS ?_
    clear hK
    refine AnyBut.step (i := 4) (by kernel_rfl) rfl (fun K hK => ?_)
    go_simp
    refine (first_any (e % 2) ⟨HREG.out.2.2.1, HREG.out.2.2.2.1⟩ _).mono ?_
    rintro r w4 ⟨rfl, rfl⟩
    dsimp only
    refine hK.out _ _ hSS ?_
    clear hK g0 g1 hrem
    have hP := HPUT.out X0 (e % 2 * 8) (H3.out.1.trans (hbX.mono H3.out.1.size)) (H3.out.2.2.2.2.below hbX) HREG.out.1
    refine AnyBut.step (i := 6) (by kernel_rfl) rfl (fun K hK => ?_)
    go_simp
    refine hP.mono ?_
    rintro r w4 ⟨v4, rfl, ho4, hb4⟩
    dsimp only
    have hd4 := ho4.disk
    obtain ⟨x1, y1, x2, y2, rfl, -, -⟩ := hd4.shape
    obtain ⟨k1, hk1⟩ : ∃ z, z = (Dk.past S (reg e) B).secs.length := ⟨_, rfl⟩
    obtain ⟨k2, hk2⟩ : ∃ z, z = (Dk.past S (reg e) B).cache.length := ⟨_, rfl⟩
    rw [← hk1, ← hk2] at hd4 ⊢
    clear hk1 hk2
    have hb34 : Below w3.heap.size w3 w4 := below_any hbX hb4
    have hSS4 : w4.cell? ⟨w.heap.size + 1, 0, none⟩ = some (.int .i64 e) := (H3.out.2.2.1.below hb34 H3.out.2.2.1.lt).cell 0 rfl
    refine hK.out _ _ hSS4 ?_
    clear hK
    refine tx 7 24 hSS4 ?_
    simp only [ua, ub, uc, ud]
    refine tx 8 32 hSS4 ?_
    simp only [ua, ub, uc, ud]
    refine tx 9 33 hSS4 ?_
    simp only [ua, ub, uc, ud]
    have hB4 := H3.out.2.1.below hb34 H3.out.2.1.lt
    have hR4 := H3.out.2.2.2.1.below hb34 H3.out.2.2.2.1.lt
    have hP4 := H3.out.2.2.1.below hb34 H3.out.2.2.1.lt
    obtain ⟨d0, d1, e0, e1⟩ := hB4.two
    refine AnyBut.step (i := 10) (by kernel_rfl) rfl (fun K hK => ?_)
    go_simp
    obtain ⟨X, hX⟩ : ∃ Z, Z = (w4.setCell ⟨w.heap.size, 0, none⟩ (.slice x1 k1 y1)).setCell ⟨w.heap.size, 1, none⟩ (.slice x2 k2 y2) := ⟨_, rfl⟩
    have HX : Hid (Below w.heap.size w X ∧ Box X (w.heap.size + 1 + 1) 40 #[.slice none 0 0, .slice none 0 0] ∧ Box X w.heap.size 40 #[.slice x1 k1 y1, .slice x2 k2 y2] ∧ Dk.Disk w.heap.size X (.agg #[.slice x1 k1 y1, .slice x2 k2 y2]) (Dk.past S (reg e) B)) := by
      have hlt := H3.out.2.1.lt
      rw [hX]
      exact ⟨below_set2 (H3.out.1.trans (hb34.mono H3.out.1.size)) (Nat.le_refl _) _ _, (hR4.other (by omega)).other (by omega), (hB4.set 0 _).set 1 _, (dkd_same2 hd4 (Nat.lt_of_lt_of_le hlt hbX.size) _ _).weaken (Nat.le_trans H3.out.1.size hbX.size)⟩
    have hSX : X.cell? ⟨w.heap.size + 1, 0, none⟩ = some (.int .i64 e) := by rw [hX]; exact (((hP4.other (by omega)).other (by omega)).cell 0 rfl)
    rw [← hX]
    refine hK.out _ _ hSX ?_
    clear hK hX d0 d1 e0 e1 hB4 hR4 hP4 hd4 ho4 hb4 hb34 hSS4 hP
    refine AnyBut.step (i := 11) (by kernel_rfl) rfl (fun K hK => ?_)
    go_simp
    refine hK.out _ _ hSX ?_
    clear hK hSX
    refine AnyBut.done (by kernel_rfl) ?_
    have huz : ue = 0 := by rw [HUE.out, HPE.out.2]; exact HOK.out.2.2.1
    subst huz
    have HF := Dk.flush_grid w.heap.size _ (Dk.past S (reg e) B) X HX.out.2.2.2 (by rw [HPE.out.2]; exact HOK.out.2.2.2)
    obtain ⟨rows, hrows⟩ : ∃ z, z = (Dk.stand (Dk.past S (reg e) B) (fun _ => true)).secs := ⟨_, rfl⟩
    have HRO : Hid (rows = (stS S (e, s, v, c, d)).secs) := by
      show _ = _
      rw [hrows]
      unfold stS
      rw [if_pos ⟨HOK.out.1, HOK.out.2.1, HOK.out.2.2.1⟩, HPE.out.2]
      rfl
    rw [← hrows] at HF
    clear hrows
    obtain ⟨g0, g1, -, -⟩ := HX.out.2.2.1.two
    go_wp2_with fail
    clear g0 g1
    refine HF.mono ?_
    rintro r w9 ⟨vs, rfl, hd9, hb9⟩
    obtain ⟨x1, y1, rfl, _⟩ := hd9.lists.shape
    obtain ⟨k1, hk1⟩ : ∃ z, z = rows.length := ⟨_, rfl⟩
    rw [← hk1] at hd9 ⊢
    have HQ : Hid (∀ u0 u1 U, U = .tuple #[.agg #[.slice x1 k1 y1, .slice none 0 0], .int .i64 0] → post (.returned U) ((w9.setCell ⟨w.heap.size + 1 + 1, 0, none⟩ u0).setCell ⟨w.heap.size + 1 + 1, 1, none⟩ u1)) := fun u0 u1 U hU => by
      rw [hU]
      refine HPo.out _ _ ?_ (below_set2 (below_any HX.out.1 hb9) (by omega) _ _)
      rw [← HRO.out]
      exact Dk.Grid.weaken (n0 := X.heap.size) (Dk.Grid.set (B := w.heap.size + 1 + 1) (Dk.Grid.set (B := w.heap.size + 1 + 1) hd9 HX.out.2.1.lt) HX.out.2.1.lt) HX.out.1.size
    obtain ⟨d0, d1, e0, e1⟩ := (HX.out.2.1.below hb9 HX.out.2.1.lt).two
    clear hd9 hb9 HF hk1
    go_wp2
    refine bodyPost_ret (v := .tuple #[.agg #[.slice x1 k1 y1, .slice none 0 0], .int .i64 0]) (by simp [results, Tryd.results13, go_sem, *]) rfl (HQ.out _ _ _ rfl)
  · skip
    go_simp
    refine (first_any (e % 2) ⟨HREG.out.2.2.1, HREG.out.2.2.2.1⟩ _).mono ?_
    rintro r w4 ⟨rfl, rfl⟩
    dsimp only
    refine hK.out _ _ hSS ?_
    clear hK
    refine AnyBut.step (i := 0) (by kernel_rfl) rfl (fun K hK => ?_)
    go_simp
    refine hK.out _ _ hSS ?_
    clear hK g0 g1 hrem
    have hP := HPUT.out X0 (e % 2 * 8) (H3.out.1.trans (hbX.mono H3.out.1.size)) (H3.out.2.2.2.2.below hbX) HREG.out.1
    refine AnyBut.step (i := 6) (by kernel_rfl) rfl (fun K hK => ?_)
    go_simp
    refine hP.mono ?_
    rintro r w4 ⟨v4, rfl, ho4, hb4⟩
    dsimp only
    have hd4 := ho4.disk
    obtain ⟨x1, y1, x2, y2, rfl, -, -⟩ := hd4.shape
    obtain ⟨k1, hk1⟩ : ∃ z, z = (Dk.past S (reg e) B).secs.length := ⟨_, rfl⟩
    obtain ⟨k2, hk2⟩ : ∃ z, z = (Dk.past S (reg e) B).cache.length := ⟨_, rfl⟩
    rw [← hk1, ← hk2] at hd4 ⊢
    clear hk1 hk2
    have hb34 : Below w3.heap.size w3 w4 := below_any hbX hb4
    have hSS4 : w4.cell? ⟨w.heap.size + 1, 0, none⟩ = some (.int .i64 e) := (H3.out.2.2.1.below hb34 H3.out.2.2.1.lt).cell 0 rfl
    refine hK.out _ _ hSS4 ?_
    clear hK
    refine tx 7 24 hSS4 ?_
    simp only [ua, ub, uc, ud]
    refine tx 8 32 hSS4 ?_
    simp only [ua, ub, uc, ud]
    refine tx 9 33 hSS4 ?_
    simp only [ua, ub, uc, ud]
    have hB4 := H3.out.2.1.below hb34 H3.out.2.1.lt
    have hR4 := H3.out.2.2.2.1.below hb34 H3.out.2.2.2.1.lt
    have hP4 := H3.out.2.2.1.below hb34 H3.out.2.2.1.lt
    obtain ⟨d0, d1, e0, e1⟩ := hB4.two
    refine AnyBut.step (i := 10) (by kernel_rfl) rfl (fun K hK => ?_)
    go_simp
    obtain ⟨X, hX⟩ : ∃ Z, Z = (w4.setCell ⟨w.heap.size, 0, none⟩ (.slice x1 k1 y1)).setCell ⟨w.heap.size, 1, none⟩ (.slice x2 k2 y2) := ⟨_, rfl⟩
    have HX : Hid (Below w.heap.size w X ∧ Box X (w.heap.size + 1 + 1) 40 #[.slice none 0 0, .slice none 0 0] ∧ Box X w.heap.size 40 #[.slice x1 k1 y1, .slice x2 k2 y2] ∧ Dk.Disk w.heap.size X (.agg #[.slice x1 k1 y1, .slice x2 k2 y2]) (Dk.past S (reg e) B)) := by
      have hlt := H3.out.2.1.lt
      rw [hX]
      exact ⟨below_set2 (H3.out.1.trans (hb34.mono H3.out.1.size)) (Nat.le_refl _) _ _, (hR4.other (by omega)).other (by omega), (hB4.set 0 _).set 1 _, (dkd_same2 hd4 (Nat.lt_of_lt_of_le hlt hbX.size) _ _).weaken (Nat.le_trans H3.out.1.size hbX.size)⟩
    have hSX : X.cell? ⟨w.heap.size + 1, 0, none⟩ = some (.int .i64 e) := by rw [hX]; exact (((hP4.other (by omega)).other (by omega)).cell 0 rfl)
    rw [← hX]
    refine hK.out _ _ hSX ?_
    clear hK hX d0 d1 e0 e1 hB4 hR4 hP4 hd4 ho4 hb4 hb34 hSS4 hP
    refine AnyBut.step (i := 11) (by kernel_rfl) rfl (fun K hK => ?_)
    go_simp
    refine hK.out _ _ hSX ?_
    clear hK hSX
    refine AnyBut.done (by kernel_rfl) ?_
    have huz : ue = 0 := by rw [HUE.out, HPE.out.2]; exact HOK.out.2.2.1
    subst huz
    have HF := Dk.flush_grid w.heap.size _ (Dk.past S (reg e) B) X HX.out.2.2.2 (by rw [HPE.out.2]; exact HOK.out.2.2.2)
    obtain ⟨rows, hrows⟩ : ∃ z, z = (Dk.stand (Dk.past S (reg e) B) (fun _ => true)).secs := ⟨_, rfl⟩
    have HRO : Hid (rows = (stS S (e, s, v, c, d)).secs) := by
      show _ = _
      rw [hrows]
      unfold stS
      rw [if_pos ⟨HOK.out.1, HOK.out.2.1, HOK.out.2.2.1⟩, HPE.out.2]
      rfl
    rw [← hrows] at HF
    clear hrows
    obtain ⟨g0, g1, -, -⟩ := HX.out.2.2.1.two
    go_wp2_with fail
    clear g0 g1
    refine HF.mono ?_
    rintro r w9 ⟨vs, rfl, hd9, hb9⟩
    obtain ⟨x1, y1, rfl, _⟩ := hd9.lists.shape
    obtain ⟨k1, hk1⟩ : ∃ z, z = rows.length := ⟨_, rfl⟩
    rw [← hk1] at hd9 ⊢
    have HQ : Hid (∀ u0 u1 U, U = .tuple #[.agg #[.slice x1 k1 y1, .slice none 0 0], .int .i64 0] → post (.returned U) ((w9.setCell ⟨w.heap.size + 1 + 1, 0, none⟩ u0).setCell ⟨w.heap.size + 1 + 1, 1, none⟩ u1)) := fun u0 u1 U hU => by
      rw [hU]
      refine HPo.out _ _ ?_ (below_set2 (below_any HX.out.1 hb9) (by omega) _ _)
      rw [← HRO.out]
      exact Dk.Grid.weaken (n0 := X.heap.size) (Dk.Grid.set (B := w.heap.size + 1 + 1) (Dk.Grid.set (B := w.heap.size + 1 + 1) hd9 HX.out.2.1.lt) HX.out.2.1.lt) HX.out.1.size
    obtain ⟨d0, d1, e0, e1⟩ := (HX.out.2.1.below hb9 HX.out.2.1.lt).two
    clear hd9 hb9 HF hk1
    go_wp2
    refine bodyPost_ret (v := .tuple #[.agg #[.slice x1 k1 y1, .slice none 0 0], .int .i64 0]) (by simp [results, Tryd.results13, go_sem, *]) rfl (HQ.out _ _ _ rfl)

end Go.Proofs.YthlfgpnabcplnaaDoor.W

/-
  Points stored in turns: what the two regions hold, and what is loaded when one octet of the newest was turned.
-/
namespace Go.Proofs.YthlfgpnabcplnaaDoor.W
open Go.RowKit
set_option linter.unusedVariables false

theorem info17 : (Tryd.prog.info? 24).map (fun i => (i.zero, i.size, i.bytes)) = some (some (.agg #[.int .i64 0, .int .i64 0, .int .i64 0, .int .i64 0, .slice none 0 0]), 5, 56) := by kernel_rfl
theorem cells36 : Tryd.prog.cellsOf 36 = 1 := by kernel_rfl
def ptsR : Shape (List Pt) := ptR.list 36 Tryd.underlying36 cells36
theorem pts_at {n : Nat} {w : World} {v : Value} {l : List Pt} (h : ptsR.lies n w [v] l) (i : Nat) (p : Pt) (hp : l[i]? = some p) :
    ∃ b o a cap, (∀ W, (Instr.indexAt 36 v (.int .i64 i)).run Tryd.prog W = .ok (.pointer (some ⟨b, o, none⟩)) W) ∧ w.cell? ⟨b, o, none⟩ = some (.int .i64 p.1) ∧ w.cell? ⟨b, o + 1, none⟩ = some (.int .i64 p.2.1) ∧ w.cell? ⟨b, o + 2, none⟩ = some (.int .i64 p.2.2.1) ∧ w.cell? ⟨b, o + 3, none⟩ = some (.int .i64 p.2.2.2.1) ∧ w.cell? ⟨b, o + 4, none⟩ = some (.slice a p.2.2.2.2.length cap) ∧
      Arg n w (.slice a p.2.2.2.2.length cap) p.2.2.2.2 := by
  obtain ⟨i0, hi0, _, hz, _⟩ := info_parts info17
  obtain ⟨b, o, us, hix, hb, hc, hl⟩ := Shape.list_at (S := ptR) (ht := Tryd.underlying36) (hc := cells36) h (by decide) hi0 hz i p hp
  obtain ⟨a, cap, rfl, hA, -⟩ := pt_view hl
  exact ⟨b, o, a, cap, hix, hc 0 _ rfl, hc 1 _ rfl, hc 2 _ rfl, hc 3 _ rfl, hc 4 _ rfl, hA⟩
theorem pts_len {n : Nat} {w : World} {us : List Value} {l : List Pt} (h : ptsR.lies n w us l) : ∃ a cap, us = [.slice a l.length cap] ∧ l.length ≤ cap ∧ l.length ≤ maxLen ∧ (a = none → l.length = 0) :=
  Shape.list_len (S := ptR) (ht := Tryd.underlying36) (hc := cells36) h
theorem fits_pts {l : List Pt} (h : ptsR.fits l) : ∀ q ∈ l, q.2.2.2.2.length ≤ 140737488351232 := fun q hq => fits_pt (h.2 q hq)

def z512 : List Int := List.replicate 512 0
set_option maxRecDepth 100000 in
theorem z512_bad : dptE z512 ≠ 0 := by decide +kernel
theorem reg_mod2 (n : Nat) : reg n = 8 * ((n % 2 : Nat) : Int) := by unfold reg; split <;> omega
theorem reg_ne (n : Nat) : reg ((n + 1 : Nat) : Int) ≠ reg n := by unfold reg; split <;> split <;> omega
theorem reg_back (n : Nat) (h : 2 ≤ n) : reg ((n : Int) - 1) = reg ((n + 1 : Nat) : Int) := by unfold reg; split <;> split <;> omega
/-- What is loaded where one region's point is the newer one, or the other region holds none. -/
theorem ld_by {T : List (List Int)} (h : Serves T) {r s : Int} (hr : r = 0 ∨ r = 8) (hs : s = 0 ∨ s = 8) (hn : s ≠ r) {A B : List Int} (hA : Dk.window T r.toNat 8 = A) (hB : Dk.window T s.toNat 8 = B) (h0 : dptE A = 0) (h1 : dptE B = 0 → (dptV B).1 < (dptV A).1) : ldE ⟨T, []⟩ = 0 ∧ ldV ⟨T, []⟩ = dptV A := by
  obtain ⟨l1, l2⟩ := load_rows h
  rw [l1, l2]
  rcases hr with rfl | rfl
  · obtain rfl : s = 8 := by rcases hs with e | e; · exact absurd e hn
                             · exact e
    have hA : Dk.window T 0 8 = A := hA
    have hB : Dk.window T 8 8 = B := hB
    rw [hA, hB]
    unfold ldK ldN
    rw [if_pos (.inl h0), if_pos h0, if_neg (fun x => by have := h1 x.1; omega)]
    exact ⟨rfl, rfl⟩
  · obtain rfl : s = 0 := by rcases hs with e | e; · exact e
                             · exact absurd e hn
    have hA : Dk.window T 8 8 = A := hA
    have hB : Dk.window T 0 8 = B := hB
    rw [hA, hB]
    unfold ldK ldN
    rw [if_pos (.inr h0)]
    by_cases hb : dptE B = 0
    · rw [if_pos hb, if_pos ⟨h0, h1 hb⟩]
      exact ⟨rfl, rfl⟩
    · rw [if_neg hb, if_pos h0]
      exact ⟨rfl, rfl⟩

/-- What the two regions hold behind so many points. -/
def Inv (n : Nat) (T : List (List Int)) (p q : Pt) : Prop := Serves T ∧ T.length = 16 ∧ p.1 = n ∧ (n ≤ 1 → Dk.window T 0 8 = z512) ∧ (n = 0 → Dk.window T 8 8 = z512) ∧ (1 ≤ n → ptQ p = 0 ∧ Oc p.2.2.2.2 ∧ Dk.window T (reg n).toNat 8 = ptO p) ∧ (2 ≤ n → q.1 = (n : Int) - 1 ∧ ptQ q = 0 ∧ Oc q.2.2.2.2 ∧ Dk.window T (reg ((n + 1 : Nat) : Int)).toNat 8 = ptO q)
theorem inv0 : Inv 0 zrows zP zP := by
  refine ⟨serves0, by simp [zrows], rfl, fun _ => Dk.window_zeros 16 0 8 (by decide), fun _ => Dk.window_zeros 16 8 8 (by decide), fun h => by omega, fun h => by omega⟩
theorem st_len {T : List (List Int)} {q : Pt} : (stT T q).length = T.length := Dk.fill_length _ _
theorem reg_to (e : Int) : (reg e).toNat = 0 ∨ (reg e).toNat = 8 := by rcases reg_nat e with h | h <;> rw [h] <;> simp
theorem to_reg (e : Int) : ((reg e).toNat : Int) = reg e := by rcases reg_nat e with h | h <;> rw [h] <;> rfl
theorem inv_step {n : Nat} {T : List (List Int)} {p q r : Pt} (h : Inv n T p q) (hr : r.1 = ((n + 1 : Nat) : Int)) (hq : ptQ r = 0) (ho : Oc r.2.2.2.2) : Inv (n + 1) (stT T r) r p := by
  obtain ⟨h1, h2, h3, h4, h5, h6, h7⟩ := h
  refine ⟨h1.st ho, st_len.trans h2, hr, fun hn => ?_, fun hn => by omega, fun _ => ⟨hq, ho, ?_⟩, fun hn => ⟨by rw [h3]; omega, (h6 (by omega)).1, (h6 (by omega)).2.1, ?_⟩⟩
  · obtain rfl : n = 0 := by omega
    rw [← h4 (by omega)]
    exact win_st_far 0 (.inl rfl) (by rw [hr]; decide)
  · have := win_st h1 hq
    rwa [hr] at this
  · have hb : reg ((n + 1 + 1 : Nat) : Int) = reg n := by unfold reg; split <;> split <;> omega
    rw [hb, ← (h6 (by omega)).2.2]
    exact win_st_far _ (reg_to _) (by rw [to_reg, hr]; exact (reg_ne n).symm)
theorem inv_load0 {T : List (List Int)} {p q : Pt} (h : Inv 0 T p q) : ldE ⟨T, []⟩ = 21 ∧ ldV ⟨T, []⟩ = zP := by
  obtain ⟨h1, h2, h3, h4, h5, h6, h7⟩ := h
  obtain ⟨l1, l2⟩ := load_rows h1
  rw [l1, l2, h4 (by omega), h5 rfl]
  unfold ldK ldN
  rw [if_neg (by intro h; rcases h with h | h <;> exact z512_bad h), if_neg z512_bad, if_neg z512_bad]
  exact ⟨rfl, rfl⟩
theorem inv_load {n : Nat} {T : List (List Int)} {p q : Pt} (h : Inv n T p q) (hn : 1 ≤ n) : ldE ⟨T, []⟩ = 0 ∧ ldV ⟨T, []⟩ = p := by
  obtain ⟨h1, h2, h3, h4, h5, h6, h7⟩ := h
  obtain ⟨p1, p2, p3⟩ := h6 hn
  obtain ⟨b1, b2⟩ := back_pt p1 p2
  by_cases hn2 : 2 ≤ n
  · obtain ⟨q0, q1, q2, q3⟩ := h7 hn2
    obtain ⟨c1, c2⟩ := back_pt q1 q2
    have := ld_by h1 (reg_nat n) (reg_nat ((n + 1 : Nat) : Int)) (reg_ne n) p3 q3 b1 (fun _ => by rw [c2, b2, h3, q0]; omega)
    rwa [b2] at this
  · obtain rfl : n = 1 := by omega
    have := ld_by h1 (r := 8) (s := 0) (.inr rfl) (.inl rfl) (by decide) (A := ptO p) p3 (h4 (by omega)) b1 (fun e => absurd e z512_bad)
    rwa [b2] at this

theorem flat_cell (y : Int) (r : Nat) (hr : r < 64) : ∀ (ls : List (List Int)) (j : Nat) (l : List Int), Dk.all64 ls → ls[j]? = some l → (ls.set j (l.set r y)).flatten = ls.flatten.set (64 * j + r) y
  | [], j, l, _, h => by simp at h
  | x :: ls, 0, l, h, hl => by
    obtain rfl : x = l := by simpa using hl
    have hx := h x (List.mem_cons_self ..)
    rw [List.set_cons_zero, List.flatten_cons, List.flatten_cons, Nat.mul_zero, Nat.zero_add, List.set_append_left _ _ (by omega)]
  | x :: ls, j + 1, l, h, hl => by
    have hx := h x (List.mem_cons_self ..)
    have ih := flat_cell y r hr ls j l (fun z hz => h z (List.mem_cons_of_mem _ hz)) (by simpa using hl)
    rw [List.set_cons_succ, List.flatten_cons, List.flatten_cons, ih, List.set_append_right _ _ (by omega), hx, show 64 * (j + 1) + r - 64 = 64 * j + r by omega]
theorem win_cell {T : List (List Int)} (hT : Dk.all64 T) (s k : Nat) (hk : k < 512) (hs : s + 8 ≤ T.length) (y : Int) {l : List Int} (hl : T[s + k / 64]? = some l) : Dk.window (T.set (s + k / 64) (l.set (k % 64) y)) s 8 = (Dk.window T s 8).set k y ∧ (Dk.window T s 8).getD k 0 = l.getD (k % 64) 0 := by
  have hkd : k / 64 < 8 := by omega
  have hrow : ((T.drop s).take 8)[k / 64]? = some l := by rw [List.getElem?_take, if_pos hkd, List.getElem?_drop, hl]
  refine ⟨?_, ?_⟩
  · unfold Dk.window
    have := flat_cell y (k % 64) (by omega) ((T.drop s).take 8) (k / 64) l (Dk.all64_window hT s 8) hrow
    rw [show 64 * (k / 64) + k % 64 = k by omega] at this
    rw [← this]
    congr 1
    apply List.ext_getElem?
    intro j
    by_cases e : j = k / 64
    · subst e
      rw [List.getElem?_set_self (List.getElem?_eq_some_iff.1 hrow).1, List.getElem?_take, if_pos hkd, List.getElem?_drop, List.getElem?_set_self (by omega)]
    · rw [List.getElem?_set_ne (fun h => e h.symm), List.getElem?_take, List.getElem?_take]
      split
      · rw [List.getElem?_drop, List.getElem?_drop, List.getElem?_set_ne (by omega)]
      · rfl
  · unfold Dk.window
    rw [Dk.flatten_get _ (Dk.all64_window hT s 8)]
    simp only [List.getD, hrow, Option.getD_some]
theorem inv_spoil {n : Nat} {T : List (List Int)} {p q : Pt} (h : Inv n T p q) (hn : 2 ≤ n) (k : Nat) (hk : 2 ≤ k) (hk2 : k < 512) {l : List Int} (hl : T[(reg n).toNat + k / 64]? = some l) (y : Int) (hy : 0 ≤ y ∧ y ≤ 255) (hne : y ≠ l.getD (k % 64) 0) : ldE ⟨T.set ((reg n).toNat + k / 64) (l.set (k % 64) y), []⟩ = 0 ∧ ldV ⟨T.set ((reg n).toNat + k / 64) (l.set (k % 64) y), []⟩ = q := by
  obtain ⟨h1, h2, h3, h4, h5, h6, h7⟩ := h
  obtain ⟨p1, p2, p3⟩ := h6 (by omega)
  obtain ⟨q0, q1, q2, q3⟩ := h7 hn
  obtain ⟨c1, c2⟩ := back_pt q1 q2
  have hr := reg_to (n : Int)
  obtain ⟨w1, w2⟩ := win_cell h1.2.2.1 (reg n).toNat k hk2 (by omega) y hl
  rw [p3] at w1 w2
  have hne2 : y ≠ (ptO p).getD k 0 := by rw [w2]; exact hne
  obtain ⟨t1, t2⟩ := turn_pt p1 p2 k hk hk2 y hy hne2
  have hlm := List.mem_of_getElem? hl
  have hS : Serves (T.set ((reg n).toNat + k / 64) (l.set (k % 64) y)) := by
    refine ⟨by rw [List.length_set]; exact h1.1, by rw [List.length_set]; exact h1.2.1, fun z hz => ?_, fun z hz => ?_⟩
    · rcases List.mem_or_eq_of_mem_set hz with e | e
      · exact h1.2.2.1 z e
      · rw [e, List.length_set]; exact h1.2.2.1 l hlm
    · rcases List.mem_or_eq_of_mem_set hz with e | e
      · exact h1.2.2.2 z e
      · rw [e]; exact oc_set (h1.2.2.2 l hlm) _ hy
  have hd : Dk.window (T.set ((reg n).toNat + k / 64) (l.set (k % 64) y)) (reg ((n + 1 : Nat) : Int)).toNat 8 = ptO q := by
    rw [Dk.window_out _ _ _ _ _ (by have := reg_ne n; have a1 := to_reg n; have a2 := to_reg ((n + 1 : Nat) : Int); have := reg_to ((n + 1 : Nat) : Int); omega)]
    exact q3
  have := ld_by hS (reg_nat ((n + 1 : Nat) : Int)) (reg_nat n) (reg_ne n).symm hd w1 c1 (fun e => absurd e t1)
  rwa [c2] at this

/-- What Store tells on rows that serve. -/
theorem st_bad {T : List (List Int)} (h : Serves T) {q : Pt} (hq : ptQ q ≠ 0) : stE ⟨T, []⟩ q = ptQ q := by
  unfold stE
  rw [if_neg (by rw [h.cd [] h.chk]; simp), if_pos hq]
theorem put_serves {T : List (List Int)} (h : Serves T) {q : Pt} (hq : ptQ q = 0) (oq : Oc q.2.2.2.2) : cdE ⟨T, []⟩ = 0 ∧ Dk.paerr ⟨T, []⟩ (reg q.1) (ptO q) = 0 ∧ Dk.chk (putS ⟨T, []⟩ q) = true := by
  obtain ⟨a, b, c, -⟩ := past_rows h.chk h.1 (reg q.1) (reg_nat q.1) (ptO q) (ptO_len hq) (ptO_oc oq)
  refine ⟨h.cd [] h.chk, a, ?_⟩
  unfold putS
  rw [b]
  exact c

theorem box_type {w : World} {B : Nat} {t e : TypeId} {cs cs' : Array Value} {fr : Nat × Nat} (h : Box w B t cs) (h' : w.heap[B]? = some (.cells cs' e fr)) : t = e := by
  rw [show w.heap[B]? = _ from h] at h'
  cases h'
  rfl
/-- One cell of a row. -/
theorem grid_cell {base : Nat} {w : World} {a : Option Addr} {n c : Nat} {ls : List (List Int)} (h : Dk.Grid base w (.slice a n c) ls) (hn : ls.length = 16) (i : Nat) (l : List Int) (hi : ls[i]? = some l) :
    ∃ g0 g, a = some ⟨g0, 0, none⟩ ∧ n = 16 ∧ w.cell? ⟨g0, i, none⟩ = some (.slice (some ⟨g, 0, none⟩) 64 64) ∧ base ≤ g ∧ (∀ j x, l[j]? = some x → w.cell? ⟨g, j, none⟩ = some (.int .u8 x)) ∧ (∀ j, w.frozen? ⟨g, j, none⟩ = false) ∧ (∀ t cs, Box w g t cs → t = 5) ∧ ∀ j y, 0 ≤ y ∧ y ≤ 255 → Dk.Grid base (w.setCell ⟨g, j, none⟩ (.int .u8 y)) (.slice a n c) (ls.set i (l.set j y)) := by
  obtain ⟨bs, h1, h2, h3⟩ := h
  obtain ⟨g, hg, hb, hl, ho, hc⟩ := h3.get hi
  obtain ⟨g0, cap, hv, _, _⟩ := h1.form (by omega)
  obtain ⟨rfl, rfl, rfl⟩ := Value.slice.inj hv
  refine ⟨g0, g, rfl, by omega, ?_, hb, fun j x hx => ?_, fun j => ?_, fun t cs hB => box_type hB hc, fun j y hy => ?_⟩
  · rw [h1.cellAt i (by rw [List.getElem?_eq_some_iff] at hi; rw [Nat.mul_one]; exact hi.1), List.getElem?_map, hg]
    rfl
  · simp [World.cell?, hc, hx]
  · simp [World.frozen?, hc]
  · refine Dk.GridAt.grid (bs := bs) (Dk.GridAt.put (W := w) ⟨h1, h2, h3⟩ hg (by rw [List.length_set]; exact hl) (oc_set ho j hy) ?_ ?_)
    · exact grown_set _ _ _ _
    · simp [World.setCell, Array.getElem?_modify, hc, List.map_set]

theorem grid_below {base : Nat} {w U : World} {v : Value} {ls : List (List Int)} (h : Dk.Grid base w v ls) (hb : Below w.heap.size w U) : Dk.Grid base U v ls := h.same (Dk.Same.of_below hb)
theorem get_at {α : Type} {l : List α} {k : Nat} (h : k < l.length) : ∃ x, l[k]? = some x := ⟨_, List.getElem?_eq_getElem h⟩
/-- A point stored on rows that serve, or refused. -/
theorem store_turn {b n1 : Nat} {T : List (List Int)} {a1 : Option Addr} {c1 : Nat} {e s v c : Int} {da : Option Addr} {dl dc : Nat} {d : List Int} {w : World} (hG : Dk.Grid b w (.slice a1 16 c1) T) (hS : Serves T) (h16 : T.length = 16) (hd : dl = d.length) (hD : Arg n1 w (.slice da dl dc) d) :
    Calls Tryd.prog 13 #[.agg #[.slice a1 16 c1, .slice none 0 0], .agg #[.int .i64 e, .int .i64 s, .int .i64 v, .int .i64 c, .slice da dl dc]] w fun r w' => ∃ z1 k1 z2 z3 k2 z4, r = .returned (.tuple #[.agg #[.slice z1 k1 z2, .slice z3 k2 z4], .int .i64 (ptQ (e, s, v, c, d))]) ∧ (ptQ (e, s, v, c, d) = 0 → k1 = 16 ∧ z3 = none ∧ k2 = 0 ∧ z4 = 0 ∧ Dk.Grid w.heap.size w' (.slice z1 16 z2) (stT T (e, s, v, c, d))) ∧ Below w.heap.size w w' := by
  by_cases hq : ptQ (e, s, v, c, d) = 0
  · obtain ⟨p1, p2, p3⟩ := put_serves hS hq hD.oct
    refine (storeg_any hd (Dk.Grid.disk hG) hD p1 hq p2 p3).mono ?_
    rintro r w' ⟨vs, rfl, hg, hb⟩
    rw [(store_rows hS hq hD.oct).2] at hg
    have hg : Dk.Grid w.heap.size w' vs (stT T (e, s, v, c, d)) := hg
    obtain ⟨x1, y1, x2, y2, heq, -, -⟩ := (Dk.Grid.disk hg).shape
    simp only [Value.agg.injEq, Array.mk.injEq, List.cons.injEq, and_true] at heq
    obtain ⟨rfl, -⟩ := heq
    rw [st_len, h16] at hg ⊢
    rw [hq]
    exact ⟨x1, 16, y1, none, 0, 0, rfl, fun _ => ⟨rfl, rfl, rfl, rfl, hg⟩, hb⟩
  · refine (store_any hd (Dk.Grid.disk hG) hD).mono ?_
    rintro r w' ⟨v', rfl, hd', hb⟩
    obtain ⟨x1, y1, x2, y2, rfl, -, -⟩ := hd'.shape
    rw [st_bad hS hq]
    exact ⟨x1, _, y1, x2, _, y2, rfl, fun h => absurd h hq, hb⟩
/-- The walk's three variables: the disk, the last point, the one before. -/
structure TI (w : World) (N M n : Nat) (T : List (List Int)) (a1 : Option Addr) (c1 : Nat) (p : Pt) (pa : Option Addr) (pl pc : Nat) (q : Pt) (qa : Option Addr) (ql qc : Nat) (U : World) : Prop where
  bel : Below w.heap.size w U
  hN : w.heap.size ≤ N ∧ N < M ∧ M + 1 < U.heap.size
  d : Box U N 40 #[.slice a1 16 c1, .slice none 0 0]
  g : Dk.Grid w.heap.size U (.slice a1 16 c1) T
  l : Box U M 24 #[.int .i64 p.1, .int .i64 p.2.1, .int .i64 p.2.2.1, .int .i64 p.2.2.2.1, .slice pa pl pc]
  o : Box U (M + 1) 24 #[.int .i64 q.1, .int .i64 q.2.1, .int .i64 q.2.2.1, .int .i64 q.2.2.2.1, .slice qa ql qc]
  la : pl = p.2.2.2.2.length ∧ Arg 0 w (.slice pa pl pc) p.2.2.2.2
  oa : ql = q.2.2.2.2.length ∧ Arg 0 w (.slice qa ql qc) q.2.2.2.2
  inv : Inv n T p q
theorem TI.below {w : World} {N M n : Nat} {T : List (List Int)} {a1 : Option Addr} {c1 : Nat} {p : Pt} {pa : Option Addr} {pl pc : Nat} {q : Pt} {qa : Option Addr} {ql qc : Nat} {U V : World} (h : TI w N M n T a1 c1 p pa pl pc q qa ql qc U) (hb : Below U.heap.size U V) : TI w N M n T a1 c1 p pa pl pc q qa ql qc V :=
  ⟨below_any h.bel hb, ⟨h.hN.1, h.hN.2.1, Nat.lt_of_lt_of_le h.hN.2.2 hb.size⟩, h.d.below hb h.d.lt, grid_below h.g hb, h.l.below hb h.l.lt, h.o.below hb h.o.lt, h.la, h.oa, h.inv⟩
theorem cell_under {w U : World} {b o : Nat} {v : Value} (hb : Below w.heap.size w U) (h : w.cell? ⟨b, o, none⟩ = some v) : U.cell? ⟨b, o, none⟩ = some v := by
  have hlt : b < w.heap.size := by
    by_cases e : b < w.heap.size
    · exact e
    · simp [World.cell?, Array.getElem?_eq_none (Nat.le_of_not_lt e)] at h
  simp only [World.cell?] at h ⊢
  rw [hb.block b hlt]
  exact h
/-- Rows stay where another block is written: they lie in blocks of two types only. -/
theorem grid_beside {base : Nat} {w : World} {a : Option Addr} {n c : Nat} {ls : List (List Int)} (h : Dk.Grid base w (.slice a n c) ls) (hn : ls.length = 16) {B : Nat} {t : TypeId} {cs : Array Value} (hB : Box w B t cs) (h5 : t ≠ 5) (h26 : t ≠ 22) (i : Nat) (x : Value) : Dk.Grid base (w.setCell ⟨B, i, none⟩ x) (.slice a n c) ls := by
  obtain ⟨bs, h1, h2, h3⟩ := h
  have hk : ∀ k, k ≠ B → (w.setCell ⟨B, i, none⟩ x).heap[k]? = w.heap[k]? := fun k hk => Below.heap_setCell _ _ _ _ hk
  refine ⟨bs, ⟨h1.1, ?_⟩, h2, h3.mono fun b l h => ⟨h.1, h.2.1, h.2.2.1, ?_⟩⟩
  · rcases h1.2 with h | ⟨g, cap, cur, hv, hb, hg, r⟩
    · exact .inl h
    · refine .inr ⟨g, cap, cur, hv, hb, ?_, r⟩
      rw [hk g (fun e => by subst e; exact h26 (box_type hB hg))]
      exact hg
  · rw [hk b (fun e => by subst e; exact h5 (box_type hB h.2.2.2))]
    exact h.2.2.2
theorem grid_set5 {base : Nat} {w : World} {a : Option Addr} {n c : Nat} {ls : List (List Int)} (h : Dk.Grid base w (.slice a n c) ls) (hn : ls.length = 16) {B : Nat} {t : TypeId} {v0 v1 v2 v3 v4 : Value} (hB : Box w B t #[v0, v1, v2, v3, v4]) (h5 : t ≠ 5) (h26 : t ≠ 22) (u0 u1 u2 u3 u4 : Value) : Dk.Grid base (set5 w B u0 u1 u2 u3 u4) (.slice a n c) ls := by
  have b1 := hB.set 0 u0
  have b2 := b1.set 1 u1
  have b3 := b2.set 2 u2
  have b4 := b3.set 3 u3
  exact grid_beside (grid_beside (grid_beside (grid_beside (grid_beside h hn hB h5 h26 0 u0) hn b1 h5 h26 1 u1) hn b2 h5 h26 2 u2) hn b3 h5 h26 3 u3) hn b4 h5 h26 4 u4
theorem wrap_small (z : Int) (h0 : 0 ≤ z) (h1 : z ≤ 1000000) : wrap64 z = z := by unfold wrap64; omega
end Go.Proofs.YthlfgpnabcplnaaDoor.W
