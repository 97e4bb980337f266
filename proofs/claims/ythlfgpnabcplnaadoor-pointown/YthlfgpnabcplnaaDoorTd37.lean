import Derived.Test.YthlfgpnabcplnaaDoorTd36
import Derived.Test.YthlfgpnabcplnaaDoorTd33
/-
  A point is read back from its octets; what stands on a disk's regions behind what was put, flushed, or kept by a crash.
-/
namespace Go.Proofs.YthlfgpnabcplnaaDoor.W
open Go.RowKit
set_option linter.unusedVariables false

theorem tlen_two {n : Nat} {l : List Int} (h : n ≤ 65535) : tlen (two n ++ l) = n := by
  unfold tlen two
  simp only [List.cons_append, List.nil_append, List.getD_cons_zero, List.getD_cons_succ]
  omega
theorem ptO_eq {q : Pt} (h : ptQ q = 0) : ptO q = two (encO (ptRec q)).length ++ (encO (ptRec q) ++ List.replicate (512 - (ptJ q).length) 0) := by
  unfold ptO
  rw [if_pos h, (ptJ_eq h).2, List.append_assoc]
theorem ints_pt {q : Pt} (h : ptQ q = 0) : ∀ x ∈ (ptRec q).2.1, I64 x := fun x hx => by
  obtain ⟨h1, h2, h3, h4, _⟩ := ptE_ok h
  simp only [ptRec, List.mem_cons, List.not_mem_nil, or_false] at hx
  rcases hx with rfl | rfl | rfl | rfl
  · exact in_I64 h1
  · exact in_I64 h2
  · exact in_I64 h3
  · exact in_I64 h4
theorem parts_pt {q : Pt} (h : ptQ q = 0) : tlen (ptO q) = (encO (ptRec q)).length ∧ bod (ptO q) = encO (ptRec q) ∧ rst (ptO q) = List.replicate (512 - (ptJ q).length) 0 := by
  have hl := rec_len h
  have h1 : tlen (ptO q) = (encO (ptRec q)).length := by rw [ptO_eq h]; exact tlen_two (by omega)
  have h2 : (ptO q).drop 2 = encO (ptRec q) ++ List.replicate (512 - (ptJ q).length) 0 := by rw [ptO_eq h]; rfl
  refine ⟨h1, ?_, ?_⟩
  · unfold bod; rw [h1, h2]; exact List.take_left' rfl
  · unfold rst; rw [h1, h2]; exact List.drop_left' rfl
theorem zeros_all (n : Nat) : (List.replicate n (0 : Int)).all (fun x => decide (x = 0)) = true := by
  rw [List.all_eq_true]
  intro x hx
  rw [(List.mem_replicate.1 hx).2]
  rfl
theorem back_pt {q : Pt} (h : ptQ q = 0) (ho : Oc q.2.2.2.2) : dptE (ptO q) = 0 ∧ dptV (ptO q) = q := by
  obtain ⟨h1, h2, h3⟩ := parts_pt h
  have hl := rec_len h
  obtain ⟨d1, d2⟩ := dec_enc (chk_pt h) (ints_pt h) (fun t ht => by
    simp only [ptRec, List.mem_singleton] at ht
    rw [ht]; exact ho)
  have hr : rdpE (bod (ptO q)) = 0 := by
    rw [h2]
    unfold rdpE
    rw [if_neg (by rw [d1]; simp), d2, if_neg (by simp [ptRec]), if_neg (by simp [ptRec])]
    exact h
  have he : dptE (ptO q) = 0 := by
    unfold dptE
    rw [if_neg (by rw [ptO_len h]; simp), h1, if_neg (by omega), if_neg (by rw [hr]; simp), h3, if_pos (zeros_all _)]
  refine ⟨he, ?_⟩
  unfold dptV
  rw [if_pos he, h2]
  unfold rdpV
  rw [if_pos ⟨d1, by rw [d2]; rfl, by rw [d2]; rfl, by rw [d2]; rfl⟩, d2]
  rfl

/-! Rows of a disk. -/

/-- Eight rows that stand for 512 octets. -/
def rows8 (sn : Nat) (d : List Int) : List (Nat × List Int) := (List.range 8).map fun i => (sn + i, Dk.pad (Dk.piece d i))
theorem piece_full (d : List Int) (h : d.length = 512) (i : Nat) (hi : i < 8) : Dk.pad (Dk.piece d i) = Dk.piece d i := by
  refine Dk.pad_full _ ?_
  unfold Dk.piece
  rw [List.length_take, List.length_drop]
  omega
theorem pieces_flat (d : List Int) (h : d.length = 512) : ((List.range 8).map fun i => Dk.pad (Dk.piece d i)).flatten = d := by
  have e : (List.range 8).map (fun i => Dk.pad (Dk.piece d i)) = (List.range 8).map (fun i => Dk.piece d i) := List.map_congr_left fun i hi => piece_full d h i (List.mem_range.1 hi)
  rw [e]
  have hs : ∀ k : Nat, (d.drop k).take 64 ++ d.drop (k + 64) = d.drop k := fun k => by
    have := List.take_append_drop 64 (d.drop k)
    rwa [List.drop_drop] at this
  have h8 : (d.drop 448).take 64 = d.drop 448 := List.take_of_length_le (by rw [List.length_drop]; omega)
  show (Dk.piece d 0 ++ (Dk.piece d 1 ++ (Dk.piece d 2 ++ (Dk.piece d 3 ++ (Dk.piece d 4 ++ (Dk.piece d 5 ++ (Dk.piece d 6 ++ (Dk.piece d 7 ++ [])))))))) = d
  unfold Dk.piece
  simp only [Nat.mul_zero, Nat.mul_one, Nat.reduceMul, List.append_nil]
  rw [h8, hs 384, hs 320, hs 256, hs 192, hs 128, hs 64]
  exact hs 0
theorem get_rows8 (T : List (List Int)) (sn : Nat) (d : List Int) (j : Nat) (hj : j < T.length) : (Dk.fill T (rows8 sn d))[j]? = if sn ≤ j ∧ j < sn + 8 then some (Dk.pad (Dk.piece d (j - sn))) else T[j]? :=
  Dk.fill_set_get T _ j hj (fun i => Dk.pad (Dk.piece d i)) sn 8 rfl
theorem win_new (T : List (List Int)) (sn : Nat) (d : List Int) (hd : d.length = 512) (hT : sn + 8 ≤ T.length) : Dk.window (Dk.fill T (rows8 sn d)) sn 8 = d := by
  unfold Dk.window
  have : ((Dk.fill T (rows8 sn d)).drop sn).take 8 = (List.range 8).map fun i => Dk.pad (Dk.piece d i) := by
    refine List.ext_getElem? fun i => ?_
    rw [List.getElem?_take, List.getElem?_map]
    by_cases hi : i < 8
    · rw [if_pos hi, List.getElem?_drop, get_rows8 T sn d _ (by omega), if_pos (by omega), List.getElem?_range hi, Nat.add_sub_cancel_left]
      rfl
    · rw [if_neg hi, List.getElem?_eq_none (by simpa using hi)]
      rfl
  rw [this, pieces_flat d hd]
/-- Rows elsewhere change nothing of a window. -/
theorem win_far (sm : Nat) : ∀ (ps : List (Nat × List Int)) (T : List (List Int)), (∀ p ∈ ps, p.1 < sm ∨ sm + 8 ≤ p.1) → Dk.window (Dk.fill T ps) sm 8 = Dk.window T sm 8
  | [], T, _ => rfl
  | p :: ps, T, h => by
    have e : Dk.fill T (p :: ps) = Dk.fill (T.set p.1 p.2) ps := rfl
    rw [e, win_far sm ps _ (fun x hx => h x (List.mem_cons_of_mem _ hx)), Dk.window_out T sm 8 p.1 p.2 (h p (List.mem_cons_self ..))]

theorem chk_rows {T : List (List Int)} (h1 : 1 ≤ T.length) (h2 : T.length ≤ 2048) (h : Dk.all64 T) : Dk.chk ⟨T, []⟩ = true := by
  simp only [Dk.chk, Bool.and_eq_true, decide_eq_true_eq, List.all_eq_true]
  exact ⟨⟨⟨⟨h1, h2⟩, by simp⟩, fun l hl => by simpa [Dk.okSec] using h l hl⟩, fun q hq => by cases hq⟩
theorem full_rows {T : List (List Int)} (hc : Dk.chk ⟨T, []⟩ = true) : Dk.full ⟨T, []⟩ = T := by
  have h := (Dk.stand_again hc (fun _ => true)).2
  rw [Dk.stand_good hc] at h
  injection h
theorem gout_rows {T : List (List Int)} (hc : Dk.chk ⟨T, []⟩ = true) (s : Int) (hs : s = 0 ∨ s = 8) (h16 : 16 ≤ T.length) : Dk.gout ⟨T, []⟩ s 8 = Dk.window T s.toNat 8 := by
  have hr : Dk.reach T.length s 8 = true := by unfold Dk.reach; rcases hs with rfl | rfl <;> simp <;> omega
  have he : Dk.gerr ⟨T, []⟩ s 8 = 0 := by
    unfold Dk.gerr
    rw [if_neg (by rw [hc]; simp), if_neg (by rw [hr]; simp)]
  unfold Dk.gout
  rw [if_pos he, full_rows hc]
  rfl
theorem reg_nat (e : Int) : reg e = 0 ∨ reg e = 8 := by unfold reg; split <;> simp
/-- What is put behind rows that stand. -/
theorem past_rows {T : List (List Int)} (hc : Dk.chk ⟨T, []⟩ = true) (h16 : 16 ≤ T.length) (s : Int) (hs : s = 0 ∨ s = 8) (d : List Int) (hd : d.length = 512) (ho : Oc d) :
    Dk.paerr ⟨T, []⟩ s d = 0 ∧ Dk.past ⟨T, []⟩ s d = ⟨T, Dk.pieces s d⟩ ∧ Dk.chk ⟨T, Dk.pieces s d⟩ = true ∧ (∀ lands, Dk.stand ⟨T, Dk.pieces s d⟩ lands = ⟨Dk.fill T (Dk.landed ⟨T, Dk.pieces s d⟩ lands 8), []⟩) := by
  have hn : Dk.need d = 8 := by unfold Dk.need; omega
  have hr : Dk.reach T.length s (Dk.need d) = true := by rw [hn]; unfold Dk.reach; rcases hs with rfl | rfl <;> simp <;> omega
  obtain ⟨k1, k2, -, k4, -, -⟩ := Dk.chk_facts hc
  have hp : Dk.paerr ⟨T, []⟩ s d = 0 := by
    unfold Dk.paerr
    rw [if_neg (by rw [hc]; simp), if_neg (by rw [hr]; simp), if_neg (by rw [hn]; simp)]
  have hq : Dk.past ⟨T, []⟩ s d = ⟨T, Dk.pieces s d⟩ := by
    unfold Dk.past
    rw [if_pos hp]
    rfl
  have hk : Dk.chk ⟨T, Dk.pieces s d⟩ = true := by
    simp only [Dk.chk, Bool.and_eq_true, decide_eq_true_eq, List.all_eq_true]
    refine ⟨⟨⟨⟨k1, k2⟩, by rw [Dk.pieces_length, hn]; omega⟩, fun l hl => by simpa [Dk.okSec] using k4 l hl⟩, fun q hq => ?_⟩
    unfold Dk.pieces at hq
    rw [hn] at hq
    obtain ⟨i, hi, rfl⟩ := List.mem_map.1 hq
    have hi := List.mem_range.1 hi
    have hl := Dk.pad_length (Dk.piece d i) (Dk.piece_le d i)
    unfold Dk.okWrite
    simp only [hl, Bool.and_eq_true, decide_eq_true_eq]
    rcases hs with rfl | rfl
    · exact ⟨⟨by omega, by omega⟩, rfl⟩
    · exact ⟨⟨by omega, by omega⟩, rfl⟩
  refine ⟨hp, hq, hk, fun lands => ?_⟩
  rw [Dk.stand_good hk]
  have := Dk.fill_all ⟨T, Dk.pieces s d⟩ lands
  simp only at this ⊢
  rw [this]
  have hl : (Dk.pieces s d).length = 8 := by rw [Dk.pieces_length, hn]
  rw [hl]
theorem write_rows {T : List (List Int)} {s : Int} (hs : s = 0 ∨ s = 8) (d : List Int) (hd : d.length = 512) (i : Nat) (hi : i < 8) : Dk.write ⟨T, Dk.pieces s d⟩ i = (s.toNat + i, Dk.pad (Dk.piece d i)) := by
  have hn : Dk.need d = 8 := by unfold Dk.need; omega
  unfold Dk.write
  simp only
  rw [Dk.pieces_get s d i (by rw [hn]; exact hi)]
  rcases hs with rfl | rfl
  · simp only [Prod.mk.injEq, and_true]; omega
  · simp only [Prod.mk.injEq, and_true]; omega
theorem landed_rows {T : List (List Int)} {s : Int} (hs : s = 0 ∨ s = 8) (d : List Int) (hd : d.length = 512) : Dk.landed ⟨T, Dk.pieces s d⟩ (fun _ => true) 8 = rows8 s.toNat d := by
  rw [Dk.landed_all]
  unfold rows8
  exact List.map_congr_left fun i hi => write_rows hs d hd i (List.mem_range.1 hi)
theorem landed_near {T : List (List Int)} {s : Int} (hs : s = 0 ∨ s = 8) (d : List Int) (hd : d.length = 512) (lands : Nat → Bool) : ∀ k, k ≤ 8 → ∀ p ∈ Dk.landed ⟨T, Dk.pieces s d⟩ lands k, s.toNat ≤ p.1 ∧ p.1 < s.toNat + 8 ∧ p.2.length = 64
  | 0, _, p, hp => by cases hp
  | k + 1, hk, p, hp => by
    rw [Dk.landed] at hp
    rcases List.mem_append.1 hp with h | h
    · exact landed_near hs d hd lands k (by omega) p h
    · split at h
      · obtain rfl := List.mem_singleton.1 h
        rw [write_rows hs d hd k (by omega)]
        exact ⟨by omega, by simp only; omega, Dk.pad_length _ (Dk.piece_le d k)⟩
      · cases h

/-- Rows of which a disk that serves consists. -/
def Serves (T : List (List Int)) : Prop := 16 ≤ T.length ∧ T.length ≤ 2048 ∧ Dk.all64 T ∧ ∀ l ∈ T, Oc l
theorem Serves.chk {T : List (List Int)} (h : Serves T) : Dk.chk ⟨T, []⟩ = true := chk_rows (by have := h.1; omega) h.2.1 h.2.2.1
theorem Serves.cd {T : List (List Int)} (h : Serves T) (C : List (Int × List Int)) (hc : Dk.chk ⟨T, C⟩ = true) : cdE ⟨T, C⟩ = 0 := by
  unfold cdE Dk.cerr
  rw [hc]
  simp only [if_true]
  rw [if_neg (by have := h.1; omega)]
theorem Serves.fill {T : List (List Int)} (h : Serves T) (ps : List (Nat × List Int)) (hp : ∀ p ∈ ps, p.2.length = 64 ∧ Oc p.2) : Serves (Dk.fill T ps) :=
  ⟨by rw [Dk.fill_length]; exact h.1, by rw [Dk.fill_length]; exact h.2.1, Dk.all64_fill _ _ h.2.2.1 fun p hx => (hp p hx).1, Dk.oct_fill ps T h.2.2.2 fun p hx => (hp p hx).2⟩
/-- The rows behind a point stored. -/
def stT (T : List (List Int)) (q : Pt) : List (List Int) := Dk.fill T (rows8 (reg q.1).toNat (ptO q))
theorem ptO_oc {q : Pt} (ho : Oc q.2.2.2.2) : Oc (ptO q) := by
  unfold ptO
  split
  · rename_i h
    rw [(ptJ_eq h).2]
    refine oc_append.2 ⟨oc_append.2 ⟨two_oc _ (by have := rec_len h; omega), ?_⟩, rep_oc _⟩
    unfold encO
    rw [if_pos (chk_pt h)]
    exact C.sealed_oct _ (laidR_oc (chk_pt h) (fun t ht => by
      simp only [ptRec, List.mem_singleton] at ht
      rw [ht]; exact ho))
  · exact oc_nil
theorem rows8_in {sn : Nat} {d : List Int} (ho : Oc d) : ∀ p ∈ rows8 sn d, p.2.length = 64 ∧ Oc p.2 := fun p hp => by
  obtain ⟨i, _, rfl⟩ := List.mem_map.1 hp
  exact ⟨Dk.pad_length _ (Dk.piece_le d i), Dk.pad_oct (Dk.piece_oct ho i)⟩
theorem Serves.st {T : List (List Int)} (h : Serves T) {q : Pt} (ho : Oc q.2.2.2.2) : Serves (stT T q) := h.fill _ (rows8_in (ptO_oc ho))
theorem store_rows {T : List (List Int)} (h : Serves T) {q : Pt} (hq : ptQ q = 0) (ho : Oc q.2.2.2.2) : stE ⟨T, []⟩ q = 0 ∧ stS ⟨T, []⟩ q = ⟨stT T q, []⟩ := by
  have hd := ptO_len hq
  obtain ⟨h1, h2, h3, h4⟩ := past_rows h.chk h.1 (reg q.1) (reg_nat q.1) (ptO q) hd (ptO_oc ho)
  have hc := h.cd [] h.chk
  refine ⟨?_, ?_⟩
  · unfold stE putS
    rw [if_neg (by rw [hc]; simp), if_neg (by rw [hq]; simp), if_neg (by rw [h1]; simp), h2]
    unfold Dk.cerr
    rw [h3]
    rfl
  · unfold stS putS
    rw [if_pos ⟨hc, hq, h1⟩, h2, h4, landed_rows (reg_nat q.1) (ptO q) hd]
    rfl
/-- What is loaded of rows. -/
theorem load_rows {T : List (List Int)} (h : Serves T) : ldE ⟨T, []⟩ = ldK (Dk.window T 0 8) (Dk.window T 8 8) ∧ ldV ⟨T, []⟩ = ldN (Dk.window T 0 8) (Dk.window T 8 8) := by
  have hc := h.cd [] h.chk
  unfold ldE ldV
  rw [if_neg (by rw [hc]; simp), if_neg (by rw [hc]; simp), gout_rows h.chk 0 (.inl rfl) h.1, gout_rows h.chk 8 (.inr rfl) h.1]
  exact ⟨rfl, rfl⟩
theorem win_st {T : List (List Int)} (h : Serves T) {q : Pt} (hq : ptQ q = 0) : Dk.window (stT T q) (reg q.1).toNat 8 = ptO q := win_new T _ _ (ptO_len hq) (by have := h.1; rcases reg_nat q.1 with e | e <;> rw [e] <;> simp <;> omega)
theorem win_st_far {T : List (List Int)} {q : Pt} (sm : Nat) (hs : sm = 0 ∨ sm = 8) (hn : (sm : Int) ≠ reg q.1) : Dk.window (stT T q) sm 8 = Dk.window T sm 8 := by
  refine win_far sm _ T fun p hp => ?_
  obtain ⟨i, hi, rfl⟩ := List.mem_map.1 hp
  have hi := List.mem_range.1 hi
  simp only
  rcases reg_nat q.1 with e | e <;> rw [e] at hn ⊢ <;> rcases hs with rfl | rfl <;> simp at hn ⊢ <;> omega
theorem new_serves (n : Nat) (h1 : 16 ≤ n) (h2 : n ≤ 2048) : Serves (List.replicate n Dk.zeros) :=
  ⟨by simpa using h1, by simpa using h2, Dk.all64_zeros n, fun l hl => by rw [(List.mem_replicate.1 hl).2]; exact Dk.zeros_oct⟩

end Go.Proofs.YthlfgpnabcplnaaDoor.W

/-
  The laws' small functions on points: num, of, same.
-/
namespace Go.Proofs.YthlfgpnabcplnaaDoor.W
open Go.RowKit
set_option linter.unusedVariables false

theorem fits_by {l : List Int} (h : bytesS.fits l) : l.length ≤ 140737488351232 := by
  have b5 : Tryd.prog.bytesOf 5 = 1 := by kernel_rfl
  have h5 : l.length * Tryd.prog.bytesOf 5 ≤ 140737488351232 := h
  rwa [b5, Nat.mul_one] at h5
theorem fits_pt {q : Pt} (h : ptF.fits q) : q.2.2.2.2.length ≤ 140737488351232 := by
  obtain ⟨_, _, _, _, h6⟩ := h
  exact fits_by h6

set_option maxHeartbeats 400000 in
theorem num17 (x : Int) (w : World) : Calls Tryd.prog 9 #[.int .i64 x] w fun e w' => e = .returned (.int .i64 x) ∧ w = w' := by
  go_enter Tryd.func9, Tryd.ntmps9
  go_wp2
  go_ret
  exact ⟨rfl, rfl⟩
theorem own_set5 {n B : Nat} {w : World} {v : Value} {l : List Int} {t : TypeId} {cs : Array Value} (h : Own1 n w v l) (hB : Box w B t cs) (hid : t ∉ bytesS.ids) (u0 u1 u2 u3 u4 : Value) : Own1 n (set5 w B u0 u1 u2 u3 u4) v l :=
  bytesS.ogrown (bytesS.ogrown (bytesS.ogrown (bytesS.ogrown (bytesS.ogrown h (grown_set w B 0 u0) (hB.clear hid)) (grown_set _ B 1 u1) ((hB.set 0 u0).clear hid)) (grown_set _ B 2 u2) (((hB.set 0 u0).set 1 u1).clear hid)) (grown_set _ B 3 u3) ((((hB.set 0 u0).set 1 u1).set 2 u2).clear hid)) (grown_set _ B 4 u4) (((((hB.set 0 u0).set 1 u1).set 2 u2).set 3 u3).clear hid)

set_option maxRecDepth 100000 in
set_option maxHeartbeats 4000000 in
theorem of17 {n1 : Nat} {e s v c : Int} {da : Option Addr} {dl dc : Nat} {d : List Int} (hd : dl = d.length) (hs : d.length ≤ 140737488355328) {w : World} (hD : Arg n1 w (.slice da dl dc) d) :
    Calls Tryd.prog 8 #[.agg #[.int .i64 e, .int .i64 s, .int .i64 v, .int .i64 c, .slice da dl dc]] w fun r w' => (∃ a z, r = .returned (.agg #[.int .i64 e, .int .i64 s, .int .i64 v, .int .i64 c, .slice a dl z]) ∧ Own1 w.heap.size w' (.slice a dl z) d) ∧ Below w.heap.size w w' := by
  obtain ⟨W1, hW1⟩ : ∃ W, W = (w.alloc (.cells #[.int .i64 e, .int .i64 s, .int .i64 v, .int .i64 c, .slice da dl dc] 24)).alloc (.cells #[.int .i64 0, .int .i64 0, .int .i64 0, .int .i64 0, .slice none 0 0] 29) := ⟨_, rfl⟩
  have hb1 : Below w.heap.size w W1 := by rw [hW1]; exact ((Below.refl _ w).alloc (Nat.le_refl _) _).alloc (by simp) _
  have hBp : Box W1 w.heap.size 24 #[.int .i64 e, .int .i64 s, .int .i64 v, .int .i64 c, .slice da dl dc] := by rw [hW1]; exact (Box.new _ _ _).alloc _
  have hBr : Box W1 (w.heap.size + 1) 29 #[.int .i64 0, .int .i64 0, .int .i64 0, .int .i64 0, .slice none 0 0] := by
    rw [hW1]
    have := Box.new (w.alloc (.cells #[.int .i64 e, .int .i64 s, .int .i64 v, .int .i64 c, .slice da dl dc] 24)) 29 #[.int .i64 0, .int .i64 0, .int .i64 0, .int .i64 0, .slice none 0 0]
    rwa [World.size_alloc] at this
  have HB : Hid (Below w.heap.size w W1 ∧ Box W1 w.heap.size 24 #[.int .i64 e, .int .i64 s, .int .i64 v, .int .i64 c, .slice da dl dc] ∧ Box W1 (w.heap.size + 1) 29 #[.int .i64 0, .int .i64 0, .int .i64 0, .int .i64 0, .slice none 0 0] ∧ dl = d.length ∧ Arg n1 w (.slice da dl dc) d ∧ d.length ≤ 140737488355328) := ⟨hb1, hBp, hBr, hd, hD, hs⟩
  have HS : Hid (∀ U, Below W1.heap.size W1 U → U.cell? ⟨w.heap.size, 0, none⟩ = some (.int .i64 e) ∧ U.cell? ⟨w.heap.size, 1, none⟩ = some (.int .i64 s) ∧ U.cell? ⟨w.heap.size, 2, none⟩ = some (.int .i64 v) ∧ U.cell? ⟨w.heap.size, 3, none⟩ = some (.int .i64 c) ∧ U.cell? ⟨w.heap.size, 4, none⟩ = some (.slice da dl dc)) := fun U hU => (box5 (hBp.below hU hBp.lt)).1
  clear hb1 hBp hBr hd hD hs
  go_enter Tryd.func8, Tryd.ntmps8
  go_upto_region 1 with fail
  rw [← hW1]
  clear hW1
  obtain ⟨X0, hX0⟩ : ∃ Z, Z = W1.drew := ⟨_, rfl⟩
  have hbX : Below W1.heap.size W1 X0 := by rw [hX0]; exact (Below.refl _ W1).drew
  refine AnyBut.begin (fun U => U.cell? ⟨w.heap.size, 0, none⟩ = some (.int .i64 e) ∧ U.cell? ⟨w.heap.size, 1, none⟩ = some (.int .i64 s) ∧ U.cell? ⟨w.heap.size, 2, none⟩ = some (.int .i64 v) ∧ U.cell? ⟨w.heap.size, 3, none⟩ = some (.int .i64 c) ∧ U.cell? ⟨w.heap.size, 4, none⟩ = some (.slice da dl dc)) 1000 (by kernel_rfl) ?_
  rw [← hX0]
  clear hX0
  have hSS := HS.out X0 hbX
  refine tx 0 3 hSS ?_
  simp only [ua, ub, uc, ud]
  refine tx 1 4 hSS ?_
  simp only [ua, ub, uc, ud]
  refine tx 2 5 hSS ?_
  simp only [ua, ub, uc, ud]
  refine tx 3 6 hSS ?_
  simp only [ua, ub, uc, ud]
  refine tx 4 7 hSS ?_
  simp only [ua, ub, uc, ud]
  refine tx 5 8 hSS ?_
  simp only [ua, ub, uc, ud]
  refine tx 6 9 hSS ?_
  simp only [ua, ub, uc, ud]
  refine tx 7 10 hSS ?_
  simp only [ua, ub, uc, ud]
  refine tx 8 11 hSS ?_
  simp only [ua, ub, uc, ud]
  refine tx 9 12 hSS ?_
  simp only [ua, ub, uc, ud]
  refine AnyBut.step (i := 10) (by kernel_rfl) rfl (fun K hK => ?_)
  go_simp
  refine (copy_any n1 (.slice da dl dc) d X0 (HB.out.2.2.2.2.1.below (HB.out.1.trans (hbX.mono HB.out.1.size))) HB.out.2.2.2.2.2).mono ?_
  rintro r w4 ⟨⟨v4, rfl, ho4⟩, hb4⟩
  dsimp only
  have hb4' := below_any hbX hb4
  obtain ⟨ga, gc, rfl⟩ := ho4.shape
  rw [← HB.out.2.2.2.1] at ho4 ⊢
  have hSS := HS.out w4 hb4'
  refine hK.out _ _ hSS ?_
  clear hK
  refine tx 11 14 hSS ?_
  simp only [ua, ub, uc, ud]
  have hBr4 := HB.out.2.2.1.below hb4' HB.out.2.2.1.lt
  obtain ⟨⟨d0, d1, d2, d3, d4⟩, e0, e1, e2, e3, e4⟩ := box5 hBr4
  refine AnyBut.step (i := 12) (by kernel_rfl) rfl (fun K hK => ?_)
  go_simp
  obtain ⟨X, hX⟩ : ∃ Z, Z = ((((w4.setCell ⟨w.heap.size + 1, 0, none⟩ (.int .i64 e)).setCell ⟨w.heap.size + 1, 1, none⟩ (.int .i64 s)).setCell ⟨w.heap.size + 1, 2, none⟩ (.int .i64 v)).setCell ⟨w.heap.size + 1, 3, none⟩ (.int .i64 c)).setCell ⟨w.heap.size + 1, 4, none⟩ (.slice ga dl gc) := ⟨_, rfl⟩
  have HX : Hid (Below w.heap.size w X ∧ Box X (w.heap.size + 1) 29 #[.int .i64 e, .int .i64 s, .int .i64 v, .int .i64 c, .slice ga dl gc] ∧ Own1 w.heap.size X (.slice ga dl gc) d) := by
    rw [hX]
    exact ⟨below_set5 (HB.out.1.trans (hb4'.mono HB.out.1.size)) (by omega) _ _ _ _ _, box_set5 hBr4 _ _ _ _ _, bytesS.oweaken (own_set5 ho4 hBr4 (by decide) _ _ _ _ _) (Nat.le_trans HB.out.1.size hbX.size)⟩
  have hSX : X.cell? ⟨w.heap.size, 0, none⟩ = some (.int .i64 e) ∧ X.cell? ⟨w.heap.size, 1, none⟩ = some (.int .i64 s) ∧ X.cell? ⟨w.heap.size, 2, none⟩ = some (.int .i64 v) ∧ X.cell? ⟨w.heap.size, 3, none⟩ = some (.int .i64 c) ∧ X.cell? ⟨w.heap.size, 4, none⟩ = some (.slice da dl dc) := by
    rw [hX]
    exact (box5 (box_oth5 (HB.out.2.1.below hb4' HB.out.2.1.lt) (by omega) _ _ _ _ _)).1
  rw [← hX]
  refine hK.out _ _ hSX ?_
  clear hK hX d0 d1 d2 d3 d4 e0 e1 e2 e3 e4 hBr4 ho4 hb4 hb4' hSS hbX HS hSX
  refine AnyBut.done (by kernel_rfl) ?_
  obtain ⟨⟨d0, d1, d2, d3, d4⟩, -⟩ := box5 HX.out.2.1
  go_wp2
  refine bodyPost_ret (v := .agg #[.int .i64 e, .int .i64 s, .int .i64 v, .int .i64 c, .slice ga dl gc]) (by simp [results, Tryd.results8, go_sem, *]) rfl ⟨⟨ga, gc, rfl, HX.out.2.2⟩, HX.out.1⟩

set_option maxRecDepth 100000 in
set_option maxHeartbeats 4000000 in
theorem same17 {n1 n2 : Nat} {e s v c : Int} {xa ya : Option Addr} {dl xc yc : Nat} {d : List Int} {w : World} (h1 : Arg n1 w (.slice xa dl xc) d) (h2 : Arg n2 w (.slice ya dl yc) d) :
    Calls Tryd.prog 11 #[.agg #[.int .i64 e, .int .i64 s, .int .i64 v, .int .i64 c, .slice xa dl xc], .agg #[.int .i64 e, .int .i64 s, .int .i64 v, .int .i64 c, .slice ya dl yc]] w fun r w' => r = .returned (.bool true) ∧ Below w.heap.size w w' := by
  obtain ⟨W1, hW1⟩ : ∃ W, W = (w.alloc (.cells #[.int .i64 e, .int .i64 s, .int .i64 v, .int .i64 c, .slice xa dl xc] 29)).alloc (.cells #[.int .i64 e, .int .i64 s, .int .i64 v, .int .i64 c, .slice ya dl yc] 24) := ⟨_, rfl⟩
  have hb1 : Below w.heap.size w W1 := by rw [hW1]; exact ((Below.refl _ w).alloc (Nat.le_refl _) _).alloc (by simp) _
  have hBp : Box W1 w.heap.size 29 #[.int .i64 e, .int .i64 s, .int .i64 v, .int .i64 c, .slice xa dl xc] := by rw [hW1]; exact (Box.new _ _ _).alloc _
  have hBr : Box W1 (w.heap.size + 1) 24 #[.int .i64 e, .int .i64 s, .int .i64 v, .int .i64 c, .slice ya dl yc] := by
    rw [hW1]
    have := Box.new (w.alloc (.cells #[.int .i64 e, .int .i64 s, .int .i64 v, .int .i64 c, .slice xa dl xc] 29)) 24 #[.int .i64 e, .int .i64 s, .int .i64 v, .int .i64 c, .slice ya dl yc]
    rwa [World.size_alloc] at this
  have HB : Hid (Below w.heap.size w W1) := hb1
  have HC := same_any n1 n2 (.slice xa dl xc) (.slice ya dl yc) d d W1 (h1.below hb1) (h2.below hb1)
  rw [decide_eq_true rfl] at HC
  obtain ⟨⟨f0, f1, f2, f3, f4⟩, -⟩ := box5 hBp
  obtain ⟨⟨g0, g1, g2, g3, g4⟩, -⟩ := box5 hBr
  clear hb1 hBp hBr h1 h2
  go_enter Tryd.func11, Tryd.ntmps11
  go_upto_region 1 with fail
  rw [← hW1]
  clear hW1
  go_wp2_with fail
  refine HC.mono ?_
  rintro r w2 ⟨rfl, q, rfl⟩
  have H2 : Hid (Below w.heap.size w (W1.drewN q)) := below_drewN HB.out q
  obtain ⟨X, hX⟩ : ∃ X, X = W1.drewN q := ⟨_, rfl⟩
  rw [← hX] at H2 ⊢
  clear hX f0 f1 f2 f3 f4 g0 g1 g2 g3 g4 HC
  go_wp2
  go_ret
  exact ⟨rfl, H2.out⟩

end Go.Proofs.YthlfgpnabcplnaaDoor.W
/-
  The statements' helper alive: two points stored on a new disk, the second one loaded.
-/
namespace Go.Proofs.YthlfgpnabcplnaaDoor.W
open Go.RowKit
set_option linter.unusedVariables false

def zrows : List (List Int) := List.replicate 16 Dk.zeros
theorem serves0 : Serves zrows := new_serves 16 (by decide) (by decide)
/-- Two points stored one behind the other on rows that serve: the second one is loaded. -/
theorem two_stored {T : List (List Int)} (h : Serves T) {p q : Pt} (hp : ptQ p = 0) (hq : ptQ q = 0) (op : Oc p.2.2.2.2) (oq : Oc q.2.2.2.2) (hr : reg q.1 ≠ reg p.1) (hlt : p.1 < q.1) : ldE ⟨stT (stT T p) q, []⟩ = 0 ∧ ldV ⟨stT (stT T p) q, []⟩ = q := by
  have h1 := h.st op
  obtain ⟨l1, l2⟩ := load_rows (h1.st oq)
  obtain ⟨p1, p2⟩ := back_pt hp op
  obtain ⟨q1, q2⟩ := back_pt hq oq
  have hw := win_st h1 hq
  have hv := win_st h hp
  rw [l1, l2]
  rcases reg_nat q.1 with e | e
  · have e2 : reg p.1 = 8 := by rcases reg_nat p.1 with f | f; · exact absurd (e.trans f.symm) hr
                                · exact f
    rw [e] at hw
    rw [e2] at hv
    have hf : Dk.window (stT (stT T p) q) 8 8 = Dk.window (stT T p) 8 8 := win_st_far 8 (.inr rfl) (by rw [e]; decide)
    have hw : Dk.window (stT (stT T p) q) 0 8 = ptO q := hw
    have hv : Dk.window (stT T p) 8 8 = ptO p := hv
    rw [hw, hf, hv]
    unfold ldK ldN
    rw [if_pos (.inl q1), if_pos q1, if_neg (fun x => by have := x.2; rw [p2, q2] at this; omega)]
    exact ⟨rfl, q2⟩
  · have e2 : reg p.1 = 0 := by rcases reg_nat p.1 with f | f; · exact f
                                · exact absurd (e.trans f.symm) hr
    rw [e] at hw
    rw [e2] at hv
    have hf : Dk.window (stT (stT T p) q) 0 8 = Dk.window (stT T p) 0 8 := win_st_far 0 (.inl rfl) (by rw [e]; decide)
    have hw : Dk.window (stT (stT T p) q) 8 8 = ptO q := hw
    have hv : Dk.window (stT T p) 0 8 = ptO p := hv
    rw [hw, hf, hv]
    unfold ldK ldN
    rw [if_pos (.inl p1), if_pos p1, if_pos ⟨q1, by rw [p2, q2]; exact hlt⟩]
    exact ⟨rfl, q2⟩
def p1 : Pt := (1, 0, 0, 0, [])
def p2 : Pt := (2, 7, 0, 0, [])
theorem al_math : stE ⟨zrows, []⟩ p1 = 0 ∧ stS ⟨zrows, []⟩ p1 = ⟨stT zrows p1, []⟩ ∧ stE ⟨stT zrows p1, []⟩ p2 = 0 ∧ stS ⟨stT zrows p1, []⟩ p2 = ⟨stT (stT zrows p1) p2, []⟩ ∧ ldE ⟨stT (stT zrows p1) p2, []⟩ = 0 ∧ ldV ⟨stT (stT zrows p1) p2, []⟩ = p2 := by
  have h1 : ptQ p1 = 0 := by decide
  have h2 : ptQ p2 = 0 := by decide
  obtain ⟨a1, a2⟩ := store_rows serves0 h1 oc_nil
  obtain ⟨b1, b2⟩ := store_rows (serves0.st (q := p1) oc_nil) h2 oc_nil
  obtain ⟨c1, c2⟩ := two_stored serves0 h1 h2 oc_nil oc_nil (by decide) (by decide)
  exact ⟨a1, a2, b1, b2, c1, c2⟩

set_option maxRecDepth 100000 in
set_option maxHeartbeats 8000000 in
theorem alive17 (w : World) (hg : Glob w) : Calls Tryd.prog 6 #[] w fun e w' => e = .returned (.bool true) ∧ Below w.heap.size w w' := by
  obtain ⟨m1, m2, m3, m4, m5, m6⟩ := al_math
  have HM : Hid (stE ⟨zrows, []⟩ p1 = 0 ∧ stS ⟨zrows, []⟩ p1 = ⟨stT zrows p1, []⟩ ∧ stE ⟨stT zrows p1, []⟩ p2 = 0 ∧ stS ⟨stT zrows p1, []⟩ p2 = ⟨stT (stT zrows p1) p2, []⟩ ∧ ldE ⟨stT (stT zrows p1) p2, []⟩ = 0 ∧ ldV ⟨stT (stT zrows p1) p2, []⟩ = p2) := ⟨m1, m2, m3, m4, m5, m6⟩
  have HG : Hid (∀ V, Below w.heap.size w V → Glob V) := fun V hV => hg.below hV hg.lt
  clear m1 m2 m3 m4 m5 m6 hg
  go_enter Tryd.func6, Tryd.ntmps6
  go_wp2_with fail
  refine (Dk.new_any 16 w (by omega) (by omega)).mono ?_
  rintro r w1 ⟨v1, rfl, hG, hb1⟩
  have hd1 : Dk.Disk w.heap.size w1 (.agg #[v1, .slice none 0 0]) ⟨zrows, []⟩ := Dk.Grid.disk hG
  obtain ⟨x1, y1, x2, y2, heq, -, -⟩ := hd1.shape
  simp only [Value.agg.injEq, Array.mk.injEq, List.cons.injEq, and_true] at heq
  obtain ⟨rfl, -⟩ := heq
  have h16 : zrows.length = 16 := by simp [zrows]
  rw [h16] at hd1 ⊢
  obtain ⟨V1, hV1⟩ : ∃ V, V = w1.alloc (.cells #[.slice x1 16 y1, .slice none 0 0] 40) := ⟨_, rfl⟩
  have hbV : Below w1.heap.size w1 V1 := by rw [hV1]; exact (Below.refl _ w1).alloc (Nat.le_refl _) _
  have hBV : Box V1 w1.heap.size 40 #[.slice x1 16 y1, .slice none 0 0] := by rw [hV1]; exact Box.new _ _ _
  obtain ⟨N, hN⟩ : ∃ N, N = w1.heap.size := ⟨_, rfl⟩
  have H1 : Hid (Below w.heap.size w V1 ∧ Box V1 w1.heap.size 40 #[.slice x1 16 y1, .slice none 0 0] ∧ Dk.Disk w.heap.size V1 (.agg #[.slice x1 16 y1, .slice none 0 0]) ⟨zrows, []⟩ ∧ w.heap.size ≤ N) := ⟨below_any hb1 hbV, hBV, hd1.below hbV, by rw [hN]; exact hb1.size⟩
  rw [← hN] at H1
  clear hG hb1 hd1 hbV hBV h16
  go_upto_region 2 with fail
  rw [← hV1, ← hN]
  clear hV1 hN
  have HS := store_any (S := ⟨zrows, []⟩) (e := 1) (s := 0) (v := 0) (c := 0) (d := []) (dl := 0) rfl H1.out.2.2.1 (Own1.nil V1.heap.size V1).arg
  rw [show ((1, 0, 0, 0, []) : Pt) = p1 from rfl, HM.out.1, HM.out.2.1] at HS
  obtain ⟨g0, g1, -, -⟩ := H1.out.2.1.two
  go_wp2_with fail
  clear g0 g1
  refine HS.mono ?_
  rintro r w2 ⟨v2, rfl, hd, hb⟩
  obtain ⟨a2, b2, c2, d2, rfl, -, -⟩ := hd.shape
  obtain ⟨k1, hk1⟩ : ∃ z, z = (⟨stT zrows p1, []⟩ : Dk.St).secs.length := ⟨_, rfl⟩
  obtain ⟨k2, hk2⟩ : ∃ z, z = (⟨stT zrows p1, []⟩ : Dk.St).cache.length := ⟨_, rfl⟩
  rw [← hk1, ← hk2] at hd ⊢
  have hB := H1.out.2.1.below hb H1.out.2.1.lt
  obtain ⟨n2, hn2⟩ : ∃ z, z = k1 := ⟨_, rfl⟩
  obtain ⟨l2, hl2⟩ : ∃ z, z = k2 := ⟨_, rfl⟩
  rw [← hn2, ← hl2] at hd ⊢
  clear hk1 hk2 hn2 hl2
  obtain ⟨V2, hV2⟩ : ∃ V, V = (w2.setCell ⟨N, 0, none⟩ (.slice a2 n2 b2)).setCell ⟨N, 1, none⟩ (.slice c2 l2 d2) := ⟨_, rfl⟩
  have H2 : Hid (Below w.heap.size w V2 ∧ Box V2 N 40 #[.slice a2 n2 b2, .slice c2 l2 d2] ∧ Dk.Disk w.heap.size V2 (.agg #[.slice a2 n2 b2, .slice c2 l2 d2]) ⟨stT zrows p1, []⟩ ∧ w.heap.size ≤ N) := by
    rw [hV2]
    exact ⟨below_set2 (below_any H1.out.1 hb) H1.out.2.2.2 _ _, (hB.set 0 _).set 1 _, (dkd_same2 hd H1.out.2.1.lt _ _).weaken H1.out.1.size, H1.out.2.2.2⟩
  obtain ⟨d0, d1, e0, e1⟩ := hB.two
  clear hd hb hB HS
  go_upto_region 3 with fail
  rw [← hV2]
  clear hV2 d0 d1 e0 e1 H1
  have HS := store_any (S := ⟨stT zrows p1, []⟩) (e := 2) (s := 7) (v := 0) (c := 0) (d := []) (dl := 0) rfl H2.out.2.2.1 (Own1.nil V2.heap.size V2).arg
  rw [show ((2, 7, 0, 0, []) : Pt) = p2 from rfl, HM.out.2.2.1, HM.out.2.2.2.1] at HS
  obtain ⟨g0, g1, -, -⟩ := H2.out.2.1.two
  go_wp2_with fail
  clear g0 g1
  refine HS.mono ?_
  rintro r w3 ⟨v3, rfl, hd, hb⟩
  obtain ⟨a3, b3, c3, d3, rfl, -, -⟩ := hd.shape
  obtain ⟨k1, hk1⟩ : ∃ z, z = (⟨stT (stT zrows p1) p2, []⟩ : Dk.St).secs.length := ⟨_, rfl⟩
  obtain ⟨k2, hk2⟩ : ∃ z, z = (⟨stT (stT zrows p1) p2, []⟩ : Dk.St).cache.length := ⟨_, rfl⟩
  rw [← hk1, ← hk2] at hd ⊢
  have hB := H2.out.2.1.below hb H2.out.2.1.lt
  obtain ⟨n3, hn3⟩ : ∃ z, z = k1 := ⟨_, rfl⟩
  obtain ⟨l3, hl3⟩ : ∃ z, z = k2 := ⟨_, rfl⟩
  rw [← hn3, ← hl3] at hd ⊢
  clear hk1 hk2 hn3 hl3
  obtain ⟨V3, hV3⟩ : ∃ V, V = (w3.setCell ⟨N, 0, none⟩ (.slice a3 n3 b3)).setCell ⟨N, 1, none⟩ (.slice c3 l3 d3) := ⟨_, rfl⟩
  have H3 : Hid (Below w.heap.size w V3 ∧ Box V3 N 40 #[.slice a3 n3 b3, .slice c3 l3 d3] ∧ Dk.Disk w.heap.size V3 (.agg #[.slice a3 n3 b3, .slice c3 l3 d3]) ⟨stT (stT zrows p1) p2, []⟩ ∧ w.heap.size ≤ N) := by
    rw [hV3]
    exact ⟨below_set2 (below_any H2.out.1 hb) H2.out.2.2.2 _ _, (hB.set 0 _).set 1 _, (dkd_same2 hd H2.out.2.1.lt _ _).weaken H2.out.1.size, H2.out.2.2.2⟩
  obtain ⟨d0, d1, e0, e1⟩ := hB.two
  clear hd hb hB HS
  go_upto_region 4 with fail
  rw [← hV3]
  clear hV3 d0 d1 e0 e1 H2
  have HL := load_any w.heap.size _ _ V3 H3.out.2.2.1 (HG.out V3 H3.out.1)
  rw [HM.out.2.2.2.2.1, HM.out.2.2.2.2.2] at HL
  obtain ⟨g0, g1, -, -⟩ := H3.out.2.1.two
  go_wp2_with fail
  clear g0 g1
  refine HL.mono ?_
  rintro r w4 ⟨u, rfl, ⟨ya, yc, rfl, hya⟩, hb⟩
  have HZ : Hid (Below w.heap.size w w4) := below_any H3.out.1 hb
  have hp : p2 = (2, 7, 0, 0, []) := rfl
  rw [hp] at hya ⊢
  simp only [List.length_nil] at hya ⊢
  clear hya hb HL hp
  go_wp2_with (first | (with_reducible refine Calls.mono (num17 _ _) ?_; rintro _ _ ⟨rfl, rfl⟩))
  go_ret
  refine ⟨rfl, ?_⟩
  exact HZ.out.alloc HZ.out.size _

end Go.Proofs.YthlfgpnabcplnaaDoor.W
/-
  What Spoil does: octets that the call owns are octets again; nothing but their block is changed.
-/
namespace Go.Proofs.YthlfgpnabcplnaaDoor.W
open Go.RowKit
set_option maxRecDepth 100000

set_option maxHeartbeats 400000 in
theorem spoil_none (a : Option Addr) (cap : Nat) (w : World) :
    Calls Tryd.prog 16 #[.slice a 0 cap] w fun e w' => e = .returned (.tuple #[]) ∧ w = w' := by
  go_enter Tryd.func16, Tryd.ntmps16
  go_wp2
  refine wp_loop_rounds 1 ?_
  rw [rounds_succ]
  go_wp2
  go_end0
  exact ⟨rfl, rfl⟩

/-- A slice of octets, whichever, in a block of its own. -/
def Eight (base : Nat) (w : World) (v : Value) (n : Nat) : Prop := ∃ l : List Int, l.length = n ∧ w.ownsRow base 5 1 v n (l.map (Value.int .u8))

theorem Eight.set {base : Nat} {w : World} {v : Value} {n : Nat} (h : Eight base w v n) (g k : Nat) (y : Int) : Eight base (w.setCell ⟨g, k, none⟩ (.int .u8 y)) v n := by
  obtain ⟨l, hl, ho⟩ := h
  rcases ho.2 with ⟨rfl, h0⟩ | ⟨g', cap, cur, rfl, _⟩
  · exact ⟨l, hl, ho.1, .inl ⟨rfl, h0⟩⟩
  · by_cases e : g' = g
    · subst e
      have := (ho.stored k (.int .u8 y)).1
      rw [← List.map_set] at this
      exact ⟨l.set k y, by rw [List.length_set]; exact hl, this⟩
    · exact ⟨l, hl, ho.kept (grown_set w g k _) (.inr (by simp [Value.ownBlock]; exact e))⟩

set_option maxHeartbeats 400000 in
theorem spoil_eight (base : Nat) (v : Value) (n : Nat) (w : World) (h : Eight base w v n) :
    Calls Tryd.prog 16 #[v] w fun e w' => e = .returned (.tuple #[]) ∧ w.grownBy w' v.ownBlock ∧ ∀ b u m, Eight b w u m → Eight b w' u m := by
  obtain ⟨l, hl, hown⟩ := h
  rcases id hown.2 with ⟨rfl, h0⟩ | ⟨g, cap, cur, rfl, _, _, h1, h2, _⟩
  · exact (spoil_none none 0 w).mono fun e w' ⟨he, hw⟩ => ⟨he, by subst hw; exact ⟨rfl, rfl, rfl, Nat.le_refl _, fun _ _ _ => rfl⟩, by subst hw; exact fun _ _ _ h => h⟩
  · have hn : n ≤ maxLen := by omega
    unfold maxLen at hn
    have HL : Hid (l.length = n) := hl
    have HE0 : Hid (∀ b u m, Eight b w u m → Eight b w u m) := fun _ _ _ h => h
    clear hl h1 h2
    go_enter Tryd.func16, Tryd.ntmps16
    go_wp2
    go_loopw [2] (fun i wr => ∃ (k : Nat) (l : List Int), k ≤ n ∧ i = .int .i64 k ∧ Hid (l.length = n) ∧ wr.ownsRow base 5 1 (.slice (some ⟨g, 0, none⟩) n cap) n (l.map (Value.int .u8)) ∧ w.grownBy wr (some g) ∧ Hid (∀ b u m, Eight b w u m → Eight b wr u m)) (fun i _ => n - (intOf i).toNat)
    case atStart => exact ⟨0, l, Nat.zero_le _, rfl, HL, hown, ⟨rfl, rfl, rfl, Nat.le_refl _, fun _ _ _ => rfl⟩, HE0⟩
    case round =>
      obtain ⟨k, l, hk, rfl, HL, hown, hbel, HE⟩ := hrel
      by_cases hlt : k < n
      · have hc : wr.cell? ⟨g, k, none⟩ = some (.int .u8 (l.getD k 0)) := by
          have hkl : k < l.length := by rw [HL.out]; exact hlt
          rw [hown.cellAt k (by omega), List.getElem?_map, List.getElem?_eq_getElem hkl]
          simp [List.getElem?_eq_getElem hkl]
        have hf := hown.frozenAt k
        obtain ⟨x, hx⟩ : ∃ x, x = l.getD k 0 := ⟨_, rfl⟩
        rw [← hx] at hc
        have hb2 := hbel.trans (hown.stored k (.int .u8 (bits .xor .u8 x 85))).2
        have hS := (hown.stored k (.int .u8 (bits .xor .u8 x 85))).1
        rw [← List.map_set] at hS
        have HL2 : Hid ((l.set k (bits .xor .u8 x 85)).length = n) := by
          show _ = _
          rw [List.length_set]; exact HL.out
        have HE2 : Hid (∀ b u m, Eight b w u m → Eight b (wr.setCell ⟨g, k, none⟩ (.int .u8 (bits .xor .u8 x 85))) u m) := fun b u m h => (HE.out b u m h).set g k _
        have hki : (k : Int) < (n : Int) := by omega
        clear hx hown hbel
        go_wp2
        go_roundw
        case rel => exact ⟨k + 1, _, by omega, by go_num, HL2, hS, hb2, HE2⟩
        case measure => simp [intOf]; omega
      · go_wp2
        go_end0
        exact ⟨rfl, hbel, HE.out⟩

theorem Eight.lt {base : Nat} {w : World} {v : Value} {n : Nat} (h : Eight base w v n) : ∀ g, v.ownBlock = some g → base ≤ g ∧ g < w.heap.size := by
  obtain ⟨_, _, h⟩ := h
  exact h.lt
theorem Eight.clear {base : Nat} {w : World} {v : Value} {n : Nat} (h : Eight base w v n) {ids : List TypeId} (hi : 5 ∉ ids) : Clear w v.ownBlock ids := by
  obtain ⟨_, _, h⟩ := h
  exact Clear.own h hi
theorem Eight.box {base : Nat} {w : World} {v : Value} {n : Nat} (h : Eight base w v n) {B : Nat} {t : TypeId} {cs : Array Value} (hB : Box w B t cs) (ht : t ≠ 5) : some B ≠ v.ownBlock := by
  obtain ⟨_, _, h⟩ := h
  exact hB.apart h ht


end Go.Proofs.YthlfgpnabcplnaaDoor.W

/-
  PointOwn: the walk of the law.
-/
namespace Go.Proofs.YthlfgpnabcplnaaDoor.W.pointOwn
open Go.RowKit
set_option linter.unusedVariables false

theorem eight_of {base : Nat} {w : World} {v : Value} {l : List Int} {n : Nat} (h : Own1 base w v l) (hn : n = l.length) : Eight base w v n := ⟨l, hn.symm, by rw [hn]; exact h.row⟩
theorem same_grown {n : Nat} {w w' : World} {row : Option Nat} (h : w.grownBy w' row) (hr : ∀ g, row = some g → g < n) : Same n w w' := fun k hk hl => h.block k hl (fun e => by have := hr k e.symm; omega)

set_option maxRecDepth 100000 in
set_option maxHeartbeats 32000000 in
theorem walk (uo : List Value) (q : Pt) (w : World) (hO : ptF.lies 0 w uo q) (hqf : q.2.2.2.2.length ≤ 140737488351232) (hg : Glob w) :
    Calls Tryd.prog 5 #[.agg uo.toArray] w fun e w' => e = .returned (.bool true) ∧ Below w.heap.size w w' := by
  obtain ⟨da, dc, rfl, hD, -⟩ := pt_view hO
  obtain ⟨e, s, v, c, d⟩ := q
  simp only at hD hqf ⊢
  obtain ⟨dl, hdl⟩ : ∃ n, n = d.length := ⟨_, rfl⟩
  rw [← hdl] at hD ⊢
  have H0 : Hid (dl = d.length ∧ d.length ≤ 140737488351232 ∧ ∀ V, Below w.heap.size w V → Glob V ∧ Arg 0 V (.slice da dl dc) d) := ⟨hdl, hqf, fun V hV => ⟨hg.below hV hg.lt, hD.below hV⟩⟩
  have HD0 : Hid (Oc d) := hD.oct
  obtain ⟨V0, hV0⟩ : ∃ V, V = w.alloc (.cells #[.int .i64 e, .int .i64 s, .int .i64 v, .int .i64 c, .slice da dl dc] 24) := ⟨_, rfl⟩
  have HB0 : Hid (Below w.heap.size w V0 ∧ Box V0 w.heap.size 24 #[.int .i64 e, .int .i64 s, .int .i64 v, .int .i64 c, .slice da dl dc]) := ⟨by rw [hV0]; exact (Below.refl _ w).alloc (Nat.le_refl _) _, by rw [hV0]; exact Box.new _ _ _⟩
  have HA := alive17 V0 (H0.out.2.2 V0 HB0.out.1).1
  clear hO hD hqf hg hdl
  go_enter Tryd.func5, Tryd.ntmps5
  go_upto_region 1 with fail
  rw [← hV0]
  clear hV0
  go_wp2_with fail
  refine HA.mono ?_
  rintro r w1 ⟨rfl, hb1⟩
  have H1 : Hid (Below w.heap.size w w1 ∧ Box w1 w.heap.size 24 #[.int .i64 e, .int .i64 s, .int .i64 v, .int .i64 c, .slice da dl dc]) := ⟨below_any HB0.out.1 hb1, HB0.out.2.below hb1 HB0.out.2.lt⟩
  clear HA hb1 HB0
  have HC1 := of17 (e := e) (s := s) (v := v) (c := c) H0.out.1 (by have := H0.out.2.1; omega) (H0.out.2.2 w1 H1.out.1).2
  obtain ⟨⟨d0, d1, d2, d3, d4⟩, -⟩ := box5 H1.out.2
  go_wp2_with fail
  clear d0 d1 d2 d3 d4
  refine HC1.mono ?_
  rintro r w2 ⟨⟨a5, c5, rfl, ho2⟩, hb2⟩
  obtain ⟨V2, hV2⟩ : ∃ V, V = w2.alloc (.cells #[.int .i64 e, .int .i64 s, .int .i64 v, .int .i64 c, .slice a5 dl c5] 29) := ⟨_, rfl⟩
  have hbV : Below w2.heap.size w2 V2 := by rw [hV2]; exact (Below.refl _ w2).alloc (Nat.le_refl _) _
  have hB5 : Box V2 w2.heap.size 29 #[.int .i64 e, .int .i64 s, .int .i64 v, .int .i64 c, .slice a5 dl c5] := by rw [hV2]; exact Box.new _ _ _
  have b1V := below_any hb2 hbV
  have H2 : Hid (Below w.heap.size w V2 ∧ Box V2 w.heap.size 24 #[.int .i64 e, .int .i64 s, .int .i64 v, .int .i64 c, .slice da dl dc] ∧ Own1 w1.heap.size V2 (.slice a5 dl c5) d ∧ Box V2 w2.heap.size 29 #[.int .i64 e, .int .i64 s, .int .i64 v, .int .i64 c, .slice a5 dl c5] ∧ w.heap.size < w1.heap.size) := ⟨below_any H1.out.1 b1V, H1.out.2.below b1V H1.out.2.lt, bytesS.obelow ho2 hbV, hB5, H1.out.2.lt⟩
  clear HC1 ho2 hb2 hbV hB5 b1V H1
  have HC3 := penc_any (e := e) (s := s) (v := v) (c := c) H0.out.1 H2.out.2.2.1.arg
  obtain ⟨B, hBB⟩ : ∃ z, z = ptO (e, s, v, c, d) := ⟨_, rfl⟩
  obtain ⟨oe, hoe⟩ : ∃ z, z = ptE e s v c d.length := ⟨_, rfl⟩
  rw [← hBB, ← hoe] at HC3
  have HO : Hid (B = ptO (e, s, v, c, d) ∧ oe = ptQ (e, s, v, c, d)) := ⟨hBB, hoe⟩
  clear hBB hoe
  obtain ⟨ol, hol⟩ : ∃ z, z = B.length := ⟨_, rfl⟩
  rw [← hol] at HC3
  have HOL : Hid (ol = B.length) := hol
  clear hol
  go_upto_region 4 with fail
  rw [← hV2]
  clear hV2
  obtain ⟨⟨d0, d1, d2, d3, d4⟩, -⟩ := box5 H2.out.2.2.2.1
  go_wp2_with fail
  clear d0 d1 d2 d3 d4
  refine HC3.mono ?_
  rintro r w3 ⟨⟨a7, c7, rfl, ho3⟩, hb3⟩
  have H3 : Hid (Below w.heap.size w w3 ∧ Box w3 w.heap.size 24 #[.int .i64 e, .int .i64 s, .int .i64 v, .int .i64 c, .slice da dl dc] ∧ Own1 w1.heap.size w3 (.slice a5 dl c5) d ∧ Box w3 w2.heap.size 29 #[.int .i64 e, .int .i64 s, .int .i64 v, .int .i64 c, .slice a5 dl c5] ∧ Own1 V2.heap.size w3 (.slice a7 ol c7) B ∧ ∀ g, (Value.slice a5 dl c5).ownBlock = some g → w1.heap.size ≤ g ∧ g < V2.heap.size) := ⟨below_any H2.out.1 hb3, H2.out.2.1.below hb3 H2.out.2.1.lt, bytesS.obelow H2.out.2.2.1 hb3, H2.out.2.2.2.1.below hb3 H2.out.2.2.2.1.lt, ho3, fun g hg => by have := H2.out.2.2.1.row.lt g hg; exact this⟩
  have HV23 : Hid (V2.heap.size ≤ w3.heap.size) := hb3.size
  clear HC3 ho3 hb3
  by_cases hz : oe = 0
  rotate_left
  · have h0 : ol = 0 := by
      rw [HOL.out, HO.out.1]
      unfold ptO
      rw [if_neg (by rw [← HO.out.2]; exact hz)]
      rfl
    subst h0
    have hll := run_len Tryd.underlying22 a7 0 c7
    have HZ : Hid (Below w.heap.size w w3) := H3.out.1
    go_wp2_with (first | (with_reducible refine Calls.mono (num17 _ _) ?_; rintro _ _ ⟨rfl, rfl⟩))
    go_ret
    exact ⟨rfl, HZ.out⟩
  subst hz
  have HBK : Hid (dptE B = 0 ∧ dptV B = (e, s, v, c, d)) := by rw [HO.out.1]; exact back_pt HO.out.2.symm HD0.out
  have HS1 := spoil_eight w1.heap.size (.slice a5 dl c5) dl w3 (eight_of H3.out.2.2.1 H0.out.1)
  obtain ⟨⟨d0, d1, d2, d3, d4⟩, -⟩ := box5 H3.out.2.2.2.1
  go_wp2_with (first | (with_reducible refine Calls.mono (num17 _ _) ?_; rintro _ _ ⟨rfl, rfl⟩))
  clear d0 d1 d2 d3 d4
  refine HS1.mono ?_
  rintro r w4 ⟨rfl, hg4, -⟩
  have H4 : Hid (Below w.heap.size w w4 ∧ Box w4 w.heap.size 24 #[.int .i64 e, .int .i64 s, .int .i64 v, .int .i64 c, .slice da dl dc] ∧ Own1 V2.heap.size w4 (.slice a7 ol c7) B ∧ V2.heap.size ≤ w4.heap.size ∧ w.heap.size < V2.heap.size) := by
    have hlt := H2.out.2.2.2.2
    have hsz := H2.out.2.1.lt
    refine ⟨H3.out.1.grown hg4 H3.out.1.size (fun g hg => by have := (H3.out.2.2.2.2.2 g hg).1; omega), H3.out.2.1.grown hg4 (fun e => by have := (H3.out.2.2.2.2.2 _ e.symm).1; omega), bytesS.osame H3.out.2.2.2.2.1 (same_grown hg4 fun g hg => (H3.out.2.2.2.2.2 g hg).2), ?_, hsz⟩
    have := hg4.size
    have h2 := H3.out.1.size
    have h3 : V2.heap.size ≤ w3.heap.size := by
      have hw := H3.out.2.2.2.1
      exact HV23.out
    omega
  clear HS1 hg4
  have HC4 := pdec_any V2.heap.size (.slice a7 ol c7) B w4 H4.out.2.2.1.arg (H0.out.2.2 w4 H4.out.1).1
  rw [HBK.out.1, HBK.out.2] at HC4
  go_wp2_with (first | (with_reducible refine Calls.mono (num17 _ _) ?_; rintro _ _ ⟨rfl, rfl⟩))
  refine HC4.mono ?_
  rintro r w5 ⟨⟨u5, rfl, a9, c9, rfl, ho5⟩, hb5⟩
  simp only at ho5 ⊢
  rw [← H0.out.1] at ho5 ⊢
  obtain ⟨V5, hV5⟩ : ∃ V, V = w5.alloc (.cells #[.int .i64 e, .int .i64 s, .int .i64 v, .int .i64 c, .slice a9 dl c9] 29) := ⟨_, rfl⟩
  have hbV : Below w5.heap.size w5 V5 := by rw [hV5]; exact (Below.refl _ w5).alloc (Nat.le_refl _) _
  have hB9 : Box V5 w5.heap.size 29 #[.int .i64 e, .int .i64 s, .int .i64 v, .int .i64 c, .slice a9 dl c9] := by rw [hV5]; exact Box.new _ _ _
  have b4V := below_any hb5 hbV
  have H5 : Hid (Below w.heap.size w V5 ∧ Box V5 w.heap.size 24 #[.int .i64 e, .int .i64 s, .int .i64 v, .int .i64 c, .slice da dl dc] ∧ Own1 V2.heap.size V5 (.slice a7 ol c7) B ∧ Box V5 w5.heap.size 29 #[.int .i64 e, .int .i64 s, .int .i64 v, .int .i64 c, .slice a9 dl c9] ∧ Arg w4.heap.size V5 (.slice a9 dl c9) d ∧ w4.heap.size ≤ w5.heap.size ∧ ∀ g, (Value.slice a7 ol c7).ownBlock = some g → V2.heap.size ≤ g ∧ g < w4.heap.size) := ⟨below_any H4.out.1 b4V, H4.out.2.1.below b4V H4.out.2.1.lt, bytesS.obelow H4.out.2.2.1 b4V, hB9, ho5.below hbV, hb5.size, fun g hg => by have := H4.out.2.2.1.row.lt g hg; exact this⟩
  clear HC4 ho5 hb5 hbV hB9 b4V H3
  have HS2 := spoil_eight V2.heap.size (.slice a7 ol c7) ol V5 (eight_of H5.out.2.2.1 HOL.out)
  go_upto_region 9 with fail
  rw [← hV5]
  clear hV5
  go_wp2_with fail
  refine HS2.mono ?_
  rintro r w6 ⟨rfl, hg6, -⟩
  have H6 : Hid (Below w.heap.size w w6 ∧ Box w6 w.heap.size 24 #[.int .i64 e, .int .i64 s, .int .i64 v, .int .i64 c, .slice da dl dc] ∧ Box w6 w5.heap.size 29 #[.int .i64 e, .int .i64 s, .int .i64 v, .int .i64 c, .slice a9 dl c9] ∧ Arg 0 w6 (.slice a9 dl c9) d) := by
    have h1 := H4.out.2.2.2.2
    refine ⟨H5.out.1.grown hg6 H5.out.1.size (fun g hg => by have := (H5.out.2.2.2.2.2.2 g hg).1; omega), H5.out.2.1.grown hg6 (fun e => by have := (H5.out.2.2.2.2.2.2 _ e.symm).1; omega), H5.out.2.2.2.1.grown hg6 (fun e => by have := (H5.out.2.2.2.2.2.2 _ e.symm).2; have := H5.out.2.2.2.2.2.1; omega), (H5.out.2.2.2.2.1.keep (same_grown hg6 fun g hg => (H5.out.2.2.2.2.2.2 g hg).2)).weaken (Nat.zero_le _)⟩
  clear HS2 hg6 H5 H4
  have HC6 := same17 (e := e) (s := s) (v := v) (c := c) H6.out.2.2.2 (H0.out.2.2 w6 H6.out.1).2
  obtain ⟨⟨d0, d1, d2, d3, d4⟩, -⟩ := box5 H6.out.2.1
  obtain ⟨⟨f0, f1, f2, f3, f4⟩, -⟩ := box5 H6.out.2.2.1
  go_wp2_with (first | (with_reducible refine Calls.mono (num17 _ _) ?_; rintro _ _ ⟨rfl, rfl⟩))
  clear d0 d1 d2 d3 d4 f0 f1 f2 f3 f4
  refine HC6.mono ?_
  rintro r w7 ⟨rfl, hb7⟩
  have HZ : Hid (Below w.heap.size w w7) := below_any H6.out.1 hb7
  clear HC6 hb7
  go_wp2
  go_ret
  exact ⟨rfl, HZ.out⟩

end Go.Proofs.YthlfgpnabcplnaaDoor.W.pointOwn
