/-
  Plain mathematics: what is sealed is read back, what is read is sealed anew to the same octets, and one octet turned is told.
-/
import Derived.Test.YtmjgamokddedkaaOpen
namespace Go.Proofs.Ytmjgamokddedkaa
open Go.RowKit
open O (nv oct)

theorem nv_oct (n : Nat) : ∀ k, nv (oct n k) = n % 256 ^ k := by
  intro k
  induction k generalizing n with
  | zero => simp [nv, oct, Nat.mod_one]
  | succ k ih =>
    have e : oct n (k + 1) = ((n / 256 ^ k % 256 : Nat) : Int) :: oct n k := by
      simp only [oct, List.range_succ_eq_map, List.map_cons, List.map_map]
      congr 1
      refine List.map_congr_left fun t ht => ?_
      simp only [Function.comp_apply]
      rw [show k + 1 - 1 - t.succ = k - 1 - t by omega]
    rw [e, O.nv_cons, ih, O.oct_length, Int.toNat_natCast, Nat.pow_succ, Nat.mod_mul, Nat.mul_comm (256 ^ k) (n / 256 ^ k % 256)]
    omega
theorem nv_oct_lt {n k : Nat} (h : n < 256 ^ k) : nv (oct n k) = n := by rw [nv_oct, Nat.mod_eq_of_lt h]
theorem nv_inj : ∀ (l m : List Int), (∀ x ∈ l, 0 ≤ x ∧ x ≤ 255) → (∀ x ∈ m, 0 ≤ x ∧ x ≤ 255) → l.length = m.length → nv l = nv m → l = m
  | [], [], _, _, _, _ => rfl
  | [], _ :: _, _, _, h, _ => by cases h
  | _ :: _, [], _, _, h, _ => by cases h
  | x :: l, y :: m, h1, h2, hl, h => by
    simp only [List.length_cons, Nat.add_right_cancel_iff] at hl
    rw [O.nv_cons, O.nv_cons, hl] at h
    have a1 := O.nv_lt l fun z hz => h1 z (List.mem_cons_of_mem _ hz)
    have a2 := O.nv_lt m fun z hz => h2 z (List.mem_cons_of_mem _ hz)
    rw [hl] at a1
    have b1 := h1 x (List.mem_cons_self ..)
    have b2 := h2 y (List.mem_cons_self ..)
    obtain ⟨P, hP⟩ : ∃ P, P = 256 ^ m.length := ⟨_, rfl⟩
    rw [← hP] at h a1 a2
    have e : x.toNat = y.toNat := by
      have c1 : (x.toNat * P + nv l) / P = x.toNat := by
        rw [Nat.mul_comm, Nat.mul_add_div (by omega), Nat.div_eq_of_lt a1, Nat.add_zero]
      have c2 : (y.toNat * P + nv m) / P = y.toNat := by
        rw [Nat.mul_comm, Nat.mul_add_div (by omega), Nat.div_eq_of_lt a2, Nat.add_zero]
      rw [← c1, h, c2]
    rw [e] at h
    rw [nv_inj l m (fun z hz => h1 z (List.mem_cons_of_mem _ hz)) (fun z hz => h2 z (List.mem_cons_of_mem _ hz)) hl (by omega), show x = y by omega]
theorem oct_oct (n k : Nat) : ∀ x ∈ oct n k, 0 ≤ x ∧ x ≤ 255 := fun x hx => by
  obtain ⟨t, -, rfl⟩ := List.mem_map.1 hx
  omega
theorem oct_nv {l : List Int} (h : ∀ x ∈ l, 0 ≤ x ∧ x ≤ 255) : oct (nv l) l.length = l :=
  nv_inj _ _ (oct_oct _ _) h (by simp) (by rw [nv_oct_lt (O.nv_lt l h)])

/-- Parts of a text that is put together. -/
theorem app_take {α : Type} (a b : List α) (n : Nat) (h : a.length = n) : (a ++ b).take n = a := by rw [← h]; exact List.take_left ..
theorem app_drop {α : Type} (a b : List α) (n : Nat) (h : a.length = n) : (a ++ b).drop n = b := by rw [← h]; exact List.drop_left ..
theorem mid {α : Type} (a b c : List α) (n m : Nat) (h : a.length = n) (h2 : m = n + b.length) : ((a ++ (b ++ c)).take m).drop n = b := by
  rw [← List.append_assoc, app_take (a ++ b) c m (by simp; omega), app_drop a b n h]

theorem wnat {n : Nat} (h : n < 9223372036854775808) : wrap64 (n : Int) = n := by
  unfold wrap64
  omega
theorem w_pos {n : Nat} (h : n < 18446744073709551616) (h1 : 1 ≤ wrap64 (n : Int)) : (wrap64 (n : Int)).toNat = n := by
  unfold wrap64 at h1 ⊢
  omega
theorem ck_hds : ∀ (l : List Bk) (k : Nat) (p : Bk), l[k]? = some p → ck (hds l) k = hd p
  | [], k, p, h => by simp at h
  | q :: l, 0, p, h => by
    simp only [List.getElem?_cons_zero, Option.some.injEq] at h
    subst h
    show ((hd q ++ hds l).take (0 * 6 + 6)).drop (0 * 6) = hd q
    rw [app_take _ _ _ (hd_length q)]
    simp
  | q :: l, k + 1, p, h => by
    have ih := ck_hds l k p (by simpa using h)
    rw [← ih]
    show ((hd q ++ hds l).take ((k + 1) * 6 + 6)).drop ((k + 1) * 6) = ((hds l).take (k * 6 + 6)).drop (k * 6)
    rw [List.take_append, List.drop_append, hd_length, List.take_of_length_le (by rw [hd_length]; omega), List.drop_of_length_le (by rw [hd_length]; omega), hd_length, show (k + 1) * 6 + 6 - 6 = k * 6 + 6 by omega, show (k + 1) * 6 - 6 = k * 6 by omega, List.nil_append]
theorem hd_told {l : List Bk} {k : Nat} {p : Bk} (h : l[k]? = some p) (hm : mayB p = true) : ow (hds l) k = p.1 ∧ ixn (hds l) k = p.2.1 ∧ lnn (hds l) k = p.2.2.length := by
  obtain ⟨h1, h2, h3⟩ := may_iff.1 hm
  have hc := ck_hds l k p h
  have e : hd p = oct p.1.toNat 4 ++ (oct p.2.1.toNat 1 ++ oct p.2.2.length 1) := by rw [hd, List.append_assoc]
  have d : (hd p).drop 4 = oct p.2.1.toNat 1 ++ oct p.2.2.length 1 := by rw [e, app_drop _ _ 4 (by simp)]
  refine ⟨?_, ?_, ?_⟩
  · unfold ow
    rw [hc, e, app_take _ _ 4 (by simp), nv_oct_lt (by omega), wnat (n := p.1.toNat) (by omega)]
    omega
  · unfold ixn
    rw [hc, d, app_take _ _ 1 (by simp), nv_oct_lt (by omega), wnat (n := p.2.1.toNat) (by omega)]
    omega
  · unfold lnn
    rw [hc, d, app_drop _ _ 1 (by simp), nv_oct_lt (by omega), wnat (n := p.2.2.length) (by omega)]
theorem rdF_hds (l : List Bk) (hm : l.all mayB = true) (Z : List Int) : ∀ k, k ≤ l.length → rdF (hds l) (List.range k) (dts l ++ Z) = (l.take k, dts (l.drop k) ++ Z)
  | 0, _ => by simp [rdF]
  | k + 1, hk => by
    have hp : l[k]? = some l[k] := List.getElem?_eq_getElem (by omega)
    obtain ⟨h1, h2, h3⟩ := hd_told hp (List.all_eq_true.1 hm _ (List.mem_of_getElem? hp))
    have e : dts (l.drop k) ++ Z = l[k].2.2 ++ (dts (l.drop (k + 1)) ++ Z) := by
      rw [List.drop_eq_getElem_cons (by omega), dts, List.map_cons, List.flatten_cons, List.append_assoc]
      rfl
    rw [List.range_succ, rdF_snoc, rdF_hds l hm Z k (by omega)]
    unfold blk
    rw [h1, h2, h3, e, Int.toNat_natCast, app_take _ _ _ rfl, app_drop _ _ _ rfl, take_snoc hp]
theorem okK_hds (l : List Bk) (hm : l.all mayB = true) : okK (hds l) (List.range l.length) = true := by
  unfold okK
  rw [List.all_eq_true]
  intro k hk
  rw [List.mem_range] at hk
  have hp : l[k]? = some l[k] := List.getElem?_eq_getElem hk
  have hk2 := List.all_eq_true.1 hm _ (List.mem_of_getElem? hp)
  rw [(hd_told hp hk2).2.2]
  have := (may_iff.1 hk2).2.2
  simp
  omega

section
variable {s : Sg}
theorem full_parts (s : Sg) : fullO s = [115, 101, 103, 49] ++ (oct s.1.toNat 8 ++ (oct s.2.length 1 ++ (hds s.2 ++ (dts s.2 ++ List.replicate (380 - (bodyO s).length) 0)))) := by
  simp [fullO, bodyO, pre]
theorem sq_full (h : Chk s) : sq (fullO s) = s.1 := by
  unfold sq
  rw [full_parts, mid _ _ _ 4 12 rfl (by simp), nv_oct_lt (by have := h.1; omega), wnat (n := s.1.toNat) (by have := h.1; omega)]
  have := h.1
  omega
theorem cn_full (h : Chk s) : cn (fullO s) = s.2.length := by
  unfold cn
  rw [full_parts, ← List.append_assoc, mid _ _ _ 12 13 (by simp) (by simp), nv_oct_lt (by have := h.2.1; omega)]
theorem full_pre (s : Sg) : fullO s = pre s.1.toNat s.2.length ++ (hds s.2 ++ (dts s.2 ++ List.replicate (380 - (bodyO s).length) 0)) := by
  simp [fullO, bodyO]
theorem hbs_full (h : Chk s) : hbs (fullO s) = hds s.2 := by
  unfold hbs
  rw [cn_full h, full_pre, mid _ _ _ 13 _ (pre_length _ _) (by rw [hds_length]; omega)]
theorem beh_full (h : Chk s) : beh (fullO s) = dts s.2 ++ List.replicate (380 - (bodyO s).length) 0 := by
  unfold beh
  rw [cn_full h, full_pre, ← List.append_assoc, app_drop _ _ _ (by rw [List.length_append, pre_length, hds_length]; omega)]
theorem rd_full (h : Chk s) : rdOk (fullO s) = true ∧ rdR (fullO s) = (s.2, List.replicate (380 - (bodyO s).length) 0) := by
  have h1 := h.2.1.2
  refine ⟨?_, ?_⟩
  · unfold rdOk
    rw [cn_full h, hbs_full h, okK_hds _ h.2.2]
    simpa using h1
  · unfold rdR
    rw [cn_full h, hbs_full h, beh_full h, rdF_hds _ h.2.2 _ _ (Nat.le_refl _)]
    simp [dts]
theorem rdS_full (h : Chk s) : rdS (fullO s) = s := by rw [rdS, if_pos (rd_full h).1, (rd_full h).2, sq_full h]
theorem rdE_full (h : Chk s) : rdE (fullO s) = 0 := by rw [rdE, if_pos (rd_full h).1, (rd_full h).2, sq_full h, cerr_ok h]
theorem rdB_full (h : Chk s) : rdB (fullO s) = List.replicate (380 - (bodyO s).length) 0 := by rw [rdB, if_pos (rd_full h).1, (rd_full h).2]
theorem seal_take (h : Chk s) : (sealO s).take 380 = fullO s := app_take _ _ _ (full_length h)
theorem seal_drop (h : Chk s) : (sealO s).drop 380 = oct (C.sum (fullO s)) 4 := app_drop _ _ _ (full_length h)
theorem full_lt (ho : Oct (sealO s)) : C.sum (fullO s) < 4294967296 := by
  refine C.ext_lt 0 _ (by decide) fun x hx => octs ho x ?_
  rw [sealO]
  exact List.mem_append_left _ hx
/-- What is sealed is read back. -/
theorem open_seal (h : Chk s) (ho : Oct (sealO s)) : oE (sealO s) = 0 ∧ oS (sealO s) = s := by
  have e : oE (sealO s) = 0 := by
    refine oE_ok (seal_length h) ?_ ?_ ?_ ?_
    · rw [seal_take h, seal_drop h, nv_oct_lt (by simpa using full_lt ho)]
    · rw [seal_take h, full_parts]
      rfl
    · rw [seal_take h, rdE_full h]
    · rw [seal_take h, rdB_full h]
      simp
  refine ⟨e, ?_⟩
  rw [oS_ok e, seal_take h, rdS_full h]
end

/-- One octet turned makes another sum. -/
theorem upd_inj : ∀ (l : List Int) (r s : Nat), r < 4294967296 → s < 4294967296 → C.Oct l → C.upd r l = C.upd s l → r = s
  | [], r, s, _, _, _, h => h
  | x :: l, r, s, hr, hs, ho, h => by
    have hx := ho x (List.mem_cons_self ..)
    have k1 : r ^^^ x.toNat < 4294967296 := Nat.xor_lt_two_pow (n := 32) hr (by omega)
    have k2 : s ^^^ x.toNat < 4294967296 := Nat.xor_lt_two_pow (n := 32) hs (by omega)
    have := C.steps_inj 8 _ _ k1 k2 (upd_inj l _ _ (C.steps_lt 8 _ k1) (C.steps_lt 8 _ k2) (fun y hy => ho y (List.mem_cons_of_mem _ hy)) h)
    rw [← C.xor_twice x.toNat r, this, C.xor_twice]
theorem upd_turn : ∀ (l : List Int) (r j : Nat) (x : Int), r < 4294967296 → C.Oct l → 0 ≤ x ∧ x ≤ 255 → j < l.length → C.upd r (l.set j x) = C.upd r l → l[j]? = some x
  | [], _, _, _, _, _, _, h, _ => by simp at h
  | y :: l, r, 0, x, hr, ho, hx, _, h => by
    have hy := ho y (List.mem_cons_self ..)
    have k1 : r ^^^ x.toNat < 4294967296 := Nat.xor_lt_two_pow (n := 32) hr (by omega)
    have k2 : r ^^^ y.toNat < 4294967296 := Nat.xor_lt_two_pow (n := 32) hr (by omega)
    have := C.steps_inj 8 _ _ k1 k2 (upd_inj l _ _ (C.steps_lt 8 _ k1) (C.steps_lt 8 _ k2) (fun z hz => ho z (List.mem_cons_of_mem _ hz)) h)
    rw [Nat.xor_comm r, Nat.xor_comm r] at this
    have e : x.toNat = y.toNat := by rw [← C.xor_twice r x.toNat, this, C.xor_twice]
    rw [show x = y by omega]
    rfl
  | y :: l, r, j + 1, x, hr, ho, hx, hj, h => by
    have hy := ho y (List.mem_cons_self ..)
    exact upd_turn l _ j x (C.steps_lt 8 _ (Nat.xor_lt_two_pow (n := 32) hr (by omega))) (fun z hz => ho z (List.mem_cons_of_mem _ hz)) hx (by simpa using hj) h
theorem sum_turn {l : List Int} {j : Nat} {x : Int} (ho : C.Oct l) (hx : 0 ≤ x ∧ x ≤ 255) (hj : j < l.length) (hne : l[j]? ≠ some x) : C.sum (l.set j x) ≠ C.sum l := fun h => by
  refine hne (upd_turn l (C.turned 0) j x (by decide) ho hx hj ?_)
  unfold C.sum C.ext at h
  have := congrArg C.turned h
  rwa [C.turned_turned, C.turned_turned] at this
/-- A sealed segment with one octet turned is corrupt. -/
theorem rot_seal {s : Sg} (h : Chk s) (ho : Oct (sealO s)) {j : Nat} {x : Int} (hj : j < 384) (hx : 0 ≤ x ∧ x ≤ 255) (hne : (sealO s)[j]? ≠ some x) : oE ((sealO s).set j x) = 21 := by
  refine oE_sum (by rw [List.length_set, seal_length h]) ?_
  have hf := full_length h
  have hlt := full_lt ho
  have hoF : C.Oct (fullO s) := fun y hy => octs ho y (by rw [sealO]; exact List.mem_append_left _ hy)
  by_cases hc : j < 380
  · have e : (sealO s).set j x = (fullO s).set j x ++ oct (C.sum (fullO s)) 4 := by rw [sealO, List.set_append_left _ _ (by omega)]
    rw [e, app_take _ _ _ (by simpa using hf), app_drop _ _ _ (by simpa using hf), nv_oct_lt (by simpa using hlt)]
    refine sum_turn hoF hx (by omega) ?_
    rw [sealO, List.getElem?_append_left (by omega)] at hne
    exact hne
  · have e : (sealO s).set j x = fullO s ++ (oct (C.sum (fullO s)) 4).set (j - 380) x := by rw [sealO, List.set_append_right _ _ (by omega), hf]
    rw [e, app_take _ _ _ hf, app_drop _ _ _ hf]
    intro hs
    rw [sealO, List.getElem?_append_right (by omega), hf] at hne
    have e2 := nv_inj ((oct (C.sum (fullO s)) 4).set (j - 380) x) (oct (C.sum (fullO s)) 4) (fun y hy => by
      rcases List.mem_or_eq_of_mem_set hy with hy | rfl
      · exact oct_oct _ _ y hy
      · exact hx) (oct_oct _ _) (by simp) (by rw [← hs, nv_oct_lt (by simpa using hlt)])
    refine hne ?_
    rw [← e2, List.getElem?_set_self (by simp; omega)]

/-- What is read is sealed anew to the same octets. -/
theorem take_part {α : Type} (l : List α) (i j : Nat) (h : i ≤ j) : l.take i ++ (l.take j).drop i = l.take j := by
  have := List.take_append_drop i (l.take j)
  rwa [List.take_take, Nat.min_eq_left h] at this
theorem hd_back {h : List Int} {m k : Nat} (ho : ∀ x ∈ h, 0 ≤ x ∧ x ≤ 255) (hl : h.length = 6 * m) (hk : k < m) {d : List Int} (hd1 : d.length = (lnn h k).toNat) : hd (ow h k, ixn h k, d) = ck h k := by
  have hc := ck_length hl hk
  have hoc : ∀ x ∈ ck h k, 0 ≤ x ∧ x ≤ 255 := fun x hx => ho x (List.mem_of_mem_take (List.mem_of_mem_drop hx))
  have o1 : ∀ x ∈ (ck h k).take 4, 0 ≤ x ∧ x ≤ 255 := fun x hx => hoc x (List.mem_of_mem_take hx)
  have o2 : ∀ x ∈ ((ck h k).drop 4).take 1, 0 ≤ x ∧ x ≤ 255 := fun x hx => hoc x (List.mem_of_mem_drop (List.mem_of_mem_take hx))
  have o3 : ∀ x ∈ ((ck h k).drop 4).drop 1, 0 ≤ x ∧ x ≤ 255 := fun x hx => hoc x (List.mem_of_mem_drop (List.mem_of_mem_drop hx))
  have l1 : ((ck h k).take 4).length = 4 := by simp; omega
  have l2 : (((ck h k).drop 4).take 1).length = 1 := by simp; omega
  have l3 : (((ck h k).drop 4).drop 1).length = 1 := by simp; omega
  have n1 := O.nv_lt _ o1
  have n2 := O.nv_lt _ o2
  have n3 := O.nv_lt _ o3
  rw [l1] at n1
  rw [l2] at n2
  rw [l3] at n3
  have e1 : (ow h k).toNat = nv ((ck h k).take 4) := by unfold ow; rw [wnat (n := nv ((ck h k).take 4)) (by omega)]; rfl
  have e2 : (ixn h k).toNat = nv (((ck h k).drop 4).take 1) := by unfold ixn; rw [wnat (n := nv (((ck h k).drop 4).take 1)) (by omega)]; rfl
  have e3 : (lnn h k).toNat = nv (((ck h k).drop 4).drop 1) := by unfold lnn; rw [wnat (n := nv (((ck h k).drop 4).drop 1)) (by omega)]; rfl
  have p1 := oct_nv o1
  have p2 := oct_nv o2
  have p3 := oct_nv o3
  rw [l1] at p1
  rw [l2] at p2
  rw [l3] at p3
  show oct (ow h k).toNat 4 ++ oct (ixn h k).toNat 1 ++ oct d.length 1 = ck h k
  rw [hd1, e1, e2, e3, p1, p2, p3, List.append_assoc, List.take_append_drop, List.take_append_drop]
theorem rdF_back {h : List Int} {m : Nat} (ho : ∀ x ∈ h, 0 ≤ x ∧ x ≤ 255) (hl : h.length = 6 * m) (hm : m ≤ 8) (hok : okK h (List.range m) = true) (left : List Int) (hleft : 256 ≤ left.length) : ∀ k, k ≤ m → hds (rdF h (List.range k) left).1 = h.take (k * 6) ∧ dts (rdF h (List.range k) left).1 ++ (rdF h (List.range k) left).2 = left
  | 0, _ => by simp [rdF, hds, dts]
  | k + 1, hk => by
    obtain ⟨i1, i2⟩ := rdF_back ho hl hm hok left hleft k (by omega)
    have hokk : okK h (List.range k) = true := by
      unfold okK at hok ⊢
      rw [List.all_eq_true] at hok ⊢
      exact fun x hx => hok x (List.mem_range.2 (by have := List.mem_range.1 hx; omega))
    have h1 := rdF_left h (List.range k) left hokk
    rw [List.length_range] at h1
    have h2 : lnn h k ≤ 32 := by
      unfold okK at hok
      have := List.all_eq_true.1 hok k (List.mem_range.2 (by omega))
      simpa using this
    rw [List.range_succ, rdF_snoc, hds_snoc, dts_snoc]
    refine ⟨?_, ?_⟩
    · rw [i1]
      show _ ++ hd (ow h k, ixn h k, _) = _
      rw [hd_back ho hl (by omega) (by rw [List.length_take]; omega)]
      unfold ck
      rw [show (k + 1) * 6 = k * 6 + 6 by omega]
      exact take_part h (k * 6) (k * 6 + 6) (by omega)
    · show dts _ ++ (rdF h (List.range k) left).2.take (lnn h k).toNat ++ (rdF h (List.range k) left).2.drop (lnn h k).toNat = left
      rw [List.append_assoc, List.take_append_drop, i2]
theorem all_zero {l : List Int} (h : l.all (fun x => decide (x = 0)) = true) : l = List.replicate l.length 0 := by
  refine List.eq_replicate_iff.2 ⟨rfl, fun x hx => ?_⟩
  have := List.all_eq_true.1 h x hx
  simpa using this
theorem oE_zero {b : List Int} (h : oE b = 0) : b.length = 384 ∧ C.sum (b.take 380) = nv (b.drop 380) ∧ (b.take 380).take 4 = mrk ∧ rdE (b.take 380) = 0 ∧ (rdB (b.take 380)).all (fun x => decide (x = 0)) = true := by
  by_cases c1 : b.length = 384
  case neg => rw [oE_count c1] at h; exact absurd h (by decide)
  by_cases c2 : C.sum (b.take 380) = nv (b.drop 380)
  case neg => rw [oE_sum c1 c2] at h; exact absurd h (by decide)
  by_cases c3 : (b.take 380).take 4 = mrk
  case neg => rw [oE_kind c1 c2 c3] at h; exact absurd h (by decide)
  by_cases c4 : rdE (b.take 380) = 0
  case neg => rw [oE_state c1 c2 c3 c4] at h; exact absurd h c4
  cases c5 : (rdB (b.take 380)).all (fun x => decide (x = 0))
  · rw [oE_tail c1 c2 c3 c4 c5] at h; exact absurd h (by decide)
  · exact ⟨c1, c2, c3, c4, rfl⟩
theorem rdE_zero {L : List Int} (c4 : rdE L = 0) : rdOk L = true ∧ Chk (sq L, (rdR L).1) := by
  cases hr : rdOk L
  · rw [rdE, hr, if_neg (by decide)] at c4
    exact absurd c4 (by decide)
  · rw [rdE, if_pos hr] at c4
    exact ⟨rfl, cerr_zero.1 c4⟩
theorem rdOk_parts {L : List Int} (hok : rdOk L = true) : cn L ≤ 8 ∧ okK (hbs L) (List.range (cn L)) = true := by
  unfold rdOk at hok
  rw [Bool.and_eq_true, decide_eq_true_eq] at hok
  exact hok
theorem pre_read {L : List Int} (hoL : ∀ x ∈ L, 0 ≤ x ∧ x ≤ 255) (hLl : L.length = 380) (c3 : L.take 4 = mrk) (h1 : 1 ≤ sq L) : pre (sq L).toNat (cn L) = L.take 13 := by
  have o4 : ∀ x ∈ (L.take 12).drop 4, 0 ≤ x ∧ x ≤ 255 := fun x hx => hoL x (List.mem_of_mem_take (List.mem_of_mem_drop hx))
  have l4 : ((L.take 12).drop 4).length = 8 := by rw [part_length _ _ _ (by omega)]
  have n4 := O.nv_lt _ o4
  have p4 := oct_nv o4
  rw [l4] at n4 p4
  have o5 : ∀ x ∈ (L.take 13).drop 12, 0 ≤ x ∧ x ≤ 255 := fun x hx => hoL x (List.mem_of_mem_take (List.mem_of_mem_drop hx))
  have l5 : ((L.take 13).drop 12).length = 1 := by rw [part_length _ _ _ (by omega)]
  have p5 := oct_nv o5
  rw [l5] at p5
  have hsq : (sq L).toNat = nv ((L.take 12).drop 4) := by
    unfold sq at h1 ⊢
    exact w_pos (by simpa using n4) h1
  unfold pre
  rw [hsq, p4, show oct (cn L) 1 = (L.take 13).drop 12 from p5, show ([115, 101, 103, 49] : List Int) = L.take 4 from c3.symm, take_part L 4 12 (by omega), take_part L 12 13 (by omega)]
theorem full_read {L : List Int} (hoL : ∀ x ∈ L, 0 ≤ x ∧ x ≤ 255) (hLl : L.length = 380) (c3 : L.take 4 = mrk) (hok : rdOk L = true) (h1 : 1 ≤ sq L) (c5 : (rdR L).2.all (fun x => decide (x = 0)) = true) : fullO (sq L, (rdR L).1) = L := by
  obtain ⟨hc8, hok⟩ := rdOk_parts hok
  have hhl := hbs_length hLl hc8
  have hoh : ∀ x ∈ hbs L, 0 ≤ x ∧ x ≤ 255 := fun x hx => hoL x (List.mem_of_mem_take (List.mem_of_mem_drop hx))
  have hbl : (beh L).length = 380 - (13 + cn L * 6) := by rw [beh, List.length_drop, hLl]
  obtain ⟨k1, k2⟩ := rdF_back hoh hhl hc8 hok (beh L) (by omega) (cn L) (Nat.le_refl _)
  rw [List.take_of_length_le (by omega)] at k1
  have kn : (rdR L).1.length = cn L := by
    have := rdF_length (hbs L) (List.range (cn L)) (beh L) hok
    rwa [List.length_range] at this
  replace k1 : hds (rdR L).1 = hbs L := k1
  replace k2 : dts (rdR L).1 ++ (rdR L).2 = beh L := k2
  have hpre := pre_read hoL hLl c3 h1
  have hz := all_zero c5
  obtain ⟨A, hA⟩ : ∃ A, A = (rdR L).1 := ⟨_, rfl⟩
  obtain ⟨B, hB⟩ : ∃ B, B = (rdR L).2 := ⟨_, rfl⟩
  rw [← hA] at k1 k2 kn ⊢
  rw [← hB] at k2 hz
  have hlen : 380 - (bodyO (sq L, A)).length = B.length := by
    have := congrArg List.length k2
    rw [List.length_append, hbl] at this
    simp only [bodyO, List.length_append, pre_length, hds_length]
    rw [kn]
    omega
  have hbody : bodyO (sq L, A) = L.take 13 ++ hbs L ++ dts A := by
    show pre (sq L).toNat A.length ++ hds A ++ dts A = _
    rw [kn, hpre, k1]
  show bodyO (sq L, A) ++ List.replicate (380 - (bodyO (sq L, A)).length) 0 = L
  rw [hlen, ← hz, hbody, List.append_assoc, k2]
  unfold hbs beh
  rw [take_part L 13 (13 + cn L * 6) (by omega), List.take_append_drop]
theorem seal_open {b : List Int} (ho : Oct b) (h : oE b = 0) : Chk (oS b) ∧ sealO (oS b) = b := by
  obtain ⟨c1, c2, c3, c4, c5⟩ := oE_zero h
  obtain ⟨hok, hck⟩ := rdE_zero c4
  rw [rdB, if_pos hok] at c5
  rw [oS_ok h, rdS, if_pos hok]
  refine ⟨hck, ?_⟩
  have hf := full_read (fun x hx => octs ho x (List.mem_of_mem_take hx)) (by rw [List.length_take]; omega) c3 hok hck.1.1 c5
  have o6 : ∀ x ∈ b.drop 380, 0 ≤ x ∧ x ≤ 255 := fun x hx => octs ho x (List.mem_of_mem_drop hx)
  have p6 := oct_nv o6
  rw [show (b.drop 380).length = 4 by rw [List.length_drop]; omega] at p6
  unfold sealO
  rw [hf, c2, p6, List.take_append_drop]

end Go.Proofs.Ytmjgamokddedkaa
