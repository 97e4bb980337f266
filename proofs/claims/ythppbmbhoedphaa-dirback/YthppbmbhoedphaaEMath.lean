/-
  Plain mathematics: entries as octets, octets read as entries, there and back.
-/
import Derived.Test.YthppbmbhoedphaaOcts
namespace Go.Proofs.Ythppbmbhoedphaa

/-! Four octets. -/

theorem oct4 (n : Nat) : O.oct n 4 = [((n / 16777216 % 256 : Nat) : Int), ((n / 65536 % 256 : Nat) : Int), ((n / 256 % 256 : Nat) : Int), ((n % 256 : Nat) : Int)] := by
  simp [O.oct, List.range_succ]
theorem nv4 (a b c d : Int) : O.nv [a, b, c, d] = ((a.toNat * 256 + b.toNat) * 256 + c.toNat) * 256 + d.toNat := by
  simp [O.nv]
  omega
theorem oct_oct (n k : Nat) : Oct (O.oct n k) := fun x hx => by
  obtain ⟨t, _, rfl⟩ := List.mem_map.1 hx
  exact u8_wf (by omega) (by omega)
theorem nv_oct4 (n : Nat) (h : n < 4294967296) : O.nv (O.oct n 4) = n := by
  rw [oct4, nv4]
  simp only [Int.toNat_natCast]
  omega
theorem four {l : List Int} (h : l.length = 4) : ∃ a b c d, l = [a, b, c, d] := by
  match l, h with
  | [a, b, c, d], _ => exact ⟨a, b, c, d, rfl⟩
theorem oct4_nv {l : List Int} (h : l.length = 4) (ho : Oct l) : O.oct (O.nv l) 4 = l ∧ O.nv l < 4294967296 := by
  obtain ⟨a, b, c, d, rfl⟩ := four h
  have ha := u8_bounds (ho a (by simp))
  have hb := u8_bounds (ho b (by simp))
  have hc := u8_bounds (ho c (by simp))
  have hd := u8_bounds (ho d (by simp))
  rw [oct4, nv4]
  refine ⟨?_, by omega⟩
  simp only [List.cons.injEq, and_true]
  refine ⟨?_, ?_, ?_, ?_⟩ <;> omega

/-! Entries as octets. -/

def encE (p : En) : List Int := (p.1.size : Int) :: (nb p.1 ++ O.oct p.2.toNat 4)
def enc (l : List En) : List Int := (l.map encE).flatten
def eval (l : List En) : List Int := if Chk l then enc l else []
theorem enc_snoc {l : List En} {k : Nat} {p : En} (h : l[k]? = some p) : enc (l.take (k + 1)) = enc (l.take k) ++ encE p := by rw [take_snoc h]; simp [enc]
theorem encE_length (p : En) : (encE p).length = p.1.size + 5 := by simp [encE, nb_length]
theorem good_size {p : En} (h : Good p) : 1 ≤ p.1.size ∧ p.1.size ≤ 16 ∧ 1 ≤ p.2 ∧ p.2 ≤ 2147483647 := by
  obtain ⟨h1, h2⟩ := h
  simp [nameOk] at h1
  simp [inoOk] at h2
  omega
theorem enc_length : ∀ {l : List En}, (∀ p ∈ l, Good p) → (enc l).length ≤ 21 * l.length
  | [], _ => by simp [enc]
  | p :: l, h => by
    have h1 := enc_length (l := l) fun q hq => h q (List.mem_cons_of_mem _ hq)
    have h2 := good_size (h p (List.mem_cons_self ..))
    have h3 := encE_length p
    have e : enc (p :: l) = encE p ++ enc l := by simp [enc]
    rw [e, List.length_append, List.length_cons]
    omega
theorem encE_oct {p : En} (h : p.1.size ≤ 255) : Oct (encE p) := fun x hx => by
  unfold encE at hx
  rcases List.mem_cons.1 hx with rfl | hx
  · exact u8_wf (by omega) (by omega)
  · rcases List.mem_append.1 hx with hx | hx
    · exact nb_oct _ x hx
    · exact oct_oct _ _ x hx
theorem oct_app {a b : List Int} (ha : Oct a) (hb : Oct b) : Oct (a ++ b) := fun x hx => (List.mem_append.1 hx).elim (ha x) (hb x)

/-! Octets read as entries. -/

/-- The entry at the beginning, and what is left. -/
def one : List Int → Option (En × List Int)
  | [] => none
  | n :: r => if r.length < n.toNat + 4 then none else some ((strOfNums (r.take n.toNat), (O.nv ((r.drop n.toNat).take 4) : Int)), r.drop (n.toNat + 4))
def dec : Nat → List Int → Option (List En)
  | 0, _ => some []
  | _ + 1, [] => some []
  | f + 1, n :: r => match one (n :: r) with
    | none => none
    | some (e, t) => (dec f t).map (e :: ·)
def decL (b : List Int) : Option (List En) := dec b.length b

theorem one_cons (n : Int) (r : List Int) : one (n :: r) = if r.length < n.toNat + 4 then none else some ((strOfNums (r.take n.toNat), (O.nv ((r.drop n.toNat).take 4) : Int)), r.drop (n.toNat + 4)) := rfl
theorem one_lt {b r : List Int} {e : En} (h : one b = some (e, r)) : r.length + 5 ≤ b.length := by
  cases b with
  | nil => cases h
  | cons n t =>
    rw [one_cons] at h
    split at h
    · cases h
    · obtain ⟨_, h2⟩ := Prod.mk.inj (Option.some.inj h)
      rw [← h2, List.length_drop, List.length_cons]
      omega
theorem dec_enough : ∀ (f g : Nat) (b : List Int), b.length ≤ f → b.length ≤ g → dec f b = dec g b := by
  intro f
  induction f with
  | zero =>
    intro g b hf _
    obtain rfl := List.eq_nil_of_length_eq_zero (Nat.le_zero.1 hf)
    cases g <;> rfl
  | succ f ih =>
    intro g b hf hg
    cases b with
    | nil => cases g <;> rfl
    | cons n r =>
      cases g with
      | zero => simp at hg
      | succ g =>
        simp only [dec]
        cases h : one (n :: r) with
        | none => rfl
        | some x =>
          obtain ⟨e, t⟩ := x
          have := one_lt h
          simp only [List.length_cons] at hf hg this
          simp only
          rw [ih g t (by omega) (by omega)]
theorem decL_nil : decL [] = some [] := rfl
theorem decL_short {b : List Int} (hb : b ≠ []) (h : one b = none) : decL b = none := by
  cases b with
  | nil => exact absurd rfl hb
  | cons n r =>
    unfold decL
    rw [List.length_cons]
    simp only [dec, h]
theorem decL_step {b r : List Int} {e : En} (h : one b = some (e, r)) : decL b = (decL r).map (e :: ·) := by
  cases b with
  | nil => cases h
  | cons n t =>
    have hl := one_lt h
    unfold decL
    rw [List.length_cons]
    simp only [dec, h]
    rw [dec_enough t.length r.length r (by simp only [List.length_cons] at hl; omega) (Nat.le_refl _)]

def derr (b : List Int) : Int := match decL b with | none => 8 | some l => cerr l
def dval (b : List Int) : List En := match decL b with | none => [] | some l => if Chk l then l else []
theorem derr_short {b : List Int} (h : decL b = none) : derr b = 8 ∧ dval b = [] := by simp [derr, dval, h]
theorem derr_bad {b : List Int} {l : List En} (h : decL b = some l) (hc : ¬ Chk l) : derr b = 9 ∧ dval b = [] := by
  unfold derr dval cerr
  rw [h]
  exact ⟨if_neg hc, if_neg hc⟩
theorem derr_ok {b : List Int} {l : List En} (h : decL b = some l) (hc : Chk l) : derr b = 0 ∧ dval b = l := by
  unfold derr dval cerr
  rw [h]
  exact ⟨if_pos hc, if_pos hc⟩

/-! There and back. -/

theorem one_enc {p : En} (h : Good p) (r : List Int) : one (encE p ++ r) = some (p, r) := by
  obtain ⟨h1, h2, h3, h4⟩ := good_size h
  have hl := nb_length p.1
  have ho : (O.oct p.2.toNat 4).length = 4 := O.oct_length _ _
  show (if (nb p.1 ++ O.oct p.2.toNat 4 ++ r).length < ((p.1.size : Int)).toNat + 4 then none else some ((strOfNums ((nb p.1 ++ O.oct p.2.toNat 4 ++ r).take ((p.1.size : Int)).toNat), (O.nv (((nb p.1 ++ O.oct p.2.toNat 4 ++ r).drop ((p.1.size : Int)).toNat).take 4) : Int)), (nb p.1 ++ O.oct p.2.toNat 4 ++ r).drop (((p.1.size : Int)).toNat + 4))) = some (p, r)
  rw [Int.toNat_natCast, if_neg (by simp [hl]), List.append_assoc, List.take_left' hl, List.drop_left' hl, List.take_left' ho, nv_oct4 _ (by omega), nb_back]
  have hd : (nb p.1 ++ (O.oct p.2.toNat 4 ++ r)).drop (p.1.size + 4) = r := by
    rw [← List.append_assoc, List.drop_left' (by simp [hl])]
  rw [hd]
  have e : ((p.2.toNat : Nat) : Int) = p.2 := by omega
  rw [e]
theorem dec_enc : ∀ {l : List En}, (∀ p ∈ l, Good p) → decL (enc l) = some l
  | [], _ => rfl
  | p :: l, h => by
    have e : enc (p :: l) = encE p ++ enc l := by simp [enc]
    rw [e, decL_step (one_enc (h p (List.mem_cons_self ..)) _), dec_enc fun q hq => h q (List.mem_cons_of_mem _ hq)]
    rfl
theorem enc_one {b r : List Int} {e : En} (ho : Oct b) (h : one b = some (e, r)) : b = encE e ++ r ∧ e.1.size ≤ 255 ∧ 0 ≤ e.2 ∧ e.2 < 4294967296 ∧ Oct r := by
  cases b with
  | nil => cases h
  | cons n t =>
    have hn := u8_bounds (ho n (List.mem_cons_self ..))
    have ht : Oct t := fun x hx => ho x (List.mem_cons_of_mem _ hx)
    rw [one_cons] at h
    split at h
    · cases h
    · rename_i hlen
      obtain ⟨he, hr⟩ := Prod.mk.inj (Option.some.inj h)
      have h4 : ((t.drop n.toNat).take 4).length = 4 := by rw [List.length_take, List.length_drop]; omega
      have ho4 : Oct ((t.drop n.toNat).take 4) := fun x hx => ht x (List.mem_of_mem_drop (List.mem_of_mem_take hx))
      obtain ⟨q1, q2⟩ := oct4_nv h4 ho4
      have hs : (strOfNums (t.take n.toNat)).size = n.toNat := by rw [strOfNums_size, List.length_take]; omega
      have hto : Oct (t.take n.toNat) := fun x hx => ht x (List.mem_of_mem_take hx)
      rw [← he, ← hr]
      refine ⟨?_, by simp only [hs]; omega, by simp only; omega, by simp only; omega, fun x hx => ht x (List.mem_of_mem_drop hx)⟩
      unfold encE
      simp only
      rw [hs, back_nb hto, Int.toNat_natCast, q1, List.cons_append, List.append_assoc, show n.toNat + 4 = n.toNat + 4 from rfl, ← List.drop_drop, List.take_append_drop, List.take_append_drop]
      congr 1
      omega
theorem enc_dec : ∀ (k : Nat) {b : List Int} {l : List En}, b.length ≤ k → Oct b → decL b = some l → enc l = b ∧ EOks l := by
  intro k
  induction k with
  | zero =>
    intro b l hk _ h
    obtain rfl := List.eq_nil_of_length_eq_zero (Nat.le_zero.1 hk)
    rw [decL_nil] at h
    cases h
    exact ⟨rfl, fun _ h => by cases h⟩
  | succ k ih =>
    intro b l hk ho h
    by_cases hb : b = []
    · subst hb
      rw [decL_nil] at h
      cases h
      exact ⟨rfl, fun _ h => by cases h⟩
    · cases h1 : one b with
      | none => rw [decL_short hb h1] at h; cases h
      | some x =>
        obtain ⟨e, r⟩ := x
        rw [decL_step h1] at h
        cases h2 : decL r with
        | none => rw [h2] at h; cases h
        | some m =>
          rw [h2] at h
          simp only [Option.map_some, Option.some.injEq] at h
          obtain ⟨hbe, hs, hi0, hi1, hor⟩ := enc_one ho h1
          have hlt := one_lt h1
          obtain ⟨hm, hme⟩ := ih (by omega) hor h2
          subst h
          refine ⟨?_, fun q hq => ?_⟩
          · rw [show enc (e :: m) = encE e ++ enc m by simp [enc], hm]
            exact hbe.symm
          · rcases List.mem_cons.1 hq with rfl | hq
            · exact ⟨by unfold maxLen; omega, by unfold I64; omega⟩
            · exact hme q hq

end Go.Proofs.Ythppbmbhoedphaa
