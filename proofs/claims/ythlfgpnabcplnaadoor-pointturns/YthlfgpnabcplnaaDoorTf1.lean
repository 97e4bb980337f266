import Derived.Test.YthlfgpnabcplnaaDoorRows
/-
  The register of CRC-32 as plain mathematics: what bits and octets make of it, that it is linear, that nothing but itself goes to one register, and what all that is sealed makes of it.
-/
namespace Go.Proofs.YthlfgpnabcplnaaDoor.W.C

def step (r : Nat) : Nat := if r % 2 = 1 then r / 2 ^^^ 3988292384 else r / 2
def steps : Nat → Nat → Nat
  | 0, r => r
  | n + 1, r => steps n (step r)

theorem xor_half (a b : Nat) : (a ^^^ b) / 2 = a / 2 ^^^ b / 2 := by
  have := Nat.shiftRight_xor_distrib (a := a) (b := b) (i := 1)
  simpa [Nat.shiftRight_eq_div_pow] using this

theorem xor_par (a b : Nat) : (a ^^^ b) % 2 = (a % 2 + b % 2) % 2 := by
  have := Nat.xor_mod_two_pow (a := a) (b := b) (n := 1)
  simp only [Nat.pow_one] at this
  rw [this]
  rcases Nat.mod_two_eq_zero_or_one a with h | h <;> rcases Nat.mod_two_eq_zero_or_one b with k | k <;> rw [h, k] <;> rfl

theorem step_xor (a b : Nat) : step (a ^^^ b) = step a ^^^ step b := by
  unfold step
  rw [xor_half, xor_par]
  rcases Nat.mod_two_eq_zero_or_one a with h | h <;> rcases Nat.mod_two_eq_zero_or_one b with k | k <;> rw [h, k] <;> simp
  · ac_rfl
  · ac_rfl
  · rw [Nat.xor_assoc (a/2), Nat.xor_comm 3988292384, Nat.xor_assoc (b/2), Nat.xor_self, Nat.xor_zero]

theorem steps_xor (n a b : Nat) : steps n (a ^^^ b) = steps n a ^^^ steps n b := by
  induction n generalizing a b with
  | zero => rfl
  | succ n ih => rw [steps, step_xor, ih]; rfl

theorem steps_add (m n r : Nat) : steps (m + n) r = steps n (steps m r) := by
  induction m generalizing r with
  | zero => simp [steps]
  | succ m ih => rw [Nat.succ_add, steps, ih]; rfl

theorem steps_zero (n : Nat) : steps n 0 = 0 := by
  induction n with
  | zero => rfl
  | succ n ih => rw [steps]; exact ih

theorem step_lt (r : Nat) (h : r < 4294967296) : step r < 4294967296 := by
  unfold step
  split
  · exact Nat.xor_lt_two_pow (n := 32) (by omega) (by decide)
  · omega

theorem steps_lt (n r : Nat) (h : r < 4294967296) : steps n r < 4294967296 := by
  induction n generalizing r with
  | zero => exact h
  | succ n ih => exact ih _ (step_lt r h)

theorem xor_eq_zero (a b : Nat) (h : a ^^^ b = 0) : a = b := by
  have : (a ^^^ b) ^^^ b = b := by rw [h, Nat.zero_xor]
  rw [Nat.xor_assoc, Nat.xor_self, Nat.xor_zero] at this
  exact this

theorem step_none (r : Nat) (h : r < 4294967296) (h0 : step r = 0) : r = 0 := by
  unfold step at h0
  split at h0
  · have := xor_eq_zero _ _ h0; omega
  · omega

theorem steps_none (n r : Nat) (h : r < 4294967296) (h0 : steps n r = 0) : r = 0 := by
  induction n generalizing r with
  | zero => exact h0
  | succ n ih => exact step_none r h (ih _ (step_lt r h) h0)

theorem steps_inj (n a b : Nat) (ha : a < 4294967296) (hb : b < 4294967296) (h : steps n a = steps n b) : a = b := by
  refine xor_eq_zero _ _ (steps_none n _ (Nat.xor_lt_two_pow (n := 32) ha hb) ?_)
  rw [steps_xor, h, Nat.xor_self]

theorem steps_shl (n h : Nat) : steps n (h * 2 ^ n) = h := by
  induction n with
  | zero => simp [steps]
  | succ n ih =>
    rw [steps]
    have : step (h * 2 ^ (n + 1)) = h * 2 ^ n := by
      unfold step
      rw [Nat.pow_succ, ← Nat.mul_assoc, if_neg (by omega)]
      omega
    rw [this, ih]

theorem parts (r n : Nat) : r = (r / 2 ^ n * 2 ^ n) ^^^ (r % 2 ^ n) := by
  refine Nat.eq_of_testBit_eq fun i => ?_
  rw [Nat.testBit_xor, Nat.testBit_mod_two_pow, ← Nat.shiftLeft_eq, Nat.testBit_shiftLeft, ← Nat.shiftRight_eq_div_pow, Nat.testBit_shiftRight]
  by_cases h : n ≤ i
  · have : ¬ i < n := by omega
    simp [h, this]
  · have : i < n := by omega
    simp [h, this]

/-- n bits at once. -/
theorem steps_row (n r : Nat) : steps n r = r / 2 ^ n ^^^ steps n (r % 2 ^ n) := by
  conv => lhs; rw [parts r n, steps_xor, steps_shl]

/-- What octets make of a register. -/
def upd (r : Nat) (l : List Int) : Nat := l.foldl (fun r x => steps 8 (r ^^^ x.toNat)) r
def turned (c : Nat) : Nat := c ^^^ 4294967295
def ext (c : Nat) (l : List Int) : Nat := turned (upd (turned c) l)
def sum (l : List Int) : Nat := ext 0 l

theorem xor_twice (k c : Nat) : (c ^^^ k) ^^^ k = c := by rw [Nat.xor_assoc, Nat.xor_self, Nat.xor_zero]
theorem xor_all (k a b c : Nat) : (a ^^^ (b ^^^ c)) ^^^ k = (a ^^^ k) ^^^ ((b ^^^ k) ^^^ (c ^^^ k)) := by
  rw [show ((b ^^^ k) ^^^ (c ^^^ k)) = (k ^^^ k) ^^^ (b ^^^ c) from by ac_rfl, Nat.xor_self, Nat.zero_xor]
  ac_rfl
theorem turned_turned (c : Nat) : turned (turned c) = c := xor_twice _ c
theorem turned_lt (c : Nat) (h : c < 4294967296) : turned c < 4294967296 := Nat.xor_lt_two_pow (n := 32) h (by decide)

def Oct (l : List Int) : Prop := ∀ x ∈ l, 0 ≤ x ∧ x ≤ 255

theorem upd_nil (r : Nat) : upd r [] = r := rfl
theorem upd_cons (r : Nat) (x : Int) (l : List Int) : upd r (x :: l) = upd (steps 8 (r ^^^ x.toNat)) l := rfl
theorem upd_append (r : Nat) (a b : List Int) : upd r (a ++ b) = upd (upd r a) b := List.foldl_append ..
theorem upd_lt (r : Nat) (l : List Int) (h : r < 4294967296) (hl : Oct l) : upd r l < 4294967296 := by
  induction l generalizing r with
  | nil => exact h
  | cons x l ih =>
    have hx := hl x (List.mem_cons_self ..)
    exact ih _ (steps_lt 8 _ (Nat.xor_lt_two_pow (n := 32) h (by omega))) fun y hy => hl y (List.mem_cons_of_mem _ hy)
theorem ext_lt (c : Nat) (l : List Int) (h : c < 4294967296) (hl : Oct l) : ext c l < 4294967296 := turned_lt _ (upd_lt _ _ (turned_lt _ h) hl)
theorem ext_nil (c : Nat) : ext c [] = c := turned_turned c
theorem ext_append (c : Nat) (a b : List Int) : ext c (a ++ b) = ext (ext c a) b := by
  unfold ext
  rw [turned_turned, upd_append]

theorem upd_take (r : Nat) (l : List Int) (k : Nat) (h : k < l.length) : upd r (l.take (k + 1)) = steps 8 (upd r (l.take k) ^^^ (l.getD k 0).toNat) := by
  rw [List.take_succ_eq_append_getElem h, upd_append]
  simp [upd, List.getD, List.getElem?_eq_getElem h]

/-- Three texts, bit by bit exclusive or. -/
def xor3 (a b c : List Int) : List Int := List.zipWith (fun x yz => ((x.toNat ^^^ yz : Nat) : Int)) a (List.zipWith (fun y z => y.toNat ^^^ z.toNat) b c)

theorem upd_xor3 (n : Nat) : ∀ (r s t : Nat) (a b c : List Int), a.length = n → b.length = n → c.length = n → upd (r ^^^ (s ^^^ t)) (xor3 a b c) = upd r a ^^^ (upd s b ^^^ upd t c) := by
  induction n with
  | zero =>
    intro r s t a b c ha hb hc
    obtain rfl := List.eq_nil_of_length_eq_zero ha
    obtain rfl := List.eq_nil_of_length_eq_zero hb
    obtain rfl := List.eq_nil_of_length_eq_zero hc
    rfl
  | succ n ih =>
    intro r s t a b c ha hb hc
    rcases a with _ | ⟨x, a⟩; · cases ha
    rcases b with _ | ⟨y, b⟩; · cases hb
    rcases c with _ | ⟨z, c⟩; · cases hc
    simp only [List.length_cons, Nat.add_right_cancel_iff] at ha hb hc
    simp only [xor3, List.zipWith_cons_cons, upd_cons, Int.toNat_natCast]
    rw [← ih _ _ _ a b c ha hb hc]
    congr 1
    rw [← steps_xor, ← steps_xor]
    congr 1
    ac_rfl

theorem sum_xor3 (a b c : List Int) (hb : b.length = a.length) (hc : c.length = a.length) : sum (xor3 a b c) = sum a ^^^ (sum b ^^^ sum c) := by
  have h := upd_xor3 a.length (turned 0) (turned 0) (turned 0) a b c rfl hb hc
  rw [Nat.xor_self, Nat.xor_zero] at h
  unfold sum ext
  rw [h]
  exact xor_all _ _ _ _

/-- Four octets as one word, the lowest first. -/
def word (q : List Int) : Nat := (q.getD 0 0).toNat + (q.getD 1 0).toNat * 2 ^ 8 + (q.getD 2 0).toNat * 2 ^ 16 + (q.getD 3 0).toNat * 2 ^ 24
def low (s : Nat) : List Int := [((s % 256 : Nat) : Int), ((s / 256 % 256 : Nat) : Int), ((s / 65536 % 256 : Nat) : Int), ((s / 16777216 % 256 : Nat) : Int)]

theorem low_oct (s : Nat) : Oct (low s) := by
  intro x hx
  simp only [low, List.mem_cons, List.not_mem_nil, or_false] at hx
  rcases hx with rfl | rfl | rfl | rfl <;> omega

theorem word_low (s : Nat) (h : s < 4294967296) : word (low s) = s := by
  simp only [word, low, List.getD_cons_zero, List.getD_cons_succ, Int.toNat_natCast]
  omega

theorem low_word (q : List Int) (h : q.length = 4) (hq : Oct q) : low (word q) = q := by
  rcases q with _ | ⟨a, _ | ⟨b, _ | ⟨c, _ | ⟨d, q⟩⟩⟩⟩ <;> simp only [List.length_nil, List.length_cons] at h <;> try omega
  obtain rfl := List.eq_nil_of_length_eq_zero (by omega : q.length = 0)
  have ha := hq a (by simp)
  have hb := hq b (by simp)
  have hc := hq c (by simp)
  have hd := hq d (by simp)
  simp only [word, low, List.getD_cons_zero, List.getD_cons_succ, List.cons.injEq, and_true]
  refine ⟨by omega, by omega, by omega, by omega⟩

theorem step8 (r x k : Nat) (h : x < 2 ^ 8) : steps 8 (r ^^^ (x + k * 2 ^ 8)) = steps 8 (r ^^^ x) ^^^ k := by
  have e : x + k * 2 ^ 8 = x ^^^ k * 2 ^ 8 := by
    have := parts (x + k * 2 ^ 8) 8
    rw [show (x + k * 2 ^ 8) / 2 ^ 8 = k from by omega, show (x + k * 2 ^ 8) % 2 ^ 8 = x from by omega, Nat.xor_comm] at this
    exact this
  rw [e, ← Nat.xor_assoc, steps_xor, steps_shl]

theorem upd_four (r : Nat) (q : List Int) (h : q.length = 4) (hq : Oct q) : upd r q = steps 32 (r ^^^ word q) := by
  rcases q with _ | ⟨a, _ | ⟨b, _ | ⟨c, _ | ⟨d, q⟩⟩⟩⟩ <;> simp only [List.length_nil, List.length_cons] at h <;> try omega
  obtain rfl := List.eq_nil_of_length_eq_zero (by omega : q.length = 0)
  have ha := hq a (by simp)
  have hb := hq b (by simp)
  have hc := hq c (by simp)
  have hd := hq d (by simp)
  simp only [word, List.getD_cons_zero, List.getD_cons_succ, upd_cons, upd_nil]
  rw [show (32 : Nat) = 8 + (8 + (8 + 8)) from rfl, steps_add, steps_add, steps_add]
  rw [show a.toNat + b.toNat * 2 ^ 8 + c.toNat * 2 ^ 16 + d.toNat * 2 ^ 24 = a.toNat + (b.toNat + (c.toNat + d.toNat * 2 ^ 8) * 2 ^ 8) * 2 ^ 8 from by omega]
  rw [step8 _ _ _ (by omega), step8 _ _ _ (by omega), step8 _ _ _ (by omega)]

/-- What all that is sealed makes of the register. -/
def rest : Nat := steps 32 4294967295
theorem rest_eq : turned rest = 558161692 := by decide +kernel

def full : Nat := 4294967295
theorem rest_of (a q : List Int) (ha : Oct a) (hl : q.length = 4) (hq : Oct q) : upd full (a ++ q) = rest ↔ q = low (sum a) := by
  have hR := upd_lt full a (by decide) ha
  have hs : sum a = turned (upd full a) := rfl
  have hW : word q < 4294967296 := by
    rcases q with _ | ⟨a, _ | ⟨b, _ | ⟨c, _ | ⟨d, q⟩⟩⟩⟩ <;> simp only [List.length_nil, List.length_cons] at hl <;> try omega
    have ha := hq a (by simp)
    have hb := hq b (by simp)
    have hc := hq c (by simp)
    have hd := hq d (by simp)
    simp only [word, List.getD_cons_zero, List.getD_cons_succ]
    omega
  rw [upd_append, upd_four _ q hl hq, hs]
  constructor
  · intro h
    have := steps_inj 32 _ _ (Nat.xor_lt_two_pow (n := 32) hR hW) (by decide) h
    have e : word q = turned (upd full a) := by
      show word q = upd full a ^^^ 4294967295
      rw [← this, ← Nat.xor_assoc, Nat.xor_self, Nat.zero_xor]
    rw [← e, low_word q hl hq]
  · intro h
    rw [h, word_low _ (turned_lt _ hR)]
    unfold rest turned
    rw [← Nat.xor_assoc, Nat.xor_self, Nat.zero_xor]

/-- One bit turned in one octet. -/
theorem upd_bit (r : Nat) (l : List Int) (j k : Nat) (hj : j < l.length) (hk : k < 8) (x : Int) (hx : x.toNat = (l.getD j 0).toNat ^^^ 2 ^ k) : upd r (l.set j x) = upd r l ^^^ steps (8 * (l.length - j) - k) 1 := by
  induction l generalizing r j with
  | nil => simp at hj
  | cons y l ih =>
    rcases j with _ | j
    · simp only [List.getD_cons_zero] at hx
      simp only [List.set_cons_zero, upd_cons, hx, List.length_cons]
      rw [← Nat.xor_assoc, steps_xor]
      have e : steps 8 (2 ^ k) = steps (8 - k) 1 := by
        have := steps_shl k 1
        rw [Nat.one_mul] at this
        rw [show 8 = k + (8 - k) from by omega, steps_add, this]
        congr 1
        omega
      rw [e]
      generalize steps 8 (r ^^^ y.toNat) = A
      clear e ih hx
      rw [show 8 * (l.length + 1 - 0) - k = (8 - k) + 8 * l.length from by omega, steps_add]
      generalize steps (8 - k) 1 = B
      clear hj
      induction l generalizing A B with
      | nil => rfl
      | cons z l ih =>
        rw [upd_cons, upd_cons, List.length_cons, show 8 * (l.length + 1) = 8 + 8 * l.length from by omega, steps_add, ← ih]
        congr 1
        rw [← steps_xor]
        congr 1
        ac_rfl
    · simp only [List.getD_cons_succ, List.length_cons] at hx hj
      simp only [List.set_cons_succ, upd_cons, List.length_cons]
      rw [ih _ j (by omega) hx, Nat.succ_sub_succ]

/-- The bits of a word, up to the bit i: what they make in all. -/
theorem mod_succ (t i : Nat) : t % 2 ^ (i + 1) = if t / 2 ^ i % 2 = 1 then t % 2 ^ i ^^^ 2 ^ i else t % 2 ^ i := by
  refine Nat.eq_of_testBit_eq fun m => ?_
  have hb : t.testBit i = decide (t / 2 ^ i % 2 = 1) := by rw [Nat.testBit_eq_decide_div_mod_eq]
  split <;> rename_i h <;> simp only [Nat.testBit_xor, Nat.testBit_mod_two_pow, Nat.testBit_two_pow]
  · by_cases e : m = i
    · subst e; rw [hb]; simp [h]
    · have e' : ¬ i = m := fun h => e h.symm
      by_cases g : m < i <;> simp [e', g, show (m < i + 1) = (m < i) from by simp; omega]
  · by_cases e : m = i
    · subst e; rw [hb]; simp [h]
    · by_cases g : m < i <;> simp [g, show (m < i + 1) = (m < i) from by simp; omega]

/-- After the bits below i of the word t are turned from the bit 'at' on, the register is another by what these bits make. -/
theorem bits_on (K t i : Nat) (hi : i < 32) (A : Nat) (hb : t / 2 ^ i % 2 = 1) : A ^^^ steps K (steps 32 (t % 2 ^ i)) ^^^ steps (K + 32 - i) 1 = A ^^^ steps K (steps 32 (t % 2 ^ (i + 1))) := by
  rw [mod_succ, if_pos hb, steps_xor, steps_xor, Nat.xor_assoc]
  congr 2
  have := steps_shl i 1
  rw [Nat.one_mul] at this
  rw [show (32 : Nat) = i + (32 - i) from by omega, steps_add i (32 - i), this, ← steps_add]
  congr 1
  omega

end Go.Proofs.YthlfgpnabcplnaaDoor.W.C

/-
  Records and joined texts as plain mathematics: numbers in groups of 7 bits, what a reader makes of octets, and that what was laid is read again.
-/
namespace Go.Proofs.YthlfgpnabcplnaaDoor.W

abbrev Oc (l : List Int) : Prop := ∀ x ∈ l, 0 ≤ x ∧ x ≤ 255
theorem oc_nil : Oc [] := fun _ h => by cases h
theorem oc_cons {x : Int} {l : List Int} : Oc (x :: l) ↔ (0 ≤ x ∧ x ≤ 255) ∧ Oc l := by simp [Oc]
theorem oc_append {a b : List Int} : Oc (a ++ b) ↔ Oc a ∧ Oc b := by
  simp only [Oc, List.mem_append]
  exact ⟨fun h => ⟨fun x hx => h x (.inl hx), fun x hx => h x (.inr hx)⟩, fun h x hx => hx.elim (h.1 x) (h.2 x)⟩
theorem oc_take {l : List Int} (h : Oc l) (k : Nat) : Oc (l.take k) := fun x hx => h x (List.mem_of_mem_take hx)
theorem oc_drop {l : List Int} (h : Oc l) (k : Nat) : Oc (l.drop k) := fun x hx => h x (List.mem_of_mem_drop hx)

/-! Numbers. -/

/-- A number with its sign, as one from 0 on. -/
def fold (n : Int) : Nat := if n < 0 then (-2 * n - 1).toNat else (2 * n).toNat
def unfold (m : Nat) : Int := if m % 2 = 1 then -((m / 2 : Nat) : Int) - 1 else ((m / 2 : Nat) : Int)
theorem unfold_fold (n : Int) : unfold (fold n) = n := by
  unfold unfold fold
  split
  · rw [if_pos (by omega)]; omega
  · rw [if_neg (by omega)]; omega
theorem fold_unfold (m : Nat) : fold (unfold m) = m := by
  unfold unfold fold
  by_cases h : m % 2 = 1
  · rw [if_pos h, if_pos (by omega)]; omega
  · rw [if_neg h, if_neg (by omega)]; omega
theorem fold_lt (n : Int) (h1 : -9223372036854775808 ≤ n) (h2 : n ≤ 9223372036854775807) : fold n < 18446744073709551616 := by
  unfold fold
  split <;> omega
theorem unfold_in (m : Nat) (h : m < 18446744073709551616) : -9223372036854775808 ≤ unfold m ∧ unfold m ≤ 9223372036854775807 := by
  unfold unfold
  split <;> omega

/-- Groups of 7 bits, the lowest first. -/
def grp (m : Nat) : List Int := if m < 128 then [(m : Int)] else ((m % 128 + 128 : Nat) : Int) :: grp (m / 128)
theorem grp_small {m : Nat} (h : m < 128) : grp m = [(m : Int)] := by rw [grp, if_pos h]
theorem grp_more {m : Nat} (h : 128 ≤ m) : grp m = ((m % 128 + 128 : Nat) : Int) :: grp (m / 128) := by rw [grp, if_neg (by omega)]
theorem grp_oc (m : Nat) : Oc (grp m) := by
  induction m using Nat.strongRecOn with
  | ind m ih =>
    by_cases h : m < 128
    · rw [grp_small h, oc_cons]
      exact ⟨by omega, oc_nil⟩
    · rw [grp_more (by omega), oc_cons]
      exact ⟨by omega, ih _ (by omega)⟩
theorem grp_pos (m : Nat) : 0 < (grp m).length := by
  by_cases h : m < 128
  · rw [grp_small h]; simp
  · rw [grp_more (by omega)]; simp
theorem grp_mono (m : Nat) : ∀ k, m ≤ k → (grp m).length ≤ (grp k).length := by
  induction m using Nat.strongRecOn with
  | ind m ih =>
    intro k hk
    by_cases h : m < 128
    · rw [grp_small h]
      exact grp_pos k
    · have := ih (m / 128) (by omega) (k / 128) (by omega)
      rw [grp_more (m := m) (by omega), grp_more (m := k) (by omega), List.length_cons, List.length_cons]
      omega
theorem grp_ten (m : Nat) : ∀ k, m < 128 ^ k → 0 < k → (grp m).length ≤ k := by
  induction m using Nat.strongRecOn with
  | ind m ih =>
    intro k hk h0
    by_cases h : m < 128
    · rw [grp_small h]; exact h0
    · rw [grp_more (by omega)]
      obtain ⟨j, rfl⟩ : ∃ j, k = j + 1 := ⟨k - 1, by omega⟩
      have hj : 0 < j := by
        rcases Nat.eq_zero_or_pos j with rfl | hj
        · simp at hk; omega
        · exact hj
      have := ih (m / 128) (by omega) j (by rw [Nat.pow_succ] at hk; exact Nat.div_lt_of_lt_mul (by rw [Nat.mul_comm]; exact hk)) hj
      simpa using this

/-! What a reader makes of octets: an error's number, or what was read and the octets that are left. -/

abbrev Rd (α : Type) := Except Int (α × List Int)

def Rd.then {α β : Type} (x : Rd α) (f : α → List Int → Rd β) : Rd β :=
  match x with
  | .error e => .error e
  | .ok (a, l) => f a l
def Rd.map {α β : Type} (f : α → β) (x : Rd α) : Rd β := x.then fun a l => .ok ((f a), l)

def octR : List Int → Rd Int
  | [] => .error 8
  | c :: l => .ok (c, l)

/-- A number in groups: the i-th one is at hand. -/
def grpR (i acc : Nat) : List Int → Rd Nat
  | [] => .error 8
  | c :: l =>
    if i = 9 ∧ 1 < c then .error 4
    else if c = 0 ∧ 0 < i then .error 4
    else if 128 ≤ c then grpR (i + 1) (acc + (c.toNat % 128) * 128 ^ i) l
    else .ok ((acc + c.toNat * 128 ^ i), l)

theorem grpR_nil (i acc : Nat) : grpR i acc [] = .error 8 := rfl
theorem grpR_cons (i acc : Nat) (c : Int) (l : List Int) : grpR i acc (c :: l) = if i = 9 ∧ 1 < c then .error 4
    else if c = 0 ∧ 0 < i then .error 4
    else if 128 ≤ c then grpR (i + 1) (acc + (c.toNat % 128) * 128 ^ i) l
    else .ok ((acc + c.toNat * 128 ^ i), l) := rfl

theorem grpR_grp (m : Nat) : ∀ (i acc : Nat) (l : List Int), i ≤ 9 → m < 2 ^ (64 - 7 * i) → (0 < i → 0 < m) → grpR i acc (grp m ++ l) = .ok ((acc + m * 128 ^ i), l) := by
  induction m using Nat.strongRecOn with
  | ind m ih =>
    intro i acc l hi hm h0
    by_cases h : m < 128
    · rw [grp_small h, List.singleton_append, grpR_cons, if_neg, if_neg, if_neg (by omega)]
      · rw [Int.toNat_natCast]
      · rintro ⟨h1, h2⟩
        have := h0 h2; omega
      · rintro ⟨rfl, h2⟩
        simp at hm; omega
    · have hi8 : i ≠ 9 := by
        rintro rfl
        simp at hm; omega
      have hi7 : i < 9 := by omega
      have hp : (2 : Nat) ^ (64 - 7 * i) = 128 * 2 ^ (64 - 7 * (i + 1)) := by
        rw [show 64 - 7 * i = (64 - 7 * (i + 1)) + 7 from by omega, Nat.pow_add]
        rw [Nat.mul_comm]
      have hm2 : m / 128 < 2 ^ (64 - 7 * (i + 1)) := Nat.div_lt_of_lt_mul (by rw [← hp]; exact hm)
      rw [grp_more (by omega), List.cons_append, grpR_cons, if_neg (by omega), if_neg (by omega), if_pos (by omega), ih (m / 128) (by omega) (i + 1) _ l (by omega) hm2 (fun _ => by omega)]
      congr 1
      congr 1
      rw [Int.toNat_natCast, Nat.add_mod_right, Nat.mod_mod, Nat.add_assoc]
      congr 1
      rw [Nat.pow_succ, ← Nat.mul_assoc, Nat.mul_right_comm, ← Nat.add_mul]
      congr 1
      omega

theorem grpR_read (m : Nat) (h : m < 18446744073709551616) (l : List Int) : grpR 0 0 (grp m ++ l) = .ok (m, l) := by
  rw [grpR_grp m 0 0 l (by omega) (by simpa using h) (fun h => by omega)]
  simp

/-- What is read is laid so. -/
theorem grpR_back : ∀ (l : List Int) (i acc m : Nat) (r : List Int), i ≤ 9 → Oc l → grpR i acc l = .ok (m, r) → ∃ k, m = acc + k * 128 ^ i ∧ l = grp k ++ r ∧ (0 < i → 0 < k) ∧ k < 2 ^ (64 - 7 * i)
  | [], i, acc, m, r, _, _, h => by rw [grpR_nil] at h; cases h
  | c :: l, i, acc, m, r, hi, ho, h => by
    rw [oc_cons] at ho
    rw [grpR_cons] at h
    split at h
    · cases h
    split at h
    · cases h
    rename_i h1 h2
    split at h
    · rename_i h3
      have hi9 : i ≠ 9 := fun e => h1 ⟨e, by omega⟩
      obtain ⟨k, e1, e2, e3, e4⟩ := grpR_back l (i + 1) _ m r (by omega) ho.2 h
      have hk := e3 (by omega)
      have hp : (2 : Nat) ^ (64 - 7 * i) = 128 * 2 ^ (64 - 7 * (i + 1)) := by
        rw [show 64 - 7 * i = (64 - 7 * (i + 1)) + 7 from by omega, Nat.pow_add]
        rw [Nat.mul_comm]
      refine ⟨k * 128 + c.toNat % 128, ?_, ?_, fun _ => by omega, by rw [hp]; omega⟩
      · rw [e1, Nat.pow_succ, Nat.add_mul, ← Nat.mul_assoc, Nat.mul_right_comm]
        omega
      · rw [grp_more (by omega), e2]
        have a1 : (k * 128 + c.toNat % 128) / 128 = k := by omega
        have a2 : (((k * 128 + c.toNat % 128) % 128 + 128 : Nat) : Int) = c := by omega
        rw [a1, a2]
        rfl
    · rename_i h3
      obtain ⟨rfl, rfl⟩ : acc + c.toNat * 128 ^ i = m ∧ l = r := by
        obtain ⟨a, b⟩ := Prod.mk.inj (Except.ok.inj h)
        exact ⟨a, b⟩
      refine ⟨c.toNat, rfl, ?_, fun h0 => ?_, ?_⟩
      · rw [grp_small (by omega)]
        have : ((c.toNat : Nat) : Int) = c := by omega
        rw [this]; rfl
      · have : c ≠ 0 := fun e => h2 ⟨e, h0⟩
        omega
      · by_cases e : i = 9
        · subst e
          have : ¬ 1 < c := fun x => h1 ⟨rfl, x⟩
          simp; omega
        · have : (2 : Nat) ^ 7 ≤ 2 ^ (64 - 7 * i) := Nat.pow_le_pow_right (by omega) (by omega)
          simp at this
          omega

theorem grpR_laid {l : List Int} {m : Nat} {r : List Int} (ho : Oc l) (h : grpR 0 0 l = .ok (m, r)) : l = grp m ++ r ∧ m < 18446744073709551616 := by
  obtain ⟨k, e1, e2, _, e4⟩ := grpR_back l 0 0 m r (by omega) ho h
  have : m = k := by simpa using e1
  subst this
  exact ⟨e2, by simpa using e4⟩

def numR (l : List Int) : Rd Int := (grpR 0 0 l).map unfold
def takeR (n : Nat) (l : List Int) : Rd (List Int) := if l.length < n then .error 8 else .ok ((l.take n), (l.drop n))
def textR (l : List Int) : Rd (List Int) := (grpR 0 0 l).then fun n r => if 4096 < n then .error 5 else takeR n r

def manyR {α : Type} (f : List Int → Rd α) : Nat → List Int → Rd (List α)
  | 0, l => .ok ([], l)
  | n + 1, l => (f l).then fun a r => (manyR f n r).map (a :: ·)
def someR {α : Type} (f : List Int → Rd α) (l : List Int) : Rd (List α) := (octR l).then fun c r => if 64 < c then .error 3 else manyR f c.toNat r

abbrev Rc := Int × List Int × List (List Int)
def recR (l : List Int) : Rd Rc :=
  (octR l).then fun k r => (someR numR r).then fun ns r => (someR textR r).then fun ts r => if r = [] then .ok ((k, ns, ts), []) else .error 23

/-! Records as octets. -/

def laidN (ns : List Int) : List Int := ns.flatMap fun n => grp (fold n)
def laidT (ts : List (List Int)) : List Int := ts.flatMap fun t => grp t.length ++ t
def laidR (r : Rc) : List Int := r.1 :: (r.2.1.length : Int) :: (laidN r.2.1 ++ ((r.2.2.length : Int) :: laidT r.2.2))

def chkR (r : Rc) : Int := if r.1 < 0 ∨ 255 < r.1 then 22 else if 64 < r.2.1.length ∨ 64 < r.2.2.length then 3 else if r.2.2.any (fun t => decide (4096 < t.length)) then 5 else 0

theorem chk_ok {r : Rc} (h : chkR r = 0) : 0 ≤ r.1 ∧ r.1 ≤ 255 ∧ r.2.1.length ≤ 64 ∧ r.2.2.length ≤ 64 ∧ ∀ t ∈ r.2.2, t.length ≤ 4096 := by
  unfold chkR at h
  split at h
  · cases h
  split at h
  · cases h
  split at h
  · cases h
  rename_i h1 h2 h3
  refine ⟨by omega, by omega, by omega, by omega, fun t ht => ?_⟩
  rw [Bool.not_eq_true, List.any_eq_false] at h3
  have := h3 t ht
  simpa using this
theorem ok_chk {r : Rc} (h1 : 0 ≤ r.1) (h2 : r.1 ≤ 255) (h3 : r.2.1.length ≤ 64) (h4 : r.2.2.length ≤ 64) (h5 : ∀ t ∈ r.2.2, t.length ≤ 4096) : chkR r = 0 := by
  unfold chkR
  rw [if_neg (by omega), if_neg (by omega), if_neg]
  rw [Bool.not_eq_true, List.any_eq_false]
  intro t ht
  have := h5 t ht
  simpa using this

theorem manyR_nums (ns : List Int) (h : ∀ n ∈ ns, -9223372036854775808 ≤ n ∧ n ≤ 9223372036854775807) (r : List Int) : manyR numR ns.length (laidN ns ++ r) = .ok (ns, r) := by
  induction ns with
  | nil => rfl
  | cons n ns ih =>
    have hn := h n (List.mem_cons_self ..)
    have : numR (laidN (n :: ns) ++ r) = .ok (n, (laidN ns ++ r)) := by
      unfold numR laidN
      rw [List.flatMap_cons, List.append_assoc, grpR_read _ (fold_lt n hn.1 hn.2)]
      simp [Rd.map, Rd.then, unfold_fold]
    simp [manyR, this, Rd.then, Rd.map, ih (fun m hm => h m (List.mem_cons_of_mem _ hm))]

theorem textR_laid (t : List Int) (h : t.length ≤ 4096) (r : List Int) : textR (grp t.length ++ (t ++ r)) = .ok (t, r) := by
  unfold textR
  rw [grpR_read _ (by omega)]
  simp only [Rd.then]
  rw [if_neg (by omega)]
  unfold takeR
  rw [if_neg (by simp)]
  simp

theorem manyR_texts (ts : List (List Int)) (h : ∀ t ∈ ts, t.length ≤ 4096) (r : List Int) : manyR textR ts.length (laidT ts ++ r) = .ok (ts, r) := by
  induction ts with
  | nil => rfl
  | cons t ts ih =>
    have : textR (laidT (t :: ts) ++ r) = .ok (t, (laidT ts ++ r)) := by
      unfold laidT
      rw [List.flatMap_cons, List.append_assoc, List.append_assoc]
      exact textR_laid t (h t (List.mem_cons_self ..)) _
    simp [manyR, this, Rd.then, Rd.map, ih (fun m hm => h m (List.mem_cons_of_mem _ hm))]

/-- A record is read back. -/
theorem recR_laid (r : Rc) (hc : chkR r = 0) (hn : ∀ n ∈ r.2.1, -9223372036854775808 ≤ n ∧ n ≤ 9223372036854775807) : recR (laidR r) = .ok (r, []) := by
  obtain ⟨k, ns, ts⟩ := r
  obtain ⟨h1, h2, h3, h4, h5⟩ := chk_ok hc
  simp only at h1 h2 h3 h4 h5 hn
  have e1 : someR numR (((ns.length : Int)) :: (laidN ns ++ ((ts.length : Int) :: laidT ts))) = .ok (ns, ((ts.length : Int) :: laidT ts)) := by
    simp only [someR, octR, Rd.then]
    rw [if_neg (by omega), Int.toNat_natCast]
    exact manyR_nums ns hn _
  have e2 : someR textR ((ts.length : Int) :: laidT ts) = .ok (ts, []) := by
    simp only [someR, octR, Rd.then]
    rw [if_neg (by omega), Int.toNat_natCast]
    have := manyR_texts ts h5 []
    rwa [List.append_nil] at this
  simp only [recR, laidR, octR, Rd.then, e1, e2, if_true]

/-! What is read is laid so. -/

theorem manyR_back {α : Type} {f : List Int → Rd α} {g : α → List Int} (P : α → Prop) (hf : ∀ l a r, Oc l → f l = .ok (a, r) → l = g a ++ r ∧ P a) :
    ∀ (n : Nat) (l : List Int) (xs : List α) (r : List Int), Oc l → manyR f n l = .ok (xs, r) → l = xs.flatMap g ++ r ∧ xs.length = n ∧ (∀ a ∈ xs, P a) ∧ Oc r
  | 0, l, xs, r, ho, h => by
    simp only [manyR] at h
    obtain ⟨h1, h2⟩ := Prod.mk.inj (Except.ok.inj h)
    subst h1; subst h2
    exact ⟨rfl, rfl, (fun a ha => by cases ha), ho⟩
  | n + 1, l, xs, r, ho, h => by
    simp only [manyR] at h
    cases hx : f l with
    | error e => rw [hx] at h; cases h
    | ok pp =>
      obtain ⟨a, l1⟩ := pp
      rw [hx] at h
      simp only [Rd.then] at h
      obtain ⟨e1, e2⟩ := hf l a l1 ho hx
      have ho1 : Oc l1 := by rw [e1, oc_append] at ho; exact ho.2
      cases hy : manyR f n l1 with
      | error e => rw [hy] at h; cases h
      | ok pp =>
        obtain ⟨xs1, l2⟩ := pp
        rw [hy] at h
        simp only [Rd.map, Rd.then] at h
        obtain ⟨h1, h2⟩ := Prod.mk.inj (Except.ok.inj h)
        subst h1; subst h2
        obtain ⟨g1, g2, g3, g4⟩ := manyR_back P hf n l1 xs1 l2 ho1 hy
        refine ⟨by rw [List.flatMap_cons, List.append_assoc, ← g1, ← e1], by simp [g2], fun b hb => ?_, g4⟩
        rcases List.mem_cons.1 hb with rfl | hb
        · exact e2
        · exact g3 b hb

theorem numR_back (l : List Int) (a : Int) (r : List Int) (ho : Oc l) (h : numR l = .ok (a, r)) : l = grp (fold a) ++ r ∧ (-9223372036854775808 ≤ a ∧ a ≤ 9223372036854775807) := by
  unfold numR at h
  cases hx : grpR 0 0 l with
  | error e => rw [hx] at h; cases h
  | ok pp =>
    obtain ⟨m, l1⟩ := pp
    rw [hx] at h
    simp only [Rd.map, Rd.then] at h
    obtain ⟨h1, h2⟩ := Prod.mk.inj (Except.ok.inj h)
    subst h1; subst h2
    obtain ⟨e1, e2⟩ := grpR_laid ho hx
    rw [fold_unfold]
    exact ⟨e1, unfold_in m e2⟩

theorem textR_back (l : List Int) (t : List Int) (r : List Int) (ho : Oc l) (h : textR l = .ok (t, r)) : l = (grp t.length ++ t) ++ r ∧ t.length ≤ 4096 := by
  unfold textR at h
  cases hx : grpR 0 0 l with
  | error e => rw [hx] at h; cases h
  | ok pp =>
    obtain ⟨m, l1⟩ := pp
    rw [hx] at h
    simp only [Rd.then] at h
    obtain ⟨e1, _⟩ := grpR_laid ho hx
    split at h
    · cases h
    unfold takeR at h
    split at h
    · cases h
    obtain ⟨h1, h2⟩ := Prod.mk.inj (Except.ok.inj h)
    subst h1; subst h2
    have hl : (l1.take m).length = m := by rw [List.length_take]; omega
    rw [hl]
    refine ⟨?_, by omega⟩
    rw [List.append_assoc, List.take_append_drop]
    exact e1

theorem someR_back {α : Type} {f : List Int → Rd α} {g : α → List Int} (P : α → Prop) (hf : ∀ l a r, Oc l → f l = .ok (a, r) → l = g a ++ r ∧ P a)
    (l : List Int) (xs : List α) (r : List Int) (ho : Oc l) (h : someR f l = .ok (xs, r)) : l = (xs.length : Int) :: (xs.flatMap g ++ r) ∧ xs.length ≤ 64 ∧ (∀ a ∈ xs, P a) ∧ Oc r := by
  unfold someR at h
  match l, ho, h with
  | [], _, h => cases h
  | c :: l1, ho, h =>
    rw [oc_cons] at ho
    simp only [octR, Rd.then] at h
    split at h
    · cases h
    obtain ⟨e1, e2, e3, e4⟩ := manyR_back P hf c.toNat l1 xs r ho.2 h
    refine ⟨?_, by omega, e3, e4⟩
    rw [← e1]
    congr 1
    omega

theorem recR_back (l : List Int) (r : Rc) (q : List Int) (ho : Oc l) (h : recR l = .ok (r, q)) : l = laidR r ∧ chkR r = 0 ∧ ∀ n ∈ r.2.1, -9223372036854775808 ≤ n ∧ n ≤ 9223372036854775807 := by
  match l, ho, h with
  | [], _, h => cases h
  | c :: l1, ho, h =>
    rw [oc_cons] at ho
    simp only [recR, octR, Rd.then] at h
    cases hx : someR numR l1 with
    | error e => rw [hx] at h; cases h
    | ok pp =>
      obtain ⟨ns, l2⟩ := pp
      rw [hx] at h
      simp only at h
      obtain ⟨a1, a2, a3, a4⟩ := someR_back _ numR_back l1 ns l2 ho.2 hx
      cases hy : someR textR l2 with
      | error e => rw [hy] at h; cases h
      | ok pp =>
        obtain ⟨ts, l3⟩ := pp
        rw [hy] at h
        simp only at h
        obtain ⟨b1, b2, b3, b4⟩ := someR_back _ textR_back l2 ts l3 a4 hy
        split at h
        · rename_i e3
          subst e3
          obtain ⟨h1, h2⟩ := Prod.mk.inj (Except.ok.inj h)
          subst h1
          refine ⟨?_, ok_chk (by omega) (by omega) a2 b2 b3, a3⟩
          rw [a1, b1]
          simp [laidR, laidN, laidT]
        · cases h

end Go.Proofs.YthlfgpnabcplnaaDoor.W

/-
  Texts joined and split, as plain mathematics.
-/
namespace Go.Proofs.YthlfgpnabcplnaaDoor.W

/-- One text of those that are joined. -/
def joinR (l : List Int) : Rd (List Int) :=
  match l with
  | a :: b :: r => takeR (a * 256 + b).toNat r
  | _ => .error 8
def splF : Nat → List Int → Rd (List (List Int))
  | 0, l => .ok ([], l)
  | _ + 1, [] => .ok ([], [])
  | f + 1, c :: l => (joinR (c :: l)).then fun t r => (splF f r).map (t :: ·)
def splR (l : List Int) : Rd (List (List Int)) := splF l.length l
/-- What Split tells: an error's number, or the texts. -/
def splitR (l : List Int) : Rd (List (List Int)) := (splR l).then fun ts _ => if 4096 < ts.length then .error 3 else .ok (ts, [])

def two (n : Nat) : List Int := [((n / 256 : Nat) : Int), ((n % 256 : Nat) : Int)]
def laidJ (ts : List (List Int)) : List Int := ts.flatMap fun t => two t.length ++ t
def joinE (ts : List (List Int)) : Int := if 4096 < ts.length then 3 else if ts.any (fun t => decide (65535 < t.length)) then 5 else 0
def joinO (ts : List (List Int)) : List Int := if joinE ts = 0 then laidJ ts else []

theorem joinE_ok {ts : List (List Int)} (h : joinE ts = 0) : ts.length ≤ 4096 ∧ ∀ t ∈ ts, t.length ≤ 65535 := by
  unfold joinE at h
  split at h
  · cases h
  split at h
  · cases h
  rename_i h1 h2
  refine ⟨by omega, fun t ht => ?_⟩
  rw [Bool.not_eq_true, List.any_eq_false] at h2
  have := h2 t ht
  simpa using this
theorem ok_joinE {ts : List (List Int)} (h1 : ts.length ≤ 4096) (h2 : ∀ t ∈ ts, t.length ≤ 65535) : joinE ts = 0 := by
  unfold joinE
  rw [if_neg (by omega), if_neg]
  rw [Bool.not_eq_true, List.any_eq_false]
  intro t ht
  have := h2 t ht
  simpa using this

theorem laidJ_snoc (ts : List (List Int)) (t : List Int) : laidJ (ts ++ [t]) = (laidJ ts ++ two t.length) ++ t := by simp [laidJ]
theorem laidJ_cons (ts : List (List Int)) (t : List Int) : laidJ (t :: ts) = two t.length ++ (t ++ laidJ ts) := by simp [laidJ]
theorem two_oc (n : Nat) (h : n ≤ 65535) : Oc (two n) := oc_cons.2 ⟨by omega, oc_cons.2 ⟨by omega, oc_nil⟩⟩
theorem laidJ_oc (ts : List (List Int)) (h : ∀ t ∈ ts, Oc t ∧ t.length ≤ 65535) : Oc (laidJ ts) := fun x hx => by
  obtain ⟨t, ht, h2⟩ := List.mem_flatMap.1 hx
  rcases List.mem_append.1 h2 with h3 | h3
  · exact two_oc _ (h t ht).2 x h3
  · exact (h t ht).1 x h3
theorem laidJ_length (ts : List (List Int)) (h : ∀ t ∈ ts, t.length ≤ 65535) : (laidJ ts).length ≤ 65537 * ts.length := by
  induction ts with
  | nil => simp [laidJ]
  | cons t ts ih =>
    have ht := h t (List.mem_cons_self ..)
    have h2 := ih fun m hm => h m (List.mem_cons_of_mem _ hm)
    rw [laidJ_cons, List.length_append, List.length_append, List.length_cons]
    simp only [two, List.length_cons, List.length_nil]
    omega

theorem joinR_laid (t : List Int) (h : t.length ≤ 65535) (r : List Int) : joinR (two t.length ++ (t ++ r)) = .ok (t, r) := by
  show takeR _ _ = _
  have : (((t.length / 256 : Nat) : Int) * 256 + ((t.length % 256 : Nat) : Int)).toNat = t.length := by omega
  rw [this]
  unfold takeR
  rw [if_neg (by simp)]
  simp

theorem splF_nil (f : Nat) : splF f [] = .ok ([], []) := by cases f <;> rfl
theorem splF_cons (f : Nat) (c : Int) (l : List Int) : splF (f + 1) (c :: l) = (joinR (c :: l)).then fun t r => (splF f r).map (t :: ·) := rfl

theorem splF_laid (ts : List (List Int)) (h : ∀ t ∈ ts, t.length ≤ 65535) : ∀ f, (laidJ ts).length ≤ f → splF f (laidJ ts) = .ok (ts, []) := by
  induction ts with
  | nil => intro f _; exact splF_nil f
  | cons t ts ih =>
    intro f hf
    have e := laidJ_cons ts t
    rw [e] at hf ⊢
    obtain ⟨g, rfl⟩ : ∃ g, f = g + 1 := ⟨f - 1, by simp [two] at hf; omega⟩
    have e2 : two t.length ++ (t ++ laidJ ts) = ((t.length / 256 : Nat) : Int) :: (((t.length % 256 : Nat) : Int) :: (t ++ laidJ ts)) := rfl
    rw [e2, splF_cons, ← e2, joinR_laid t (h t (List.mem_cons_self ..))]
    simp only [Rd.then]
    rw [ih (fun m hm => h m (List.mem_cons_of_mem _ hm)) g (by simp [two] at hf; omega)]
    rfl

theorem split_join {ts : List (List Int)} (h : joinE ts = 0) : splitR (joinO ts) = .ok (ts, []) := by
  obtain ⟨h1, h2⟩ := joinE_ok h
  unfold joinO splitR splR
  rw [if_pos h, splF_laid ts h2 _ (Nat.le_refl _)]
  simp only [Rd.then]
  rw [if_neg (by omega)]

theorem joinR_back {l : List Int} {t r : List Int} (ho : Oc l) (h : joinR l = .ok (t, r)) : l = two t.length ++ (t ++ r) ∧ t.length ≤ 65535 := by
  match l, ho, h with
  | [], _, h => cases h
  | [_], _, h => cases h
  | a :: b :: q, ho, h =>
    have ha := (oc_cons.1 ho).1
    have hb := (oc_cons.1 (oc_cons.1 ho).2).1
    have h' : takeR (a * 256 + b).toNat q = .ok (t, r) := h
    unfold takeR at h'
    split at h'
    · cases h'
    obtain ⟨h1, h2⟩ := Prod.mk.inj (Except.ok.inj h')
    subst h1; subst h2
    have hl : (q.take (a * 256 + b).toNat).length = (a * 256 + b).toNat := by rw [List.length_take]; omega
    refine ⟨?_, by omega⟩
    rw [List.take_append_drop, hl]
    unfold two
    have e1 : (((a * 256 + b).toNat / 256 : Nat) : Int) = a := by omega
    have e2 : (((a * 256 + b).toNat % 256 : Nat) : Int) = b := by omega
    rw [e1, e2]
    rfl

theorem splF_back : ∀ (f : Nat) (l : List Int) (ts : List (List Int)) (q : List Int), l.length ≤ f → Oc l → splF f l = .ok (ts, q) → l = laidJ ts ∧ ∀ t ∈ ts, t.length ≤ 65535
  | f, [], ts, q, _, _, h => by
    rw [splF_nil] at h
    obtain ⟨h1, h2⟩ := Prod.mk.inj (Except.ok.inj h)
    subst h1
    exact ⟨rfl, fun t ht => by cases ht⟩
  | 0, c :: l, ts, q, hf, _, h => by simp at hf
  | f + 1, c :: l, ts, q, hf, ho, h => by
    rw [splF_cons] at h
    cases hx : joinR (c :: l) with
    | error e => rw [hx] at h; cases h
    | ok pp =>
      obtain ⟨t, r⟩ := pp
      rw [hx] at h
      simp only [Rd.then] at h
      obtain ⟨e1, e2⟩ := joinR_back ho hx
      cases hy : splF f r with
      | error e => rw [hy] at h; cases h
      | ok pp =>
        obtain ⟨us, q2⟩ := pp
        rw [hy] at h
        simp only [Rd.map, Rd.then] at h
        obtain ⟨h1, h2⟩ := Prod.mk.inj (Except.ok.inj h)
        subst h1
        have hr : Oc r := by rw [e1] at ho; exact (oc_append.1 (oc_append.1 ho).2).2
        have hlr : r.length ≤ f := by
          have := congrArg List.length e1
          simp [two] at this
          simp at hf
          omega
        obtain ⟨g1, g2⟩ := splF_back f r us q2 hlr hr hy
        refine ⟨by rw [laidJ_cons, ← g1, ← e1], fun u hu => ?_⟩
        rcases List.mem_cons.1 hu with rfl | hu
        · exact e2
        · exact g2 u hu

theorem join_split {l : List Int} {ts : List (List Int)} {q : List Int} (ho : Oc l) (h : splitR l = .ok (ts, q)) : joinE ts = 0 ∧ joinO ts = l := by
  unfold splitR splR at h
  cases hx : splF l.length l with
  | error e => rw [hx] at h; cases h
  | ok pp =>
    obtain ⟨us, p⟩ := pp
    rw [hx] at h
    simp only [Rd.then] at h
    split at h
    · cases h
    obtain ⟨h1, h2⟩ := Prod.mk.inj (Except.ok.inj h)
    subst h1
    obtain ⟨e1, e2⟩ := splF_back _ l us p (Nat.le_refl _) ho hx
    have e3 := ok_joinE (by omega) e2
    exact ⟨e3, by unfold joinO; rw [if_pos e3]; exact e1.symm⟩

theorem joinR_bad (l : List Int) (k : Int) (h : joinR l = .error k) : k = 8 := by
  match l, h with
  | [], h => injection h with h; exact h.symm
  | [_], h => injection h with h; exact h.symm
  | a :: b :: q, h =>
    have h' : takeR (a * 256 + b).toNat q = .error k := h
    unfold takeR at h'
    split at h'
    · injection h' with h'; exact h'.symm
    · cases h'
theorem splF_bad : ∀ (f : Nat) (l : List Int) (k : Int), splF f l = .error k → k = 8
  | f, [], k, h => by rw [splF_nil] at h; cases h
  | 0, c :: l, k, h => by cases h
  | f + 1, c :: l, k, h => by
    rw [splF_cons] at h
    cases hx : joinR (c :: l) with
    | error e => rw [hx] at h; injection h with h; rw [← h]; exact joinR_bad _ e hx
    | ok pp =>
      obtain ⟨t, r⟩ := pp
      rw [hx] at h
      simp only [Rd.then] at h
      cases hy : splF f r with
      | error e => rw [hy] at h; injection h with h; rw [← h]; exact splF_bad f r e hy
      | ok pp => obtain ⟨us, q2⟩ := pp; rw [hy] at h; cases h
theorem splitR_bad (l : List Int) (k : Int) (h : splitR l = .error k) : k ≠ 0 := by
  unfold splitR splR at h
  cases hx : splF l.length l with
  | error e => rw [hx] at h; injection h with h; have := splF_bad _ _ e hx; omega
  | ok pp =>
    obtain ⟨us, p⟩ := pp
    rw [hx] at h
    simp only [Rd.then] at h
    split at h
    · injection h with h; omega
    · cases h

end Go.Proofs.YthlfgpnabcplnaaDoor.W
