/-
  The register of CRC-32 as plain mathematics: what bits and octets make of it, that it is linear, that nothing but itself goes to one register, and what all that is sealed makes of it.
-/
import Derived.Test.YtkpckadicjdieabRows
namespace Go.Proofs.Ytkpckadicjdieab.C

def step (r : Nat) : Nat := if r % 2 = 1 then r / 2 ^^^ 3988292384 else r / 2
def steps : Nat → Nat → Nat
  | 0, r => r
  | n + 1, r => steps n (step r)

theorem xor_half (a b : Nat) : (a ^^^ b) / 2 = a / 2 ^^^ b / 2 := by
  have := Nat.shiftRight_xor_distrib (a := a) (b := b) (i := 1)
  simpa [Nat.shiftRight_eq_div_pow] using this

theorem xor_par (a b : Nat) : (a ^^^ b) % 2 = (a % 2 + b % 2) % 2 := by
  have := Nat.xor_mod_two_pow (a := a) (b := b) (n := 1)
  simp only [Nat.pow_one] at this
  rw [this]
  rcases Nat.mod_two_eq_zero_or_one a with h | h <;> rcases Nat.mod_two_eq_zero_or_one b with k | k <;> rw [h, k] <;> rfl

theorem step_xor (a b : Nat) : step (a ^^^ b) = step a ^^^ step b := by
  unfold step
  rw [xor_half, xor_par]
  rcases Nat.mod_two_eq_zero_or_one a with h | h <;> rcases Nat.mod_two_eq_zero_or_one b with k | k <;> rw [h, k] <;> simp
  · ac_rfl
  · ac_rfl
  · rw [Nat.xor_assoc (a/2), Nat.xor_comm 3988292384, Nat.xor_assoc (b/2), Nat.xor_self, Nat.xor_zero]

theorem steps_xor (n a b : Nat) : steps n (a ^^^ b) = steps n a ^^^ steps n b := by
  induction n generalizing a b with
  | zero => rfl
  | succ n ih => rw [steps, step_xor, ih]; rfl

theorem steps_add (m n r : Nat) : steps (m + n) r = steps n (steps m r) := by
  induction m generalizing r with
  | zero => simp [steps]
  | succ m ih => rw [Nat.succ_add, steps, ih]; rfl

theorem steps_zero (n : Nat) : steps n 0 = 0 := by
  induction n with
  | zero => rfl
  | succ n ih => rw [steps]; exact ih

theorem step_lt (r : Nat) (h : r < 4294967296) : step r < 4294967296 := by
  unfold step
  split
  · exact Nat.xor_lt_two_pow (n := 32) (by omega) (by decide)
  · omega

theorem steps_lt (n r : Nat) (h : r < 4294967296) : steps n r < 4294967296 := by
  induction n generalizing r with
  | zero => exact h
  | succ n ih => exact ih _ (step_lt r h)

theorem xor_eq_zero (a b : Nat) (h : a ^^^ b = 0) : a = b := by
  have : (a ^^^ b) ^^^ b = b := by rw [h, Nat.zero_xor]
  rw [Nat.xor_assoc, Nat.xor_self, Nat.xor_zero] at this
  exact this

theorem step_none (r : Nat) (h : r < 4294967296) (h0 : step r = 0) : r = 0 := by
  unfold step at h0
  split at h0
  · have := xor_eq_zero _ _ h0; omega
  · omega

theorem steps_none (n r : Nat) (h : r < 4294967296) (h0 : steps n r = 0) : r = 0 := by
  induction n generalizing r with
  | zero => exact h0
  | succ n ih => exact step_none r h (ih _ (step_lt r h) h0)

theorem steps_inj (n a b : Nat) (ha : a < 4294967296) (hb : b < 4294967296) (h : steps n a = steps n b) : a = b := by
  refine xor_eq_zero _ _ (steps_none n _ (Nat.xor_lt_two_pow (n := 32) ha hb) ?_)
  rw [steps_xor, h, Nat.xor_self]

theorem steps_shl (n h : Nat) : steps n (h * 2 ^ n) = h := by
  induction n with
  | zero => simp [steps]
  | succ n ih =>
    rw [steps]
    have : step (h * 2 ^ (n + 1)) = h * 2 ^ n := by
      unfold step
      rw [Nat.pow_succ, ← Nat.mul_assoc, if_neg (by omega)]
      omega
    rw [this, ih]

theorem parts (r n : Nat) : r = (r / 2 ^ n * 2 ^ n) ^^^ (r % 2 ^ n) := by
  refine Nat.eq_of_testBit_eq fun i => ?_
  rw [Nat.testBit_xor, Nat.testBit_mod_two_pow, ← Nat.shiftLeft_eq, Nat.testBit_shiftLeft, ← Nat.shiftRight_eq_div_pow, Nat.testBit_shiftRight]
  by_cases h : n ≤ i
  · have : ¬ i < n := by omega
    simp [h, this]
  · have : i < n := by omega
    simp [h, this]

/-- n bits at once. -/
theorem steps_row (n r : Nat) : steps n r = r / 2 ^ n ^^^ steps n (r % 2 ^ n) := by
  conv => lhs; rw [parts r n, steps_xor, steps_shl]

/-- What octets make of a register. -/
def upd (r : Nat) (l : List Int) : Nat := l.foldl (fun r x => steps 8 (r ^^^ x.toNat)) r
def turned (c : Nat) : Nat := c ^^^ 4294967295
def ext (c : Nat) (l : List Int) : Nat := turned (upd (turned c) l)
def sum (l : List Int) : Nat := ext 0 l

theorem xor_twice (k c : Nat) : (c ^^^ k) ^^^ k = c := by rw [Nat.xor_assoc, Nat.xor_self, Nat.xor_zero]
theorem xor_all (k a b c : Nat) : (a ^^^ (b ^^^ c)) ^^^ k = (a ^^^ k) ^^^ ((b ^^^ k) ^^^ (c ^^^ k)) := by
  rw [show ((b ^^^ k) ^^^ (c ^^^ k)) = (k ^^^ k) ^^^ (b ^^^ c) from by ac_rfl, Nat.xor_self, Nat.zero_xor]
  ac_rfl
theorem turned_turned (c : Nat) : turned (turned c) = c := xor_twice _ c
theorem turned_lt (c : Nat) (h : c < 4294967296) : turned c < 4294967296 := Nat.xor_lt_two_pow (n := 32) h (by decide)

def Oct (l : List Int) : Prop := ∀ x ∈ l, 0 ≤ x ∧ x ≤ 255

theorem upd_nil (r : Nat) : upd r [] = r := rfl
theorem upd_cons (r : Nat) (x : Int) (l : List Int) : upd r (x :: l) = upd (steps 8 (r ^^^ x.toNat)) l := rfl
theorem upd_append (r : Nat) (a b : List Int) : upd r (a ++ b) = upd (upd r a) b := List.foldl_append ..
theorem upd_lt (r : Nat) (l : List Int) (h : r < 4294967296) (hl : Oct l) : upd r l < 4294967296 := by
  induction l generalizing r with
  | nil => exact h
  | cons x l ih =>
    have hx := hl x (List.mem_cons_self ..)
    exact ih _ (steps_lt 8 _ (Nat.xor_lt_two_pow (n := 32) h (by omega))) fun y hy => hl y (List.mem_cons_of_mem _ hy)
theorem ext_lt (c : Nat) (l : List Int) (h : c < 4294967296) (hl : Oct l) : ext c l < 4294967296 := turned_lt _ (upd_lt _ _ (turned_lt _ h) hl)
theorem ext_nil (c : Nat) : ext c [] = c := turned_turned c
theorem ext_append (c : Nat) (a b : List Int) : ext c (a ++ b) = ext (ext c a) b := by
  unfold ext
  rw [turned_turned, upd_append]

theorem upd_take (r : Nat) (l : List Int) (k : Nat) (h : k < l.length) : upd r (l.take (k + 1)) = steps 8 (upd r (l.take k) ^^^ (l.getD k 0).toNat) := by
  rw [List.take_succ_eq_append_getElem h, upd_append]
  simp [upd, List.getD, List.getElem?_eq_getElem h]

/-- Three texts, bit by bit exclusive or. -/
def xor3 (a b c : List Int) : List Int := List.zipWith (fun x yz => ((x.toNat ^^^ yz : Nat) : Int)) a (List.zipWith (fun y z => y.toNat ^^^ z.toNat) b c)

theorem upd_xor3 (n : Nat) : ∀ (r s t : Nat) (a b c : List Int), a.length = n → b.length = n → c.length = n → upd (r ^^^ (s ^^^ t)) (xor3 a b c) = upd r a ^^^ (upd s b ^^^ upd t c) := by
  induction n with
  | zero =>
    intro r s t a b c ha hb hc
    obtain rfl := List.eq_nil_of_length_eq_zero ha
    obtain rfl := List.eq_nil_of_length_eq_zero hb
    obtain rfl := List.eq_nil_of_length_eq_zero hc
    rfl
  | succ n ih =>
    intro r s t a b c ha hb hc
    rcases a with _ | ⟨x, a⟩; · cases ha
    rcases b with _ | ⟨y, b⟩; · cases hb
    rcases c with _ | ⟨z, c⟩; · cases hc
    simp only [List.length_cons, Nat.add_right_cancel_iff] at ha hb hc
    simp only [xor3, List.zipWith_cons_cons, upd_cons, Int.toNat_natCast]
    rw [← ih _ _ _ a b c ha hb hc]
    congr 1
    rw [← steps_xor, ← steps_xor]
    congr 1
    ac_rfl

theorem sum_xor3 (a b c : List Int) (hb : b.length = a.length) (hc : c.length = a.length) : sum (xor3 a b c) = sum a ^^^ (sum b ^^^ sum c) := by
  have h := upd_xor3 a.length (turned 0) (turned 0) (turned 0) a b c rfl hb hc
  rw [Nat.xor_self, Nat.xor_zero] at h
  unfold sum ext
  rw [h]
  exact xor_all _ _ _ _

/-- Four octets as one word, the lowest first. -/
def word (q : List Int) : Nat := (q.getD 0 0).toNat + (q.getD 1 0).toNat * 2 ^ 8 + (q.getD 2 0).toNat * 2 ^ 16 + (q.getD 3 0).toNat * 2 ^ 24
def low (s : Nat) : List Int := [((s % 256 : Nat) : Int), ((s / 256 % 256 : Nat) : Int), ((s / 65536 % 256 : Nat) : Int), ((s / 16777216 % 256 : Nat) : Int)]

theorem low_oct (s : Nat) : Oct (low s) := by
  intro x hx
  simp only [low, List.mem_cons, List.not_mem_nil, or_false] at hx
  rcases hx with rfl | rfl | rfl | rfl <;> omega

theorem word_low (s : Nat) (h : s < 4294967296) : word (low s) = s := by
  simp only [word, low, List.getD_cons_zero, List.getD_cons_succ, Int.toNat_natCast]
  omega

theorem low_word (q : List Int) (h : q.length = 4) (hq : Oct q) : low (word q) = q := by
  rcases q with _ | ⟨a, _ | ⟨b, _ | ⟨c, _ | ⟨d, q⟩⟩⟩⟩ <;> simp only [List.length_nil, List.length_cons] at h <;> try omega
  obtain rfl := List.eq_nil_of_length_eq_zero (by omega : q.length = 0)
  have ha := hq a (by simp)
  have hb := hq b (by simp)
  have hc := hq c (by simp)
  have hd := hq d (by simp)
  simp only [word, low, List.getD_cons_zero, List.getD_cons_succ, List.cons.injEq, and_true]
  refine ⟨by omega, by omega, by omega, by omega⟩

theorem step8 (r x k : Nat) (h : x < 2 ^ 8) : steps 8 (r ^^^ (x + k * 2 ^ 8)) = steps 8 (r ^^^ x) ^^^ k := by
  have e : x + k * 2 ^ 8 = x ^^^ k * 2 ^ 8 := by
    have := parts (x + k * 2 ^ 8) 8
    rw [show (x + k * 2 ^ 8) / 2 ^ 8 = k from by omega, show (x + k * 2 ^ 8) % 2 ^ 8 = x from by omega, Nat.xor_comm] at this
    exact this
  rw [e, ← Nat.xor_assoc, steps_xor, steps_shl]

theorem upd_four (r : Nat) (q : List Int) (h : q.length = 4) (hq : Oct q) : upd r q = steps 32 (r ^^^ word q) := by
  rcases q with _ | ⟨a, _ | ⟨b, _ | ⟨c, _ | ⟨d, q⟩⟩⟩⟩ <;> simp only [List.length_nil, List.length_cons] at h <;> try omega
  obtain rfl := List.eq_nil_of_length_eq_zero (by omega : q.length = 0)
  have ha := hq a (by simp)
  have hb := hq b (by simp)
  have hc := hq c (by simp)
  have hd := hq d (by simp)
  simp only [word, List.getD_cons_zero, List.getD_cons_succ, upd_cons, upd_nil]
  rw [show (32 : Nat) = 8 + (8 + (8 + 8)) from rfl, steps_add, steps_add, steps_add]
  rw [show a.toNat + b.toNat * 2 ^ 8 + c.toNat * 2 ^ 16 + d.toNat * 2 ^ 24 = a.toNat + (b.toNat + (c.toNat + d.toNat * 2 ^ 8) * 2 ^ 8) * 2 ^ 8 from by omega]
  rw [step8 _ _ _ (by omega), step8 _ _ _ (by omega), step8 _ _ _ (by omega)]

/-- What all that is sealed makes of the register. -/
def rest : Nat := steps 32 4294967295
theorem rest_eq : turned rest = 558161692 := by decide +kernel

def full : Nat := 4294967295
theorem rest_of (a q : List Int) (ha : Oct a) (hl : q.length = 4) (hq : Oct q) : upd full (a ++ q) = rest ↔ q = low (sum a) := by
  have hR := upd_lt full a (by decide) ha
  have hs : sum a = turned (upd full a) := rfl
  have hW : word q < 4294967296 := by
    rcases q with _ | ⟨a, _ | ⟨b, _ | ⟨c, _ | ⟨d, q⟩⟩⟩⟩ <;> simp only [List.length_nil, List.length_cons] at hl <;> try omega
    have ha := hq a (by simp)
    have hb := hq b (by simp)
    have hc := hq c (by simp)
    have hd := hq d (by simp)
    simp only [word, List.getD_cons_zero, List.getD_cons_succ]
    omega
  rw [upd_append, upd_four _ q hl hq, hs]
  constructor
  · intro h
    have := steps_inj 32 _ _ (Nat.xor_lt_two_pow (n := 32) hR hW) (by decide) h
    have e : word q = turned (upd full a) := by
      show word q = upd full a ^^^ 4294967295
      rw [← this, ← Nat.xor_assoc, Nat.xor_self, Nat.zero_xor]
    rw [← e, low_word q hl hq]
  · intro h
    rw [h, word_low _ (turned_lt _ hR)]
    unfold rest turned
    rw [← Nat.xor_assoc, Nat.xor_self, Nat.zero_xor]

/-- One bit turned in one octet. -/
theorem upd_bit (r : Nat) (l : List Int) (j k : Nat) (hj : j < l.length) (hk : k < 8) (x : Int) (hx : x.toNat = (l.getD j 0).toNat ^^^ 2 ^ k) : upd r (l.set j x) = upd r l ^^^ steps (8 * (l.length - j) - k) 1 := by
  induction l generalizing r j with
  | nil => simp at hj
  | cons y l ih =>
    rcases j with _ | j
    · simp only [List.getD_cons_zero] at hx
      simp only [List.set_cons_zero, upd_cons, hx, List.length_cons]
      rw [← Nat.xor_assoc, steps_xor]
      have e : steps 8 (2 ^ k) = steps (8 - k) 1 := by
        have := steps_shl k 1
        rw [Nat.one_mul] at this
        rw [show 8 = k + (8 - k) from by omega, steps_add, this]
        congr 1
        omega
      rw [e]
      generalize steps 8 (r ^^^ y.toNat) = A
      clear e ih hx
      rw [show 8 * (l.length + 1 - 0) - k = (8 - k) + 8 * l.length from by omega, steps_add]
      generalize steps (8 - k) 1 = B
      clear hj
      induction l generalizing A B with
      | nil => rfl
      | cons z l ih =>
        rw [upd_cons, upd_cons, List.length_cons, show 8 * (l.length + 1) = 8 + 8 * l.length from by omega, steps_add, ← ih]
        congr 1
        rw [← steps_xor]
        congr 1
        ac_rfl
    · simp only [List.getD_cons_succ, List.length_cons] at hx hj
      simp only [List.set_cons_succ, upd_cons, List.length_cons]
      rw [ih _ j (by omega) hx, Nat.succ_sub_succ]

/-- The bits of a word, up to the bit i: what they make in all. -/
theorem mod_succ (t i : Nat) : t % 2 ^ (i + 1) = if t / 2 ^ i % 2 = 1 then t % 2 ^ i ^^^ 2 ^ i else t % 2 ^ i := by
  refine Nat.eq_of_testBit_eq fun m => ?_
  have hb : t.testBit i = decide (t / 2 ^ i % 2 = 1) := by rw [Nat.testBit_eq_decide_div_mod_eq]
  split <;> rename_i h <;> simp only [Nat.testBit_xor, Nat.testBit_mod_two_pow, Nat.testBit_two_pow]
  · by_cases e : m = i
    · subst e; rw [hb]; simp [h]
    · have e' : ¬ i = m := fun h => e h.symm
      by_cases g : m < i <;> simp [e', g, show (m < i + 1) = (m < i) from by simp; omega]
  · by_cases e : m = i
    · subst e; rw [hb]; simp [h]
    · by_cases g : m < i <;> simp [g, show (m < i + 1) = (m < i) from by simp; omega]

/-- After the bits below i of the word t are turned from the bit 'at' on, the register is another by what these bits make. -/
theorem bits_on (K t i : Nat) (hi : i < 32) (A : Nat) (hb : t / 2 ^ i % 2 = 1) : A ^^^ steps K (steps 32 (t % 2 ^ i)) ^^^ steps (K + 32 - i) 1 = A ^^^ steps K (steps 32 (t % 2 ^ (i + 1))) := by
  rw [mod_succ, if_pos hb, steps_xor, steps_xor, Nat.xor_assoc]
  congr 2
  have := steps_shl i 1
  rw [Nat.one_mul] at this
  rw [show (32 : Nat) = i + (32 - i) from by omega, steps_add i (32 - i), this, ← steps_add]
  congr 1
  omega

end Go.Proofs.Ytkpckadicjdieab.C
