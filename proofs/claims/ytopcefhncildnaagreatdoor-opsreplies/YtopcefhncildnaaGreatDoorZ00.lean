/-
  The register of CRC-32 as plain mathematics: what bits and octets make of it, that it is linear, that nothing but itself goes to one register, and what all that is sealed makes of it.
  Records and joined texts as plain mathematics: numbers in groups of 7 bits, what a reader makes of octets, and that what was laid is read again.
-/
import Derived.Test.YtopcefhncildnaaGreatDoorRows
namespace Go.Proofs.YtopcefhncildnaaGreatDoor.W.C
def step (r : Nat) : Nat := if r % 2 = 1 then r / 2 ^^^ 3988292384 else r / 2
def steps : Nat → Nat → Nat
 | 0, r => r
 | n + 1, r => steps n (step r)
theorem xor_half (a b : Nat) : (a ^^^ b) / 2 = a / 2 ^^^ b / 2 := by
 have := Nat.shiftRight_xor_distrib (a := a) (b := b) (i := 1)
 simpa [Nat.shiftRight_eq_div_pow] using this
theorem xor_par (a b : Nat) : (a ^^^ b) % 2 = (a % 2 + b % 2) % 2 := by
 have := Nat.xor_mod_two_pow (a := a) (b := b) (n := 1)
 simp only [Nat.pow_one] at this
 rw [this]
 rcases Nat.mod_two_eq_zero_or_one a with h | h <;> rcases Nat.mod_two_eq_zero_or_one b with k | k <;> rw [h, k] <;> rfl
theorem step_xor (a b : Nat) : step (a ^^^ b) = step a ^^^ step b := by
 unfold step
 rw [xor_half, xor_par]
 rcases Nat.mod_two_eq_zero_or_one a with h | h <;> rcases Nat.mod_two_eq_zero_or_one b with k | k <;> rw [h, k] <;> simp
 · ac_rfl
 · ac_rfl
 · rw [Nat.xor_assoc (a/2), Nat.xor_comm 3988292384, Nat.xor_assoc (b/2), Nat.xor_self, Nat.xor_zero]
theorem steps_xor (n a b : Nat) : steps n (a ^^^ b) = steps n a ^^^ steps n b := by
 induction n generalizing a b with
 | zero => rfl
 | succ n ih => rw [steps, step_xor, ih]; rfl
theorem steps_add (m n r : Nat) : steps (m + n) r = steps n (steps m r) := by
 induction m generalizing r with
 | zero => simp [steps]
 | succ m ih => rw [Nat.succ_add, steps, ih]; rfl
theorem step_lt (r : Nat) (h : r < 4294967296) : step r < 4294967296 := by
 unfold step
 split
 · exact Nat.xor_lt_two_pow (n := 32) (by omega) (by decide)
 · omega
theorem steps_lt (n r : Nat) (h : r < 4294967296) : steps n r < 4294967296 := by
 induction n generalizing r with
 | zero => exact h
 | succ n ih => exact ih _ (step_lt r h)
theorem steps_shl (n h : Nat) : steps n (h * 2 ^ n) = h := by
 induction n with
 | zero => simp [steps]
 | succ n ih => (
 rw [steps]
 have : step (h * 2 ^ (n + 1)) = h * 2 ^ n := by (
 unfold step
 rw [Nat.pow_succ, ← Nat.mul_assoc, if_neg (by omega)]
 omega)
 rw [this, ih])
theorem parts (r n : Nat) : r = (r / 2 ^ n * 2 ^ n) ^^^ (r % 2 ^ n) := by
 refine Nat.eq_of_testBit_eq fun i => ?_
 rw [Nat.testBit_xor, Nat.testBit_mod_two_pow, ← Nat.shiftLeft_eq, Nat.testBit_shiftLeft, ← Nat.shiftRight_eq_div_pow, Nat.testBit_shiftRight]
 by_cases h : n ≤ i
 · have : ¬ i < n := by omega
   simp [h, this]
 · have : i < n := by omega
   simp [h, this]
theorem steps_row (n r : Nat) : steps n r = r / 2 ^ n ^^^ steps n (r % 2 ^ n) := by
 conv => lhs; rw [parts r n, steps_xor, steps_shl]
def upd (r : Nat) (l : List Int) : Nat := l.foldl (fun r x => steps 8 (r ^^^ x.toNat)) r
def turned (c : Nat) : Nat := c ^^^ 4294967295
def ext (c : Nat) (l : List Int) : Nat := turned (upd (turned c) l)
def sum (l : List Int) : Nat := ext 0 l
theorem xor_twice (k c : Nat) : (c ^^^ k) ^^^ k = c := by rw [Nat.xor_assoc, Nat.xor_self, Nat.xor_zero]
theorem turned_turned (c : Nat) : turned (turned c) = c := xor_twice _ c
theorem turned_lt (c : Nat) (h : c < 4294967296) : turned c < 4294967296 := Nat.xor_lt_two_pow (n := 32) h (by decide)
def Oct (l : List Int) : Prop := ∀ x ∈ l, 0 ≤ x ∧ x ≤ 255
theorem upd_append (r : Nat) (a b : List Int) : upd r (a ++ b) = upd (upd r a) b := List.foldl_append ..
theorem upd_lt (r : Nat) (l : List Int) (h : r < 4294967296) (hl : Oct l) : upd r l < 4294967296 := by
 induction l generalizing r with
 | nil => exact h
 | cons x l ih =>
   have hx := hl x (List.mem_cons_self ..)
   exact ih _ (steps_lt 8 _ (Nat.xor_lt_two_pow (n := 32) h (by omega))) fun y hy => hl y (List.mem_cons_of_mem _ hy)
theorem ext_nil (c : Nat) : ext c [] = c := turned_turned c
theorem upd_take (r : Nat) (l : List Int) (k : Nat) (h : k < l.length) : upd r (l.take (k + 1)) = steps 8 (upd r (l.take k) ^^^ (l.getD k 0).toNat) := by
 rw [List.take_succ_eq_append_getElem h, upd_append]
 simp [upd, List.getD, List.getElem?_eq_getElem h]
def low (s : Nat) : List Int := [((s % 256 : Nat) : Int), ((s / 256 % 256 : Nat) : Int), ((s / 65536 % 256 : Nat) : Int), ((s / 16777216 % 256 : Nat) : Int)]
theorem low_oct (s : Nat) : Oct (low s) := by
 intro x hx
 simp only [low, List.mem_cons, List.not_mem_nil, or_false] at hx
 rcases hx with rfl | rfl | rfl | rfl <;> omega
def rest : Nat := steps 32 4294967295
end Go.Proofs.YtopcefhncildnaaGreatDoor.W.C
namespace Go.Proofs.YtopcefhncildnaaGreatDoor.W
abbrev Oc (l : List Int) : Prop := ∀ x ∈ l, 0 ≤ x ∧ x ≤ 255
theorem oc_nil : Oc [] := fun _ h => by cases h
theorem oc_cons {x : Int} {l : List Int} : Oc (x :: l) ↔ (0 ≤ x ∧ x ≤ 255) ∧ Oc l := by simp [Oc]
theorem oc_append {a b : List Int} : Oc (a ++ b) ↔ Oc a ∧ Oc b := by
 simp only [Oc, List.mem_append]
 exact ⟨fun h => ⟨fun x hx => h x (.inl hx), fun x hx => h x (.inr hx)⟩, fun h x hx => hx.elim (h.1 x) (h.2 x)⟩
theorem oc_drop {l : List Int} (h : Oc l) (k : Nat) : Oc (l.drop k) := fun x hx => h x (List.mem_of_mem_drop hx)
def fold (n : Int) : Nat := if n < 0 then (-2 * n - 1).toNat else (2 * n).toNat
def unfold (m : Nat) : Int := if m % 2 = 1 then -((m / 2 : Nat) : Int) - 1 else ((m / 2 : Nat) : Int)
theorem fold_unfold (m : Nat) : fold (unfold m) = m := by
 unfold unfold fold
 by_cases h : m % 2 = 1
 · rw [if_pos h, if_pos (by omega)]; omega
 · rw [if_neg h, if_neg (by omega)]; omega
theorem fold_lt (n : Int) (h1 : -9223372036854775808 ≤ n) (h2 : n ≤ 9223372036854775807) : fold n < 18446744073709551616 := by
 unfold fold
 split <;> omega
theorem unfold_in (m : Nat) (h : m < 18446744073709551616) : -9223372036854775808 ≤ unfold m ∧ unfold m ≤ 9223372036854775807 := by
 unfold unfold
 split <;> omega
def grp (m : Nat) : List Int := if m < 128 then [(m : Int)] else ((m % 128 + 128 : Nat) : Int) :: grp (m / 128)
theorem grp_small {m : Nat} (h : m < 128) : grp m = [(m : Int)] := by rw [grp, if_pos h]
theorem grp_more {m : Nat} (h : 128 ≤ m) : grp m = ((m % 128 + 128 : Nat) : Int) :: grp (m / 128) := by rw [grp, if_neg (by omega)]
theorem grp_oc (m : Nat) : Oc (grp m) := by
 induction m using Nat.strongRecOn with
 | ind m ih => (
 by_cases h : m < 128
 · rw [grp_small h, oc_cons]
   exact ⟨by omega, oc_nil⟩
 · rw [grp_more (by omega), oc_cons]
   exact ⟨by omega, ih _ (by omega)⟩)
theorem grp_pos (m : Nat) : 0 < (grp m).length := by
 by_cases h : m < 128
 · rw [grp_small h]; simp
 · rw [grp_more (by omega)]; simp
theorem grp_mono (m : Nat) : ∀ k, m ≤ k → (grp m).length ≤ (grp k).length := by
 induction m using Nat.strongRecOn with
 | ind m ih => (
 intro k hk
 by_cases h : m < 128
 · rw [grp_small h]
   exact grp_pos k
 · have := ih (m / 128) (by omega) (k / 128) (by omega)
   rw [grp_more (m := m) (by omega), grp_more (m := k) (by omega), List.length_cons, List.length_cons]
   omega)
theorem grp_ten (m : Nat) : ∀ k, m < 128 ^ k → 0 < k → (grp m).length ≤ k := by
 induction m using Nat.strongRecOn with
 | ind m ih => (
 intro k hk h0
 by_cases h : m < 128
 · rw [grp_small h]; exact h0
 · rw [grp_more (by omega)]
   obtain ⟨j, rfl⟩ : ∃ j, k = j + 1 := ⟨k - 1, by omega⟩
   have hj : 0 < j := by (
 rcases Nat.eq_zero_or_pos j with rfl | hj
 · simp at hk; omega
 · exact hj)
   have := ih (m / 128) (by omega) j (by rw [Nat.pow_succ] at hk; exact Nat.div_lt_of_lt_mul (by rw [Nat.mul_comm]; exact hk)) hj
   simpa using this)
abbrev Rd (α : Type) := Except Int (α × List Int)
def Rd.then {α β : Type} (x : Rd α) (f : α → List Int → Rd β) : Rd β :=
 match x with
 | .error e => .error e
 | .ok (a, l) => f a l
def Rd.map {α β : Type} (f : α → β) (x : Rd α) : Rd β := x.then fun a l => .ok ((f a), l)
def octR : List Int → Rd Int
 | [] => .error 8
 | c :: l => .ok (c, l)
def grpR (i acc : Nat) : List Int → Rd Nat
 | [] => .error 8
 | c :: l =>
   if i = 9 ∧ 1 < c then .error 4
   else if c = 0 ∧ 0 < i then .error 4
   else if 128 ≤ c then grpR (i + 1) (acc + (c.toNat % 128) * 128 ^ i) l
   else .ok ((acc + c.toNat * 128 ^ i), l)
theorem grpR_nil (i acc : Nat) : grpR i acc [] = .error 8 := rfl
theorem grpR_cons (i acc : Nat) (c : Int) (l : List Int) : grpR i acc (c :: l) = if i = 9 ∧ 1 < c then .error 4
   else if c = 0 ∧ 0 < i then .error 4
   else if 128 ≤ c then grpR (i + 1) (acc + (c.toNat % 128) * 128 ^ i) l
   else .ok ((acc + c.toNat * 128 ^ i), l) := rfl
theorem grpR_back : ∀ (l : List Int) (i acc m : Nat) (r : List Int), i ≤ 9 → Oc l → grpR i acc l = .ok (m, r) → ∃ k, m = acc + k * 128 ^ i ∧ l = grp k ++ r ∧ (0 < i → 0 < k) ∧ k < 2 ^ (64 - 7 * i)
 | [], i, acc, m, r, _, _, h => by rw [grpR_nil] at h; cases h
 | c :: l, i, acc, m, r, hi, ho, h => by (
 rw [oc_cons] at ho
 rw [grpR_cons] at h
 split at h
 · cases h
 split at h
 · cases h
 rename_i h1 h2
 split at h
 · rename_i h3
   have hi9 : i ≠ 9 := fun e => h1 ⟨e, by omega⟩
   obtain ⟨k, e1, e2, e3, e4⟩ := grpR_back l (i + 1) _ m r (by omega) ho.2 h
   have hk := e3 (by omega)
   have hp : (2 : Nat) ^ (64 - 7 * i) = 128 * 2 ^ (64 - 7 * (i + 1)) := by (
 rw [show 64 - 7 * i = (64 - 7 * (i + 1)) + 7 from by omega, Nat.pow_add]
 rw [Nat.mul_comm])
   refine ⟨k * 128 + c.toNat % 128, ?_, ?_, fun _ => by omega, by rw [hp]; omega⟩
   · rw [e1, Nat.pow_succ, Nat.add_mul, ← Nat.mul_assoc, Nat.mul_right_comm]
     omega
   · rw [grp_more (by omega), e2]
     have a1 : (k * 128 + c.toNat % 128) / 128 = k := by omega
     have a2 : (((k * 128 + c.toNat % 128) % 128 + 128 : Nat) : Int) = c := by omega
     rw [a1, a2]
     rfl
 · rename_i h3
   obtain ⟨rfl, rfl⟩ : acc + c.toNat * 128 ^ i = m ∧ l = r := by (
 obtain ⟨a, b⟩ := Prod.mk.inj (Except.ok.inj h)
 exact ⟨a, b⟩)
   refine ⟨c.toNat, rfl, ?_, fun h0 => ?_, ?_⟩
   · rw [grp_small (by omega)]
     have : ((c.toNat : Nat) : Int) = c := by omega
     rw [this]; rfl
   · have : c ≠ 0 := fun e => h2 ⟨e, h0⟩
     omega
   · by_cases e : i = 9
     · subst e
       have : ¬ 1 < c := fun x => h1 ⟨rfl, x⟩
       simp; omega
     · have : (2 : Nat) ^ 7 ≤ 2 ^ (64 - 7 * i) := Nat.pow_le_pow_right (by omega) (by omega)
       simp at this
       omega)
theorem grpR_laid {l : List Int} {m : Nat} {r : List Int} (ho : Oc l) (h : grpR 0 0 l = .ok (m, r)) : l = grp m ++ r ∧ m < 18446744073709551616 := by
 obtain ⟨k, e1, e2, _, e4⟩ := grpR_back l 0 0 m r (by omega) ho h
 have : m = k := by simpa using e1
 subst this
 exact ⟨e2, by simpa using e4⟩
def numR (l : List Int) : Rd Int := (grpR 0 0 l).map unfold
def takeR (n : Nat) (l : List Int) : Rd (List Int) := if l.length < n then .error 8 else .ok ((l.take n), (l.drop n))
def textR (l : List Int) : Rd (List Int) := (grpR 0 0 l).then fun n r => if 4096 < n then .error 5 else takeR n r
def manyR {α : Type} (f : List Int → Rd α) : Nat → List Int → Rd (List α)
 | 0, l => .ok ([], l)
 | n + 1, l => (f l).then fun a r => (manyR f n r).map (a :: ·)
def someR {α : Type} (f : List Int → Rd α) (l : List Int) : Rd (List α) := (octR l).then fun c r => if 64 < c then .error 3 else manyR f c.toNat r
abbrev Rc := Int × List Int × List (List Int)
def recR (l : List Int) : Rd Rc :=
 (octR l).then fun k r => (someR numR r).then fun ns r => (someR textR r).then fun ts r => if r = [] then .ok ((k, ns, ts), []) else .error 23
def laidN (ns : List Int) : List Int := ns.flatMap fun n => grp (fold n)
def laidT (ts : List (List Int)) : List Int := ts.flatMap fun t => grp t.length ++ t
def laidR (r : Rc) : List Int := r.1 :: (r.2.1.length : Int) :: (laidN r.2.1 ++ ((r.2.2.length : Int) :: laidT r.2.2))
def chkR (r : Rc) : Int := if r.1 < 0 ∨ 255 < r.1 then 22 else if 64 < r.2.1.length ∨ 64 < r.2.2.length then 3 else if r.2.2.any (fun t => decide (4096 < t.length)) then 5 else 0
theorem chk_ok {r : Rc} (h : chkR r = 0) : 0 ≤ r.1 ∧ r.1 ≤ 255 ∧ r.2.1.length ≤ 64 ∧ r.2.2.length ≤ 64 ∧ ∀ t ∈ r.2.2, t.length ≤ 4096 := by
 unfold chkR at h
 split at h
 · cases h
 split at h
 · cases h
 split at h
 · cases h
 rename_i h1 h2 h3
 refine ⟨by omega, by omega, by omega, by omega, fun t ht => ?_⟩
 rw [Bool.not_eq_true, List.any_eq_false] at h3
 have := h3 t ht
 simpa using this
theorem ok_chk {r : Rc} (h1 : 0 ≤ r.1) (h2 : r.1 ≤ 255) (h3 : r.2.1.length ≤ 64) (h4 : r.2.2.length ≤ 64) (h5 : ∀ t ∈ r.2.2, t.length ≤ 4096) : chkR r = 0 := by
 unfold chkR
 rw [if_neg (by omega), if_neg (by omega), if_neg]
 rw [Bool.not_eq_true, List.any_eq_false]
 intro t ht
 have := h5 t ht
 simpa using this
theorem manyR_back {α : Type} {f : List Int → Rd α} {g : α → List Int} (P : α → Prop) (hf : ∀ l a r, Oc l → f l = .ok (a, r) → l = g a ++ r ∧ P a) :
   ∀ (n : Nat) (l : List Int) (xs : List α) (r : List Int), Oc l → manyR f n l = .ok (xs, r) → l = xs.flatMap g ++ r ∧ xs.length = n ∧ (∀ a ∈ xs, P a) ∧ Oc r
 | 0, l, xs, r, ho, h => by (
 simp only [manyR] at h
 obtain ⟨h1, h2⟩ := Prod.mk.inj (Except.ok.inj h)
 subst h1; subst h2
 exact ⟨rfl, rfl, (fun a ha => by cases ha), ho⟩)
 | n + 1, l, xs, r, ho, h => by (
 simp only [manyR] at h
 cases hx : f l with
 | error e => rw [hx] at h; cases h
 | ok pp => (
 obtain ⟨a, l1⟩ := pp
 rw [hx] at h
 simp only [Rd.then] at h
 obtain ⟨e1, e2⟩ := hf l a l1 ho hx
 have ho1 : Oc l1 := by rw [e1, oc_append] at ho; exact ho.2
 cases hy : manyR f n l1 with
 | error e => rw [hy] at h; cases h
 | ok pp => (
 obtain ⟨xs1, l2⟩ := pp
 rw [hy] at h
 simp only [Rd.map, Rd.then] at h
 obtain ⟨h1, h2⟩ := Prod.mk.inj (Except.ok.inj h)
 subst h1; subst h2
 obtain ⟨g1, g2, g3, g4⟩ := manyR_back P hf n l1 xs1 l2 ho1 hy
 refine ⟨by rw [List.flatMap_cons, List.append_assoc, ← g1, ← e1], by simp [g2], fun b hb => ?_, g4⟩
 rcases List.mem_cons.1 hb with rfl | hb
 · exact e2
 · exact g3 b hb)))
theorem numR_back (l : List Int) (a : Int) (r : List Int) (ho : Oc l) (h : numR l = .ok (a, r)) : l = grp (fold a) ++ r ∧ (-9223372036854775808 ≤ a ∧ a ≤ 9223372036854775807) := by
 unfold numR at h
 cases hx : grpR 0 0 l with
 | error e => rw [hx] at h; cases h
 | ok pp => (
 obtain ⟨m, l1⟩ := pp
 rw [hx] at h
 simp only [Rd.map, Rd.then] at h
 obtain ⟨h1, h2⟩ := Prod.mk.inj (Except.ok.inj h)
 subst h1; subst h2
 obtain ⟨e1, e2⟩ := grpR_laid ho hx
 rw [fold_unfold]
 exact ⟨e1, unfold_in m e2⟩)
theorem textR_back (l : List Int) (t : List Int) (r : List Int) (ho : Oc l) (h : textR l = .ok (t, r)) : l = (grp t.length ++ t) ++ r ∧ t.length ≤ 4096 := by
 unfold textR at h
 cases hx : grpR 0 0 l with
 | error e => rw [hx] at h; cases h
 | ok pp => (
 obtain ⟨m, l1⟩ := pp
 rw [hx] at h
 simp only [Rd.then] at h
 obtain ⟨e1, _⟩ := grpR_laid ho hx
 split at h
 · cases h
 unfold takeR at h
 split at h
 · cases h
 obtain ⟨h1, h2⟩ := Prod.mk.inj (Except.ok.inj h)
 subst h1; subst h2
 have hl : (l1.take m).length = m := by rw [List.length_take]; omega
 rw [hl]
 refine ⟨?_, by omega⟩
 rw [List.append_assoc, List.take_append_drop]
 exact e1)
theorem someR_back {α : Type} {f : List Int → Rd α} {g : α → List Int} (P : α → Prop) (hf : ∀ l a r, Oc l → f l = .ok (a, r) → l = g a ++ r ∧ P a)
   (l : List Int) (xs : List α) (r : List Int) (ho : Oc l) (h : someR f l = .ok (xs, r)) : l = (xs.length : Int) :: (xs.flatMap g ++ r) ∧ xs.length ≤ 64 ∧ (∀ a ∈ xs, P a) ∧ Oc r := by
 unfold someR at h
 match l, ho, h with
 | [], _, h => cases h
 | c :: l1, ho, h => (
 rw [oc_cons] at ho
 simp only [octR, Rd.then] at h
 split at h
 · cases h
 obtain ⟨e1, e2, e3, e4⟩ := manyR_back P hf c.toNat l1 xs r ho.2 h
 refine ⟨?_, by omega, e3, e4⟩
 rw [← e1]
 congr 1
 omega)
theorem recR_back (l : List Int) (r : Rc) (q : List Int) (ho : Oc l) (h : recR l = .ok (r, q)) : l = laidR r ∧ chkR r = 0 ∧ ∀ n ∈ r.2.1, -9223372036854775808 ≤ n ∧ n ≤ 9223372036854775807 := by
 match l, ho, h with
 | [], _, h => cases h
 | c :: l1, ho, h => (
 rw [oc_cons] at ho
 simp only [recR, octR, Rd.then] at h
 cases hx : someR numR l1 with
 | error e => rw [hx] at h; cases h
 | ok pp => (
 obtain ⟨ns, l2⟩ := pp
 rw [hx] at h
 simp only at h
 obtain ⟨a1, a2, a3, a4⟩ := someR_back _ numR_back l1 ns l2 ho.2 hx
 cases hy : someR textR l2 with
 | error e => rw [hy] at h; cases h
 | ok pp => (
 obtain ⟨ts, l3⟩ := pp
 rw [hy] at h
 simp only at h
 obtain ⟨b1, b2, b3, b4⟩ := someR_back _ textR_back l2 ts l3 a4 hy
 split at h
 · rename_i e3
   subst e3
   obtain ⟨h1, h2⟩ := Prod.mk.inj (Except.ok.inj h)
   subst h1
   refine ⟨?_, ok_chk (by omega) (by omega) a2 b2 b3, a3⟩
   rw [a1, b1]
   simp [laidR, laidN, laidT]
 · cases h)))
end Go.Proofs.YtopcefhncildnaaGreatDoor.W
