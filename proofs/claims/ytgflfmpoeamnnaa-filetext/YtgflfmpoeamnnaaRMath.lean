/-
  The document's text of a file, as plain mathematics: of a file that may be it is the file's text.
-/
import Derived.Test.YtgflfmpoeamnnaaRSame
namespace Go.Proofs.Ytgflfmpoeamnnaa
open Go.RowKit

def put (b : List Int) (p x : Int) : List Int := if 0 ≤ p ∧ p < (b.length : Int) then b.set p.toNat x else b
/-- Where octet k of block i goes. -/
def wat (i : Int) (k : Nat) : Int := wrap64 (wrap64 (32 * i) + (k : Int))
def layK (b : List Int) (i : Int) (d : List Int) : Nat → List Int
  | 0 => b
  | k + 1 => put (layK b i d k) (wat i k) (oc d k)
def rtl : List Int → List Bk → List Int
  | b, [] => b
  | b, p :: r => rtl (layK b p.1 p.2 p.2.length) r
def rtext (f : Fl) : List Int := rtl (List.replicate f.1.toNat 0) f.2

theorem put_length (b : List Int) (p x : Int) : (put b p x).length = b.length := by unfold put; split <;> simp
theorem put_oct {b : List Int} (h : Oct b) (p : Int) {x : Int} (hx : (Lit.int .u8 x).wf = true) : Oct (put b p x) := by
  unfold put
  split
  · intro y hy
    rcases List.mem_or_eq_of_mem_set hy with h1 | h1
    · exact h y h1
    · rw [h1]; exact hx
  · exact h
theorem layK_length (b : List Int) (i : Int) (d : List Int) : ∀ k, (layK b i d k).length = b.length
  | 0 => rfl
  | k + 1 => by rw [layK, put_length, layK_length b i d k]
theorem rtl_length : ∀ (l : List Bk) (b : List Int), (rtl b l).length = b.length
  | [], _ => rfl
  | p :: r, b => by rw [rtl, rtl_length r, layK_length]
theorem rtext_length (f : Fl) : (rtext f).length = f.1.toNat := by unfold rtext; rw [rtl_length]; simp

theorem wat_in {i k : Nat} (hi : i < 76) (hk : k < 32) : wat (i : Int) k = ((32 * i + k : Nat) : Int) := by
  unfold wat wrap64
  omega
theorem put_get {b : List Int} {p : Nat} {x : Int} {q : Nat} (h : q < b.length) : (put b (p : Int) x).getD q 0 = if q = p then x else b.getD q 0 := by
  unfold put
  by_cases hp : p < b.length
  · rw [if_pos (by omega), Int.toNat_natCast]
    simp only [List.getD_eq_getElem?_getD, List.getElem?_set]
    by_cases e : q = p
    · subst e; simp [h]
    · rw [if_neg (Ne.symm e), if_neg e]
  · rw [if_neg (by omega), if_neg (by omega)]
theorem layK_get {b : List Int} {i : Nat} {d : List Int} (hi : i < 76) {q : Nat} (h : q < b.length) : ∀ {k : Nat}, k ≤ 32 → (layK b (i : Int) d k).getD q 0 = if 32 * i ≤ q ∧ q < 32 * i + k then d.getD (q - 32 * i) 0 else b.getD q 0
  | 0, _ => by rw [if_neg (by omega)]; rfl
  | k + 1, hk => by
    rw [layK, wat_in hi (by omega), put_get (by rw [layK_length]; exact h), layK_get hi h (by omega)]
    by_cases e : q = 32 * i + k
    · rw [if_pos e, if_pos (by omega), e, show 32 * i + k - 32 * i = k by omega]
      rfl
    · rw [if_neg e]
      by_cases c : 32 * i ≤ q ∧ q < 32 * i + k
      · rw [if_pos c, if_pos (by omega)]
      · rw [if_neg c, if_neg (by omega)]
theorem rtl_get {q : Nat} : ∀ {l : List Bk} {b : List Int}, (∀ p ∈ l, 0 ≤ p.1 ∧ p.1 < 76 ∧ p.2.length = 32) → Rise l → q < b.length → (rtl b l).getD q 0 = ((l.find? fun p => p.1 == ((q / 32 : Nat) : Int)).map fun p => p.2.getD (q % 32) 0).getD (b.getD q 0)
  | [], b, _, _, _ => rfl
  | p :: r, b, h, hr, hq => by
    obtain ⟨h1, h2⟩ := List.pairwise_cons.1 hr
    obtain ⟨h3, h4, h5⟩ := h p (List.mem_cons_self ..)
    obtain ⟨i, hi⟩ : ∃ i : Nat, p.1 = i := ⟨p.1.toNat, by omega⟩
    rw [rtl, rtl_get (fun x hx => h x (List.mem_cons_of_mem _ hx)) h2 (by rw [layK_length]; exact hq), hi, h5, layK_get (by omega) hq (by omega), List.find?_cons]
    by_cases e : p.1 = ((q / 32 : Nat) : Int)
    · rw [show (p.1 == ((q / 32 : Nat) : Int)) = true by simpa using e]
      rw [List.find?_eq_none.2 (fun x hx => by have := h1 x hx; simp; omega)]
      simp only [Option.map_none, Option.getD_none, Option.map_some, Option.getD_some]
      rw [if_pos (by omega), show q - 32 * i = q % 32 by omega]
    · rw [show (p.1 == ((q / 32 : Nat) : Int)) = false by simpa using e, if_neg (by omega)]

/-- Of a file that may be. -/
theorem rtext_txt {f : Fl} (h : chk f = true) : rtext f = txt f := by
  refine alike (by rw [rtext_length, txt_length]) fun i hi => ?_
  rw [rtext_length] at hi
  have e : (txt f).getD i 0 = oct f i := txt_get h i
  rw [e]
  unfold rtext
  rw [rtl_get (fun p hp => chk_key h hp) (chk_iff.1 h).2.2 (by simpa using hi)]
  unfold oct bd
  cases hf : f.2.find? fun p => p.1 == ((i / 32 : Nat) : Int) with
  | none =>
    simp only [Option.map_none, Option.getD_none]
    rw [zs_get]
    simp [hi]
  | some p => rfl

/-- A file is one just if it is made of its text. -/
theorem chk_made {f : Fl} (hs : 0 ≤ f.1 ∧ f.1 ≤ 2432) : (f = mk (rtext f)) ↔ chk f = true := by
  constructor
  · intro e
    rw [e]
    exact chk_mk (by rw [rtext_length]; omega)
  · intro h
    rw [rtext_txt h, mk_txt h]

end Go.Proofs.Ytgflfmpoeamnnaa
