/-
  What dir.place, dir.Find and the document's Find answer, for every entries and every name.
-/
import Derived.Test.YthppbmbhoedphaaPlace
namespace Go.Proofs.Ythppbmbhoedphaa
open Go.RowKit

/-- A name is there. -/
def there (l : List En) (x : ByteArray) : Bool := l.any fun p => decide (p.1 = x)
theorem there_iff (l : List En) (x : ByteArray) : there l x = true ↔ ∃ (i : Nat) (p : En), l[i]? = some p ∧ p.1 = x := by
  simp only [there, List.any_eq_true, decide_eq_true_eq]
  constructor
  · rintro ⟨p, hp, he⟩
    obtain ⟨i, hi⟩ := List.getElem?_of_mem hp
    exact ⟨i, p, hi, he⟩
  · rintro ⟨i, p, hi, he⟩
    exact ⟨p, List.mem_of_getElem? hi, he⟩
theorem there_pos {l : List En} (hU : Up l) {x : ByteArray} {i : Nat} {p : En} (hp : l[i]? = some p) (he : p.1 = x) : i = pos l x := by
  have h1 : ¬ i < pos l x := fun h => by
    have := (pos_at hU x hp).2 h
    rw [he, ltB_irrefl] at this
    cases this
  have hlt : i < l.length := (List.getElem?_eq_some_iff.1 hp).1
  rcases Nat.lt_or_ge (pos l x) i with h | h
  · obtain ⟨q, hq⟩ := get_lt (l := l) (k := pos l x) (by omega)
    have h2 : ltB q.1 p.1 = true := by
      obtain ⟨a1, b1⟩ := List.getElem?_eq_some_iff.1 hq
      obtain ⟨a2, b2⟩ := List.getElem?_eq_some_iff.1 hp
      have := List.pairwise_iff_getElem.1 hU _ _ a1 a2 h
      rwa [b1, b2] at this
    rw [he] at h2
    have := (pos_at hU x hq).1 h2
    omega
  · omega
theorem there_end {l : List En} (hU : Up l) {x : ByteArray} (h : pos l x = l.length) : there l x = false := by
  rw [Bool.eq_false_iff]
  intro hc
  obtain ⟨i, p, hp, he⟩ := (there_iff l x).1 hc
  have h1 := there_pos hU hp he
  have := (List.getElem?_eq_some_iff.1 hp).1
  omega
theorem there_at {l : List En} (hU : Up l) {x : ByteArray} {p : En} (hp : l[pos l x]? = some p) : there l x = decide (p.1 = x) := by
  by_cases h : p.1 = x
  · rw [(there_iff l x).2 ⟨_, p, hp, h⟩]; simp [h]
  · rw [decide_eq_false h, Bool.eq_false_iff]
    intro hc
    obtain ⟨i, q, hq, he⟩ := (there_iff l x).1 hc
    have h1 := there_pos hU hq he
    rw [← h1, hq] at hp
    simp at hp
    exact h (by rw [← hp]; exact he)

/-- What Find tells of entries that may be: the number, and whether it is there. -/
def fnd (l : List En) (x : ByteArray) : Int := match l.find? fun p => decide (p.1 = x) with | some p => p.2 | none => 0
theorem find_first {l : List En} {x : ByteArray} : ∀ {k : Nat} {p : En}, (∀ (i : Nat) (q : En), i < k → l[i]? = some q → q.1 ≠ x) → l[k]? = some p → p.1 = x → fnd l x = p.2 := by
  unfold fnd
  induction l with
  | nil => intro k p _ h; simp at h
  | cons r l ih =>
    intro k p h hp he
    cases k with
    | zero =>
      simp at hp
      subst hp
      simp [he]
    | succ k =>
      have h0 := h 0 r (by omega) rfl
      rw [List.find?_cons_of_neg (by simpa using h0)]
      exact ih (k := k) (fun i q hi hq => h (i + 1) q (by omega) (by simpa using hq)) (by simpa using hp) he
theorem fnd_none {l : List En} {x : ByteArray} (h : there l x = false) : fnd l x = 0 := by
  unfold fnd
  have : l.find? (fun p => decide (p.1 = x)) = none := by
    rw [List.find?_eq_none]
    intro p hp
    unfold there at h
    rw [List.any_eq_false] at h
    simpa using h p hp
  rw [this]
theorem fnd_pos {l : List En} (hU : Up l) {x : ByteArray} {p : En} (hp : l[pos l x]? = some p) (he : p.1 = x) : fnd l x = p.2 := by
  refine find_first (fun i q hi hq hx => ?_) hp he
  have := there_pos hU hq hx
  omega

def ferr (l : List En) : Int := cerr l
def fis (l : List En) (x : ByteArray) : Bool := if Chk l then there l x else false
def fno (l : List En) (x : ByteArray) : Int := if Chk l then fnd l x else 0

set_option maxRecDepth 100000 in
set_option maxHeartbeats 2000000 in
theorem place_any (n0 : Nat) (v : Value) (l : List En) (hU : Up l) (x : ByteArray) (w : World) (h : ArgE n0 w v l) (hl63 : l.length ≤ 63) :
    Calls Try.prog 29 #[v, .string x] w fun e w' => e = .returned (.tuple #[.int .i64 (pos l x), .bool (there l x)]) ∧ Below w.heap.size w w' := by
  obtain ⟨a, c, rfl, _⟩ := h.shape
  obtain ⟨W, hW⟩ : ∃ W, W = (w.alloc (.cells #[.slice a l.length c] 25)).alloc (.cells #[.string x] 9) := ⟨_, rfl⟩
  have hb : Below w.heap.size w W := by rw [hW]; exact ((Below.refl _ w).alloc (Nat.le_refl _) _).alloc (by simp) _
  have hB1 : Box W w.heap.size 25 #[.slice a l.length c] := by rw [hW]; exact (Box.new _ _ _).alloc _
  have hB2 : Box W (w.heap.size + 1) 9 #[.string x] := by
    rw [hW]
    have := Box.new (w.alloc (.cells #[.slice a l.length c] 25)) 9 #[.string x]
    rwa [World.size_alloc] at this
  have HS := search_any n0 w.heap.size (w.heap.size + 1) _ l hU x W (h.below hb) (hB1.cell 0 rfl) (hB2.cell 0 rfl) (by omega)
  have HB : Hid (∀ q, Below w.heap.size w (W.drewN q)) := fun q => below_drewN hb q
  have HBX : Hid (W.cell? ⟨w.heap.size, 0, none⟩ = some (.slice a l.length c) ∧ W.cell? ⟨w.heap.size + 1, 0, none⟩ = some (.string x)) := ⟨hB1.cell 0 rfl, hB2.cell 0 rfl⟩
  have hpl := pos_le l x
  by_cases hend : pos l x = l.length
  · rw [there_end hU hend]
    obtain ⟨n, hn⟩ : ∃ n, n = l.length := ⟨_, rfl⟩
    rw [hend] at HS ⊢
    have hl1 := run_len Try.underlying25 a l.length c
    rw [← hn] at hl1 HS HBX hW hl63 ⊢
    have g0 := HBX.out.1
    have g1 := HBX.out.2
    rw [hW] at g0 g1
    clear h hb hB1 hB2 hend hn hpl
    go_enter Try.func29, Try.ntmps29
    go_wp2_with fail
    rw [← hW]
    clear g0 g1 hW
    refine HS.mono ?_
    rintro e w' ⟨rfl, q, hq⟩
    have g0 : w'.cell? ⟨w.heap.size, 0, none⟩ = some (.slice a n c) := by rw [hq]; exact HBX.out.1
    have g1 : w'.cell? ⟨w.heap.size + 1, 0, none⟩ = some (.string x) := by rw [hq]; exact HBX.out.2
    have HQ : Hid (w' = W.drewN q) := hq
    clear hq
    go_wp2
    go_quiet (fail)
    go_wp2
    go_ret2
    exact ⟨rfl, by rw [HQ.out, World.drewN_drewN]; exact HB.out _⟩
  · obtain ⟨p, hp⟩ := get_lt (l := l) (k := pos l x) (by omega)
    rw [there_at hU hp]
    obtain ⟨b, o, hix, _, hc0, hc1⟩ := (h.below hb).atN _ p hp
    obtain ⟨s, y⟩ := p
    simp only at hc0 hc1 ⊢
    rw [← ba_eq]
    obtain ⟨z, hz⟩ : ∃ z, (s.toList == x.toList) = z := ⟨_, rfl⟩
    rw [hz]
    obtain ⟨m, hm⟩ : ∃ m, m = pos l x := ⟨_, rfl⟩
    obtain ⟨n, hn⟩ : ∃ n, n = l.length := ⟨_, rfl⟩
    have hl1 := run_len Try.underlying25 a l.length c
    have hmi : (m : Int) < (n : Int) := by omega
    rw [← hm] at HS hix ⊢
    rw [← hn] at hl1 HS HBX hW hix hl63 ⊢
    have g0 := HBX.out.1
    have g1 := HBX.out.2
    rw [hW] at g0 g1
    have HCC : Hid (W.cell? ⟨b, o, none⟩ = some (.string s)) := hc0
    clear h hb hB1 hB2 hend hn hpl hm hp hc0 hc1
    go_enter Try.func29, Try.ntmps29
    go_wp2_with fail
    rw [← hW]
    clear g0 g1 hW
    refine HS.mono ?_
    rintro e w' ⟨rfl, q, hq⟩
    have g0 : w'.cell? ⟨w.heap.size, 0, none⟩ = some (.slice a n c) := by rw [hq]; exact HBX.out.1
    have g1 : w'.cell? ⟨w.heap.size + 1, 0, none⟩ = some (.string x) := by rw [hq]; exact HBX.out.2
    have g2 : w'.cell? ⟨b, o, none⟩ = some (.string s) := by rw [hq]; exact HCC.out
    have HQ : Hid (w' = W.drewN q) := hq
    clear hq
    go_wp2
    go_quiet (fail)
    go_wp2
    go_ret2
    exact ⟨rfl, by rw [HQ.out, World.drewN_drewN]; exact HB.out _⟩

set_option maxRecDepth 100000 in
set_option maxHeartbeats 2000000 in
theorem find_any (n0 : Nat) (v : Value) (l : List En) (x : ByteArray) (w : World) (h : ArgE n0 w v l) :
    Calls Try.prog 10 #[v, .string x] w fun e w' => e = .returned (.tuple #[.int .i64 (fno l x), .bool (fis l x), .int .i64 (cerr l)]) ∧ Below w.heap.size w w' := by
  have HC := check_any n0 v l w h
  obtain ⟨a, c, rfl, _⟩ := h.shape
  by_cases hck : Chk l
  case neg =>
    rw [show fno l x = 0 from if_neg hck, show fis l x = false from if_neg hck]
    rw [cerr_bad hck] at HC ⊢
    clear h hck
    go_enter Try.func10, Try.ntmps10
    go_wp2_with fail
    refine HC.mono ?_
    rintro e w1 ⟨rfl, hb1⟩
    go_wp2
    go_ret3
    exact ⟨rfl, hb1⟩
  rw [show fno l x = fnd l x from if_pos hck, show fis l x = there l x from if_pos hck]
  rw [cerr_ok hck] at HC ⊢
  have HH : Hid (ArgE n0 w (.slice a l.length c) l ∧ Chk l) := ⟨h, hck⟩
  cases ht : there l x
  · rw [fnd_none ht]
    have HT : Hid (there l x = false) := ht
    clear h hck ht
    go_enter Try.func10, Try.ntmps10
    go_wp2_with fail
    refine HC.mono ?_
    rintro e w1 ⟨rfl, hb1⟩
    have HP := place_any n0 _ l HH.out.2.2.2 x w1 (HH.out.1.below hb1) HH.out.2.1
    rw [HT.out] at HP
    go_wp2_with fail
    refine HP.mono ?_
    rintro e w2 ⟨rfl, hb2⟩
    go_wp2
    go_ret3
    exact ⟨rfl, below_any hb1 hb2⟩
  · have HT : Hid (there l x = true) := ht
    obtain ⟨i, p, hp, he⟩ := (there_iff l x).1 ht
    obtain rfl := there_pos hck.2.2 hp he
    rw [fnd_pos hck.2.2 hp he]
    have HPP : Hid (l[pos l x]? = some p) := hp
    have hlt := (List.getElem?_eq_some_iff.1 hp).1
    obtain ⟨s, y⟩ := p
    simp only at he ⊢
    obtain ⟨m, hm⟩ : ∃ m, m = pos l x := ⟨_, rfl⟩
    have HM : Hid (m = pos l x) := hm
    rw [← hm] at hlt
    have hmi : (m : Int) < (l.length : Int) := by omega
    clear h hck ht hp he hm
    go_enter Try.func10, Try.ntmps10
    go_wp2_with fail
    refine HC.mono ?_
    rintro e w1 ⟨rfl, hb1⟩
    have HP := place_any n0 _ l HH.out.2.2.2 x w1 (HH.out.1.below hb1) HH.out.2.1
    rw [HT.out, ← HM.out] at HP
    go_wp2_with fail
    refine HP.mono ?_
    rintro e w2 ⟨rfl, hb2⟩
    have hPP := HPP.out
    rw [← HM.out] at hPP
    obtain ⟨b, o, hix, _, hc0, hc1⟩ := ((HH.out.1.below hb1).below hb2).atN m _ hPP
    simp only at hc0 hc1
    clear hPP
    go_wp2
    go_ret3
    exact ⟨rfl, below_any hb1 hb2⟩

end Go.Proofs.Ythppbmbhoedphaa
