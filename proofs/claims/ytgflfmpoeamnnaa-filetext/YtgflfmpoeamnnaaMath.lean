/-
  Files as plain mathematics: blocks of a text, the one file of a text, which files may be, and that a file that may be is the one of its text.
-/
import Derived.Test.YtgflfmpoeamnnaaSmall
namespace Go.Proofs.Ytgflfmpoeamnnaa

def zs : List Int := List.replicate 32 0
def isz (l : List Int) : Bool := l.all fun x => x == 0
/-- Block j of the octets o. -/
def tb (o : Nat → Int) (j : Nat) : List Int := (List.range 32).map fun k => o (32 * j + k)
/-- Of the first n blocks those that are not all zeros. -/
def mkL (T : Nat → List Int) (n : Nat) : List Bk := ((List.range n).filter fun j => !isz (T j)).map fun (j : Nat) => ((j : Int), T j)
def oc (t : List Int) (i : Nat) : Int := t.getD i 0
/-- The file of a text. -/
def mk (t : List Int) : Fl := ((t.length : Int), mkL (tb (oc t)) 76)

def ins (i s : Int) : Nat := (min (max (s - 32 * i) 0) 32).toNat
def stand (b : Bk) (s : Int) : Bool := decide (b.2.length = 32) && !isz b.2 && isz (b.2.drop (ins b.1 s))
def okB (s : Int) : Int → List Bk → Bool
  | _, [] => true
  | next, b :: r => decide (next ≤ b.1) && decide (b.1 < blkN s) && stand b s && okB s (b.1 + 1) r
/-- May it be? -/
def chk (f : Fl) : Bool := decide (0 ≤ f.1 ∧ f.1 ≤ 2432) && okB f.1 0 f.2
def cerr (f : Fl) : Int := if chk f then 0 else 9

/-- The octets of block j. -/
def bd (bs : List Bk) (j : Nat) : List Int := ((bs.find? fun b => b.1 == (j : Int)).map fun b => b.2).getD zs
def oct (f : Fl) (i : Nat) : Int := (bd f.2 (i / 32)).getD (i % 32) 0
/-- The text of a file. -/
def txt (f : Fl) : List Int := (List.range f.1.toNat).map (oct f)

/-! Zeros. -/

theorem isz_iff {l : List Int} : isz l = true ↔ ∀ x ∈ l, x = 0 := by simp [isz]
theorem isz_get {l : List Int} (h : isz l = true) (i : Nat) : l.getD i 0 = 0 := by
  by_cases hi : i < l.length
  · simp only [List.getD_eq_getElem?_getD, List.getElem?_eq_getElem hi, Option.getD_some]
    exact isz_iff.1 h _ (List.getElem_mem hi)
  · simp [List.getElem?_eq_none (Nat.le_of_not_lt hi)]
theorem isz_of {l : List Int} (h : ∀ i, i < l.length → l.getD i 0 = 0) : isz l = true := by
  rw [isz_iff]
  intro x hx
  obtain ⟨i, hi, rfl⟩ := List.mem_iff_getElem.1 hx
  have := h i hi
  simpa [List.getElem?_eq_getElem hi] using this
theorem isz_not {l : List Int} (h : isz l = false) : ∃ i, i < l.length ∧ l.getD i 0 ≠ 0 := by
  by_cases hx : ∀ i, i < l.length → l.getD i 0 = 0
  · rw [isz_of hx] at h; cases h
  · have ⟨i, hi⟩ := Classical.not_forall.1 hx
    have ⟨h1, h2⟩ := Classical.not_imp.1 hi
    exact ⟨i, h1, h2⟩
theorem zs_get (i : Nat) : zs.getD i 0 = 0 := isz_get (by decide) i
theorem isz_zs {l : List Int} (h : isz l = true) (hl : l.length = 32) : l = zs := alike (by rw [hl]; rfl) fun i _ => by rw [isz_get h, zs_get]

/-! Blocks of octets. -/

theorem tb_length (o : Nat → Int) (j : Nat) : (tb o j).length = 32 := by simp [tb]
theorem range_get {α : Type} (g : Nat → α) (n i : Nat) (d : α) (h : i < n) : ((List.range n).map g).getD i d = g i := by simp [h]
theorem range_out {α : Type} (g : Nat → α) (n i : Nat) (d : α) (h : n ≤ i) : ((List.range n).map g).getD i d = d := by simp [h]
theorem tb_get (o : Nat → Int) (j k : Nat) (h : k < 32) : (tb o j).getD k 0 = o (32 * j + k) := range_get _ _ _ _ h
theorem tb_congr {o o' : Nat → Int} (j : Nat) (h : ∀ k, k < 32 → o (32 * j + k) = o' (32 * j + k)) : tb o j = tb o' j := by
  unfold tb
  apply List.map_congr_left
  intro k hk
  exact h k (by simpa using hk)
theorem tb_of {l : List Int} {o : Nat → Int} {j : Nat} (hl : l.length = 32) (h : ∀ k, k < 32 → l.getD k 0 = o (32 * j + k)) : l = tb o j :=
  alike (by rw [hl, tb_length]) fun i hi => by rw [h i (by omega), tb_get _ _ _ (by omega)]

/-! Lists of blocks that rise. -/

def Rise (l : List Bk) : Prop := l.Pairwise fun a b => a.1 < b.1

theorem rise_unique : ∀ {l1 l2 : List Bk}, Rise l1 → Rise l2 → (∀ p, p ∈ l1 ↔ p ∈ l2) → l1 = l2
  | [], [], _, _, _ => rfl
  | [], b :: _, _, _, h => by have := (h b).2 (List.mem_cons_self ..); cases this
  | a :: _, [], _, _, h => by have := (h a).1 (List.mem_cons_self ..); cases this
  | a :: r, b :: s, h1, h2, h => by
    obtain ⟨h3, h4⟩ := List.pairwise_cons.1 h1
    obtain ⟨h5, h6⟩ := List.pairwise_cons.1 h2
    have hab : a = b := by
      rcases List.mem_cons.1 ((h a).1 (List.mem_cons_self ..)) with e | e
      · exact e
      · rcases List.mem_cons.1 ((h b).2 (List.mem_cons_self ..)) with e' | e'
        · exact e'.symm
        · have := h5 a e; have := h3 b e'; omega
    subst hab
    congr 1
    refine rise_unique h4 h6 fun p => ⟨fun hp => ?_, fun hp => ?_⟩
    · rcases List.mem_cons.1 ((h p).1 (List.mem_cons_of_mem _ hp)) with e | e
      · subst e; have := h3 p hp; omega
      · exact e
    · rcases List.mem_cons.1 ((h p).2 (List.mem_cons_of_mem _ hp)) with e | e
      · subst e; have := h5 p hp; omega
      · exact e

theorem mem_mkL {T : Nat → List Int} {n : Nat} {p : Bk} : p ∈ mkL T n ↔ ∃ j, j < n ∧ isz (T j) = false ∧ p = ((j : Int), T j) := by
  simp only [mkL, List.mem_map, List.mem_filter, List.mem_range, Bool.not_eq_true']
  constructor
  · rintro ⟨j, ⟨h1, h2⟩, rfl⟩; exact ⟨j, h1, h2, rfl⟩
  · rintro ⟨j, h1, h2, rfl⟩; exact ⟨j, ⟨h1, h2⟩, rfl⟩
theorem rise_mkL (T : Nat → List Int) (n : Nat) : Rise (mkL T n) := by
  unfold Rise mkL
  rw [List.pairwise_map]
  refine List.Pairwise.filter _ ?_
  exact List.pairwise_lt_range.imp fun h => Int.ofNat_lt.2 h
theorem mkL_congr {T T' : Nat → List Int} {n : Nat} (h : ∀ j, j < n → T j = T' j) : mkL T n = mkL T' n :=
  rise_unique (rise_mkL _ _) (rise_mkL _ _) fun p => by
    rw [mem_mkL, mem_mkL]
    constructor
    · rintro ⟨j, h1, h2, rfl⟩; exact ⟨j, h1, by rw [← h j h1]; exact h2, by rw [h j h1]⟩
    · rintro ⟨j, h1, h2, rfl⟩; exact ⟨j, h1, by rw [h j h1]; exact h2, by rw [h j h1]⟩
theorem mkL_succ (T : Nat → List Int) (n : Nat) : mkL T (n + 1) = if isz (T n) then mkL T n else mkL T n ++ [((n : Int), T n)] := by
  unfold mkL
  rw [List.range_succ, List.filter_append, List.map_append]
  cases h : isz (T n) <;> simp [h]
theorem mkL_more {T : Nat → List Int} {n m : Nat} (hnm : n ≤ m) (h : ∀ j, n ≤ j → j < m → isz (T j) = true) : mkL T m = mkL T n :=
  rise_unique (rise_mkL _ _) (rise_mkL _ _) fun p => by
    rw [mem_mkL, mem_mkL]
    constructor
    · rintro ⟨j, h1, h2, rfl⟩
      by_cases hj : j < n
      · exact ⟨j, hj, h2, rfl⟩
      · rw [h j (by omega) h1] at h2; cases h2
    · rintro ⟨j, h1, h2, rfl⟩; exact ⟨j, by omega, h2, rfl⟩
theorem mkL_length (T : Nat → List Int) (n : Nat) : (mkL T n).length ≤ n := by
  unfold mkL
  rw [List.length_map]
  exact Nat.le_trans (List.length_filter_le _ _) (by simp)

/-! The octets of a block. -/

theorem bd_none {l : List Bk} {j : Nat} (h : ∀ p ∈ l, p.1 ≠ (j : Int)) : bd l j = zs := by
  unfold bd
  rw [List.find?_eq_none.2 (fun p hp => by simpa using h p hp)]
  rfl
theorem bd_mem : ∀ {l : List Bk} {j : Nat} {d : List Int}, Rise l → ((j : Int), d) ∈ l → bd l j = d
  | a :: r, j, d, h, hm => by
    obtain ⟨h1, h2⟩ := List.pairwise_cons.1 h
    unfold bd
    rw [List.find?_cons]
    rcases List.mem_cons.1 hm with e | e
    · subst e; simp
    · have : ¬ a.1 = (j : Int) := by have := h1 _ e; simp at this; omega
      rw [show (a.1 == (j : Int)) = false by simpa using this]
      exact bd_mem h2 e
  | [], _, _, _, hm => by cases hm
theorem bd_cons (a : Bk) (r : List Bk) (j : Nat) : bd (a :: r) j = if a.1 = (j : Int) then a.2 else bd r j := by
  unfold bd
  rw [List.find?_cons]
  by_cases h : a.1 = (j : Int)
  · rw [if_pos h, show (a.1 == (j : Int)) = true by simpa using h]; rfl
  · rw [if_neg h, show (a.1 == (j : Int)) = false by simpa using h]
theorem bd_snoc {l : List Bk} {x : Bk} (h : ∀ p ∈ l, p.1 ≠ x.1) (j : Nat) : bd (l ++ [x]) j = if x.1 = (j : Int) then x.2 else bd l j := by
  by_cases e : x.1 = (j : Int)
  · rw [if_pos e]
    unfold bd
    rw [List.find?_append, List.find?_eq_none.2 (fun p hp => by have := h p hp; rw [e] at this; simpa using this)]
    simp [e]
  · rw [if_neg e]
    unfold bd
    rw [List.find?_append]
    simp [e]
theorem bd_mkL {T : Nat → List Int} {n j : Nat} (hT : (T j).length = 32) (h : n ≤ j → isz (T j) = true) : bd (mkL T n) j = T j := by
  by_cases hz : isz (T j) = true
  · rw [isz_zs hz hT]
    refine bd_none fun p hp => ?_
    obtain ⟨i, _, h2, rfl⟩ := mem_mkL.1 hp
    intro e
    have : i = j := Int.ofNat_inj.1 e
    subst this
    rw [hz] at h2; cases h2
  · have hj : j < n := Nat.lt_of_not_le fun hh => hz (h hh)
    exact bd_mem (rise_mkL _ _) (mem_mkL.2 ⟨j, hj, by simpa using hz, rfl⟩)

/-! Which files may be. -/

theorem okB_iff {s : Int} : ∀ {l : List Bk} {next : Int}, okB s next l = true ↔ ((∀ b ∈ l, next ≤ b.1 ∧ b.1 < blkN s ∧ stand b s = true) ∧ Rise l)
  | [], next => by simp [okB, Rise]
  | b :: r, next => by
    simp only [okB, Bool.and_eq_true, decide_eq_true_eq, okB_iff (l := r), Rise, List.pairwise_cons, List.mem_cons]
    constructor
    · rintro ⟨⟨⟨h1, h2⟩, h3⟩, h4, h5⟩
      refine ⟨?_, fun a ha => by have := (h4 a ha).1; omega, h5⟩
      rintro p (rfl | hp)
      · exact ⟨h1, h2, h3⟩
      · obtain ⟨h6, h7, h8⟩ := h4 p hp
        exact ⟨by omega, h7, h8⟩
    · rintro ⟨h1, h2, h3⟩
      obtain ⟨h4, h5, h6⟩ := h1 b (.inl rfl)
      exact ⟨⟨⟨h4, h5⟩, h6⟩, fun p hp => ⟨by have := h2 p hp; omega, (h1 p (.inr hp)).2⟩, h3⟩

theorem stand_iff {b : Bk} {s : Int} : stand b s = true ↔ (b.2.length = 32 ∧ isz b.2 = false ∧ isz (b.2.drop (ins b.1 s)) = true) := by
  simp [stand, and_assoc]

theorem chk_iff {f : Fl} : chk f = true ↔ ((0 ≤ f.1 ∧ f.1 ≤ 2432) ∧ (∀ b ∈ f.2, 0 ≤ b.1 ∧ b.1 < blkN f.1 ∧ b.2.length = 32 ∧ isz b.2 = false ∧ isz (b.2.drop (ins b.1 f.1)) = true) ∧ Rise f.2) := by
  simp only [chk, Bool.and_eq_true, decide_eq_true_eq, okB_iff, stand_iff]

theorem chk_key {f : Fl} (h : chk f = true) {b : Bk} (hb : b ∈ f.2) : 0 ≤ b.1 ∧ b.1 < 76 ∧ b.2.length = 32 := by
  obtain ⟨h1, h2, _⟩ := chk_iff.1 h
  obtain ⟨h3, h4, h5, _⟩ := h2 b hb
  have := (blkN_in h1).2
  exact ⟨h3, by omega, h5⟩

theorem bd_length {f : Fl} (h : chk f = true) (j : Nat) : (bd f.2 j).length = 32 := by
  unfold bd
  cases hf : f.2.find? fun b => b.1 == (j : Int) with
  | none => rfl
  | some b => exact (chk_key h (List.mem_of_find?_eq_some hf)).2.2

theorem oct_at {f : Fl} {j k : Nat} (hk : k < 32) : oct f (32 * j + k) = (bd f.2 j).getD k 0 := by
  unfold oct
  rw [show (32 * j + k) / 32 = j by omega, show (32 * j + k) % 32 = k by omega]
theorem bd_tb {f : Fl} (h : chk f = true) (j : Nat) : bd f.2 j = tb (oct f) j := tb_of (bd_length h j) fun _ hk => (oct_at hk).symm

theorem oct_out {f : Fl} (h : chk f = true) {i : Nat} (hi : f.1 ≤ i) : oct f i = 0 := by
  unfold oct bd
  cases hf : f.2.find? fun b => b.1 == ((i / 32 : Nat) : Int) with
  | none => simp only [Option.map_none, Option.getD_none]; exact zs_get _
  | some b =>
    obtain ⟨_, h2, _⟩ := chk_iff.1 h
    obtain ⟨h3, h4, h5, _, h6⟩ := h2 b (List.mem_of_find?_eq_some hf)
    have hk : b.1 = ((i / 32 : Nat) : Int) := by have := List.find?_some hf; simpa using this
    simp only [Option.map_some, Option.getD_some]
    have hle : ins b.1 f.1 ≤ i % 32 := by unfold ins; omega
    have := isz_get h6 (i % 32 - ins b.1 f.1)
    simp only [List.getD_eq_getElem?_getD, List.getElem?_drop] at this
    rw [Nat.add_sub_of_le hle] at this
    simpa using this

theorem blocks_mkL {f : Fl} (h : chk f = true) : mkL (tb (oct f)) 76 = f.2 := by
  refine rise_unique (rise_mkL _ _) (chk_iff.1 h).2.2 fun p => ?_
  rw [mem_mkL]
  constructor
  · rintro ⟨j, h1, h2, rfl⟩
    rw [← bd_tb h] at h2 ⊢
    have : ∃ b, f.2.find? (fun b => b.1 == (j : Int)) = some b := by
      cases hf : f.2.find? fun b => b.1 == (j : Int) with
      | none => rw [show bd f.2 j = zs by unfold bd; rw [hf]; rfl] at h2; cases h2
      | some b => exact ⟨b, rfl⟩
    obtain ⟨b, hb⟩ := this
    have hk : b.1 = (j : Int) := by have := List.find?_some hb; simpa using this
    have : bd f.2 j = b.2 := by unfold bd; rw [hb]; rfl
    rw [this, ← hk]
    exact List.mem_of_find?_eq_some hb
  · intro hp
    obtain ⟨_, h2, h3⟩ := chk_iff.1 h
    obtain ⟨h4, h5, h6, h7, _⟩ := h2 p hp
    have hk := chk_key h hp
    have e : ((p.1.toNat : Nat) : Int) = p.1 := by omega
    have hb : bd f.2 p.1.toNat = p.2 := bd_mem h3 (by rw [e]; exact hp)
    refine ⟨p.1.toNat, by omega, ?_, ?_⟩
    · rw [← bd_tb h, hb]; exact h7
    · rw [← bd_tb h, hb, e]

theorem txt_length (f : Fl) : (txt f).length = f.1.toNat := by simp [txt]
theorem txt_get {f : Fl} (h : chk f = true) (i : Nat) : oc (txt f) i = oct f i := by
  unfold oc txt
  by_cases hi : i < f.1.toNat
  · exact range_get _ _ _ _ hi
  · rw [range_out _ _ _ _ (by omega)]
    exact (oct_out h (by omega)).symm

/-- A file that may be is the one of its text. -/
theorem mk_txt {f : Fl} (h : chk f = true) : mk (txt f) = f := by
  have h1 := (chk_iff.1 h).1
  obtain ⟨s, bs⟩ := f
  unfold mk
  rw [txt_length, show oc (txt (s, bs)) = oct (s, bs) from funext (txt_get h), blocks_mkL h]
  simp only at h1 ⊢
  rw [Int.toNat_of_nonneg h1.1]

theorem oc_out {t : List Int} {i : Nat} (h : t.length ≤ i) : oc t i = 0 := by
  unfold oc
  simp [List.getElem?_eq_none h]

/-- The file of a text may be. -/
theorem chk_mk {t : List Int} (h : t.length ≤ 2432) : chk (mk t) = true := by
  rw [chk_iff]
  refine ⟨⟨by simp [mk], by simp [mk]; omega⟩, fun b hb => ?_, rise_mkL _ _⟩
  obtain ⟨j, h1, h2, rfl⟩ := mem_mkL.1 hb
  obtain ⟨k, hk, hne⟩ := isz_not h2
  rw [tb_length] at hk
  rw [tb_get _ _ _ hk] at hne
  have hlt : 32 * j + k < t.length := Nat.lt_of_not_le fun hh => hne (oc_out hh)
  refine ⟨by simp, ?_, tb_length _ _, h2, ?_⟩
  · show (j : Int) < blkN (t.length : Int)
    unfold blkN; omega
  · refine isz_of fun i hi => ?_
    rw [List.length_drop, tb_length] at hi
    have hi' : ins (j : Int) (t.length : Int) + i < 32 := by
      have hi2 : i < 32 - ins (j : Int) (t.length : Int) := hi
      omega
    show ((tb (oc t) j).drop (ins (j : Int) (t.length : Int))).getD i 0 = 0
    have e := tb_get (oc t) j _ hi'
    simp only [List.getD_eq_getElem?_getD, List.getElem?_drop] at e ⊢
    rw [e]
    refine oc_out ?_
    unfold ins at hi' ⊢
    omega

theorem oct_mk {t : List Int} (h : t.length ≤ 2432) (i : Nat) : oct (mk t) i = oc t i := by
  unfold oct
  rw [show (mk t).2 = mkL (tb (oc t)) 76 from rfl, bd_mkL (tb_length _ _) (fun hj => isz_of fun k hk => ?_), tb_get _ _ _ (by omega), show 32 * (i / 32) + i % 32 = i by omega]
  rw [tb_length] at hk
  rw [tb_get _ _ _ hk]
  exact oc_out (by omega)
/-- .. and has that text. -/
theorem txt_mk {t : List Int} (h : t.length ≤ 2432) : txt (mk t) = t := by
  have hl : (txt (mk t)).length = t.length := by rw [txt_length]; simp [mk]
  refine alike hl fun i _ => ?_
  have := txt_get (chk_mk h) i
  rw [oct_mk h] at this
  exact this
theorem mk_inj {t u : List Int} (ht : t.length ≤ 2432) (hu : u.length ≤ 2432) (h : mk t = mk u) : t = u := by rw [← txt_mk ht, h, txt_mk hu]

end Go.Proofs.Ytgflfmpoeamnnaa
