import Derived.Test.YthlfgpnabcplnaaDoorRows
import Derived.WalkKit
import Derived.WalkSpells
import Derived.ProofKit
import Derived.Deep.QuietTactic
import Derived.BigQuiet
import Derived.Laws.AppendOwnNone
import Derived.WalkSmall
/-
  The words by which the walks speak of memory: lists element by element, worlds that agree, slices and their cells, variables of several cells; and what keeps them.
-/
namespace Go.Proofs.YthlfgpnabcplnaaDoor
open Go.RowKit

/-! Two lists, element by element. -/

def Each {α β : Type} (R : α → β → Prop) : List α → List β → Prop
  | [], [] => True
  | a :: xs, b :: ys => R a b ∧ Each R xs ys
  | _, _ => False

theorem Each.length {α β : Type} {R : α → β → Prop} : ∀ {xs : List α} {ys : List β}, Each R xs ys → xs.length = ys.length
  | [], [], _ => rfl
  | _ :: _, _ :: _, h => by simp [Each.length h.2]
  | [], _ :: _, h => h.elim
  | _ :: _, [], h => h.elim

theorem Each.mono {α β : Type} {R R' : α → β → Prop} (hR : ∀ a b, R a b → R' a b) : ∀ {xs : List α} {ys : List β}, Each R xs ys → Each R' xs ys
  | [], [], _ => trivial
  | _ :: _, _ :: _, h => ⟨hR _ _ h.1, Each.mono hR h.2⟩
  | [], _ :: _, h => h.elim
  | _ :: _, [], h => h.elim

theorem Each.get {α β : Type} {R : α → β → Prop} : ∀ {xs : List α} {ys : List β} {i : Nat} {b : β}, Each R xs ys → ys[i]? = some b → ∃ a, xs[i]? = some a ∧ R a b
  | [], [], _, _, _, h => by simp at h
  | a :: _, _ :: _, 0, _, h, e => by simp at e; subst e; exact ⟨a, rfl, h.1⟩
  | _ :: _, _ :: _, i + 1, _, h, e => by simp at e; simpa using Each.get (i := i) h.2 e
  | [], _ :: _, _, _, h, _ => h.elim
  | _ :: _, [], _, _, h, _ => h.elim

theorem Each.snoc {α β : Type} {R : α → β → Prop} {a : α} {b : β} : ∀ {xs : List α} {ys : List β}, Each R xs ys → R a b → Each R (xs ++ [a]) (ys ++ [b])
  | [], [], _, h => ⟨h, trivial⟩
  | _ :: _, _ :: _, h, k => ⟨h.1, Each.snoc h.2 k⟩
  | [], _ :: _, h, _ => h.elim
  | _ :: _, [], h, _ => h.elim

theorem Each.erase {α β : Type} {R : α → β → Prop} : ∀ {xs : List α} {ys : List β} (i : Nat), Each R xs ys → Each R (xs.eraseIdx i) (ys.eraseIdx i)
  | [], [], _, _ => trivial
  | _ :: _, _ :: _, 0, h => h.2
  | _ :: _, _ :: _, i + 1, h => ⟨h.1, Each.erase i h.2⟩
  | [], _ :: _, _, h => h.elim
  | _ :: _, [], _, h => h.elim

theorem each_of {α β : Type} {R : α → β → Prop} : ∀ {xs : List α} {ys : List β}, xs.length = ys.length → (∀ (i : Nat) a b, xs[i]? = some a → ys[i]? = some b → R a b) → Each R xs ys
  | [], [], _, _ => trivial
  | a :: xs, b :: ys, h, k => ⟨k 0 a b rfl rfl, each_of (by simpa using h) fun i x y hx hy => k (i + 1) x y (by simpa using hx) (by simpa using hy)⟩
  | [], _ :: _, h, _ => by simp at h
  | _ :: _, [], h, _ => by simp at h

theorem Each.left {α β : Type} {R : α → β → Prop} : ∀ {xs : List α} {ys : List β} {a : α}, Each R xs ys → a ∈ xs → ∃ b ∈ ys, R a b
  | x :: xs, y :: ys, a, h, ha => by
    rcases List.mem_cons.1 ha with rfl | h'
    · exact ⟨y, List.mem_cons_self .., h.1⟩
    · obtain ⟨b, hb, hr⟩ := Each.left h.2 h'
      exact ⟨b, List.mem_cons_of_mem _ hb, hr⟩
  | [], _, _, _, ha => by cases ha
  | _ :: _, [], _, h, _ => h.elim

theorem Each.right {α β : Type} {R : α → β → Prop} : ∀ {xs : List α} {ys : List β} {b : β}, Each R xs ys → b ∈ ys → ∃ a ∈ xs, R a b
  | x :: xs, y :: ys, b, h, hb => by
    rcases List.mem_cons.1 hb with rfl | h'
    · exact ⟨x, List.mem_cons_self .., h.1⟩
    · obtain ⟨a, ha, hr⟩ := Each.right h.2 h'
      exact ⟨a, List.mem_cons_of_mem _ ha, hr⟩
  | _, [], _, _, hb => by cases hb
  | [], _ :: _, _, h, _ => h.elim

/-! Rows of rows, all of one length. -/

theorem flat_length {α : Type} {size : Nat} : ∀ {vss : List (List α)}, (∀ us ∈ vss, us.length = size) → vss.flatten.length = vss.length * size
  | [], _ => by simp
  | us :: r, h => by
    rw [List.flatten_cons, List.length_append, h us (List.mem_cons_self ..), flat_length (fun x hx => h x (List.mem_cons_of_mem _ hx)), List.length_cons, Nat.succ_mul]
    omega

theorem flat_get {α : Type} {size : Nat} : ∀ {vss : List (List α)} {i j : Nat} {us : List α} {u : α}, (∀ us ∈ vss, us.length = size) → vss[i]? = some us → us[j]? = some u → vss.flatten[i * size + j]? = some u
  | [], _, _, _, _, _, h, _ => by simp at h
  | x :: r, 0, j, us, u, _, h, hu => by
    simp at h
    subst h
    rw [List.flatten_cons, Nat.zero_mul, Nat.zero_add, List.getElem?_append_left (List.getElem?_eq_some_iff.1 hu).1]
    exact hu
  | x :: r, i + 1, j, us, u, hs, h, hu => by
    simp at h
    have hx := hs x (List.mem_cons_self ..)
    rw [List.flatten_cons, List.getElem?_append_right (by rw [hx, Nat.succ_mul]; omega), hx, show (i + 1) * size + j - size = i * size + j by rw [Nat.succ_mul]; omega]
    exact flat_get (fun y hy => hs y (List.mem_cons_of_mem _ hy)) h hu

theorem flat_snoc {α : Type} (vss : List (List α)) (us : List α) : (vss ++ [us]).flatten = vss.flatten ++ us := by simp

/-! Worlds. -/

theorem cell_lt {w : World} {a : Addr} {v : Value} (h : w.cell? a = some v) : a.block < w.heap.size := by
  rcases Nat.lt_or_ge a.block w.heap.size with c | c
  · exact c
  · simp [World.cell?, Array.getElem?_eq_none c] at h

/-- From block n on, what was there is as it was. -/
def Same (n : Nat) (w w' : World) : Prop := ∀ k, n ≤ k → k < w.heap.size → w'.heap[k]? = w.heap[k]?

theorem Same.of_below {n : Nat} {w w' : World} (h : Below w.heap.size w w') : Same n w w' := fun k _ hk => h.block k hk
theorem Same.cell {n : Nat} {w w' : World} (h : Same n w w') {a : Addr} {v : Value} (hn : n ≤ a.block) (hc : w.cell? a = some v) : w'.cell? a = some v := by
  rw [World.cell?_of_block (h a.block hn (cell_lt hc))]; exact hc
theorem Same.set {n B i : Nat} {w : World} {x : Value} (hB : B < n) : Same n w (w.setCell ⟨B, i, none⟩ x) := fun k hk _ => Below.heap_setCell _ _ _ _ (by simp; omega)
theorem Same.alloc (n : Nat) (w : World) (o : Obj) : Same n w (w.alloc o) := fun k _ hk => Below.heap_alloc w o k hk
theorem Same.trans {n : Nat} {a b c : World} (h : Same n a b) (hs : a.heap.size ≤ b.heap.size) (k : Same n b c) : Same n a c := fun i hi hl => (k i hi (by omega)).trans (h i hi hl)
theorem Same.drew (n : Nat) (w : World) : Same n w w.drew := fun _ _ _ => rfl

theorem below_any {w a b : World} (h : Below w.heap.size w a) (k : Below a.heap.size a b) : Below w.heap.size w b := h.trans (k.mono h.size)
theorem below_drewN {B : Nat} {a w : World} (h : Below B a w) (q : Nat) : Below B a (w.drewN q) := by
  refine ⟨h.os, h.tape, h.output, ?_, fun k hk => ?_⟩
  · simpa using h.size
  · simpa using h.block k hk

theorem own_same {w w' : World} {base : Nat} {e : TypeId} {size : Nat} {v : Value} {n : Nat} {xs : List Value} (h : w.ownsRow base e size v n xs) (hs : Same base w w') : w'.ownsRow base e size v n xs := by
  obtain ⟨h1, h2⟩ := h
  refine ⟨h1, ?_⟩
  rcases h2 with h2 | ⟨g, cap, cur, a, b, c, d⟩
  · exact .inl h2
  · exact .inr ⟨g, cap, cur, a, b, by rw [hs g b (Array.getElem?_eq_some_iff.1 c).1]; exact c, d⟩
theorem own_below {w w' : World} {base : Nat} {e : TypeId} {size : Nat} {v : Value} {n : Nat} {xs : List Value} (h : w.ownsRow base e size v n xs) (hb : Below w.heap.size w w') : w'.ownsRow base e size v n xs := own_same h (.of_below hb)
theorem own_weaken {w : World} {base n1 : Nat} {e : TypeId} {size : Nat} {v : Value} {n : Nat} {xs : List Value} (h : w.ownsRow base e size v n xs) (hn : n1 ≤ base) : w.ownsRow n1 e size v n xs := by
  obtain ⟨h1, h2⟩ := h
  refine ⟨h1, ?_⟩
  rcases h2 with h2 | ⟨g, cap, cur, a, b, d⟩
  · exact .inl h2
  · exact .inr ⟨g, cap, cur, a, Nat.le_trans hn b, d⟩
theorem own_shape {w : World} {base : Nat} {e : TypeId} {size : Nat} {v : Value} {n : Nat} {xs : List Value} (h : w.ownsRow base e size v n xs) : ∃ a cap, v = .slice a n cap := by
  rcases h.2 with ⟨rfl, rfl⟩ | ⟨g, cap, cur, rfl, _⟩
  · exact ⟨none, 0, rfl⟩
  · exact ⟨_, cap, rfl⟩
theorem row_ne {w : World} {base : Nat} {e : TypeId} {size : Nat} {v : Value} {n : Nat} {xs : List Value} (h : w.ownsRow base e size v n xs) {B : Nat} (hB : B < base) : some B ≠ v.ownBlock := fun e' => by
  have := (h.lt B e'.symm).1
  omega
theorem row_ne' {w : World} {base : Nat} {e : TypeId} {size : Nat} {v : Value} {n : Nat} {xs : List Value} (h : w.ownsRow base e size v n xs) {B : Nat} (hB : w.heap.size ≤ B) : some B ≠ v.ownBlock := fun e' => by
  have := (h.lt B e'.symm).2
  omega

theorem add_plain (b off i : Nat) : (⟨b, off, none⟩ : Addr).add i = ⟨b, off + i, none⟩ := by unfold Addr.add; split <;> simp_all
theorem add_block (x : Addr) (i : Nat) : (x.add i).block = x.block := by unfold Addr.add; split <;> rfl

/-! The block that grows, if one does, holds no element of these types. -/

def Clear (w : World) (row : Option Nat) (ids : List TypeId) : Prop := ∀ g cs e fr, row = some g → w.heap[g]? = some (.cells cs e fr) → e ∉ ids

theorem Clear.sub {w : World} {row : Option Nat} {ids js : List TypeId} (h : Clear w row ids) (hs : ∀ e ∈ js, e ∈ ids) : Clear w row js := fun g cs e fr h1 h2 h3 => h g cs e fr h1 h2 (hs e h3)
theorem Clear.apart {w : World} {row : Option Nat} {ids : List TypeId} {base : Nat} {e : TypeId} {size : Nat} {v : Value} {n : Nat} {xs : List Value} (h : Clear w row ids) (ho : w.ownsRow base e size v n xs) (he : e ∈ ids) : v.ownBlock = none ∨ v.ownBlock ≠ row := by
  rcases ho.2 with ⟨rfl, _⟩ | ⟨g, cap, cur, rfl, _, hg, _⟩
  · exact .inl rfl
  · exact .inr fun e' => h g _ _ _ e'.symm hg he
theorem Clear.own {w : World} {ids : List TypeId} {base : Nat} {e : TypeId} {size : Nat} {v : Value} {n : Nat} {xs : List Value} (ho : w.ownsRow base e size v n xs) (he : e ∉ ids) : Clear w v.ownBlock ids := fun g cs e' fr h1 h2 => by
  rcases ho.2 with ⟨rfl, _⟩ | ⟨g', cap, cur, rfl, _, hg, _⟩
  · simp [Value.ownBlock] at h1
  · obtain rfl : g' = g := by simpa [Value.ownBlock] using h1
    rw [hg] at h2
    simp at h2
    rw [← h2.2.1]
    exact he
theorem Clear.none (w : World) (ids : List TypeId) : Clear w .none ids := fun _ _ _ _ h => by cases h

/-! Variables of several cells. -/

def Box (w : World) (B : Nat) (t : TypeId) (cs : Array Value) : Prop := w.heap[B]? = some (.cells cs t (0, 0))
theorem Box.cell {w : World} {B : Nat} {t : TypeId} {cs : Array Value} (h : Box w B t cs) (i : Nat) {u : Value} (hu : cs[i]? = some u) : w.cell? ⟨B, i, none⟩ = some u := by simp [World.cell?, show w.heap[B]? = _ from h, hu]
theorem Box.frozen {w : World} {B : Nat} {t : TypeId} {cs : Array Value} (h : Box w B t cs) (i : Nat) : w.frozen? ⟨B, i, none⟩ = false := by simp [World.frozen?, show w.heap[B]? = _ from h]
theorem Box.two {w : World} {B : Nat} {t : TypeId} {u v : Value} (h : Box w B t #[u, v]) : w.cell? ⟨B, 0, none⟩ = some u ∧ w.cell? ⟨B, 1, none⟩ = some v ∧ w.frozen? ⟨B, 0, none⟩ = false ∧ w.frozen? ⟨B, 1, none⟩ = false := ⟨h.cell 0 rfl, h.cell 1 rfl, h.frozen 0, h.frozen 1⟩
theorem Box.three {w : World} {B : Nat} {t : TypeId} {u v x : Value} (h : Box w B t #[u, v, x]) : w.cell? ⟨B, 0, none⟩ = some u ∧ w.cell? ⟨B, 1, none⟩ = some v ∧ w.cell? ⟨B, 2, none⟩ = some x ∧ w.frozen? ⟨B, 0, none⟩ = false ∧ w.frozen? ⟨B, 1, none⟩ = false ∧ w.frozen? ⟨B, 2, none⟩ = false := ⟨h.cell 0 rfl, h.cell 1 rfl, h.cell 2 rfl, h.frozen 0, h.frozen 1, h.frozen 2⟩
theorem Box.lt {w : World} {B : Nat} {t : TypeId} {cs : Array Value} (h : Box w B t cs) : B < w.heap.size := (Array.getElem?_eq_some_iff.1 h).1
theorem Box.new (w : World) (t : TypeId) (cs : Array Value) : Box (w.alloc (.cells cs t)) w.heap.size t cs := heap_alloc_new w _
theorem Box.kept {w w' : World} {B : Nat} {t : TypeId} {cs : Array Value} (h : Box w B t cs) (hs : w'.heap[B]? = w.heap[B]?) : Box w' B t cs := hs.trans h
theorem Box.grown {w w' : World} {row : Option Nat} {B : Nat} {t : TypeId} {cs : Array Value} (h : Box w B t cs) (hg : w.grownBy w' row) (hne : some B ≠ row) : Box w' B t cs := h.kept (hg.block B h.lt hne)
theorem Box.below {w w' : World} {B n : Nat} {t : TypeId} {cs : Array Value} (h : Box w B t cs) (hb : Below n w w') (hn : B < n) : Box w' B t cs := h.kept (hb.block B hn)
theorem Box.alloc {w : World} {B : Nat} {t : TypeId} {cs : Array Value} (h : Box w B t cs) (o : Obj) : Box (w.alloc o) B t cs := h.kept (Below.heap_alloc w o B h.lt)
theorem Box.drew {w : World} {B : Nat} {t : TypeId} {cs : Array Value} (h : Box w B t cs) : Box w.drew B t cs := h
theorem Box.set {w : World} {B : Nat} {t : TypeId} {cs : Array Value} (h : Box w B t cs) (i : Nat) (x : Value) : Box (w.setCell ⟨B, i, none⟩ x) B t (cs.setIfInBounds i x) := by
  obtain ⟨hlt, hk⟩ := Array.getElem?_eq_some_iff.1 h
  show (w.heap.modify B _)[B]? = _
  rw [Array.getElem?_eq_getElem (by rw [Array.size_modify]; exact hlt), Array.getElem_modify_self, hk]
  rfl
theorem Box.other {w : World} {B B' i : Nat} {t : TypeId} {cs : Array Value} {x : Value} (h : Box w B t cs) (hne : B ≠ B') : Box (w.setCell ⟨B', i, none⟩ x) B t cs := h.kept (Below.heap_setCell _ _ _ _ hne)
theorem Box.apart {w : World} {base : Nat} {e t : TypeId} {size : Nat} {v : Value} {n B : Nat} {xs : List Value} {cs : Array Value} (hB : Box w B t cs) (h : w.ownsRow base e size v n xs) (ht : t ≠ e) : some B ≠ v.ownBlock := by
  rcases h.2 with ⟨rfl, _⟩ | ⟨g, cap, cur, rfl, _, hg, _⟩
  · simp [Value.ownBlock]
  · intro e'
    have : B = g := by simpa [Value.ownBlock] using e'
    subst this
    rw [show w.heap[B]? = _ from hB] at hg
    simp at hg
    exact ht hg.2
theorem Box.clear {w : World} {B : Nat} {t : TypeId} {cs : Array Value} (h : Box w B t cs) {ids : List TypeId} (ht : t ∉ ids) : Clear w (some B) ids := fun g cs e fr h1 h2 => by
  cases h1
  rw [show w.heap[B]? = _ from h] at h2
  simp at h2
  rw [← h2.2.1]
  exact ht
theorem grown_set (w : World) (B i : Nat) (x : Value) : w.grownBy (w.setCell ⟨B, i, none⟩ x) (some B) :=
  ⟨rfl, rfl, rfl, by simp [World.setCell], fun k _ hk => Below.heap_setCell _ _ _ _ (fun e => hk (by rw [e]))⟩

theorem below_set2 {B n : Nat} {w W : World} (h : Below n w W) (hn : n ≤ B) (u v : Value) : Below n w ((W.setCell ⟨B, 0, none⟩ u).setCell ⟨B, 1, none⟩ v) := (h.setCell (p := ⟨B, 0, none⟩) hn u).setCell (p := ⟨B, 1, none⟩) hn v
theorem below_set3 {B n : Nat} {w W : World} (h : Below n w W) (hn : n ≤ B) (u v x : Value) : Below n w (((W.setCell ⟨B, 0, none⟩ u).setCell ⟨B, 1, none⟩ v).setCell ⟨B, 2, none⟩ x) := (below_set2 h hn u v).setCell (p := ⟨B, 2, none⟩) hn x
theorem Same.set2 {n B : Nat} {w : World} {u v : Value} (hB : B < n) : Same n w ((w.setCell ⟨B, 0, none⟩ u).setCell ⟨B, 1, none⟩ v) := Same.trans (.set hB) (by simp [World.setCell]) (.set hB)
theorem Same.set3 {n B : Nat} {w : World} {u v x : Value} (hB : B < n) : Same n w (((w.setCell ⟨B, 0, none⟩ u).setCell ⟨B, 1, none⟩ v).setCell ⟨B, 2, none⟩ x) := Same.trans (.set2 hB) (by simp [World.setCell]) (.set hB)

/-! A slice and its cells. -/

/-- The slice v has n elements of so many cells; the cells hold us; they lie from block n0 on. -/
def Cells (n0 : Nat) (w : World) (size : Nat) (v : Value) (n : Nat) (us : List Value) : Prop :=
  us.length = n * size ∧ ((v = .slice none 0 0 ∧ n = 0) ∨ ∃ x cap, v = .slice (some x) n cap ∧ n ≤ cap ∧ n ≤ maxLen ∧ n0 ≤ x.block ∧ ∀ (i : Nat) (u : Value), us[i]? = some u → w.cell? (x.add i) = some u)

theorem Cells.keep {n0 : Nat} {w w' : World} {size : Nat} {v : Value} {n : Nat} {us : List Value} (h : Cells n0 w size v n us) (hs : Same n0 w w') : Cells n0 w' size v n us := by
  obtain ⟨hl, h | ⟨x, cap, hv, h1, h2, h3, h4⟩⟩ := h
  · exact ⟨hl, .inl h⟩
  · exact ⟨hl, .inr ⟨x, cap, hv, h1, h2, h3, fun i u hi => hs.cell (by rw [add_block]; exact h3) (h4 i u hi)⟩⟩

theorem Cells.weaken {n0 n1 : Nat} {w : World} {size : Nat} {v : Value} {n : Nat} {us : List Value} (h : Cells n0 w size v n us) (hn : n1 ≤ n0) : Cells n1 w size v n us := by
  obtain ⟨hl, h | ⟨x, cap, hv, h1, h2, h3, h4⟩⟩ := h
  · exact ⟨hl, .inl h⟩
  · exact ⟨hl, .inr ⟨x, cap, hv, h1, h2, Nat.le_trans hn h3, h4⟩⟩

theorem Cells.own {n0 : Nat} {w : World} {e : TypeId} {size : Nat} {v : Value} {n : Nat} {us : List Value} (h : w.ownsRow n0 e size v n us) : Cells n0 w size v n us := by
  refine ⟨h.1, ?_⟩
  have h0 := h
  rcases h.2 with ⟨hv, hn⟩ | ⟨g, cap, cur, hv, hg, hh, h1, h2, h3, h4⟩
  · exact .inl ⟨hv, hn⟩
  · subst hv
    exact .inr ⟨_, cap, rfl, h1, by omega, hg, fun i u hu => h0.cells (g := g) rfl i u hu⟩

theorem Cells.shape {n0 : Nat} {w : World} {size : Nat} {v : Value} {n : Nat} {us : List Value} (h : Cells n0 w size v n us) : ∃ a cap, v = .slice a n cap ∧ n ≤ cap ∧ n ≤ maxLen ∧ (a = none → n = 0) := by
  obtain ⟨_, ⟨rfl, rfl⟩ | ⟨x, cap, rfl, h1, h2, _⟩⟩ := h
  · exact ⟨none, 0, rfl, Nat.le_refl _, Nat.zero_le _, fun _ => rfl⟩
  · exact ⟨some x, cap, rfl, h1, h2, fun h => by cases h⟩

/-- Where an element lies. -/
theorem Cells.place {n0 : Nat} {w : World} {size : Nat} {v : Value} {n : Nat} {us : List Value} (h : Cells n0 w size v n us) (hz : 0 < size) (i : Nat) (hi : i < n) :
    ∃ b o cap, v = .slice (some ⟨b, o, none⟩) n cap ∧ n ≤ cap ∧ n ≤ maxLen ∧ n0 ≤ b ∧ ∀ j u, us[i * size + j]? = some u → w.cell? ⟨b, o + i * size + j, none⟩ = some u := by
  obtain ⟨hl, ⟨rfl, rfl⟩ | ⟨x, cap, rfl, h1, h2, h3, h4⟩⟩ := h
  · omega
  · have h0 : 0 < us.length := by rw [hl]; exact Nat.mul_pos (by omega) hz
    have g := h4 0 us[0] (by simp [h0])
    obtain ⟨b, o, spot⟩ := x
    have hspot : spot = none := by simpa [Addr.add] using World.cell?_spot g
    subst hspot
    refine ⟨b, o, cap, rfl, h1, h2, h3, fun j u hu => ?_⟩
    have := h4 _ u hu
    rwa [add_plain, ← Nat.add_assoc] at this

theorem run_len {t e : TypeId} (ht : Tryd.prog.underlying t = some (.slice e)) (a : Option Addr) (n cap : Nat) (W : World) : (Builtin.len_ #[t] 3 #[.slice a n cap]).run Tryd.prog W = .ok (.int .i64 n) W := by
  simp [Builtin.len_, run_underlying ht, goInt]

theorem run_index {t e : TypeId} {size : Nat} (ht : Tryd.prog.underlying t = some (.slice e)) {i0 : TypeInfo} (hi : Tryd.prog.info? e = some i0) (hz : i0.size = size) (b o n cap i : Nat) (hin : i < n) (W : World) :
    (Instr.indexAt t (.slice (some ⟨b, o, none⟩) n cap) (.int .i64 i)).run Tryd.prog W = .ok (.pointer (some ⟨b, o + i * size, none⟩)) W := by
  have he : Tryd.prog.underlying t = some (.slice (Tryd.prog.elem t)) := by
    rw [ht]; simp [Program.elem, ht]
  have hee : Tryd.prog.elem t = e := by simp [Program.elem, ht]
  rw [run_indexAt_slice (h := he), if_pos (by omega), hee]
  simp [sizeOf, typeInfo, hi, hz, Result.andThen, add_plain]

/-- Where an element of a slice that is a letter lies. -/
theorem Cells.index {n0 : Nat} {w : World} {size : Nat} {v : Value} {n : Nat} {us : List Value} (h : Cells n0 w size v n us) (hz : 0 < size) {t e : TypeId} (ht : Tryd.prog.underlying t = some (.slice e)) {i0 : TypeInfo} (hi0 : Tryd.prog.info? e = some i0) (hs : i0.size = size) (i : Nat) (hi : i < n) :
    ∃ b o, (∀ W, (Instr.indexAt t v (.int .i64 i)).run Tryd.prog W = .ok (.pointer (some ⟨b, o, none⟩)) W) ∧ n0 ≤ b ∧ ∀ j u, us[i * size + j]? = some u → w.cell? ⟨b, o + j, none⟩ = some u := by
  obtain ⟨b, o, cap, rfl, _, _, hb, hc⟩ := h.place hz i hi
  exact ⟨b, o + i * size, fun W => run_index ht hi0 hs b o n cap i hi W, hb, hc⟩

end Go.Proofs.YthlfgpnabcplnaaDoor

/-
  'These octets lie at this slice' as one word, what keeps it, that SameBytes of two slices with the same octets is true, and what CopyBytes makes, in every memory.
-/
namespace Go.Proofs.YthlfgpnabcplnaaDoor.W.C
open Go.RowKit

theorem Tryd.info5 : (Tryd.prog.info? 5).map (fun i => (i.zero, i.size, i.bytes)) = some (some (.int .u8 0), 1, 1) := by kernel_rfl

theorem cell_lt {w : World} {a : Addr} {v : Value} (h : w.cell? a = some v) : a.block < w.heap.size := by
  rcases Nat.lt_or_ge a.block w.heap.size with c | c
  · exact c
  · simp [World.cell?, Array.getElem?_eq_none c] at h

/-- The slice value v shows the octets l in the world w. -/
def Bytes (w : World) (v : Value) (l : List Int) : Prop :=
  (∃ a cap, v = .slice a l.length cap ∧ (l.length ≠ 0 → ∃ b off, a = some ⟨b, off, none⟩ ∧ ∀ i, i < l.length → w.cell? ⟨b, off + i, none⟩ = some (.int .u8 (l.getD i 0)))) ∧
    l.length ≤ maxLen ∧ ∀ x ∈ l, 0 ≤ x ∧ x ≤ 255

theorem Bytes.below {w w' : World} {v : Value} {l : List Int} (h : Bytes w v l) (hb : Below w.heap.size w w') : Bytes w' v l := by
  obtain ⟨⟨a, cap, hv, hc⟩, hm, hr⟩ := h
  refine ⟨⟨a, cap, hv, fun h0 => ?_⟩, hm, hr⟩
  obtain ⟨b, off, ha, hcell⟩ := hc h0
  refine ⟨b, off, ha, fun i hi => ?_⟩
  have := hcell i hi
  have hlt : b < w.heap.size := cell_lt this
  rw [hb.cell (p := ⟨b, off + i, none⟩) hlt]
  exact this

theorem Bytes.drewN {w : World} {v : Value} {l : List Int} (h : Bytes w v l) (q : Nat) : Bytes (w.drewN q) v l := by
  obtain ⟨⟨a, cap, hv, hc⟩, hm, hr⟩ := h
  refine ⟨⟨a, cap, hv, fun h0 => ?_⟩, hm, hr⟩
  obtain ⟨b, off, ha, hcell⟩ := hc h0
  exact ⟨b, off, ha, fun i hi => by simpa using hcell i hi⟩

theorem Bytes.own {w : World} {base : Nat} {v : Value} {l : List Int} (h : w.ownsRow base 5 1 v l.length (l.map (Value.int .u8))) (hr : ∀ x ∈ l, 0 ≤ x ∧ x ≤ 255) : Bytes w v l := by
  have h0 := h
  rcases h.2 with ⟨hv, hn⟩ | ⟨g, cap, cur, hv, hg, hh, h1, h2, h3, h4⟩
  · exact ⟨⟨none, 0, by rw [hv, hn], fun c => absurd hn c⟩, by unfold maxLen; omega, hr⟩
  · subst hv
    refine ⟨⟨_, cap, rfl, fun _ => ⟨g, 0, rfl, fun i hi => ?_⟩⟩, by omega, hr⟩
    have := h0.cellAt i (by omega)
    rw [Nat.zero_add, this, List.getElem?_map, List.getElem?_eq_getElem hi]
    simp [List.getElem?_eq_getElem hi]

set_option maxHeartbeats 400000 in
theorem same_none (a1 a2 : Option Addr) (c1 c2 : Nat) (w : World) :
    Calls Tryd.prog 25 #[.slice a1 0 c1, .slice a2 0 c2] w fun e w' => e = .returned (.bool true) ∧ w' = w := by
  go_enter Tryd.func25, Tryd.ntmps25
  go_wp2
  refine wp_loop_rounds 1 ?_
  rw [rounds_succ]
  go_wp2
  go_ret
  exact ⟨rfl, rfl⟩

set_option maxHeartbeats 400000 in
theorem same_some (b1 o1 b2 o2 n c1 c2 : Nat) (l : List Int) (hl : l.length = n) (w : World) (hm : n ≤ maxLen)
    (h1 : ∀ i, i < n → w.cell? ⟨b1, o1 + i, none⟩ = some (.int .u8 (l.getD i 0))) (h2 : ∀ i, i < n → w.cell? ⟨b2, o2 + i, none⟩ = some (.int .u8 (l.getD i 0))) :
    Calls Tryd.prog 25 #[.slice (some ⟨b1, o1, none⟩) n c1, .slice (some ⟨b2, o2, none⟩) n c2] w fun e w' => e = .returned (.bool true) ∧ ∃ q, w' = w.drewN q := by
  unfold maxLen at hm
  have HL : Hid (l.length = n) := hl
  clear hl
  go_enter Tryd.func25, Tryd.ntmps25
  go_wp2
  go_loopw [5] (fun i wr => ∃ k : Nat, k ≤ n ∧ i = .int .i64 k ∧ ∃ q, wr = w.drewN q) (fun i _ => n - (intOf i).toNat)
  case atStart => exact ⟨0, Nat.zero_le _, rfl, 0, rfl⟩
  case round =>
    obtain ⟨k, hk, rfl, q, rfl⟩ := hrel
    by_cases hlt : k < n
    · have g1 := h1 k hlt
      have g2 := h2 k hlt
      have hkn : (k : Int) < (n : Int) := by omega
      clear h1 h2
      obtain ⟨x, hx⟩ : ∃ x, x = l.getD k 0 := ⟨_, rfl⟩
      rw [← hx] at g1 g2
      clear hx
      go_wp2
      go_quiet (fail)
      go_wp2
      go_roundw
      case rel => exact ⟨k + 1, by omega, by go_num, _, rfl⟩
      case measure => simp [intOf]; omega
    · go_wp2
      go_ret
      exact ⟨rfl, q, rfl⟩

theorem same_true (v1 v2 : Value) (l : List Int) (w : World) (h1 : Bytes w v1 l) (h2 : Bytes w v2 l) :
    Calls Tryd.prog 25 #[v1, v2] w fun e w' => e = .returned (.bool true) ∧ ∃ q, w' = w.drewN q := by
  obtain ⟨⟨a1, c1, rfl, k1⟩, hm, _⟩ := h1
  obtain ⟨⟨a2, c2, rfl, k2⟩, _, _⟩ := h2
  by_cases h0 : l.length = 0
  · rw [h0]
    exact (same_none a1 a2 c1 c2 w).mono fun e w' ⟨he, hw⟩ => ⟨he, 0, hw⟩
  · obtain ⟨b1, o1, rfl, e1⟩ := k1 h0
    obtain ⟨b2, o2, rfl, e2⟩ := k2 h0
    exact same_some b1 o1 b2 o2 l.length c1 c2 l rfl w hm e1 e2
/-- Octets at an address: what the walks read. -/
def At (w : World) (b off : Nat) (l : List Int) : Prop := ∀ i, i < l.length → w.cell? ⟨b, off + i, none⟩ = some (.int .u8 (l.getD i 0))

theorem add_plain (b off i : Nat) : (⟨b, off, none⟩ : Addr).add i = ⟨b, off + i, none⟩ := by unfold Addr.add; split <;> simp_all

/-- A slice that came in, or one that the call made: nil, or at an address. -/
def Arg (w : World) (v : Value) (l : List Int) : Prop :=
  (v = .slice none 0 0 ∧ l = []) ∨ ∃ x cap, v = .slice (some x) l.length cap ∧ l.length ≤ cap ∧ l.length ≤ maxLen ∧ (∀ i, i < l.length → w.cell? (x.add i) = some (.int .u8 (l.getD i 0))) ∧ ∀ y ∈ l, 0 ≤ y ∧ y ≤ 255

theorem Arg.bytes {w : World} {v : Value} {l : List Int} (h : Arg w v l) : Bytes w v l := by
  rcases h with ⟨rfl, rfl⟩ | ⟨x, cap, rfl, _, hm, hc, hr⟩
  · exact ⟨⟨none, 0, rfl, fun h => absurd rfl h⟩, by simp [maxLen], by simp⟩
  · refine ⟨⟨some x, cap, rfl, fun h0 => ?_⟩, hm, hr⟩
    obtain ⟨b, off, spot⟩ := x
    have h1 := hc 0 (by omega)
    have hspot : spot = none := by simpa [Addr.add] using World.cell?_spot h1
    subst hspot
    exact ⟨b, off, rfl, fun i hi => by rw [← add_plain]; exact hc i hi⟩

/-- The slice as the two ways of each walk want it. -/
theorem Arg.split {w : World} {v : Value} {l : List Int} (h : Arg w v l) : (l = [] ∧ ∃ a cap, v = .slice a 0 cap) ∨ (∃ b off cap, v = .slice (some ⟨b, off, none⟩) l.length cap ∧ l.length ≤ cap ∧ l.length ≤ maxLen ∧ At w b off l ∧ ∀ y ∈ l, 0 ≤ y ∧ y ≤ 255) := by
  rcases h with ⟨rfl, rfl⟩ | ⟨x, cap, rfl, hcap, hm, hc, hr⟩
  · exact .inl ⟨rfl, none, 0, rfl⟩
  · by_cases h0 : l.length = 0
    · left
      exact ⟨List.eq_nil_of_length_eq_zero h0, some x, cap, by rw [h0]⟩
    · right
      obtain ⟨b, off, spot⟩ := x
      have h1 := hc 0 (by omega)
      have hspot : spot = none := by simpa [Addr.add] using World.cell?_spot h1
      subst hspot
      exact ⟨b, off, cap, rfl, hcap, hm, fun i hi => by rw [← add_plain]; exact hc i hi, hr⟩

theorem Arg.own {w : World} {base : Nat} {v : Value} {l : List Int} (h : w.ownsRow base 5 1 v l.length (l.map (Value.int .u8))) (hr : ∀ x ∈ l, 0 ≤ x ∧ x ≤ 255) : Arg w v l := by
  have h0 := h
  rcases h.2 with ⟨hv, hn⟩ | ⟨g, cap, cur, hv, hg, hh, h1, h2, h3, h4⟩
  · exact .inl ⟨hv, List.eq_nil_of_length_eq_zero hn⟩
  · subst hv
    refine .inr ⟨_, cap, rfl, h1, by omega, fun i hi => ?_, hr⟩
    have := h0.cellAt i (by omega)
    rw [add_plain, Nat.zero_add, this, List.getElem?_map, List.getElem?_eq_getElem hi]
    simp [List.getElem?_eq_getElem hi]

theorem Arg.below {w w' : World} {v : Value} {l : List Int} (h : Arg w v l) (hb : Below w.heap.size w w') : Arg w' v l := by
  rcases h with h | ⟨x, cap, hv, hcap, hm, hc, hr⟩
  · exact .inl h
  · refine .inr ⟨x, cap, hv, hcap, hm, fun i hi => ?_, hr⟩
    have := hc i hi
    have hlt := cell_lt this
    rw [hb.cell hlt]
    exact this

set_option maxHeartbeats 400000 in
theorem copy_any (v : Value) (l : List Int) (w : World) (h : Arg w v l) (hs : l.length ≤ 140737488355328) :
    Calls Tryd.prog 20 #[v] w fun e w' => (∃ v', e = .returned v' ∧ w'.ownsRow w.heap.size 5 1 v' l.length (l.map (Value.int .u8))) ∧ Below w.heap.size w w' := by
  obtain ⟨i0, hi, hz0, hz1, hz2⟩ := info_parts Tryd.info5
  rcases h with ⟨rfl, rfl⟩ | ⟨x, cap, rfl, hcap, hm, hc, hr⟩
  · go_enter Tryd.func20, Tryd.ntmps20
    go_wp2_with (at_builtin; refine wpList_append_own_none rfl _ _ 22 rfl w.heap.size 5 i0 1 Tryd.underlying22 hi (.slice none 0 0) 0 [] rfl (World.ownsRow_nil _ _ _ _) rfl ?_)
    go_ret
    exact ⟨⟨_, rfl, World.ownsRow_nil _ _ _ _⟩, Below.refl _ _⟩
  · have hnews : ∀ j u, (l.map (Value.int .u8))[j]? = some u → w.cell? (x.add j) = some u := fun j u hj => by
      have hjl : j < l.length := by
        rcases Nat.lt_or_ge j l.length with c | c
        · exact c
        · rw [List.getElem?_eq_none (by simpa using c)] at hj; cases hj
      rw [hc j hjl]
      rw [List.getElem?_map, List.getElem?_eq_getElem hjl] at hj
      simpa [List.getElem?_eq_getElem hjl] using hj
    have hone : ∀ u ∈ l.map (Value.int .u8), u.oneCell' = true := fun u hu => by
      obtain ⟨y, _, rfl⟩ := List.mem_map.1 hu
      rfl
    clear hc hr
    go_enter Tryd.func20, Tryd.ntmps20
    go_wp2_with (at_builtin; refine wpList_append_own _ rfl _ _ 22 rfl w.heap.size 5 i0 (.int .u8 0) 1 1 Tryd.underlying22 hi hz0 hz1 hz2 rfl (by decide) (.slice none 0 0) 0 [] rfl (World.ownsRow_nil _ _ _ _) x l.length cap (l.map (Value.int .u8)) rfl (by simp) hnews hone (by omega) (by omega) (Nat.le_refl _) ?_)
    intro v' w1 hown hgrow _
    have hb : Below w.heap.size w w1 := (Below.refl _ _).grown hgrow (Nat.le_refl _) (fun _ h => by cases h)
    clear hgrow hnews hone
    go_wp2
    go_ret
    exact ⟨⟨v', rfl, hown⟩, hb⟩

end Go.Proofs.YthlfgpnabcplnaaDoor.W.C

/-
  The words by which the walks speak of memory: octets, lists of octets, writes and disks that lie at a value; what keeps them; and where an element lies.
-/
namespace Go.Proofs.YthlfgpnabcplnaaDoor.Dk
open Go.RowKit
set_option maxRecDepth 100000

theorem Tryd.info5 : (Tryd.prog.info? 5).map (fun i => (i.zero, i.size, i.bytes)) = some (some (.int .u8 0), 1, 1) := by kernel_rfl
theorem Tryd.info22 : (Tryd.prog.info? 22).map (fun i => (i.zero, i.size, i.bytes)) = some (some (.slice none 0 0), 1, 24) := by kernel_rfl
theorem Tryd.info81 : (Tryd.prog.info? 81).map (fun i => (i.zero, i.size, i.bytes)) = some (some (.agg #[.int .i64 0, .slice none 0 0]), 2, 32) := by kernel_rfl

/-! Two lists, element by element. -/

def Each {α β : Type} (R : α → β → Prop) : List α → List β → Prop
  | [], [] => True
  | a :: xs, b :: ys => R a b ∧ Each R xs ys
  | _, _ => False

theorem Each.length {α β : Type} {R : α → β → Prop} : ∀ {xs : List α} {ys : List β}, Each R xs ys → xs.length = ys.length
  | [], [], _ => rfl
  | _ :: _, _ :: _, h => by simp [Each.length h.2]
  | [], _ :: _, h => h.elim
  | _ :: _, [], h => h.elim

theorem Each.mono {α β : Type} {R R' : α → β → Prop} (hR : ∀ a b, R a b → R' a b) : ∀ {xs : List α} {ys : List β}, Each R xs ys → Each R' xs ys
  | [], [], _ => trivial
  | _ :: _, _ :: _, h => ⟨hR _ _ h.1, Each.mono hR h.2⟩
  | [], _ :: _, h => h.elim
  | _ :: _, [], h => h.elim

theorem Each.get {α β : Type} {R : α → β → Prop} : ∀ {xs : List α} {ys : List β} {i : Nat} {b : β}, Each R xs ys → ys[i]? = some b → ∃ a, xs[i]? = some a ∧ R a b
  | [], [], _, _, _, h => by simp at h
  | a :: _, _ :: _, 0, _, h, e => by simp at e; subst e; exact ⟨a, rfl, h.1⟩
  | _ :: _, _ :: _, i + 1, _, h, e => by simp at e; simpa using Each.get (i := i) h.2 e
  | [], _ :: _, _, _, h, _ => h.elim
  | _ :: _, [], _, _, h, _ => h.elim

theorem Each.snoc {α β : Type} {R : α → β → Prop} {a : α} {b : β} : ∀ {xs : List α} {ys : List β}, Each R xs ys → R a b → Each R (xs ++ [a]) (ys ++ [b])
  | [], [], _, h => ⟨h, trivial⟩
  | _ :: _, _ :: _, h, k => ⟨h.1, Each.snoc h.2 k⟩
  | [], _ :: _, h, _ => h.elim
  | _ :: _, [], h, _ => h.elim

theorem Each.set {α β : Type} {R : α → β → Prop} {a : α} {b : β} : ∀ {xs : List α} {ys : List β} (i : Nat), Each R xs ys → R a b → Each R (xs.set i a) (ys.set i b)
  | [], [], _, _, _ => trivial
  | _ :: _, _ :: _, 0, h, k => ⟨k, h.2⟩
  | _ :: _, _ :: _, i + 1, h, k => ⟨h.1, Each.set i h.2 k⟩
  | [], _ :: _, _, h, _ => h.elim
  | _ :: _, [], _, h, _ => h.elim

theorem each_of {α β : Type} {R : α → β → Prop} : ∀ {xs : List α} {ys : List β}, xs.length = ys.length → (∀ (i : Nat) a b, xs[i]? = some a → ys[i]? = some b → R a b) → Each R xs ys
  | [], [], _, _ => trivial
  | a :: xs, b :: ys, h, k => ⟨k 0 a b rfl rfl, each_of (by simpa using h) fun i x y hx hy => k (i + 1) x y (by simpa using hx) (by simpa using hy)⟩
  | [], _ :: _, h, _ => by simp at h
  | _ :: _, [], h, _ => by simp at h

/-! Worlds. -/

theorem cell_lt {w : World} {a : Addr} {v : Value} (h : w.cell? a = some v) : a.block < w.heap.size := by
  rcases Nat.lt_or_ge a.block w.heap.size with c | c
  · exact c
  · simp [World.cell?, Array.getElem?_eq_none c] at h

/-- From block n on, what was there is xs it was. -/
def Same (n : Nat) (w w' : World) : Prop := ∀ k, n ≤ k → k < w.heap.size → w'.heap[k]? = w.heap[k]?

theorem Same.of_below {n : Nat} {w w' : World} (h : Below w.heap.size w w') : Same n w w' := fun k _ hk => h.block k hk
theorem Same.cell {n : Nat} {w w' : World} (h : Same n w w') {a : Addr} {v : Value} (hn : n ≤ a.block) (hc : w.cell? a = some v) : w'.cell? a = some v := by
  rw [World.cell?_of_block (h a.block hn (cell_lt hc))]; exact hc

theorem below_any {w a b : World} (h : Below w.heap.size w a) (k : Below a.heap.size a b) : Below w.heap.size w b := h.trans (k.mono h.size)
theorem below_drewN {B : Nat} {a w : World} (h : Below B a w) (q : Nat) : Below B a (w.drewN q) := by
  refine ⟨h.os, h.tape, h.output, ?_, fun k hk => ?_⟩
  · simpa using h.size
  · simpa using h.block k hk
theorem own_below {w w' : World} {base : Nat} {e : TypeId} {size : Nat} {v : Value} {n : Nat} {xs : List Value} (h : w.ownsRow base e size v n xs) (hb : Below w.heap.size w w') : w'.ownsRow base e size v n xs := by
  obtain ⟨h1, h2⟩ := h
  refine ⟨h1, ?_⟩
  rcases h2 with h2 | ⟨g, cap, cur, a, b, c, d⟩
  · exact .inl h2
  · refine .inr ⟨g, cap, cur, a, b, ?_, d⟩
    rw [hb.block g (Array.getElem?_eq_some_iff.1 c).1]
    exact c

theorem add_plain (b off i : Nat) : (⟨b, off, none⟩ : Addr).add i = ⟨b, off + i, none⟩ := by unfold Addr.add; split <;> simp_all

/-! A slice and its cells. -/

/-- The slice v has n elements of so many cells; the cells hold us; they lie from block n0 on. -/
def Cells (n0 : Nat) (w : World) (size : Nat) (v : Value) (n : Nat) (us : List Value) : Prop :=
  us.length = n * size ∧ ((v = .slice none 0 0 ∧ n = 0) ∨ ∃ x cap, v = .slice (some x) n cap ∧ n ≤ cap ∧ n ≤ maxLen ∧ n0 ≤ x.block ∧ ∀ (i : Nat) (u : Value), us[i]? = some u → w.cell? (x.add i) = some u)

theorem Cells.keep {n0 : Nat} {w w' : World} {size : Nat} {v : Value} {n : Nat} {us : List Value} (h : Cells n0 w size v n us) (hs : Same n0 w w') : Cells n0 w' size v n us := by
  obtain ⟨hl, h | ⟨x, cap, hv, h1, h2, h3, h4⟩⟩ := h
  · exact ⟨hl, .inl h⟩
  · refine ⟨hl, .inr ⟨x, cap, hv, h1, h2, h3, fun i u hi => hs.cell ?_ (h4 i u hi)⟩⟩
    have : (x.add i).block = x.block := by unfold Addr.add; split <;> rfl
    rw [this]; exact h3

theorem Cells.weaken {n0 n1 : Nat} {w : World} {size : Nat} {v : Value} {n : Nat} {us : List Value} (h : Cells n0 w size v n us) (hn : n1 ≤ n0) : Cells n1 w size v n us := by
  obtain ⟨hl, h | ⟨x, cap, hv, h1, h2, h3, h4⟩⟩ := h
  · exact ⟨hl, .inl h⟩
  · exact ⟨hl, .inr ⟨x, cap, hv, h1, h2, Nat.le_trans hn h3, h4⟩⟩

theorem Cells.own {n0 : Nat} {w : World} {e : TypeId} {size : Nat} {v : Value} {n : Nat} {us : List Value} (h : w.ownsRow n0 e size v n us) : Cells n0 w size v n us := by
  refine ⟨h.1, ?_⟩
  have h0 := h
  rcases h.2 with ⟨hv, hn⟩ | ⟨g, cap, cur, hv, hg, hh, h1, h2, h3, h4⟩
  · exact .inl ⟨hv, hn⟩
  · subst hv
    exact .inr ⟨_, cap, rfl, h1, by omega, hg, fun i u hu => h0.cells (g := g) rfl i u hu⟩

theorem Cells.shape {n0 : Nat} {w : World} {size : Nat} {v : Value} {n : Nat} {us : List Value} (h : Cells n0 w size v n us) : ∃ a cap, v = .slice a n cap ∧ n ≤ cap ∧ n ≤ maxLen ∧ (a = none → n = 0) := by
  obtain ⟨_, ⟨rfl, rfl⟩ | ⟨x, cap, rfl, h1, h2, _⟩⟩ := h
  · exact ⟨none, 0, rfl, Nat.le_refl _, Nat.zero_le _, fun _ => rfl⟩
  · exact ⟨some x, cap, rfl, h1, h2, fun h => by cases h⟩

/-- Where an element lies. -/
theorem Cells.place {n0 : Nat} {w : World} {size : Nat} {v : Value} {n : Nat} {us : List Value} (h : Cells n0 w size v n us) (hz : 0 < size) (i : Nat) (hi : i < n) :
    ∃ b o cap, v = .slice (some ⟨b, o, none⟩) n cap ∧ n ≤ cap ∧ n ≤ maxLen ∧ n0 ≤ b ∧ ∀ j u, us[i * size + j]? = some u → w.cell? ⟨b, o + i * size + j, none⟩ = some u := by
  obtain ⟨hl, ⟨rfl, rfl⟩ | ⟨x, cap, rfl, h1, h2, h3, h4⟩⟩ := h
  · omega
  · have h0 : 0 < us.length := by rw [hl]; exact Nat.mul_pos (by omega) hz
    have g := h4 0 us[0] (by simp [h0])
    obtain ⟨b, o, spot⟩ := x
    have hspot : spot = none := by simpa [Addr.add] using World.cell?_spot g
    subst hspot
    refine ⟨b, o, cap, rfl, h1, h2, h3, fun j u hu => ?_⟩
    have := h4 _ u hu
    rwa [add_plain, ← Nat.add_assoc] at this

theorem run_len {t e : TypeId} (ht : Tryd.prog.underlying t = some (.slice e)) (a : Option Addr) (n cap : Nat) (W : World) : (Builtin.len_ #[t] 3 #[.slice a n cap]).run Tryd.prog W = .ok (.int .i64 n) W := by
  simp [Builtin.len_, run_underlying ht, goInt]

theorem run_index {t e : TypeId} {size : Nat} (ht : Tryd.prog.underlying t = some (.slice e)) {i0 : TypeInfo} (hi : Tryd.prog.info? e = some i0) (hz : i0.size = size) (b o n cap i : Nat) (hin : i < n) (W : World) :
    (Instr.indexAt t (.slice (some ⟨b, o, none⟩) n cap) (.int .i64 i)).run Tryd.prog W = .ok (.pointer (some ⟨b, o + i * size, none⟩)) W := by
  have he : Tryd.prog.underlying t = some (.slice (Tryd.prog.elem t)) := by
    rw [ht]; simp [Program.elem, ht]
  have hee : Tryd.prog.elem t = e := by simp [Program.elem, ht]
  rw [run_indexAt_slice (h := he), if_pos (by omega), hee]
  simp [sizeOf, typeInfo, hi, hz, Result.andThen, add_plain]

/-! Octets. -/

def Oct (l : List Int) : Prop := ∀ x ∈ l, 0 ≤ x ∧ x ≤ 255

def Arg (n0 : Nat) (w : World) (v : Value) (l : List Int) : Prop := Cells n0 w 1 v l.length (l.map (Value.int .u8)) ∧ Oct l

theorem Arg.keep {n0 : Nat} {w w' : World} {v : Value} {l : List Int} (h : Arg n0 w v l) (hs : Same n0 w w') : Arg n0 w' v l := ⟨h.1.keep hs, h.2⟩
theorem Arg.below {n0 : Nat} {w w' : World} {v : Value} {l : List Int} (h : Arg n0 w v l) (hb : Below w.heap.size w w') : Arg n0 w' v l := h.keep (.of_below hb)
theorem Arg.weaken {n0 n1 : Nat} {w : World} {v : Value} {l : List Int} (h : Arg n0 w v l) (hn : n1 ≤ n0) : Arg n1 w v l := ⟨h.1.weaken hn, h.2⟩
theorem Arg.own {n0 : Nat} {w : World} {v : Value} {l : List Int} (h : w.ownsRow n0 5 1 v l.length (l.map (Value.int .u8))) (ho : Oct l) : Arg n0 w v l := ⟨.own h, ho⟩
theorem Arg.shape {n0 : Nat} {w : World} {v : Value} {l : List Int} (h : Arg n0 w v l) : ∃ a cap, v = .slice a l.length cap ∧ l.length ≤ cap ∧ l.length ≤ maxLen ∧ (a = none → l.length = 0) := h.1.shape

/-- The slice xs the two ways of each walk want it. -/
theorem Arg.split {n0 : Nat} {w : World} {v : Value} {l : List Int} (h : Arg n0 w v l) : (l = [] ∧ ∃ a cap, v = .slice a 0 cap) ∨ (∃ b off cap, v = .slice (some ⟨b, off, none⟩) l.length cap ∧ l.length ≤ cap ∧ l.length ≤ maxLen ∧ n0 ≤ b ∧ ∀ i, i < l.length → w.cell? ⟨b, off + i, none⟩ = some (.int .u8 (l.getD i 0))) := by
  by_cases h0 : l.length = 0
  · obtain ⟨a, cap, hv, _⟩ := h.shape
    exact .inl ⟨List.eq_nil_of_length_eq_zero h0, a, cap, by rw [hv, h0]⟩
  · right
    obtain ⟨b, o, cap, hv, h1, h2, h3, h4⟩ := h.1.place (by omega) 0 (by omega)
    refine ⟨b, o, cap, hv, h1, h2, h3, fun i hi => ?_⟩
    have := h4 i (.int .u8 (l.getD i 0)) (by simp [hi])
    simpa using this

/-! Lists of octets, writes, disks. -/

def Lists (n0 : Nat) (w : World) (v : Value) (ls : List (List Int)) : Prop := ∃ us, Cells n0 w 1 v ls.length us ∧ Each (Arg n0 w) us ls

def flat : List (Int × Value) → List Value
  | [] => []
  | p :: r => .int .i64 p.1 :: p.2 :: flat r

theorem flat_length : ∀ ps, (flat ps).length = ps.length * 2
  | [] => rfl
  | _ :: r => by simp [flat, flat_length r]; omega

theorem flat_snoc (p : Int × Value) : ∀ ps, flat (ps ++ [p]) = flat ps ++ [.int .i64 p.1, p.2]
  | [] => rfl
  | q :: r => by simp [flat, flat_snoc p r]

theorem flat_get : ∀ (ps : List (Int × Value)) (i : Nat) (p : Int × Value), ps[i]? = some p → (flat ps)[i * 2]? = some (.int .i64 p.1) ∧ (flat ps)[i * 2 + 1]? = some p.2
  | [], _, _, h => by simp at h
  | _ :: _, 0, _, h => by simp at h; subst h; simp [flat]
  | _ :: r, i + 1, p, h => by
    simp at h
    have := flat_get r i p h
    rw [show (i + 1) * 2 = i * 2 + 1 + 1 by omega]
    simpa [flat] using this

def Write1 (n0 : Nat) (w : World) (p : Int × Value) (q : Int × List Int) : Prop := p.1 = q.1 ∧ Arg n0 w p.2 q.2 ∧ -9223372036854775808 ≤ q.1 ∧ q.1 ≤ 9223372036854775807

def Writes (n0 : Nat) (w : World) (v : Value) (ws : List (Int × List Int)) : Prop := ∃ ps, Cells n0 w 2 v ws.length (flat ps) ∧ Each (Write1 n0 w) ps ws

structure St where
  secs : List (List Int)
  cache : List (Int × List Int)

def Disk (n0 : Nat) (w : World) (v : Value) (S : St) : Prop := ∃ vs vc, v = .agg #[vs, vc] ∧ Lists n0 w vs S.secs ∧ Writes n0 w vc S.cache

theorem Lists.keep {n0 : Nat} {w w' : World} {v : Value} {ls : List (List Int)} (h : Lists n0 w v ls) (hs : Same n0 w w') : Lists n0 w' v ls := by
  obtain ⟨us, h1, h2⟩ := h
  exact ⟨us, h1.keep hs, h2.mono fun _ _ h => h.keep hs⟩
theorem Lists.below {n0 : Nat} {w w' : World} {v : Value} {ls : List (List Int)} (h : Lists n0 w v ls) (hb : Below w.heap.size w w') : Lists n0 w' v ls := h.keep (.of_below hb)
theorem Lists.weaken {n0 n1 : Nat} {w : World} {v : Value} {ls : List (List Int)} (h : Lists n0 w v ls) (hn : n1 ≤ n0) : Lists n1 w v ls := by
  obtain ⟨us, h1, h2⟩ := h
  exact ⟨us, h1.weaken hn, h2.mono fun _ _ h => h.weaken hn⟩
theorem Writes.keep {n0 : Nat} {w w' : World} {v : Value} {ws : List (Int × List Int)} (h : Writes n0 w v ws) (hs : Same n0 w w') : Writes n0 w' v ws := by
  obtain ⟨us, h1, h2⟩ := h
  exact ⟨us, h1.keep hs, h2.mono fun _ _ h => ⟨h.1, h.2.1.keep hs, h.2.2⟩⟩
theorem Writes.below {n0 : Nat} {w w' : World} {v : Value} {ws : List (Int × List Int)} (h : Writes n0 w v ws) (hb : Below w.heap.size w w') : Writes n0 w' v ws := h.keep (.of_below hb)
theorem Writes.weaken {n0 n1 : Nat} {w : World} {v : Value} {ws : List (Int × List Int)} (h : Writes n0 w v ws) (hn : n1 ≤ n0) : Writes n1 w v ws := by
  obtain ⟨us, h1, h2⟩ := h
  exact ⟨us, h1.weaken hn, h2.mono fun _ _ h => ⟨h.1, h.2.1.weaken hn, h.2.2⟩⟩
theorem Disk.keep {n0 : Nat} {w w' : World} {v : Value} {S : St} (h : Disk n0 w v S) (hs : Same n0 w w') : Disk n0 w' v S := by
  obtain ⟨vs, vc, h1, h2, h3⟩ := h
  exact ⟨vs, vc, h1, h2.keep hs, h3.keep hs⟩
theorem Disk.below {n0 : Nat} {w w' : World} {v : Value} {S : St} (h : Disk n0 w v S) (hb : Below w.heap.size w w') : Disk n0 w' v S := h.keep (.of_below hb)
theorem Disk.weaken {n0 n1 : Nat} {w : World} {v : Value} {S : St} (h : Disk n0 w v S) (hn : n1 ≤ n0) : Disk n1 w v S := by
  obtain ⟨vs, vc, h1, h2, h3⟩ := h
  exact ⟨vs, vc, h1, h2.weaken hn, h3.weaken hn⟩

theorem Lists.shape {n0 : Nat} {w : World} {v : Value} {ls : List (List Int)} (h : Lists n0 w v ls) : ∃ a cap, v = .slice a ls.length cap ∧ ls.length ≤ cap ∧ ls.length ≤ maxLen ∧ (a = none → ls.length = 0) := by
  obtain ⟨_, h1, _⟩ := h; exact h1.shape
theorem Writes.shape {n0 : Nat} {w : World} {v : Value} {ws : List (Int × List Int)} (h : Writes n0 w v ws) : ∃ a cap, v = .slice a ws.length cap ∧ ws.length ≤ cap ∧ ws.length ≤ maxLen ∧ (a = none → ws.length = 0) := by
  obtain ⟨_, h1, _⟩ := h; exact h1.shape

/-- The value of a disk, its two slices written out. -/
theorem Disk.shape {n0 : Nat} {w : World} {v : Value} {S : St} (h : Disk n0 w v S) : ∃ a1 c1 a2 c2, v = .agg #[.slice a1 S.secs.length c1, .slice a2 S.cache.length c2] ∧
    Lists n0 w (.slice a1 S.secs.length c1) S.secs ∧ Writes n0 w (.slice a2 S.cache.length c2) S.cache := by
  obtain ⟨vs, vc, rfl, h2, h3⟩ := h
  obtain ⟨a1, c1, rfl, _⟩ := h2.shape
  obtain ⟨a2, c2, rfl, _⟩ := h3.shape
  exact ⟨a1, c1, a2, c2, rfl, h2, h3⟩

/-- One list of the lists: where its slice lies, and what it is. -/
theorem Lists.at {n0 : Nat} {w : World} {v : Value} {ls : List (List Int)} (h : Lists n0 w v ls) (i : Nat) (l : List Int) (hl : ls[i]? = some l) :
    ∃ b o a cap, (∀ W, (Instr.indexAt 37 v (.int .i64 i)).run Tryd.prog W = .ok (.pointer (some ⟨b, o, none⟩)) W) ∧ n0 ≤ b ∧ w.cell? ⟨b, o, none⟩ = some (.slice a l.length cap) ∧ Arg n0 w (.slice a l.length cap) l := by
  obtain ⟨us, h1, h2⟩ := h
  obtain ⟨u, hu, ha⟩ := h2.get hl
  have hi : i < ls.length := (List.getElem?_eq_some_iff.1 hl).1
  obtain ⟨b, o, cap, rfl, _, _, hb, hc⟩ := h1.place (by omega) i hi
  obtain ⟨a, c, rfl, _⟩ := ha.shape
  obtain ⟨i0, hi0, _, hz, _⟩ := info_parts Tryd.info22
  refine ⟨b, o + i, a, c, fun W => ?_, hb, ?_, ha⟩
  · have := run_index Tryd.underlying37 hi0 hz b o ls.length cap i hi W
    rwa [Nat.mul_one] at this
  · have := hc 0 _ (by simpa using hu)
    simpa using this

/-- One write of the writes. -/
theorem Writes.at {n0 : Nat} {w : World} {v : Value} {ws : List (Int × List Int)} {t e : TypeId} {i0 : TypeInfo} (h : Writes n0 w v ws) (ht : Tryd.prog.underlying t = some (.slice e)) (hi0 : Tryd.prog.info? e = some i0) (hz : i0.size = 2) (i : Nat) (q : Int × List Int) (hl : ws[i]? = some q) :
    ∃ b o a cap, (∀ W, (Instr.indexAt t v (.int .i64 i)).run Tryd.prog W = .ok (.pointer (some ⟨b, o, none⟩)) W) ∧ n0 ≤ b ∧ w.cell? ⟨b, o, none⟩ = some (.int .i64 q.1) ∧ w.cell? ⟨b, o + 1, none⟩ = some (.slice a q.2.length cap) ∧ Arg n0 w (.slice a q.2.length cap) q.2 ∧
      -9223372036854775808 ≤ q.1 ∧ q.1 ≤ 9223372036854775807 := by
  obtain ⟨ps, h1, h2⟩ := h
  obtain ⟨p, hp, he, ha, hr⟩ := h2.get hl
  have hi : i < ws.length := (List.getElem?_eq_some_iff.1 hl).1
  obtain ⟨b, o, cap, rfl, _, _, hb, hc⟩ := h1.place (by omega) i hi
  obtain ⟨f0, f1⟩ := flat_get ps i p hp
  obtain ⟨a, c, hs, _⟩ := ha.shape
  refine ⟨b, o + i * 2, a, c, fun W => run_index ht hi0 hz b o ws.length cap i hi W, hb, ?_, ?_, by rw [← hs]; exact ha, hr⟩
  · have := hc 0 _ (by simpa using f0)
    rw [← he]
    simpa using this
  · have := hc 1 _ f1
    rwa [hs] at this

end Go.Proofs.YthlfgpnabcplnaaDoor.Dk

/-
  What the small functions answer in every memory: reaches, every, num, and the copies of octets.
-/
namespace Go.Proofs.YthlfgpnabcplnaaDoor.Dk
open Go.RowKit
set_option maxRecDepth 100000

/-- Whether there are k sectors from s on. -/
def reach (n : Nat) (s k : Int) : Bool := decide (0 ≤ s) && (decide (0 ≤ k) && decide (k ≤ (n : Int) - s))

set_option maxHeartbeats 1000000 in
theorem reaches_any (a1 a2 : Option Addr) (n c1 m c2 : Nat) (s k : Int) (w : World) (hn : n ≤ maxLen) (hs : -9223372036854775808 ≤ s ∧ s ≤ 9223372036854775807) :
    Calls Tryd.prog 43 #[.agg #[.slice a1 n c1, .slice a2 m c2], .int .i64 s, .int .i64 k] w fun e w' => e = .returned (.bool (reach n s k)) ∧ Below w.heap.size w w' := by
  unfold maxLen at hn
  have hl := run_len Tryd.underlying37 a1 n c1
  have HW : Hid (0 ≤ s → IntKind.i64.wrap ((n : Int) - s) = (n : Int) - s) := fun h => by rw [IntKind.wrap_i64]; omega
  have HB : Hid (Below w.heap.size w (w.alloc (.cells #[.slice a1 n c1, .slice a2 m c2] 40))) := (Below.refl _ w).alloc (Nat.le_refl _) _
  by_cases h1 : 0 ≤ s
  · have hw := HW.out h1
    by_cases h2 : 0 ≤ k
    · by_cases h3 : k ≤ (n : Int) - s
      · rw [show reach n s k = true by simp [reach]; omega]
        go_enter Tryd.func43, Tryd.ntmps43
        go_wp2
        go_ret
        exact ⟨rfl, HB.out⟩
      · rw [show reach n s k = false by simp [reach]; omega]
        go_enter Tryd.func43, Tryd.ntmps43
        go_wp2
        go_ret
        exact ⟨rfl, HB.out⟩
    · rw [show reach n s k = false by simp [reach]; omega]
      go_enter Tryd.func43, Tryd.ntmps43
      go_wp2
      go_ret
      exact ⟨rfl, HB.out⟩
  · rw [show reach n s k = false by simp [reach]; omega]
    go_enter Tryd.func43, Tryd.ntmps43
    go_wp2
    go_ret
    exact ⟨rfl, HB.out⟩


set_option maxHeartbeats 400000 in
theorem every_any (x : Int) (w : World) : Calls Tryd.prog 47 #[.int .i64 x] w fun e w' => e = .returned (.bool true) ∧ w = w' := by
  go_enter Tryd.func47, Tryd.ntmps47
  go_wp2
  go_ret
  exact ⟨rfl, rfl⟩

theorem one_cells (l : List Int) : ∀ u ∈ l.map (Value.int .u8), u.oneCell' = true := fun u hu => by
  obtain ⟨y, _, rfl⟩ := List.mem_map.1 hu
  rfl

/-- What a copy of octets makes: the same ones in a block of its own. -/
def Copies (f : FuncId) : Prop := ∀ (n0 : Nat) (v : Value) (l : List Int) (w : World), Arg n0 w v l → l.length ≤ 140737488355328 →
    Calls Tryd.prog f #[v] w fun e w' => (∃ v', e = .returned v' ∧ w'.ownsRow w.heap.size 5 1 v' l.length (l.map (Value.int .u8))) ∧ Below w.heap.size w w'

set_option maxHeartbeats 400000 in
theorem copy_any : Copies 20 := by
  intro n0 v l w h hs
  obtain ⟨i0, hi, hz0, hz1, hz2⟩ := info_parts Tryd.info5
  obtain ⟨⟨hl, h | ⟨x, cap, rfl, hcap, hm, _, hc⟩⟩, ho⟩ := h
  · obtain ⟨rfl, h0⟩ := h
    obtain rfl := List.eq_nil_of_length_eq_zero h0
    go_enter Tryd.func20, Tryd.ntmps20
    go_wp2_with (at_builtin; refine wpList_append_own_none rfl _ _ 22 rfl w.heap.size 5 i0 1 Tryd.underlying22 hi (.slice none 0 0) 0 [] rfl (World.ownsRow_nil _ _ _ _) rfl ?_)
    go_ret
    exact ⟨⟨_, rfl, World.ownsRow_nil _ _ _ _⟩, Below.refl _ _⟩
  · have hone := one_cells l
    go_enter Tryd.func20, Tryd.ntmps20
    go_wp2_with (at_builtin; refine wpList_append_own _ rfl _ _ 22 rfl w.heap.size 5 i0 (.int .u8 0) 1 1 Tryd.underlying22 hi hz0 hz1 hz2 rfl (by decide) (.slice none 0 0) 0 [] rfl (World.ownsRow_nil _ _ _ _) x l.length cap (l.map (Value.int .u8)) rfl (by simp) hc hone (by omega) (by omega) (Nat.le_refl _) ?_)
    intro v' w1 hown hgrow _
    have hb : Below w.heap.size w w1 := (Below.refl _ _).grown hgrow (Nat.le_refl _) (fun _ h => by cases h)
    clear hgrow hc hone
    go_wp2
    go_ret
    exact ⟨⟨v', rfl, by simpa using hown⟩, hb⟩


theorem in_nil (w : World) (d : Nat) (a : Option Addr) (l c : Nat) : (Op.equalIn (d + 1) 22 (.slice a l c) (.slice none 0 0)).run Tryd.prog w = .ok a.isNone w := by
  cases a <;> simp [Op.equalIn, run_underlying Tryd.underlying22]
theorem equal_nil (w : World) (a : Option Addr) (l c : Nat) : (Op.equal 22 (.slice a l c) (.slice none 0 0)).run Tryd.prog w = .ok a.isNone w := in_nil w 9999 a l c
theorem eql_nil (w : World) (a : Option Addr) (l c : Nat) : (binOp .eql 22 (.slice a l c) (.slice none 0 0)).run Tryd.prog w = .ok (.bool a.isNone) w := by
  simp [binOp, equal_nil w a l c]

set_option maxHeartbeats 400000 in
theorem clone_bytes : Copies 57 := by
  intro n0 v l w h hs
  obtain ⟨i0, hi, hz0, hz1, hz2⟩ := info_parts Tryd.info5
  obtain ⟨⟨hl, h | ⟨x, cap, rfl, hcap, hm, _, hc⟩⟩, ho⟩ := h
  · obtain ⟨rfl, h0⟩ := h
    obtain rfl := List.eq_nil_of_length_eq_zero h0
    have hq := fun w => eql_nil w none 0 0
    go_enter Tryd.func57, Tryd.ntmps57
    go_wp2
    go_ret
    exact ⟨⟨_, rfl, World.ownsRow_nil _ _ _ _⟩, Below.refl _ _⟩
  · have HN : Hid (∀ j u, (l.map (Value.int .u8))[j]? = some u → (w.alloc (.cells #[] 5)).cell? (x.add j) = some u) := fun j u hj => by
      have g := hc j u hj
      rw [((Below.refl w.heap.size w).alloc (Nat.le_refl _) _).cell (cell_lt g)]
      exact g
    have hone := one_cells l
    clear hc
    have hq := fun w => eql_nil w (some x) l.length cap
    go_enter Tryd.func57, Tryd.ntmps57
    go_wp2_with (at_builtin; refine wpList_append_own _ rfl _ _ 22 rfl w.heap.size 5 i0 (.int .u8 0) 1 1 Tryd.underlying22 hi hz0 hz1 hz2 rfl (by decide) (.slice (some ⟨w.heap.size, 0, none⟩) 0 0) 0 [] rfl (World.ownsRow_lit w #[] 0 (Nat.le_refl _) (by unfold maxLen; omega) (by simp)) x l.length cap (l.map (Value.int .u8)) rfl (by simp) HN.out hone (by omega) (by omega) (by simp) ?_; intro v' w1 hown hgrow _)
    have hb : Below w.heap.size w w1 := ((Below.refl w.heap.size w).alloc (Nat.le_refl _) (.cells #[] 5)).grown hgrow (by simp) (fun k h => by cases h; exact Nat.le_refl _)
    have hown' : w1.ownsRow w.heap.size 5 1 v' l.length (l.map (Value.int .u8)) := by simpa using hown
    clear hgrow hown hone
    go_wp2
    go_ret
    exact ⟨⟨v', rfl, hown'⟩, hb⟩

end Go.Proofs.YthlfgpnabcplnaaDoor.Dk

/-
  What Check answers, the program's and the document's: 0 where the state may be, else 9.
-/
namespace Go.Proofs.YthlfgpnabcplnaaDoor.Dk
open Go.RowKit
set_option maxRecDepth 100000

def okSec (l : List Int) : Bool := l.length == 64
def okWrite (n : Nat) (q : Int × List Int) : Bool := decide (0 ≤ q.1) && decide (q.1 < (n : Int)) && (q.2.length == 64)
def chk (S : St) : Bool := decide (1 ≤ S.secs.length) && decide (S.secs.length ≤ 2048) && decide (S.cache.length ≤ 4096) && S.secs.all okSec && S.cache.all (okWrite S.secs.length)
def cerr (S : St) : Int := if chk S then 0 else 9

theorem take_all {α : Type} {p : α → Bool} {l : List α} (h : (l.take l.length).all p = true) : l.all p = true := by simpa using h
theorem take_step {α : Type} {p : α → Bool} {l : List α} {k : Nat} {x : α} (h : (l.take k).all p = true) (hx : l[k]? = some x) (hp : p x = true) : (l.take (k + 1)).all p = true := by
  rw [List.take_add_one, hx]
  simp only [List.all_append, h, Bool.true_and]
  simp [hp]
theorem all_not {α : Type} {p : α → Bool} {l : List α} {k : Nat} {x : α} (hx : l[k]? = some x) (hp : p x = false) : l.all p = false := by
  rw [← Bool.not_eq_true, List.all_eq_true]
  intro h
  have := h x (List.mem_of_getElem? hx)
  rw [hp] at this; cases this
theorem get_lt {α : Type} {l : List α} {k : Nat} (h : k < l.length) : ∃ x, l[k]? = some x := ⟨_, List.getElem?_eq_getElem h⟩

theorem okWrite_reach (n : Nat) (q : Int × List Int) : okWrite n q = (reach n q.1 1 && (q.2.length == 64)) := by
  unfold okWrite reach
  by_cases h1 : 0 ≤ q.1 <;> by_cases h2 : q.1 < (n : Int)
  · have : (1 : Int) ≤ n - q.1 := by omega
    simp [h1, h2, this]
  · have : ¬ (1 : Int) ≤ n - q.1 := by omega
    simp [h1, h2, this]
  · simp [h1]
  · simp [h1]

set_option maxHeartbeats 4000000 in
theorem check_any (n0 : Nat) (v : Value) (S : St) (w : World) (h : Disk n0 w v S) :
    Calls Tryd.prog 42 #[v] w fun e w' => e = .returned (.int .i64 (cerr S)) ∧ Below w.heap.size w w' := by
  obtain ⟨a1, c1, a2, c2, rfl, hL, hW⟩ := h.shape
  obtain ⟨i0, hi0, _, hz, _⟩ := info_parts Tryd.info81
  obtain ⟨_, _, _, _, hm1, _⟩ := hL.shape
  obtain ⟨_, _, _, _, hm2, _⟩ := hW.shape
  have HL : Hid (Lists n0 w (.slice a1 S.secs.length c1) S.secs) := hL
  have HW : Hid (Writes n0 w (.slice a2 S.cache.length c2) S.cache) := hW
  obtain ⟨n, hn⟩ : ∃ n, n = S.secs.length := ⟨_, rfl⟩
  obtain ⟨m, hm⟩ : ∃ n, n = S.cache.length := ⟨_, rfl⟩
  have HN : Hid (n = S.secs.length) := hn
  have HM : Hid (m = S.cache.length) := hm
  have HC : Hid (cerr S = if (decide (1 ≤ n) && decide (n ≤ 2048) && decide (m ≤ 4096) && S.secs.all okSec && S.cache.all (okWrite n)) = true then 0 else 9) := by
    show _ = _
    rw [hn, hm]; rfl
  rw [← hn] at HL hm1 ⊢
  rw [← hm] at HW hm2 ⊢
  obtain ⟨ce, hce⟩ : ∃ x, x = cerr S := ⟨_, rfl⟩
  rw [← hce] at HC ⊢
  clear h hL hW hn hm hce
  unfold maxLen at hm1 hm2
  have hl1 := run_len Tryd.underlying37 a1 n c1
  have hl2 := run_len Tryd.underlying38 a2 m c2
  have HB : Hid (Below w.heap.size w (w.alloc (.cells #[.slice a1 n c1, .slice a2 m c2] 40))) := (Below.refl _ w).alloc (Nat.le_refl _) _
  by_cases g1 : (n : Int) < 1
  · have hc : ce = 9 := by rw [HC.out]; simp; omega
    subst hc
    go_enter Tryd.func42, Tryd.ntmps42
    go_wp2
    go_ret
    exact ⟨rfl, HB.out⟩
  by_cases g2 : (n : Int) ≤ 2048
  case neg =>
    have hc : ce = 9 := by rw [HC.out]; simp; omega
    subst hc
    go_enter Tryd.func42, Tryd.ntmps42
    go_wp2
    go_ret
    exact ⟨rfl, HB.out⟩
  by_cases g3 : (m : Int) ≤ 4096
  case neg =>
    have hc : ce = 9 := by rw [HC.out]; simp; omega
    subst hc
    go_enter Tryd.func42, Tryd.ntmps42
    go_wp2
    go_ret
    exact ⟨rfl, HB.out⟩
  go_enter Tryd.func42, Tryd.ntmps42
  go_wp2
  go_loopw [26] (fun i wr => ∃ k : Nat, k ≤ n ∧ i = .int .i64 k ∧ Hid ((S.secs.take k).all okSec = true) ∧ wr = w.alloc (.cells #[.slice a1 n c1, .slice a2 m c2] 40)) (fun i _ => n - (intOf i).toNat)
  case atStart => exact ⟨0, Nat.zero_le _, rfl, by show _ = _; simp, rfl⟩
  case round =>
    obtain ⟨k, hk, rfl, HK, rfl⟩ := hrel
    by_cases hlt : k < n
    · obtain ⟨l, hl⟩ := get_lt (l := S.secs) (k := k) (by rw [← HN.out]; exact hlt)
      obtain ⟨b, o, a, cap, hix, _, hc, _⟩ := (HL.out.below HB.out).at k l hl
      have HX : Hid (S.secs[k]? = some l) := hl
      obtain ⟨len, hlen⟩ : ∃ x, x = l.length := ⟨_, rfl⟩
      have hll := run_len Tryd.underlying22 a len cap
      rw [← hlen] at hc
      have HE : Hid (len = l.length) := hlen
      clear hl hlen
      have hki : (k : Int) < (n : Int) := by omega
      by_cases h64 : (len : Int) = 64
      · go_wp2
        go_roundw
        case rel => exact ⟨k + 1, by omega, by go_num, take_step HK.out HX.out (by have := HE.out; simp [okSec]; omega), trivial⟩
        case measure => simp [intOf]; omega
      · have hc9 : ce = 9 := by
          rw [HC.out, all_not HX.out (by have := HE.out; simp [okSec]; omega)]; simp
        subst hc9
        go_wp2
        go_ret
        exact ⟨rfl, HB.out⟩
    · obtain rfl : k = n := by omega
      have HA : Hid (S.secs.all okSec = true) := take_all (by rw [← HN.out]; exact HK.out)
      have hce : ce = if S.cache.all (okWrite k) = true then 0 else 9 := by
        rw [HC.out, HA.out]
        have e1 : decide (1 ≤ k) = true := decide_eq_true (by omega)
        have e2 : decide (k ≤ 2048) = true := decide_eq_true (by omega)
        have e3 : decide (m ≤ 4096) = true := decide_eq_true (by omega)
        rw [e1, e2, e3, Bool.true_and, Bool.true_and, Bool.true_and, Bool.true_and]
      have HCE : Hid (ce = if S.cache.all (okWrite k) = true then 0 else 9) := hce
      clear HK HC HA hce hlt HL
      go_wp2
      obtain ⟨w1, hw1⟩ : ∃ w1, w1 = w.alloc (.cells #[.slice a1 k c1, .slice a2 m c2] 40) := ⟨_, rfl⟩
      have hb1 : w1.cell? ⟨w.heap.size, 0, none⟩ = some (.slice a1 k c1) := by rw [hw1]; simp
      have hb2 : w1.cell? ⟨w.heap.size, 1, none⟩ = some (.slice a2 m c2) := by rw [hw1]; simp
      have HS : Hid (w1.heap.size = w.heap.size + 1) := by show _ = _; rw [hw1]; simp
      rw [← hw1] at HB ⊢
      have HW1 : Hid (Writes n0 w1 (.slice a2 m c2) S.cache) := HW.out.below HB.out
      clear hw1 HW
      go_loopw [37] (fun i wr => ∃ j : Nat, j ≤ m ∧ i = .int .i64 j ∧ Hid ((S.cache.take j).all (okWrite k) = true) ∧ Below w1.heap.size w1 wr) (fun i _ => m - (intOf i).toNat)
      case atStart => exact ⟨0, Nat.zero_le _, rfl, by show _ = _; simp, Below.refl _ _⟩
      case round =>
        obtain ⟨j, hj, rfl, HK, hbel⟩ := hrel
        by_cases hlt : j < m
        · obtain ⟨q, hq⟩ := get_lt (l := S.cache) (k := j) (by rw [← HM.out]; exact hlt)
          obtain ⟨b, o, a, cap, hix, _, hc0, hc1, _, hr⟩ := (HW1.out.below hbel).at Tryd.underlying38 hi0 hz j q hq
          have HX : Hid (S.cache[j]? = some q) := hq
          obtain ⟨s, l⟩ := q
          simp only at hc0 hc1 hr
          obtain ⟨len, hlen⟩ : ∃ x, x = l.length := ⟨_, rfl⟩
          have hll := run_len Tryd.underlying22 a len cap
          rw [← hlen] at hc1
          have HE : Hid (len = l.length) := hlen
          have hd1 : wr.cell? ⟨w.heap.size, 0, none⟩ = some (.slice a1 k c1) := by rw [hbel.cell (cell_lt hb1)]; exact hb1
          have hd2 : wr.cell? ⟨w.heap.size, 1, none⟩ = some (.slice a2 m c2) := by rw [hbel.cell (cell_lt hb2)]; exact hb2
          have hsz : w.heap.size < wr.heap.size := cell_lt hd1
          have hsb : b < wr.heap.size := cell_lt hc0
          have HBE : Hid (Below w1.heap.size w1 wr) := hbel
          have HR := okWrite_reach k (s, l)
          have HRR : Hid (okWrite k (s, l) = (reach k s 1 && (l.length == 64))) := HR
          clear hq hlen hb1 hb2 hbel HR
          have hki : (j : Int) < (m : Int) := by omega
          go_wp2_with fail
          refine (reaches_any a1 a2 k c1 m c2 s 1 _ (by unfold maxLen; omega) hr).mono ?_
          rintro e w3 ⟨rfl, hb3⟩
          have hd3 : w3.cell? ⟨wr.heap.size, 1, none⟩ = some (.slice a len cap) := by rw [hb3.cell (by simp)]; simp
          have HB3 : Hid (Below w1.heap.size w1 w3) := below_any (HBE.out.alloc HBE.out.size _) hb3
          clear hb3 hc0 hc1 hd1 hd2
          cases hreach : reach k s 1
          · have hc9 : ce = 9 := by
              rw [HCE.out, all_not HX.out (by rw [HRR.out, hreach]; rfl)]; simp
            subst hc9
            go_wp2
            go_ret
            exact ⟨rfl, below_any HB.out HB3.out⟩
          · by_cases h64 : (len : Int) = 64
            · go_wp2
              go_roundw
              case rel => exact ⟨j + 1, by omega, by go_num, take_step HK.out HX.out (by have := HE.out; rw [HRR.out, hreach]; simp; omega), HB3.out⟩
              case measure => simp [intOf]; omega
            · have hc9 : ce = 9 := by
                rw [HCE.out, all_not HX.out (by have := HE.out; rw [HRR.out, hreach]; simp; omega)]; simp
              subst hc9
              go_wp2
              go_ret
              exact ⟨rfl, below_any HB.out HB3.out⟩
        · obtain rfl : j = m := by omega
          have hc0 : ce = 0 := by
            rw [HCE.out, take_all (by rw [← HM.out]; exact HK.out)]; simp
          subst hc0
          clear HK
          go_wp2
          go_ret
          exact ⟨rfl, below_any HB.out hbel⟩

end Go.Proofs.YthlfgpnabcplnaaDoor.Dk

/-
  What SameBytes answers over octets: whether they are the same.
-/
namespace Go.Proofs.YthlfgpnabcplnaaDoor.Dk
open Go.RowKit
set_option maxRecDepth 100000

theorem differ {a b : List Int} {k : Nat} (h : a.getD k 0 ≠ b.getD k 0) : a ≠ b := fun e => h (by rw [e])
theorem alike {a b : List Int} (hl : a.length = b.length) (h : ∀ i, i < a.length → a.getD i 0 = b.getD i 0) : a = b := by
  apply List.ext_getElem hl
  intro i h1 h2
  have := h i h1
  simpa [List.getD, List.getElem?_eq_getElem h1, List.getElem?_eq_getElem h2] using this

set_option maxHeartbeats 1000000 in
theorem same_any (n1 n2 : Nat) (v1 v2 : Value) (l1 l2 : List Int) (w : World) (h1 : Arg n1 w v1 l1) (h2 : Arg n2 w v2 l2) :
    Calls Tryd.prog 25 #[v1, v2] w fun e w' => e = .returned (.bool (decide (l1 = l2))) ∧ ∃ q, w' = w.drewN q := by
  obtain ⟨a1, c1, rfl, _, hm1, _⟩ := h1.shape
  obtain ⟨a2, c2, rfl, _, hm2, _⟩ := h2.shape
  unfold maxLen at hm1 hm2
  have hl1 := run_len Tryd.underlying22 a1 l1.length c1
  have hl2 := run_len Tryd.underlying22 a2 l2.length c2
  by_cases hlen : l1.length = l2.length
  case neg =>
    have e : decide (l1 = l2) = false := by
      rw [decide_eq_false_iff_not]
      intro h; exact hlen (by rw [h])
    rw [e]
    have hne : ¬ (l1.length : Int) = (l2.length : Int) := by omega
    clear h1 h2
    go_enter Tryd.func25, Tryd.ntmps25
    go_wp2
    go_ret
    exact ⟨rfl, 0, rfl⟩
  rcases h1.split with ⟨rfl, _⟩ | ⟨b1, o1, k1, hv1, _, _, _, e1⟩
  · obtain rfl : l2 = [] := List.eq_nil_of_length_eq_zero (by simpa using hlen.symm)
    clear h1 h2
    go_enter Tryd.func25, Tryd.ntmps25
    go_wp2
    refine wp_loop_rounds 1 ?_
    rw [rounds_succ]
    go_wp2
    go_ret
    exact ⟨rfl, 0, rfl⟩
  rcases h2.split with ⟨rfl, _⟩ | ⟨b2, o2, k2, hv2, _, _, _, e2⟩
  · obtain rfl : l1 = [] := List.eq_nil_of_length_eq_zero (by simpa using hlen)
    clear h1 h2
    go_enter Tryd.func25, Tryd.ntmps25
    go_wp2
    refine wp_loop_rounds 1 ?_
    rw [rounds_succ]
    go_wp2
    go_ret
    exact ⟨rfl, 0, rfl⟩
  obtain ⟨rfl, _, rfl⟩ := Value.slice.inj hv1
  obtain ⟨rfl, _, rfl⟩ := Value.slice.inj hv2
  obtain ⟨n, hn⟩ : ∃ n, n = l1.length := ⟨_, rfl⟩
  rw [← hlen] at e2 hl2 ⊢
  rw [← hn] at e1 e2 hl1 hl2 hm1 ⊢
  have HE : Hid ((∀ i, i < n → w.cell? ⟨b1, o1 + i, none⟩ = some (.int .u8 (l1.getD i 0))) ∧ ∀ i, i < n → w.cell? ⟨b2, o2 + i, none⟩ = some (.int .u8 (l2.getD i 0))) := ⟨e1, e2⟩
  have HN : Hid (n = l1.length ∧ l1.length = l2.length) := ⟨hn, hlen⟩
  obtain ⟨d, hd⟩ : ∃ d, d = decide (l1 = l2) := ⟨_, rfl⟩
  rw [← hd]
  have HDD : Hid (d = decide (l1 = l2)) := hd
  clear h1 h2 hv1 hv2 hn hlen e1 e2 hl1 hl2 hd
  go_enter Tryd.func25, Tryd.ntmps25
  go_wp2
  go_loopw [5] (fun i wr => ∃ k : Nat, k ≤ n ∧ i = .int .i64 k ∧ Hid (∀ i, i < k → l1.getD i 0 = l2.getD i 0) ∧ ∃ q, wr = w.drewN q) (fun i _ => n - (intOf i).toNat)
  case atStart => exact ⟨0, Nat.zero_le _, rfl, fun i hi => by omega, 0, rfl⟩
  case round =>
    obtain ⟨k, hk, rfl, HK, q, rfl⟩ := hrel
    by_cases hlt : k < n
    · have g1 := HE.out.1 k hlt
      have g2 := HE.out.2 k hlt
      have hkn : (k : Int) < (n : Int) := by omega
      obtain ⟨x, hx⟩ : ∃ x, x = l1.getD k 0 := ⟨_, rfl⟩
      obtain ⟨y, hy⟩ : ∃ y, y = l2.getD k 0 := ⟨_, rfl⟩
      rw [← hx] at g1
      rw [← hy] at g2
      have HXY : Hid (x = l1.getD k 0 ∧ y = l2.getD k 0) := ⟨hx, hy⟩
      clear hx hy
      by_cases hxy : x = y
      · subst hxy
        go_wp2
        go_quiet (fail)
        go_wp2
        go_roundw
        case rel =>
          refine ⟨k + 1, by omega, by go_num, fun i hi => ?_, _, rfl⟩
          by_cases e : i < k
          · exact HK.out i e
          · obtain rfl : i = k := by omega
            rw [← HXY.out.1, ← HXY.out.2]
        case measure => simp [intOf]; omega
      · have hdf : d = false := by
          rw [HDD.out, decide_eq_false_iff_not]
          exact differ (by rw [← HXY.out.1, ← HXY.out.2]; exact hxy)
        subst hdf
        go_wp2
        go_quiet (fail)
        go_wp2
        go_ret
        exact ⟨rfl, _, World.drewN_drewN _ _ _⟩
    · obtain rfl : k = n := by omega
      have hdt : d = true := by
        rw [HDD.out, decide_eq_true_eq]
        exact alike HN.out.2 (fun i hi => HK.out i (by rw [HN.out.1]; exact hi))
      subst hdt
      go_wp2
      go_ret
      exact ⟨rfl, q, rfl⟩

end Go.Proofs.YthlfgpnabcplnaaDoor.Dk
