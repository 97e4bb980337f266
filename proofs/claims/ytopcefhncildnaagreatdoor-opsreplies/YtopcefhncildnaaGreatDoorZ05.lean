/-
  The words by which the walks speak of memory: lists element by element, worlds that agree, slices and their cells, variables of several cells; and what keeps them.
  'These octets lie at this slice' as one word, what keeps it, that SameBytes of two slices with the same octets is true, and what CopyBytes makes, in every memory.
-/
import Derived.Test.YtopcefhncildnaaGreatDoorRows
import Derived.WalkKit
import Derived.WalkSpells
import Derived.ProofKit
import Derived.Deep.QuietTactic
import Derived.BigQuiet
import Derived.Laws.AppendOwnNone
import Derived.WalkSmall
set_option maxRecDepth 100000
set_option maxHeartbeats 400000
namespace Go.Proofs.YtopcefhncildnaaGreatDoor
open Go.RowKit
theorem exa {α : Type} (a : α) : ∃ x, x = a := ⟨a, rfl⟩
def Each {α β : Type} (R : α → β → Prop) : List α → List β → Prop
 | [], [] => True
 | a :: xs, b :: ys => R a b ∧ Each R xs ys
 | _, _ => False
theorem Each.length {α β : Type} {R : α → β → Prop} : ∀ {xs : List α} {ys : List β}, Each R xs ys → xs.length = ys.length
 | [], [], _ => rfl
 | _ :: _, _ :: _, h => by simp [Each.length h.2]
 | [], _ :: _, h => h.elim
 | _ :: _, [], h => h.elim
theorem Each.mono {α β : Type} {R R' : α → β → Prop} (hR : ∀ a b, R a b → R' a b) : ∀ {xs : List α} {ys : List β}, Each R xs ys → Each R' xs ys
 | [], [], _ => trivial
 | _ :: _, _ :: _, h => ⟨hR _ _ h.1, Each.mono hR h.2⟩
 | [], _ :: _, h => h.elim
 | _ :: _, [], h => h.elim
theorem Each.get {α β : Type} {R : α → β → Prop} : ∀ {xs : List α} {ys : List β} {i : Nat} {b : β}, Each R xs ys → ys[i]? = some b → ∃ a, xs[i]? = some a ∧ R a b
 | [], [], _, _, _, h => by simp at h
 | a :: _, _ :: _, 0, _, h, e => by simp at e; subst e; exact ⟨a, rfl, h.1⟩
 | _ :: _, _ :: _, i + 1, _, h, e => by simp at e; simpa using Each.get (i := i) h.2 e
 | [], _ :: _, _, _, h, _ => h.elim
 | _ :: _, [], _, _, h, _ => h.elim
theorem Each.snoc {α β : Type} {R : α → β → Prop} {a : α} {b : β} : ∀ {xs : List α} {ys : List β}, Each R xs ys → R a b → Each R (xs ++ [a]) (ys ++ [b])
 | [], [], _, h => ⟨h, trivial⟩
 | _ :: _, _ :: _, h, k => ⟨h.1, Each.snoc h.2 k⟩
 | [], _ :: _, h, _ => h.elim
 | _ :: _, [], h, _ => h.elim
theorem Each.erase {α β : Type} {R : α → β → Prop} : ∀ {xs : List α} {ys : List β} (i : Nat), Each R xs ys → Each R (xs.eraseIdx i) (ys.eraseIdx i)
 | [], [], _, _ => trivial
 | _ :: _, _ :: _, 0, h => h.2
 | _ :: _, _ :: _, i + 1, h => ⟨h.1, Each.erase i h.2⟩
 | [], _ :: _, _, h => h.elim
 | _ :: _, [], _, h => h.elim
theorem each_of {α β : Type} {R : α → β → Prop} : ∀ {xs : List α} {ys : List β}, xs.length = ys.length → (∀ (i : Nat) a b, xs[i]? = some a → ys[i]? = some b → R a b) → Each R xs ys
 | [], [], _, _ => trivial
 | a :: xs, b :: ys, h, k => ⟨k 0 a b rfl rfl, each_of (by simpa using h) fun i x y hx hy => k (i + 1) x y (by simpa using hx) (by simpa using hy)⟩
 | [], _ :: _, h, _ => by simp at h
 | _ :: _, [], h, _ => by simp at h
theorem Each.left {α β : Type} {R : α → β → Prop} : ∀ {xs : List α} {ys : List β} {a : α}, Each R xs ys → a ∈ xs → ∃ b ∈ ys, R a b
 | x :: xs, y :: ys, a, h, ha => by (
 rcases List.mem_cons.1 ha with rfl | h'
 · exact ⟨y, List.mem_cons_self .., h.1⟩
 · obtain ⟨b, hb, hr⟩ := Each.left h.2 h'
   exact ⟨b, List.mem_cons_of_mem _ hb, hr⟩)
 | [], _, _, _, ha => by cases ha
 | _ :: _, [], _, h, _ => h.elim
theorem Each.right {α β : Type} {R : α → β → Prop} : ∀ {xs : List α} {ys : List β} {b : β}, Each R xs ys → b ∈ ys → ∃ a ∈ xs, R a b
 | x :: xs, y :: ys, b, h, hb => by (
 rcases List.mem_cons.1 hb with rfl | h'
 · exact ⟨x, List.mem_cons_self .., h.1⟩
 · obtain ⟨a, ha, hr⟩ := Each.right h.2 h'
   exact ⟨a, List.mem_cons_of_mem _ ha, hr⟩)
 | _, [], _, _, hb => by cases hb
 | [], _ :: _, _, h, _ => h.elim
theorem flat_length {α : Type} {size : Nat} : ∀ {vss : List (List α)}, (∀ us ∈ vss, us.length = size) → vss.flatten.length = vss.length * size
 | [], _ => by simp
 | us :: r, h => by
   rw [List.flatten_cons, List.length_append, h us (List.mem_cons_self ..), flat_length (fun x hx => h x (List.mem_cons_of_mem _ hx)), List.length_cons, Nat.succ_mul]
   omega
theorem flat_get {α : Type} {size : Nat} : ∀ {vss : List (List α)} {i j : Nat} {us : List α} {u : α}, (∀ us ∈ vss, us.length = size) → vss[i]? = some us → us[j]? = some u → vss.flatten[i * size + j]? = some u
 | [], _, _, _, _, _, h, _ => by simp at h
 | x :: r, 0, j, us, u, _, h, hu => by (
 simp at h
 subst h
 rw [List.flatten_cons, Nat.zero_mul, Nat.zero_add, List.getElem?_append_left (List.getElem?_eq_some_iff.1 hu).1]
 exact hu)
 | x :: r, i + 1, j, us, u, hs, h, hu => by (
 simp at h
 have hx := hs x (List.mem_cons_self ..)
 rw [List.flatten_cons, List.getElem?_append_right (by rw [hx, Nat.succ_mul]; omega), hx, show (i + 1) * size + j - size = i * size + j by rw [Nat.succ_mul]; omega]
 exact flat_get (fun y hy => hs y (List.mem_cons_of_mem _ hy)) h hu)
theorem flat_snoc {α : Type} (vss : List (List α)) (us : List α) : (vss ++ [us]).flatten = vss.flatten ++ us := by simp
theorem cell_lt {w : World} {a : Addr} {v : Value} (h : w.cell? a = some v) : a.block < w.heap.size := by
 rcases Nat.lt_or_ge a.block w.heap.size with c | c
 · exact c
 · simp [World.cell?, Array.getElem?_eq_none c] at h
def Same (n : Nat) (w w' : World) : Prop := ∀ k, n ≤ k → k < w.heap.size → w'.heap[k]? = w.heap[k]?
theorem Same.of_below {n : Nat} {w w' : World} (h : Below w.heap.size w w') : Same n w w' := fun k _ hk => h.block k hk
theorem Same.cell {n : Nat} {w w' : World} (h : Same n w w') {a : Addr} {v : Value} (hn : n ≤ a.block) (hc : w.cell? a = some v) : w'.cell? a = some v := by
 rw [World.cell?_of_block (h a.block hn (cell_lt hc))]; exact hc
theorem Same.set {n B i : Nat} {w : World} {x : Value} (hB : B < n) : Same n w (w.setCell ⟨B, i, none⟩ x) := fun k hk _ => Below.heap_setCell _ _ _ _ (by simp; omega)
theorem Same.alloc (n : Nat) (w : World) (o : Obj) : Same n w (w.alloc o) := fun k _ hk => Below.heap_alloc w o k hk
theorem Same.trans {n : Nat} {a b c : World} (h : Same n a b) (hs : a.heap.size ≤ b.heap.size) (k : Same n b c) : Same n a c := fun i hi hl => (k i hi (by omega)).trans (h i hi hl)
theorem Same.drew (n : Nat) (w : World) : Same n w w.drew := fun _ _ _ => rfl
theorem below_any {w a b : World} (h : Below w.heap.size w a) (k : Below a.heap.size a b) : Below w.heap.size w b := h.trans (k.mono h.size)
theorem below_drewN {B : Nat} {a w : World} (h : Below B a w) (q : Nat) : Below B a (w.drewN q) := by
 refine ⟨h.os, h.tape, h.output, ?_, fun k hk => ?_⟩
 · simpa using h.size
 · simpa using h.block k hk
theorem own_same {w w' : World} {base : Nat} {e : TypeId} {size : Nat} {v : Value} {n : Nat} {xs : List Value} (h : w.ownsRow base e size v n xs) (hs : Same base w w') : w'.ownsRow base e size v n xs := by
 obtain ⟨h1, h2⟩ := h
 refine ⟨h1, ?_⟩
 rcases h2 with h2 | ⟨g, cap, cur, a, b, c, d⟩
 · exact .inl h2
 · exact .inr ⟨g, cap, cur, a, b, by rw [hs g b (Array.getElem?_eq_some_iff.1 c).1]; exact c, d⟩
theorem own_below {w w' : World} {base : Nat} {e : TypeId} {size : Nat} {v : Value} {n : Nat} {xs : List Value} (h : w.ownsRow base e size v n xs) (hb : Below w.heap.size w w') : w'.ownsRow base e size v n xs := own_same h (.of_below hb)
theorem own_weaken {w : World} {base n1 : Nat} {e : TypeId} {size : Nat} {v : Value} {n : Nat} {xs : List Value} (h : w.ownsRow base e size v n xs) (hn : n1 ≤ base) : w.ownsRow n1 e size v n xs := by
 obtain ⟨h1, h2⟩ := h
 refine ⟨h1, ?_⟩
 rcases h2 with h2 | ⟨g, cap, cur, a, b, d⟩
 · exact .inl h2
 · exact .inr ⟨g, cap, cur, a, Nat.le_trans hn b, d⟩
theorem own_shape {w : World} {base : Nat} {e : TypeId} {size : Nat} {v : Value} {n : Nat} {xs : List Value} (h : w.ownsRow base e size v n xs) : ∃ a cap, v = .slice a n cap := by
 rcases h.2 with ⟨rfl, rfl⟩ | ⟨g, cap, cur, rfl, _⟩
 · exact ⟨none, 0, rfl⟩
 · exact ⟨_, cap, rfl⟩
theorem row_ne {w : World} {base : Nat} {e : TypeId} {size : Nat} {v : Value} {n : Nat} {xs : List Value} (h : w.ownsRow base e size v n xs) {B : Nat} (hB : B < base) : some B ≠ v.ownBlock := fun e' => by
 have := (h.lt B e'.symm).1
 omega
theorem add_plain (b off i : Nat) : (⟨b, off, none⟩ : Addr).add i = ⟨b, off + i, none⟩ := by unfold Addr.add; split <;> simp_all
theorem add_block (x : Addr) (i : Nat) : (x.add i).block = x.block := by unfold Addr.add; split <;> rfl
def Clear (w : World) (row : Option Nat) (ids : List TypeId) : Prop := ∀ g cs e fr, row = some g → w.heap[g]? = some (.cells cs e fr) → e ∉ ids
theorem Clear.sub {w : World} {row : Option Nat} {ids js : List TypeId} (h : Clear w row ids) (hs : ∀ e ∈ js, e ∈ ids) : Clear w row js := fun g cs e fr h1 h2 h3 => h g cs e fr h1 h2 (hs e h3)
theorem Clear.apart {w : World} {row : Option Nat} {ids : List TypeId} {base : Nat} {e : TypeId} {size : Nat} {v : Value} {n : Nat} {xs : List Value} (h : Clear w row ids) (ho : w.ownsRow base e size v n xs) (he : e ∈ ids) : v.ownBlock = none ∨ v.ownBlock ≠ row := by
 rcases ho.2 with ⟨rfl, _⟩ | ⟨g, cap, cur, rfl, _, hg, _⟩
 · exact .inl rfl
 · exact .inr fun e' => h g _ _ _ e'.symm hg he
theorem Clear.own {w : World} {ids : List TypeId} {base : Nat} {e : TypeId} {size : Nat} {v : Value} {n : Nat} {xs : List Value} (ho : w.ownsRow base e size v n xs) (he : e ∉ ids) : Clear w v.ownBlock ids := fun g cs e' fr h1 h2 => by
 rcases ho.2 with ⟨rfl, _⟩ | ⟨g', cap, cur, rfl, _, hg, _⟩
 · simp [Value.ownBlock] at h1
 · obtain rfl : g' = g := by simpa [Value.ownBlock] using h1
   rw [hg] at h2
   simp at h2
   rw [← h2.2.1]
   exact he
theorem Clear.none (w : World) (ids : List TypeId) : Clear w .none ids := fun _ _ _ _ h => by cases h
def Box (w : World) (B : Nat) (t : TypeId) (cs : Array Value) : Prop := w.heap[B]? = some (.cells cs t (0, 0))
theorem Box.cell {w : World} {B : Nat} {t : TypeId} {cs : Array Value} (h : Box w B t cs) (i : Nat) {u : Value} (hu : cs[i]? = some u) : w.cell? ⟨B, i, none⟩ = some u := by simp [World.cell?, show w.heap[B]? = _ from h, hu]
theorem Box.frozen {w : World} {B : Nat} {t : TypeId} {cs : Array Value} (h : Box w B t cs) (i : Nat) : w.frozen? ⟨B, i, none⟩ = false := by simp [World.frozen?, show w.heap[B]? = _ from h]
theorem Box.two {w : World} {B : Nat} {t : TypeId} {u v : Value} (h : Box w B t #[u, v]) : w.cell? ⟨B, 0, none⟩ = some u ∧ w.cell? ⟨B, 1, none⟩ = some v ∧ w.frozen? ⟨B, 0, none⟩ = false ∧ w.frozen? ⟨B, 1, none⟩ = false := ⟨h.cell 0 rfl, h.cell 1 rfl, h.frozen 0, h.frozen 1⟩
theorem Box.three {w : World} {B : Nat} {t : TypeId} {u v x : Value} (h : Box w B t #[u, v, x]) : w.cell? ⟨B, 0, none⟩ = some u ∧ w.cell? ⟨B, 1, none⟩ = some v ∧ w.cell? ⟨B, 2, none⟩ = some x ∧ w.frozen? ⟨B, 0, none⟩ = false ∧ w.frozen? ⟨B, 1, none⟩ = false ∧ w.frozen? ⟨B, 2, none⟩ = false := ⟨h.cell 0 rfl, h.cell 1 rfl, h.cell 2 rfl, h.frozen 0, h.frozen 1, h.frozen 2⟩
theorem Box.lt {w : World} {B : Nat} {t : TypeId} {cs : Array Value} (h : Box w B t cs) : B < w.heap.size := (Array.getElem?_eq_some_iff.1 h).1
theorem Box.new (w : World) (t : TypeId) (cs : Array Value) : Box (w.alloc (.cells cs t)) w.heap.size t cs := heap_alloc_new w _
theorem Box.kept {w w' : World} {B : Nat} {t : TypeId} {cs : Array Value} (h : Box w B t cs) (hs : w'.heap[B]? = w.heap[B]?) : Box w' B t cs := hs.trans h
theorem Box.grown {w w' : World} {row : Option Nat} {B : Nat} {t : TypeId} {cs : Array Value} (h : Box w B t cs) (hg : w.grownBy w' row) (hne : some B ≠ row) : Box w' B t cs := h.kept (hg.block B h.lt hne)
theorem Box.below {w w' : World} {B n : Nat} {t : TypeId} {cs : Array Value} (h : Box w B t cs) (hb : Below n w w') (hn : B < n) : Box w' B t cs := h.kept (hb.block B hn)
theorem Box.alloc {w : World} {B : Nat} {t : TypeId} {cs : Array Value} (h : Box w B t cs) (o : Obj) : Box (w.alloc o) B t cs := h.kept (Below.heap_alloc w o B h.lt)
theorem Box.drew {w : World} {B : Nat} {t : TypeId} {cs : Array Value} (h : Box w B t cs) : Box w.drew B t cs := h
theorem Box.set {w : World} {B : Nat} {t : TypeId} {cs : Array Value} (h : Box w B t cs) (i : Nat) (x : Value) : Box (w.setCell ⟨B, i, none⟩ x) B t (cs.setIfInBounds i x) := by
 obtain ⟨hlt, hk⟩ := Array.getElem?_eq_some_iff.1 h
 show (w.heap.modify B _)[B]? = _
 rw [Array.getElem?_eq_getElem (by rw [Array.size_modify]; exact hlt), Array.getElem_modify_self, hk]
 rfl
theorem Box.other {w : World} {B B' i : Nat} {t : TypeId} {cs : Array Value} {x : Value} (h : Box w B t cs) (hne : B ≠ B') : Box (w.setCell ⟨B', i, none⟩ x) B t cs := h.kept (Below.heap_setCell _ _ _ _ hne)
theorem Box.apart {w : World} {base : Nat} {e t : TypeId} {size : Nat} {v : Value} {n B : Nat} {xs : List Value} {cs : Array Value} (hB : Box w B t cs) (h : w.ownsRow base e size v n xs) (ht : t ≠ e) : some B ≠ v.ownBlock := by
 rcases h.2 with ⟨rfl, _⟩ | ⟨g, cap, cur, rfl, _, hg, _⟩
 · simp [Value.ownBlock]
 · intro e'
   have : B = g := by simpa [Value.ownBlock] using e'
   subst this
   rw [show w.heap[B]? = _ from hB] at hg
   simp at hg
   exact ht hg.2
theorem Box.clear {w : World} {B : Nat} {t : TypeId} {cs : Array Value} (h : Box w B t cs) {ids : List TypeId} (ht : t ∉ ids) : Clear w (some B) ids := fun g cs e fr h1 h2 => by
 cases h1
 rw [show w.heap[B]? = _ from h] at h2
 simp at h2
 rw [← h2.2.1]
 exact ht
theorem grown_set (w : World) (B i : Nat) (x : Value) : w.grownBy (w.setCell ⟨B, i, none⟩ x) (some B) :=
 ⟨rfl, rfl, rfl, by simp [World.setCell], fun k _ hk => Below.heap_setCell _ _ _ _ (fun e => hk (by rw [e]))⟩
theorem below_set2 {B n : Nat} {w W : World} (h : Below n w W) (hn : n ≤ B) (u v : Value) : Below n w ((W.setCell ⟨B, 0, none⟩ u).setCell ⟨B, 1, none⟩ v) := (h.setCell (p := ⟨B, 0, none⟩) hn u).setCell (p := ⟨B, 1, none⟩) hn v
theorem below_set3 {B n : Nat} {w W : World} (h : Below n w W) (hn : n ≤ B) (u v x : Value) : Below n w (((W.setCell ⟨B, 0, none⟩ u).setCell ⟨B, 1, none⟩ v).setCell ⟨B, 2, none⟩ x) := (below_set2 h hn u v).setCell (p := ⟨B, 2, none⟩) hn x
theorem Same.set2 {n B : Nat} {w : World} {u v : Value} (hB : B < n) : Same n w ((w.setCell ⟨B, 0, none⟩ u).setCell ⟨B, 1, none⟩ v) := Same.trans (.set hB) (by simp [World.setCell]) (.set hB)
theorem Same.set3 {n B : Nat} {w : World} {u v x : Value} (hB : B < n) : Same n w (((w.setCell ⟨B, 0, none⟩ u).setCell ⟨B, 1, none⟩ v).setCell ⟨B, 2, none⟩ x) := Same.trans (.set2 hB) (by simp [World.setCell]) (.set hB)
def Cells (n0 : Nat) (w : World) (size : Nat) (v : Value) (n : Nat) (us : List Value) : Prop :=
 us.length = n * size ∧ ((v = .slice none 0 0 ∧ n = 0) ∨ ∃ x cap, v = .slice (some x) n cap ∧ n ≤ cap ∧ n ≤ maxLen ∧ n0 ≤ x.block ∧ ∀ (i : Nat) (u : Value), us[i]? = some u → w.cell? (x.add i) = some u)
theorem Cells.keep {n0 : Nat} {w w' : World} {size : Nat} {v : Value} {n : Nat} {us : List Value} (h : Cells n0 w size v n us) (hs : Same n0 w w') : Cells n0 w' size v n us := by
 obtain ⟨hl, h | ⟨x, cap, hv, h1, h2, h3, h4⟩⟩ := h
 · exact ⟨hl, .inl h⟩
 · exact ⟨hl, .inr ⟨x, cap, hv, h1, h2, h3, fun i u hi => hs.cell (by rw [add_block]; exact h3) (h4 i u hi)⟩⟩
theorem Cells.weaken {n0 n1 : Nat} {w : World} {size : Nat} {v : Value} {n : Nat} {us : List Value} (h : Cells n0 w size v n us) (hn : n1 ≤ n0) : Cells n1 w size v n us := by
 obtain ⟨hl, h | ⟨x, cap, hv, h1, h2, h3, h4⟩⟩ := h
 · exact ⟨hl, .inl h⟩
 · exact ⟨hl, .inr ⟨x, cap, hv, h1, h2, Nat.le_trans hn h3, h4⟩⟩
theorem Cells.own {n0 : Nat} {w : World} {e : TypeId} {size : Nat} {v : Value} {n : Nat} {us : List Value} (h : w.ownsRow n0 e size v n us) : Cells n0 w size v n us := by
 refine ⟨h.1, ?_⟩
 have h0 := h
 rcases h.2 with ⟨hv, hn⟩ | ⟨g, cap, cur, hv, hg, hh, h1, h2, h3, h4⟩
 · exact .inl ⟨hv, hn⟩
 · subst hv
   exact .inr ⟨_, cap, rfl, h1, by omega, hg, fun i u hu => h0.cells (g := g) rfl i u hu⟩
theorem Cells.shape {n0 : Nat} {w : World} {size : Nat} {v : Value} {n : Nat} {us : List Value} (h : Cells n0 w size v n us) : ∃ a cap, v = .slice a n cap ∧ n ≤ cap ∧ n ≤ maxLen ∧ (a = none → n = 0) := by
 obtain ⟨_, ⟨rfl, rfl⟩ | ⟨x, cap, rfl, h1, h2, _⟩⟩ := h
 · exact ⟨none, 0, rfl, Nat.le_refl _, Nat.zero_le _, fun _ => rfl⟩
 · exact ⟨some x, cap, rfl, h1, h2, fun h => by cases h⟩
theorem Cells.place {n0 : Nat} {w : World} {size : Nat} {v : Value} {n : Nat} {us : List Value} (h : Cells n0 w size v n us) (hz : 0 < size) (i : Nat) (hi : i < n) :
   ∃ b o cap, v = .slice (some ⟨b, o, none⟩) n cap ∧ n ≤ cap ∧ n ≤ maxLen ∧ n0 ≤ b ∧ ∀ j u, us[i * size + j]? = some u → w.cell? ⟨b, o + i * size + j, none⟩ = some u := by
 obtain ⟨hl, ⟨rfl, rfl⟩ | ⟨x, cap, rfl, h1, h2, h3, h4⟩⟩ := h
 · omega
 · have h0 : 0 < us.length := by rw [hl]; exact Nat.mul_pos (by omega) hz
   have g := h4 0 us[0] (by simp [h0])
   obtain ⟨b, o, spot⟩ := x
   have hspot : spot = none := by simpa [Addr.add] using World.cell?_spot g
   subst hspot
   refine ⟨b, o, cap, rfl, h1, h2, h3, fun j u hu => ?_⟩
   have := h4 _ u hu
   rwa [add_plain, ← Nat.add_assoc] at this
theorem run_len {t e : TypeId} (ht : Tryz.prog.underlying t = some (.slice e)) (a : Option Addr) (n cap : Nat) (W : World) : (Builtin.len_ #[t] 3 #[.slice a n cap]).run Tryz.prog W = .ok (.int .i64 n) W := by
 simp [Builtin.len_, run_underlying ht, goInt]
theorem run_index {t e : TypeId} {size : Nat} (ht : Tryz.prog.underlying t = some (.slice e)) {i0 : TypeInfo} (hi : Tryz.prog.info? e = some i0) (hz : i0.size = size) (b o n cap i : Nat) (hin : i < n) (W : World) :
   (Instr.indexAt t (.slice (some ⟨b, o, none⟩) n cap) (.int .i64 i)).run Tryz.prog W = .ok (.pointer (some ⟨b, o + i * size, none⟩)) W := by
 have he : Tryz.prog.underlying t = some (.slice (Tryz.prog.elem t)) := by
   rw [ht]; simp [Program.elem, ht]
 have hee : Tryz.prog.elem t = e := by simp [Program.elem, ht]
 rw [run_indexAt_slice (h := he), if_pos (by omega), hee]
 simp [sizeOf, typeInfo, hi, hz, Result.andThen, add_plain]
theorem Cells.index {n0 : Nat} {w : World} {size : Nat} {v : Value} {n : Nat} {us : List Value} (h : Cells n0 w size v n us) (hz : 0 < size) {t e : TypeId} (ht : Tryz.prog.underlying t = some (.slice e)) {i0 : TypeInfo} (hi0 : Tryz.prog.info? e = some i0) (hs : i0.size = size) (i : Nat) (hi : i < n) :
   ∃ b o, (∀ W, (Instr.indexAt t v (.int .i64 i)).run Tryz.prog W = .ok (.pointer (some ⟨b, o, none⟩)) W) ∧ n0 ≤ b ∧ ∀ j u, us[i * size + j]? = some u → w.cell? ⟨b, o + j, none⟩ = some u := by
 obtain ⟨b, o, cap, rfl, _, _, hb, hc⟩ := h.place hz i hi
 exact ⟨b, o + i * size, fun W => run_index ht hi0 hs b o n cap i hi W, hb, hc⟩
end Go.Proofs.YtopcefhncildnaaGreatDoor
namespace Go.Proofs.YtopcefhncildnaaGreatDoor.W.C
open Go.RowKit
theorem Tryz.info5 : (Tryz.prog.info? 5).map (fun i => (i.zero, i.size, i.bytes)) = some (some (.int .u8 0), 1, 1) := by kernel_rfl
theorem cell_lt {w : World} {a : Addr} {v : Value} (h : w.cell? a = some v) : a.block < w.heap.size := by
 rcases Nat.lt_or_ge a.block w.heap.size with c | c
 · exact c
 · simp [World.cell?, Array.getElem?_eq_none c] at h
def Bytes (w : World) (v : Value) (l : List Int) : Prop :=
 (∃ a cap, v = .slice a l.length cap ∧ (l.length ≠ 0 → ∃ b off, a = some ⟨b, off, none⟩ ∧ ∀ i, i < l.length → w.cell? ⟨b, off + i, none⟩ = some (.int .u8 (l.getD i 0)))) ∧
   l.length ≤ maxLen ∧ ∀ x ∈ l, 0 ≤ x ∧ x ≤ 255
theorem Bytes.below {w w' : World} {v : Value} {l : List Int} (h : Bytes w v l) (hb : Below w.heap.size w w') : Bytes w' v l := by
 obtain ⟨⟨a, cap, hv, hc⟩, hm, hr⟩ := h
 refine ⟨⟨a, cap, hv, fun h0 => ?_⟩, hm, hr⟩
 obtain ⟨b, off, ha, hcell⟩ := hc h0
 refine ⟨b, off, ha, fun i hi => ?_⟩
 have := hcell i hi
 have hlt : b < w.heap.size := cell_lt this
 rw [hb.cell (p := ⟨b, off + i, none⟩) hlt]
 exact this
theorem Bytes.drewN {w : World} {v : Value} {l : List Int} (h : Bytes w v l) (q : Nat) : Bytes (w.drewN q) v l := by
 obtain ⟨⟨a, cap, hv, hc⟩, hm, hr⟩ := h
 refine ⟨⟨a, cap, hv, fun h0 => ?_⟩, hm, hr⟩
 obtain ⟨b, off, ha, hcell⟩ := hc h0
 exact ⟨b, off, ha, fun i hi => by simpa using hcell i hi⟩
theorem Bytes.own {w : World} {base : Nat} {v : Value} {l : List Int} (h : w.ownsRow base 5 1 v l.length (l.map (Value.int .u8))) (hr : ∀ x ∈ l, 0 ≤ x ∧ x ≤ 255) : Bytes w v l := by
 have h0 := h
 rcases h.2 with ⟨hv, hn⟩ | ⟨g, cap, cur, hv, hg, hh, h1, h2, h3, h4⟩
 · exact ⟨⟨none, 0, by rw [hv, hn], fun c => absurd hn c⟩, by unfold maxLen; omega, hr⟩
 · subst hv
   refine ⟨⟨_, cap, rfl, fun _ => ⟨g, 0, rfl, fun i hi => ?_⟩⟩, by omega, hr⟩
   have := h0.cellAt i (by omega)
   rw [Nat.zero_add, this, List.getElem?_map, List.getElem?_eq_getElem hi]
   simp [List.getElem?_eq_getElem hi]
def At (w : World) (b off : Nat) (l : List Int) : Prop := ∀ i, i < l.length → w.cell? ⟨b, off + i, none⟩ = some (.int .u8 (l.getD i 0))
theorem add_plain (b off i : Nat) : (⟨b, off, none⟩ : Addr).add i = ⟨b, off + i, none⟩ := by unfold Addr.add; split <;> simp_all
def Arg (w : World) (v : Value) (l : List Int) : Prop :=
 (v = .slice none 0 0 ∧ l = []) ∨ ∃ x cap, v = .slice (some x) l.length cap ∧ l.length ≤ cap ∧ l.length ≤ maxLen ∧ (∀ i, i < l.length → w.cell? (x.add i) = some (.int .u8 (l.getD i 0))) ∧ ∀ y ∈ l, 0 ≤ y ∧ y ≤ 255
theorem Arg.bytes {w : World} {v : Value} {l : List Int} (h : Arg w v l) : Bytes w v l := by
 rcases h with ⟨rfl, rfl⟩ | ⟨x, cap, rfl, _, hm, hc, hr⟩
 · exact ⟨⟨none, 0, rfl, fun h => absurd rfl h⟩, by simp [maxLen], by simp⟩
 · refine ⟨⟨some x, cap, rfl, fun h0 => ?_⟩, hm, hr⟩
   obtain ⟨b, off, spot⟩ := x
   have h1 := hc 0 (by omega)
   have hspot : spot = none := by simpa [Addr.add] using World.cell?_spot h1
   subst hspot
   exact ⟨b, off, rfl, fun i hi => by rw [← add_plain]; exact hc i hi⟩
theorem Arg.split {w : World} {v : Value} {l : List Int} (h : Arg w v l) : (l = [] ∧ ∃ a cap, v = .slice a 0 cap) ∨ (∃ b off cap, v = .slice (some ⟨b, off, none⟩) l.length cap ∧ l.length ≤ cap ∧ l.length ≤ maxLen ∧ At w b off l ∧ ∀ y ∈ l, 0 ≤ y ∧ y ≤ 255) := by
 rcases h with ⟨rfl, rfl⟩ | ⟨x, cap, rfl, hcap, hm, hc, hr⟩
 · exact .inl ⟨rfl, none, 0, rfl⟩
 · by_cases h0 : l.length = 0
   · left
     exact ⟨List.eq_nil_of_length_eq_zero h0, some x, cap, by rw [h0]⟩
   · right
     obtain ⟨b, off, spot⟩ := x
     have h1 := hc 0 (by omega)
     have hspot : spot = none := by simpa [Addr.add] using World.cell?_spot h1
     subst hspot
     exact ⟨b, off, cap, rfl, hcap, hm, fun i hi => by rw [← add_plain]; exact hc i hi, hr⟩
theorem Arg.own {w : World} {base : Nat} {v : Value} {l : List Int} (h : w.ownsRow base 5 1 v l.length (l.map (Value.int .u8))) (hr : ∀ x ∈ l, 0 ≤ x ∧ x ≤ 255) : Arg w v l := by
 have h0 := h
 rcases h.2 with ⟨hv, hn⟩ | ⟨g, cap, cur, hv, hg, hh, h1, h2, h3, h4⟩
 · exact .inl ⟨hv, List.eq_nil_of_length_eq_zero hn⟩
 · subst hv
   refine .inr ⟨_, cap, rfl, h1, by omega, fun i hi => ?_, hr⟩
   have := h0.cellAt i (by omega)
   rw [add_plain, Nat.zero_add, this, List.getElem?_map, List.getElem?_eq_getElem hi]
   simp [List.getElem?_eq_getElem hi]
theorem Arg.below {w w' : World} {v : Value} {l : List Int} (h : Arg w v l) (hb : Below w.heap.size w w') : Arg w' v l := by
 rcases h with h | ⟨x, cap, hv, hcap, hm, hc, hr⟩
 · exact .inl h
 · refine .inr ⟨x, cap, hv, hcap, hm, fun i hi => ?_, hr⟩
   have := hc i hi
   have hlt := cell_lt this
   rw [hb.cell hlt]
   exact this
theorem copy_any (v : Value) (l : List Int) (w : World) (h : Arg w v l) (hs : l.length ≤ 140737488355328) :
   Calls Tryz.prog 11 #[v] w fun e w' => (∃ v', e = .returned v' ∧ w'.ownsRow w.heap.size 5 1 v' l.length (l.map (Value.int .u8))) ∧ Below w.heap.size w w' := by
 obtain ⟨i0, hi, hz0, hz1, hz2⟩ := info_parts Tryz.info5
 rcases h with ⟨rfl, rfl⟩ | ⟨x, cap, rfl, hcap, hm, hc, hr⟩
 · go_enter Tryz.func11, Tryz.ntmps11
   go_wp2_with (at_builtin; refine wpList_append_own_none rfl _ _ 25 rfl w.heap.size 5 i0 1 Tryz.underlying25 hi (.slice none 0 0) 0 [] rfl (World.ownsRow_nil _ _ _ _) rfl ?_)
   go_ret
   exact ⟨⟨_, rfl, World.ownsRow_nil _ _ _ _⟩, Below.refl _ _⟩
 · have hnews : ∀ j u, (l.map (Value.int .u8))[j]? = some u → w.cell? (x.add j) = some u := fun j u hj => by
     have hjl : j < l.length := by (
 rcases Nat.lt_or_ge j l.length with c | c
 · exact c
 · rw [List.getElem?_eq_none (by simpa using c)] at hj; cases hj)
     rw [hc j hjl]
     rw [List.getElem?_map, List.getElem?_eq_getElem hjl] at hj
     simpa [List.getElem?_eq_getElem hjl] using hj
   have hone : ∀ u ∈ l.map (Value.int .u8), u.oneCell' = true := fun u hu => by (
 obtain ⟨y, _, rfl⟩ := List.mem_map.1 hu
 rfl)
   clear hc hr
   go_enter Tryz.func11, Tryz.ntmps11
   go_wp2_with (at_builtin; refine wpList_append_own _ rfl _ _ 25 rfl w.heap.size 5 i0 (.int .u8 0) 1 1 Tryz.underlying25 hi hz0 hz1 hz2 rfl (by decide) (.slice none 0 0) 0 [] rfl (World.ownsRow_nil _ _ _ _) x l.length cap (l.map (Value.int .u8)) rfl (by simp) hnews hone (by omega) (by omega) (Nat.le_refl _) ?_)
   intro v' w1 hown hgrow _
   have hb : Below w.heap.size w w1 := (Below.refl _ _).grown hgrow (Nat.le_refl _) (fun _ h => by cases h)
   clear hgrow hnews hone
   go_wp2
   go_ret
   exact ⟨⟨v', rfl, hown⟩, hb⟩
end Go.Proofs.YtopcefhncildnaaGreatDoor.W.C
