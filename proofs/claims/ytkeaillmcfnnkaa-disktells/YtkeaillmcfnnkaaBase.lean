/-
  The words by which the walks speak of memory: octets, lists of octets, writes and disks that lie at a value; what keeps them; and where an element lies.
-/
import Derived.Test.YtkeaillmcfnnkaaRows
import Derived.WalkKit
import Derived.WalkSpells
import Derived.ProofKit
import Derived.Deep.QuietTactic
import Derived.BigQuiet
import Derived.Laws.AppendOwnNone
import Derived.WalkSmall
namespace Go.Proofs.Ytkeaillmcfnnkaa
open Go.RowKit

theorem Try.info5 : (Try.prog.info? 5).map (fun i => (i.zero, i.size, i.bytes)) = some (some (.int .u8 0), 1, 1) := by kernel_rfl
theorem Try.info26 : (Try.prog.info? 26).map (fun i => (i.zero, i.size, i.bytes)) = some (some (.slice none 0 0), 1, 24) := by kernel_rfl
theorem Try.info64 : (Try.prog.info? 64).map (fun i => (i.zero, i.size, i.bytes)) = some (some (.agg #[.int .i64 0, .slice none 0 0]), 2, 32) := by kernel_rfl
theorem Try.info60 : (Try.prog.info? 60).map (fun i => (i.zero, i.size, i.bytes)) = some (some (.agg #[.int .i64 0, .slice none 0 0]), 2, 32) := by kernel_rfl

/-! Two lists, element by element. -/

def Each {α β : Type} (R : α → β → Prop) : List α → List β → Prop
  | [], [] => True
  | a :: xs, b :: ys => R a b ∧ Each R xs ys
  | _, _ => False

theorem Each.length {α β : Type} {R : α → β → Prop} : ∀ {xs : List α} {ys : List β}, Each R xs ys → xs.length = ys.length
  | [], [], _ => rfl
  | _ :: _, _ :: _, h => by simp [Each.length h.2]
  | [], _ :: _, h => h.elim
  | _ :: _, [], h => h.elim

theorem Each.mono {α β : Type} {R R' : α → β → Prop} (hR : ∀ a b, R a b → R' a b) : ∀ {xs : List α} {ys : List β}, Each R xs ys → Each R' xs ys
  | [], [], _ => trivial
  | _ :: _, _ :: _, h => ⟨hR _ _ h.1, Each.mono hR h.2⟩
  | [], _ :: _, h => h.elim
  | _ :: _, [], h => h.elim

theorem Each.get {α β : Type} {R : α → β → Prop} : ∀ {xs : List α} {ys : List β} {i : Nat} {b : β}, Each R xs ys → ys[i]? = some b → ∃ a, xs[i]? = some a ∧ R a b
  | [], [], _, _, _, h => by simp at h
  | a :: _, _ :: _, 0, _, h, e => by simp at e; subst e; exact ⟨a, rfl, h.1⟩
  | _ :: _, _ :: _, i + 1, _, h, e => by simp at e; simpa using Each.get (i := i) h.2 e
  | [], _ :: _, _, _, h, _ => h.elim
  | _ :: _, [], _, _, h, _ => h.elim

theorem Each.snoc {α β : Type} {R : α → β → Prop} {a : α} {b : β} : ∀ {xs : List α} {ys : List β}, Each R xs ys → R a b → Each R (xs ++ [a]) (ys ++ [b])
  | [], [], _, h => ⟨h, trivial⟩
  | _ :: _, _ :: _, h, k => ⟨h.1, Each.snoc h.2 k⟩
  | [], _ :: _, h, _ => h.elim
  | _ :: _, [], h, _ => h.elim

theorem Each.set {α β : Type} {R : α → β → Prop} {a : α} {b : β} : ∀ {xs : List α} {ys : List β} (i : Nat), Each R xs ys → R a b → Each R (xs.set i a) (ys.set i b)
  | [], [], _, _, _ => trivial
  | _ :: _, _ :: _, 0, h, k => ⟨k, h.2⟩
  | _ :: _, _ :: _, i + 1, h, k => ⟨h.1, Each.set i h.2 k⟩
  | [], _ :: _, _, h, _ => h.elim
  | _ :: _, [], _, h, _ => h.elim

theorem each_of {α β : Type} {R : α → β → Prop} : ∀ {xs : List α} {ys : List β}, xs.length = ys.length → (∀ (i : Nat) a b, xs[i]? = some a → ys[i]? = some b → R a b) → Each R xs ys
  | [], [], _, _ => trivial
  | a :: xs, b :: ys, h, k => ⟨k 0 a b rfl rfl, each_of (by simpa using h) fun i x y hx hy => k (i + 1) x y (by simpa using hx) (by simpa using hy)⟩
  | [], _ :: _, h, _ => by simp at h
  | _ :: _, [], h, _ => by simp at h

/-! Worlds. -/

theorem cell_lt {w : World} {a : Addr} {v : Value} (h : w.cell? a = some v) : a.block < w.heap.size := by
  rcases Nat.lt_or_ge a.block w.heap.size with c | c
  · exact c
  · simp [World.cell?, Array.getElem?_eq_none c] at h

/-- From block n on, what was there is xs it was. -/
def Same (n : Nat) (w w' : World) : Prop := ∀ k, n ≤ k → k < w.heap.size → w'.heap[k]? = w.heap[k]?

theorem Same.of_below {n : Nat} {w w' : World} (h : Below w.heap.size w w') : Same n w w' := fun k _ hk => h.block k hk
theorem Same.cell {n : Nat} {w w' : World} (h : Same n w w') {a : Addr} {v : Value} (hn : n ≤ a.block) (hc : w.cell? a = some v) : w'.cell? a = some v := by
  rw [World.cell?_of_block (h a.block hn (cell_lt hc))]; exact hc

theorem below_any {w a b : World} (h : Below w.heap.size w a) (k : Below a.heap.size a b) : Below w.heap.size w b := h.trans (k.mono h.size)
theorem below_drewN {B : Nat} {a w : World} (h : Below B a w) (q : Nat) : Below B a (w.drewN q) := by
  refine ⟨h.os, h.tape, h.output, ?_, fun k hk => ?_⟩
  · simpa using h.size
  · simpa using h.block k hk
theorem own_below {w w' : World} {base : Nat} {e : TypeId} {size : Nat} {v : Value} {n : Nat} {xs : List Value} (h : w.ownsRow base e size v n xs) (hb : Below w.heap.size w w') : w'.ownsRow base e size v n xs := by
  obtain ⟨h1, h2⟩ := h
  refine ⟨h1, ?_⟩
  rcases h2 with h2 | ⟨g, cap, cur, a, b, c, d⟩
  · exact .inl h2
  · refine .inr ⟨g, cap, cur, a, b, ?_, d⟩
    rw [hb.block g (Array.getElem?_eq_some_iff.1 c).1]
    exact c

theorem add_plain (b off i : Nat) : (⟨b, off, none⟩ : Addr).add i = ⟨b, off + i, none⟩ := by unfold Addr.add; split <;> simp_all

/-! A slice and its cells. -/

/-- The slice v has n elements of so many cells; the cells hold us; they lie from block n0 on. -/
def Cells (n0 : Nat) (w : World) (size : Nat) (v : Value) (n : Nat) (us : List Value) : Prop :=
  us.length = n * size ∧ ((v = .slice none 0 0 ∧ n = 0) ∨ ∃ x cap, v = .slice (some x) n cap ∧ n ≤ cap ∧ n ≤ maxLen ∧ n0 ≤ x.block ∧ ∀ (i : Nat) (u : Value), us[i]? = some u → w.cell? (x.add i) = some u)

theorem Cells.keep {n0 : Nat} {w w' : World} {size : Nat} {v : Value} {n : Nat} {us : List Value} (h : Cells n0 w size v n us) (hs : Same n0 w w') : Cells n0 w' size v n us := by
  obtain ⟨hl, h | ⟨x, cap, hv, h1, h2, h3, h4⟩⟩ := h
  · exact ⟨hl, .inl h⟩
  · refine ⟨hl, .inr ⟨x, cap, hv, h1, h2, h3, fun i u hi => hs.cell ?_ (h4 i u hi)⟩⟩
    have : (x.add i).block = x.block := by unfold Addr.add; split <;> rfl
    rw [this]; exact h3

theorem Cells.weaken {n0 n1 : Nat} {w : World} {size : Nat} {v : Value} {n : Nat} {us : List Value} (h : Cells n0 w size v n us) (hn : n1 ≤ n0) : Cells n1 w size v n us := by
  obtain ⟨hl, h | ⟨x, cap, hv, h1, h2, h3, h4⟩⟩ := h
  · exact ⟨hl, .inl h⟩
  · exact ⟨hl, .inr ⟨x, cap, hv, h1, h2, Nat.le_trans hn h3, h4⟩⟩

theorem Cells.own {n0 : Nat} {w : World} {e : TypeId} {size : Nat} {v : Value} {n : Nat} {us : List Value} (h : w.ownsRow n0 e size v n us) : Cells n0 w size v n us := by
  refine ⟨h.1, ?_⟩
  have h0 := h
  rcases h.2 with ⟨hv, hn⟩ | ⟨g, cap, cur, hv, hg, hh, h1, h2, h3, h4⟩
  · exact .inl ⟨hv, hn⟩
  · subst hv
    exact .inr ⟨_, cap, rfl, h1, by omega, hg, fun i u hu => h0.cells (g := g) rfl i u hu⟩

theorem Cells.shape {n0 : Nat} {w : World} {size : Nat} {v : Value} {n : Nat} {us : List Value} (h : Cells n0 w size v n us) : ∃ a cap, v = .slice a n cap ∧ n ≤ cap ∧ n ≤ maxLen ∧ (a = none → n = 0) := by
  obtain ⟨_, ⟨rfl, rfl⟩ | ⟨x, cap, rfl, h1, h2, _⟩⟩ := h
  · exact ⟨none, 0, rfl, Nat.le_refl _, Nat.zero_le _, fun _ => rfl⟩
  · exact ⟨some x, cap, rfl, h1, h2, fun h => by cases h⟩

/-- Where an element lies. -/
theorem Cells.place {n0 : Nat} {w : World} {size : Nat} {v : Value} {n : Nat} {us : List Value} (h : Cells n0 w size v n us) (hz : 0 < size) (i : Nat) (hi : i < n) :
    ∃ b o cap, v = .slice (some ⟨b, o, none⟩) n cap ∧ n ≤ cap ∧ n ≤ maxLen ∧ n0 ≤ b ∧ ∀ j u, us[i * size + j]? = some u → w.cell? ⟨b, o + i * size + j, none⟩ = some u := by
  obtain ⟨hl, ⟨rfl, rfl⟩ | ⟨x, cap, rfl, h1, h2, h3, h4⟩⟩ := h
  · omega
  · have h0 : 0 < us.length := by rw [hl]; exact Nat.mul_pos (by omega) hz
    have g := h4 0 us[0] (by simp [h0])
    obtain ⟨b, o, spot⟩ := x
    have hspot : spot = none := by simpa [Addr.add] using World.cell?_spot g
    subst hspot
    refine ⟨b, o, cap, rfl, h1, h2, h3, fun j u hu => ?_⟩
    have := h4 _ u hu
    rwa [add_plain, ← Nat.add_assoc] at this

theorem run_len {t e : TypeId} (ht : Try.prog.underlying t = some (.slice e)) (a : Option Addr) (n cap : Nat) (W : World) : (Builtin.len_ #[t] 3 #[.slice a n cap]).run Try.prog W = .ok (.int .i64 n) W := by
  simp [Builtin.len_, run_underlying ht, goInt]

theorem run_index {t e : TypeId} {size : Nat} (ht : Try.prog.underlying t = some (.slice e)) {i0 : TypeInfo} (hi : Try.prog.info? e = some i0) (hz : i0.size = size) (b o n cap i : Nat) (hin : i < n) (W : World) :
    (Instr.indexAt t (.slice (some ⟨b, o, none⟩) n cap) (.int .i64 i)).run Try.prog W = .ok (.pointer (some ⟨b, o + i * size, none⟩)) W := by
  have he : Try.prog.underlying t = some (.slice (Try.prog.elem t)) := by
    rw [ht]; simp [Program.elem, ht]
  have hee : Try.prog.elem t = e := by simp [Program.elem, ht]
  rw [run_indexAt_slice (h := he), if_pos (by omega), hee]
  simp [sizeOf, typeInfo, hi, hz, Result.andThen, add_plain]

/-! Octets. -/

def Oct (l : List Int) : Prop := ∀ x ∈ l, 0 ≤ x ∧ x ≤ 255

def Arg (n0 : Nat) (w : World) (v : Value) (l : List Int) : Prop := Cells n0 w 1 v l.length (l.map (Value.int .u8)) ∧ Oct l

theorem Arg.keep {n0 : Nat} {w w' : World} {v : Value} {l : List Int} (h : Arg n0 w v l) (hs : Same n0 w w') : Arg n0 w' v l := ⟨h.1.keep hs, h.2⟩
theorem Arg.below {n0 : Nat} {w w' : World} {v : Value} {l : List Int} (h : Arg n0 w v l) (hb : Below w.heap.size w w') : Arg n0 w' v l := h.keep (.of_below hb)
theorem Arg.weaken {n0 n1 : Nat} {w : World} {v : Value} {l : List Int} (h : Arg n0 w v l) (hn : n1 ≤ n0) : Arg n1 w v l := ⟨h.1.weaken hn, h.2⟩
theorem Arg.own {n0 : Nat} {w : World} {v : Value} {l : List Int} (h : w.ownsRow n0 5 1 v l.length (l.map (Value.int .u8))) (ho : Oct l) : Arg n0 w v l := ⟨.own h, ho⟩
theorem Arg.shape {n0 : Nat} {w : World} {v : Value} {l : List Int} (h : Arg n0 w v l) : ∃ a cap, v = .slice a l.length cap ∧ l.length ≤ cap ∧ l.length ≤ maxLen ∧ (a = none → l.length = 0) := h.1.shape

/-- The slice xs the two ways of each walk want it. -/
theorem Arg.split {n0 : Nat} {w : World} {v : Value} {l : List Int} (h : Arg n0 w v l) : (l = [] ∧ ∃ a cap, v = .slice a 0 cap) ∨ (∃ b off cap, v = .slice (some ⟨b, off, none⟩) l.length cap ∧ l.length ≤ cap ∧ l.length ≤ maxLen ∧ n0 ≤ b ∧ ∀ i, i < l.length → w.cell? ⟨b, off + i, none⟩ = some (.int .u8 (l.getD i 0))) := by
  by_cases h0 : l.length = 0
  · obtain ⟨a, cap, hv, _⟩ := h.shape
    exact .inl ⟨List.eq_nil_of_length_eq_zero h0, a, cap, by rw [hv, h0]⟩
  · right
    obtain ⟨b, o, cap, hv, h1, h2, h3, h4⟩ := h.1.place (by omega) 0 (by omega)
    refine ⟨b, o, cap, hv, h1, h2, h3, fun i hi => ?_⟩
    have := h4 i (.int .u8 (l.getD i 0)) (by simp [hi])
    simpa using this

/-! Lists of octets, writes, disks. -/

def Lists (n0 : Nat) (w : World) (v : Value) (ls : List (List Int)) : Prop := ∃ us, Cells n0 w 1 v ls.length us ∧ Each (Arg n0 w) us ls

def flat : List (Int × Value) → List Value
  | [] => []
  | p :: r => .int .i64 p.1 :: p.2 :: flat r

theorem flat_length : ∀ ps, (flat ps).length = ps.length * 2
  | [] => rfl
  | _ :: r => by simp [flat, flat_length r]; omega

theorem flat_snoc (p : Int × Value) : ∀ ps, flat (ps ++ [p]) = flat ps ++ [.int .i64 p.1, p.2]
  | [] => rfl
  | q :: r => by simp [flat, flat_snoc p r]

theorem flat_get : ∀ (ps : List (Int × Value)) (i : Nat) (p : Int × Value), ps[i]? = some p → (flat ps)[i * 2]? = some (.int .i64 p.1) ∧ (flat ps)[i * 2 + 1]? = some p.2
  | [], _, _, h => by simp at h
  | _ :: _, 0, _, h => by simp at h; subst h; simp [flat]
  | _ :: r, i + 1, p, h => by
    simp at h
    have := flat_get r i p h
    rw [show (i + 1) * 2 = i * 2 + 1 + 1 by omega]
    simpa [flat] using this

def Write1 (n0 : Nat) (w : World) (p : Int × Value) (q : Int × List Int) : Prop := p.1 = q.1 ∧ Arg n0 w p.2 q.2 ∧ -9223372036854775808 ≤ q.1 ∧ q.1 ≤ 9223372036854775807

def Writes (n0 : Nat) (w : World) (v : Value) (ws : List (Int × List Int)) : Prop := ∃ ps, Cells n0 w 2 v ws.length (flat ps) ∧ Each (Write1 n0 w) ps ws

structure St where
  secs : List (List Int)
  cache : List (Int × List Int)

def Disk (n0 : Nat) (w : World) (v : Value) (S : St) : Prop := ∃ vs vc, v = .agg #[vs, vc] ∧ Lists n0 w vs S.secs ∧ Writes n0 w vc S.cache

theorem Lists.keep {n0 : Nat} {w w' : World} {v : Value} {ls : List (List Int)} (h : Lists n0 w v ls) (hs : Same n0 w w') : Lists n0 w' v ls := by
  obtain ⟨us, h1, h2⟩ := h
  exact ⟨us, h1.keep hs, h2.mono fun _ _ h => h.keep hs⟩
theorem Lists.below {n0 : Nat} {w w' : World} {v : Value} {ls : List (List Int)} (h : Lists n0 w v ls) (hb : Below w.heap.size w w') : Lists n0 w' v ls := h.keep (.of_below hb)
theorem Lists.weaken {n0 n1 : Nat} {w : World} {v : Value} {ls : List (List Int)} (h : Lists n0 w v ls) (hn : n1 ≤ n0) : Lists n1 w v ls := by
  obtain ⟨us, h1, h2⟩ := h
  exact ⟨us, h1.weaken hn, h2.mono fun _ _ h => h.weaken hn⟩
theorem Writes.keep {n0 : Nat} {w w' : World} {v : Value} {ws : List (Int × List Int)} (h : Writes n0 w v ws) (hs : Same n0 w w') : Writes n0 w' v ws := by
  obtain ⟨us, h1, h2⟩ := h
  exact ⟨us, h1.keep hs, h2.mono fun _ _ h => ⟨h.1, h.2.1.keep hs, h.2.2⟩⟩
theorem Writes.below {n0 : Nat} {w w' : World} {v : Value} {ws : List (Int × List Int)} (h : Writes n0 w v ws) (hb : Below w.heap.size w w') : Writes n0 w' v ws := h.keep (.of_below hb)
theorem Writes.weaken {n0 n1 : Nat} {w : World} {v : Value} {ws : List (Int × List Int)} (h : Writes n0 w v ws) (hn : n1 ≤ n0) : Writes n1 w v ws := by
  obtain ⟨us, h1, h2⟩ := h
  exact ⟨us, h1.weaken hn, h2.mono fun _ _ h => ⟨h.1, h.2.1.weaken hn, h.2.2⟩⟩
theorem Disk.keep {n0 : Nat} {w w' : World} {v : Value} {S : St} (h : Disk n0 w v S) (hs : Same n0 w w') : Disk n0 w' v S := by
  obtain ⟨vs, vc, h1, h2, h3⟩ := h
  exact ⟨vs, vc, h1, h2.keep hs, h3.keep hs⟩
theorem Disk.below {n0 : Nat} {w w' : World} {v : Value} {S : St} (h : Disk n0 w v S) (hb : Below w.heap.size w w') : Disk n0 w' v S := h.keep (.of_below hb)
theorem Disk.weaken {n0 n1 : Nat} {w : World} {v : Value} {S : St} (h : Disk n0 w v S) (hn : n1 ≤ n0) : Disk n1 w v S := by
  obtain ⟨vs, vc, h1, h2, h3⟩ := h
  exact ⟨vs, vc, h1, h2.weaken hn, h3.weaken hn⟩

theorem Lists.shape {n0 : Nat} {w : World} {v : Value} {ls : List (List Int)} (h : Lists n0 w v ls) : ∃ a cap, v = .slice a ls.length cap ∧ ls.length ≤ cap ∧ ls.length ≤ maxLen ∧ (a = none → ls.length = 0) := by
  obtain ⟨_, h1, _⟩ := h; exact h1.shape
theorem Writes.shape {n0 : Nat} {w : World} {v : Value} {ws : List (Int × List Int)} (h : Writes n0 w v ws) : ∃ a cap, v = .slice a ws.length cap ∧ ws.length ≤ cap ∧ ws.length ≤ maxLen ∧ (a = none → ws.length = 0) := by
  obtain ⟨_, h1, _⟩ := h; exact h1.shape

/-- The value of a disk, its two slices written out. -/
theorem Disk.shape {n0 : Nat} {w : World} {v : Value} {S : St} (h : Disk n0 w v S) : ∃ a1 c1 a2 c2, v = .agg #[.slice a1 S.secs.length c1, .slice a2 S.cache.length c2] ∧
    Lists n0 w (.slice a1 S.secs.length c1) S.secs ∧ Writes n0 w (.slice a2 S.cache.length c2) S.cache := by
  obtain ⟨vs, vc, rfl, h2, h3⟩ := h
  obtain ⟨a1, c1, rfl, _⟩ := h2.shape
  obtain ⟨a2, c2, rfl, _⟩ := h3.shape
  exact ⟨a1, c1, a2, c2, rfl, h2, h3⟩

/-- One list of the lists: where its slice lies, and what it is. -/
theorem Lists.at {n0 : Nat} {w : World} {v : Value} {ls : List (List Int)} (h : Lists n0 w v ls) (i : Nat) (l : List Int) (hl : ls[i]? = some l) :
    ∃ b o a cap, (∀ W, (Instr.indexAt 22 v (.int .i64 i)).run Try.prog W = .ok (.pointer (some ⟨b, o, none⟩)) W) ∧ n0 ≤ b ∧ w.cell? ⟨b, o, none⟩ = some (.slice a l.length cap) ∧ Arg n0 w (.slice a l.length cap) l := by
  obtain ⟨us, h1, h2⟩ := h
  obtain ⟨u, hu, ha⟩ := h2.get hl
  have hi : i < ls.length := (List.getElem?_eq_some_iff.1 hl).1
  obtain ⟨b, o, cap, rfl, _, _, hb, hc⟩ := h1.place (by omega) i hi
  obtain ⟨a, c, rfl, _⟩ := ha.shape
  obtain ⟨i0, hi0, _, hz, _⟩ := info_parts Try.info26
  refine ⟨b, o + i, a, c, fun W => ?_, hb, ?_, ha⟩
  · have := run_index Try.underlying22 hi0 hz b o ls.length cap i hi W
    rwa [Nat.mul_one] at this
  · have := hc 0 _ (by simpa using hu)
    simpa using this

/-- One write of the writes. -/
theorem Writes.at {n0 : Nat} {w : World} {v : Value} {ws : List (Int × List Int)} {t e : TypeId} {i0 : TypeInfo} (h : Writes n0 w v ws) (ht : Try.prog.underlying t = some (.slice e)) (hi0 : Try.prog.info? e = some i0) (hz : i0.size = 2) (i : Nat) (q : Int × List Int) (hl : ws[i]? = some q) :
    ∃ b o a cap, (∀ W, (Instr.indexAt t v (.int .i64 i)).run Try.prog W = .ok (.pointer (some ⟨b, o, none⟩)) W) ∧ n0 ≤ b ∧ w.cell? ⟨b, o, none⟩ = some (.int .i64 q.1) ∧ w.cell? ⟨b, o + 1, none⟩ = some (.slice a q.2.length cap) ∧ Arg n0 w (.slice a q.2.length cap) q.2 ∧
      -9223372036854775808 ≤ q.1 ∧ q.1 ≤ 9223372036854775807 := by
  obtain ⟨ps, h1, h2⟩ := h
  obtain ⟨p, hp, he, ha, hr⟩ := h2.get hl
  have hi : i < ws.length := (List.getElem?_eq_some_iff.1 hl).1
  obtain ⟨b, o, cap, rfl, _, _, hb, hc⟩ := h1.place (by omega) i hi
  obtain ⟨f0, f1⟩ := flat_get ps i p hp
  obtain ⟨a, c, hs, _⟩ := ha.shape
  refine ⟨b, o + i * 2, a, c, fun W => run_index ht hi0 hz b o ws.length cap i hi W, hb, ?_, ?_, by rw [← hs]; exact ha, hr⟩
  · have := hc 0 _ (by simpa using f0)
    rw [← he]
    simpa using this
  · have := hc 1 _ f1
    rwa [hs] at this

end Go.Proofs.Ytkeaillmcfnnkaa
