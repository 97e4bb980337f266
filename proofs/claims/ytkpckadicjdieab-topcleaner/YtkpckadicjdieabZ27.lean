import Derived.Test.YtkpckadicjdieabZ26
import Derived.Test.YtkpckadicjdieabZ20
import Derived.Test.YtkpckadicjdieabZ15
import Derived.Test.YtkpckadicjdieabZ22
/-
  Octets of a constant; the example's stores.
-/
namespace Go.Proofs.Ytkpckadicjdieab
open Go.RowKit

theorem Cells.box {n0 : Nat} {w : World} {B : Nat} {t : TypeId} {cs : Array Value} {n : Nat} (h : Box w B t cs) (hn : cs.size = n) (hm : n ≤ maxLen) (hb : n0 ≤ B) : Cells n0 w 1 (.slice (some ⟨B, 0, none⟩) n n) n cs.toList := by
  refine ⟨by simp [hn], .inr ⟨⟨B, 0, none⟩, n, rfl, Nat.le_refl _, hm, hb, fun j u hu => ?_⟩⟩
  rw [add_plain, Nat.zero_add]
  exact h.cell j (by simpa using hu)

/-- The conversion of a constant's octets: the row is marked, no cell is another one. -/
theorem conv_mark (V : World) (g n c : Nat) (C : Array Value) (h : V.heap[g]? = some (.cells C 5 (0, 0))) :
    ∃ V', (convert 46 46 (.slice (some ⟨g, 0, none⟩) n c)).run Try.prog V = .ok (.slice (some ⟨g, 0, none⟩) n c) V' ∧ Below g V V' ∧ (∀ p, V'.cell? p = V.cell? p) := by
  have hsh : V.shape? g = some (5, C.size) := by
    unfold World.shape?
    rw [h]
  have hlt : g < V.heap.size := (Array.getElem?_eq_some_iff.1 h).1
  have hblk : ∀ k, k ≠ g → (V.freeze ⟨g, C.size, none⟩ 1).heap[k]? = V.heap[k]? := fun k hk => by
    unfold World.freeze
    rw [if_neg (by decide)]
    show (V.heap.modify g _)[k]? = _
    rw [Array.getElem?_modify, if_neg (Ne.symm hk)]
  have hown : (V.freeze ⟨g, C.size, none⟩ 1).heap[g]? = some (.cells C 5 (C.size, C.size + 1)) := by
    unfold World.freeze
    rw [if_neg (by decide)]
    show (V.heap.modify g _)[g]? = _
    rw [Array.getElem?_modify, if_pos rfl, h]
    rfl
  refine ⟨V.freeze ⟨g, C.size, none⟩ 1, ?_, ⟨?_, ?_, ?_, ?_, fun k hk => hblk k (by omega)⟩, fun p => ?_⟩
  · simp [convert, run_underlying Try.underlying46, run_underlying Try.underlying5, markStringish, hsh]
  · unfold World.freeze; rw [if_neg (by decide)]
  · unfold World.freeze; rw [if_neg (by decide)]
  · unfold World.freeze; rw [if_neg (by decide)]
  · unfold World.freeze; rw [if_neg (by decide)]; simp
  · by_cases hp : p.block = g
    · unfold World.cell?
      rw [hp, hown, h]
    · unfold World.cell?
      rw [hblk _ hp]
theorem Arg.same {n0 : Nat} {V V' : World} {v : Value} {l : List Int} (h : Arg n0 V v l) (hc : ∀ p, V'.cell? p = V.cell? p) : Arg n0 V' v l := by
  refine Arg.mk ?_ h.oct
  obtain ⟨h1, h2⟩ := h.cells
  refine ⟨h1, h2.imp id ?_⟩
  rintro ⟨x, cap, rfl, a1, a2, a3, a4⟩
  exact ⟨x, cap, rfl, a1, a2, a3, fun j u hu => by rw [hc]; exact a4 j u hu⟩


abbrev x1 : St := ([(0, []), (0, [])], [false, false], [], 1)
abbrev x2 : St := ([(0, []), (0, [])], [false, false], [(1, 0, [97])], 1)
abbrev x3 : St := ([(1, [(1, 0, [97])]), (0, [])], [false, false], [], 2)
abbrev x4 : St := ([(1, [(1, 0, [97])]), (0, [])], [false, false], [(1, 0, [98])], 2)
abbrev x5 : St := ([(1, [(1, 0, [97])]), (2, [(1, 0, [98])])], [false, false], [], 3)
abbrev x6 : St := ([(0, []), (2, [(1, 0, [98])])], [false, false], [], 3)
theorem e1 : nE 2 = 0 ∧ nS 2 = x1 := ⟨by kernel_rfl, by kernel_rfl⟩
theorem e2 : pE x1 (1, 0, [97]) = 0 ∧ pS x1 (1, 0, [97]) = x2 := ⟨by kernel_rfl, by kernel_rfl⟩
theorem e3 : sE x2 = 0 ∧ sS x2 = x3 ∧ sP x2 = 0 := ⟨by kernel_rfl, by kernel_rfl, by kernel_rfl⟩
theorem e4 : pE x3 (1, 0, [98]) = 0 ∧ pS x3 (1, 0, [98]) = x4 := ⟨by kernel_rfl, by kernel_rfl⟩
theorem e5 : sE x4 = 0 ∧ sS x4 = x5 ∧ sP x4 = 1 := ⟨by kernel_rfl, by kernel_rfl, by kernel_rfl⟩
theorem e6 : uE x5 0 = 0 ∧ lL x5 0 = [] := ⟨by kernel_rfl, by kernel_rfl⟩
theorem e7 : fE x5 0 = 0 ∧ fS x5 0 = x6 := ⟨by kernel_rfl, by kernel_rfl⟩
theorem e8 : okE x6 = 0 ∧ gB x6 1 0 = [98] := ⟨by kernel_rfl, by kernel_rfl⟩

end Go.Proofs.Ytkpckadicjdieab

/-
  Plain mathematics: all blocks that are there, in the order of their kinds.
-/
namespace Go.Proofs.Ytkpckadicjdieab
open Go.RowKit

/-- One kind ahead of another. -/
def kLt (a b : Bk) : Prop := a.1 < b.1 ∨ (a.1 = b.1 ∧ a.2.1 < b.2.1)
theorem kLt.trans {a b c : Bk} (h : kLt a b) (k : kLt b c) : kLt a c := by
  unfold kLt at *
  omega
theorem kLt.irrefl (a : Bk) : ¬ kLt a a := by unfold kLt; omega
/-- Is this block one that is there? -/
def isThere (s : St) (b : Bk) : Prop := b.2.2 = (last s b.1 b.2.1).1.2.2 ∧ b.2.2 ≠ []
/-- All that are there. -/
structure AllOf (s : St) (L : List Bk) : Prop where
  up : L.Pairwise kLt
  mem : ∀ b, b ∈ L ↔ isThere s b
theorem up_eq : ∀ {L M : List Bk}, L.Pairwise kLt → M.Pairwise kLt → (∀ b, b ∈ L ↔ b ∈ M) → L = M
  | [], [], _, _, _ => rfl
  | [], b :: M, _, _, h => by have := (h b).2 (List.mem_cons_self ..); cases this
  | a :: L, [], _, _, h => by have := (h a).1 (List.mem_cons_self ..); cases this
  | a :: L, b :: M, h1, h2, h => by
    obtain ⟨p1, p2⟩ := List.pairwise_cons.1 h1
    obtain ⟨q1, q2⟩ := List.pairwise_cons.1 h2
    have e : a = b := by
      rcases List.mem_cons.1 ((h a).1 (List.mem_cons_self ..)) with e | ha
      · exact e
      · rcases List.mem_cons.1 ((h b).2 (List.mem_cons_self ..)) with e | hb
        · exact e.symm
        · exact absurd ((q1 a ha).trans (p1 b hb)) (kLt.irrefl b)
    subst e
    congr 1
    refine up_eq p2 q2 fun x => ⟨fun hx => ?_, fun hx => ?_⟩
    · rcases List.mem_cons.1 ((h x).1 (List.mem_cons_of_mem _ hx)) with e | hm
      · subst e; exact absurd (p1 x hx) (kLt.irrefl x)
      · exact hm
    · rcases List.mem_cons.1 ((h x).2 (List.mem_cons_of_mem _ hx)) with e | hm
      · subst e; exact absurd (q1 x hx) (kLt.irrefl x)
      · exact hm
theorem AllOf.eq {s : St} {L M : List Bk} (h : AllOf s L) (k : AllOf s M) : L = M := up_eq h.up k.up fun b => (h.mem b).trans (k.mem b).symm

/-- The order of kinds as a number. -/
def cmpI (a b : Int) : Int := if a < b then -1 else if b < a then 1 else 0
def cmpK (a b : Bk) : Int := if cmpI a.1 b.1 ≠ 0 then cmpI a.1 b.1 else cmpI a.2.1 b.2.1
theorem cmpK_lt {a b : Bk} : cmpK a b < 0 ↔ kLt a b := by
  unfold cmpK cmpI kLt
  by_cases h1 : a.1 < b.1
  · simp [h1]
  · by_cases h2 : b.1 < a.1
    · simp [h1, h2]
      try omega
    · by_cases h3 : a.2.1 < b.2.1
      · simp [h1, h2, h3]
        try omega
      · by_cases h4 : b.2.1 < a.2.1
        · simp [h1, h2, h3, h4]
          try omega
        · simp [h1, h2, h3, h4]

end Go.Proofs.Ytkpckadicjdieab

/-
  Plain mathematics: the last version of a kind, whatever the order in which versions are met; what Put, Seal and Free make of it.
-/
namespace Go.Proofs.Ytkpckadicjdieab

theorem snoc_ind {α : Type} {P : List α → Prop} (nil : P []) (snoc : ∀ l a, P l → P (l ++ [a])) (l : List α) : P l := by
  have h : ∀ r : List α, P r.reverse := fun r => by
    induction r with
    | nil => exact nil
    | cons a r ih => rw [List.reverse_cons]; exact snoc _ _ ih
  have := h l.reverse
  rwa [List.reverse_reverse] at this
/-- One version ahead of another, or the same. -/
def vLe (y x : Ver) : Prop := y.1 < x.1 ∨ (y.1 = x.1 ∧ y.2.1 ≤ x.2.1)
/-- Versions as they stand in a store: numbers from 0 up; of one number the places rise. -/
structure WV (l : List Ver) : Prop where
  pos : ∀ x ∈ l, 0 ≤ x.1
  up : l.Pairwise fun y z => y.1 = z.1 → y.2.1 < z.2.1
theorem WV.of_append {l m : List Ver} (h : WV (l ++ m)) : WV l := ⟨fun x hx => h.pos x (List.mem_append_left _ hx), (List.pairwise_append.1 h.up).1⟩
theorem WV.one {l : List Ver} (h : WV l) {x y : Ver} (hx : x ∈ l) (hy : y ∈ l) (e1 : x.1 = y.1) (e2 : x.2.1 = y.2.1) : x = y := by
  induction l with
  | nil => cases hx
  | cons a l ih =>
    obtain ⟨p1, p2⟩ := List.pairwise_cons.1 h.up
    rcases List.mem_cons.1 hx with rfl | hx'
    · rcases List.mem_cons.1 hy with rfl | hy'
      · rfl
      · have := p1 y hy' e1; omega
    · rcases List.mem_cons.1 hy with rfl | hy'
      · have := p1 x hx' e1.symm; omega
      · exact ih ⟨fun z hz => h.pos z (List.mem_cons_of_mem _ hz), p2⟩ hx' hy'
/-- The last one of a kind. -/
structure IsLast (l : List Ver) (o i : Int) (x : Ver) : Prop where
  mem : x ∈ l
  kind : isK o i x = true
  max : ∀ y ∈ l, isK o i y = true → vLe y x
theorem vLe.refl (x : Ver) : vLe x x := .inr ⟨rfl, Nat.le_refl _⟩
theorem vLe.trans {x y z : Ver} (h : vLe x y) (k : vLe y z) : vLe x z := by unfold vLe at *; omega
theorem IsLast.eq {l : List Ver} {o i : Int} {x y : Ver} (hw : WV l) (h : IsLast l o i x) (k : IsLast l o i y) : x = y := by
  have a := h.max y k.mem k.kind
  have b := k.max x h.mem h.kind
  unfold vLe at a b
  exact hw.one h.mem k.mem (by omega) (by omega)
theorem kn_last (o i : Int) (l : List Ver) : WV l → ((∀ y ∈ l, isK o i y = false) ∧ kn l o i = kn0) ∨ ∃ x, IsLast l o i x ∧ (kn l o i).1 = x.2.2 ∧ (kn l o i).2.1 = x.1 ∧ (kn l o i).2.2.1 = x.2.1 := by
  refine snoc_ind (P := fun l => WV l → ((∀ y ∈ l, isK o i y = false) ∧ kn l o i = kn0) ∨ ∃ x, IsLast l o i x ∧ (kn l o i).1 = x.2.2 ∧ (kn l o i).2.1 = x.1 ∧ (kn l o i).2.2.1 = x.2.1) (fun _ => .inl ⟨fun y hy => (by cases hy), rfl⟩) (fun l x ih hw => ?_) l
  have hw' := hw.of_append
  rw [kn_snoc]
  by_cases hk : isK o i x = true
  · rw [if_pos hk]
    right
    rcases ih hw' with ⟨h1, h2⟩ | ⟨y, h1, h2, h3, h4⟩
    · refine ⟨x, ⟨List.mem_append_right _ (List.mem_singleton.2 rfl), hk, fun z hz hzk => ?_⟩, ?_⟩
      · rcases List.mem_append.1 hz with hz | hz
        · rw [h1 z hz] at hzk; cases hzk
        · rw [List.mem_singleton.1 hz]; exact vLe.refl x
      · rw [h2]
        have h0 : kn0.2.1 ≤ x.1 := hw.pos x (List.mem_append_right _ (List.mem_singleton.2 rfl))
        unfold knStep
        rw [if_pos h0]
        exact ⟨rfl, rfl, rfl⟩
    · by_cases hle : (kn l o i).2.1 ≤ x.1
      · refine ⟨x, ⟨List.mem_append_right _ (List.mem_singleton.2 rfl), hk, fun z hz hzk => ?_⟩, ?_⟩
        · rcases List.mem_append.1 hz with hz | hz
          · refine (h1.max z hz hzk).trans ?_
            rw [h3] at hle
            by_cases e : y.1 = x.1
            · exact .inr ⟨e, Nat.le_of_lt ((List.pairwise_append.1 hw.up).2.2 y h1.mem x (List.mem_singleton.2 rfl) e)⟩
            · exact .inl (by omega)
          · rw [List.mem_singleton.1 hz]; exact vLe.refl x
        · unfold knStep
          rw [if_pos hle]
          exact ⟨rfl, rfl, rfl⟩
      · refine ⟨y, ⟨List.mem_append_left _ h1.mem, h1.kind, fun z hz hzk => ?_⟩, ?_⟩
        · rcases List.mem_append.1 hz with hz | hz
          · exact h1.max z hz hzk
          · rw [List.mem_singleton.1 hz]
            rw [h3] at hle
            exact .inl (by omega)
        · unfold knStep
          rw [if_neg hle]
          exact ⟨h2, h3, h4⟩
  · rw [if_neg hk]
    rcases ih hw' with ⟨h1, h2⟩ | ⟨y, h1, h2⟩
    · left
      refine ⟨fun z hz => ?_, h2⟩
      rcases List.mem_append.1 hz with hz | hz
      · exact h1 z hz
      · rw [List.mem_singleton.1 hz]; simpa using hk
    · right
      refine ⟨y, ⟨List.mem_append_left _ h1.mem, h1.kind, fun z hz hzk => ?_⟩, h2⟩
      rcases List.mem_append.1 hz with hz | hz
      · exact h1.max z hz hzk
      · rw [List.mem_singleton.1 hz] at hzk; exact absurd hzk hk
/-- Of the same versions, in whatever order, the same one is the last. -/
theorem kn_same_mem {l m : List Ver} (hl : WV l) (hm : WV m) (h : ∀ x, x ∈ l ↔ x ∈ m) (o i : Int) : (kn l o i).1 = (kn m o i).1 ∧ (kn l o i).2.1 = (kn m o i).2.1 ∧ (kn l o i).2.2.1 = (kn m o i).2.2.1 := by
  rcases kn_last o i l hl with ⟨h1, h2⟩ | ⟨x, h1, h2, h3, h4⟩
  · rcases kn_last o i m hm with ⟨_, k2⟩ | ⟨y, k1, _⟩
    · rw [h2, k2]; exact ⟨rfl, rfl, rfl⟩
    · have := h1 y ((h y).2 k1.mem); rw [k1.kind] at this; cases this
  · rcases kn_last o i m hm with ⟨k1, _⟩ | ⟨y, k1, k2, k3, k4⟩
    · have := k1 x ((h x).1 h1.mem); rw [h1.kind] at this; cases this
    · have e : x = y := h1.eq hl ⟨(h y).2 k1.mem, k1.kind, fun z hz hk => k1.max z ((h z).1 hz) hk⟩
      subst e
      rw [h2, h3, h4, k2, k3, k4]
      exact ⟨rfl, rfl, rfl⟩
theorem plc_mem {q : Int} {l : List Bk} {x : Ver} : x ∈ plc q l ↔ x.1 = q ∧ l[x.2.1]? = some x.2.2 := by
  obtain ⟨a, k, b⟩ := x
  unfold plc
  rw [List.mem_map]
  constructor
  · rintro ⟨⟨c, j⟩, hy, e⟩
    simp only [Prod.mk.injEq] at e
    obtain ⟨rfl, rfl, rfl⟩ := e
    exact ⟨rfl, by have := List.mem_zipIdx_iff_getElem?.1 hy; simpa using this⟩
  · rintro ⟨e, h⟩
    exact ⟨(b, k), List.mem_zipIdx_iff_getElem?.2 (by simpa using h), by simp only at e; rw [e]⟩
theorem segv_mem {l : List Sg} {x : Ver} : x ∈ segv l ↔ ∃ p ∈ l, x.1 = p.1 ∧ p.2[x.2.1]? = some x.2.2 := by
  unfold segv
  rw [List.mem_flatten]
  constructor
  · rintro ⟨m, hm, hx⟩
    obtain ⟨p, hp, rfl⟩ := List.mem_map.1 hm
    exact ⟨p, hp, plc_mem.1 hx⟩
  · rintro ⟨p, hp, h⟩
    exact ⟨_, List.mem_map.2 ⟨p, hp, rfl⟩, plc_mem.2 h⟩
theorem plc_up (q : Int) (l : List Bk) : (plc q l).Pairwise fun y z => y.1 = z.1 → y.2.1 < z.2.1 := by
  refine snoc_ind (P := fun l => (plc q l).Pairwise fun y z => y.1 = z.1 → y.2.1 < z.2.1) List.Pairwise.nil (fun l b ih => ?_) l
  rw [plc_snoc]
  refine List.pairwise_append.2 ⟨ih, List.pairwise_singleton _ _, fun y hy z hz _ => ?_⟩
  rw [List.mem_singleton.1 hz]
  have := (plc_mem.1 hy).2
  exact (List.getElem?_eq_some_iff.1 this).1
theorem segv_up {l : List Sg} (h : (seqs l).Nodup) : (segv l).Pairwise fun y z => y.1 = z.1 → y.2.1 < z.2.1 := by
  revert h
  refine snoc_ind (P := fun l => (seqs l).Nodup → (segv l).Pairwise fun y z => y.1 = z.1 → y.2.1 < z.2.1) (fun _ => List.Pairwise.nil) (fun l p ih h => ?_) l
  rw [segv_snoc]
  rw [seqs_snoc] at h
  by_cases hf : freeB p = true
  · rw [if_pos hf] at h
    have : p.2 = [] := List.eq_nil_of_length_eq_zero (free_iff.1 hf).2
    rw [this]
    simpa [plc] using ih h
  · rw [if_neg hf] at h
    obtain ⟨h1, _, h3⟩ := List.nodup_append.1 h
    refine List.pairwise_append.2 ⟨ih h1, plc_up _ _, fun y hy z hz e => ?_⟩
    obtain ⟨q, hq, e1, e2⟩ := segv_mem.1 hy
    have hqf : freeB q = false := by
      cases hb : freeB q
      · rfl
      · have := (free_iff.1 hb).2
        rw [List.eq_nil_of_length_eq_zero this] at e2
        cases e2
    have hm : q.1 ∈ seqs l := by
      unfold seqs
      exact List.mem_map.2 ⟨q, List.mem_filter.2 ⟨hq, by rw [hqf]; rfl⟩, rfl⟩
    have := h3 q.1 hm p.1 (List.mem_singleton.2 rfl)
    rw [(plc_mem.1 hz).1, e1] at e
    exact absurd e this
theorem not_free {p : Sg} {k : Nat} {b : Bk} (h : p.2[k]? = some b) : freeB p = false := by
  cases hb : freeB p
  · rfl
  · have := (free_iff.1 hb).2
    rw [List.eq_nil_of_length_eq_zero this] at h
    cases h
theorem Ok.wv {s : St} (h : Ok s) : WV (vers s) := by
  unfold vers
  refine ⟨fun x hx => ?_, List.pairwise_append.2 ⟨segv_up h.apart, plc_up _ _, fun y hy z hz e => ?_⟩⟩
  · rcases List.mem_append.1 hx with hx | hx
    · obtain ⟨p, hp, e1, e2⟩ := segv_mem.1 hx
      have := (h.each p hp (not_free e2)).1.1.1
      omega
    · have := (plc_mem.1 hx).1
      have := h.next.1
      omega
  · obtain ⟨p, hp, e1, e2⟩ := segv_mem.1 hy
    have h1 := (h.each p hp (not_free e2)).2
    have h2 := (plc_mem.1 hz).1
    omega
theorem vers_iff {s : St} {x : Ver} : x ∈ vers s ↔ (∃ p ∈ s.1, x.1 = p.1 ∧ p.2[x.2.1]? = some x.2.2) ∨ (x.1 = s.2.2.2 ∧ s.2.2.1[x.2.1]? = some x.2.2) := by
  unfold vers
  rw [List.mem_append, segv_mem, plc_mem]
theorem Ok.le {s : St} (h : Ok s) {x : Ver} (hx : x ∈ vers s) : x.1 ≤ s.2.2.2 := by
  rcases vers_iff.1 hx with ⟨p, hp, e1, e2⟩ | ⟨e, _⟩
  · have := (h.each p hp (not_free e2)).2
    omega
  · omega
/-- Slots of one number are one slot. -/
theorem Ok.slot {s : St} (h : Ok s) {i j : Nat} {p q : Sg} (hi : s.1[i]? = some p) (hj : s.1[j]? = some q) (hf : freeB p = false) (e : p.1 = q.1) : i = j := by
  have hq : freeB q = false := by
    cases hb : freeB q
    · rfl
    · have := (h.each p (List.mem_of_getElem? hi) hf).1.1.1
      have := (free_iff.1 hb).1
      omega
  have key : ∀ (l : List Sg), (seqs l).Nodup → ∀ i j : Nat, i < j → l[i]? = some p → l[j]? = some q → False := by
    intro l hn i j hij h1 h2
    have h3 := nodup_of_take (k := j + 1) hn
    rw [seqs_take h2, if_neg (by rw [hq]; decide)] at h3
    obtain ⟨_, _, h4⟩ := List.nodup_append.1 h3
    refine h4 p.1 ?_ q.1 (List.mem_singleton.2 rfl) e
    unfold seqs
    refine List.mem_map.2 ⟨p, List.mem_filter.2 ⟨?_, by rw [hf]; rfl⟩, rfl⟩
    have : (l.take j)[i]? = some p := by rw [List.getElem?_take, if_pos hij]; exact h1
    exact List.mem_of_getElem? this
  rcases Nat.lt_trichotomy i j with c | c | c
  · exact (key s.1 h.apart i j c hi hj).elim
  · exact c
  · have key2 : ∀ (l : List Sg), (seqs l).Nodup → ∀ i j : Nat, i < j → l[i]? = some q → l[j]? = some p → False := by
      intro l hn i j hij h1 h2
      have h3 := nodup_of_take (k := j + 1) hn
      rw [seqs_take h2, if_neg (by rw [hf]; decide)] at h3
      obtain ⟨_, _, h4⟩ := List.nodup_append.1 h3
      refine h4 q.1 ?_ p.1 (List.mem_singleton.2 rfl) e.symm
      unfold seqs
      refine List.mem_map.2 ⟨q, List.mem_filter.2 ⟨?_, by rw [hq]; rfl⟩, rfl⟩
      have : (l.take j)[i]? = some q := by rw [List.getElem?_take, if_pos hij]; exact h1
      exact List.mem_of_getElem? this
    exact (key2 s.1 h.apart j i c hj hi).elim

/-! Put. -/

theorem pE_zero {s : St} {b : Bk} (h : pE s b = 0) : Ok s ∧ mayB b = true ∧ s.2.2.1.length < 8 := by
  unfold pE at h
  split at h
  · cases h
  · split at h
    · cases h
    · split at h
      · cases h
      · rename_i h1 h2 h3
        exact ⟨ok_iff.1 (by simpa using h1), by simpa using h2, by omega⟩
theorem pE_ok {s : St} {b : Bk} (h : Ok s) (h1 : mayB b = true) (h2 : s.2.2.1.length < 8) : pE s b = 0 := by
  unfold pE
  rw [if_neg (by rw [ok_iff.2 h]; decide), if_neg (by rw [h1]; decide), if_neg (by omega)]
theorem pS_ok {s : St} {b : Bk} (h : pE s b = 0) : Ok (pS s b) := by
  obtain ⟨h1, h2, h3⟩ := pE_zero h
  unfold pS
  rw [if_pos h]
  exact ⟨h1.slots, h1.held, h1.next, by simp only [List.length_append, List.length_singleton]; omega, by simp only [List.all_append, h1.may, List.all_cons, h2, List.all_nil, Bool.and_self], h1.each, h1.apart⟩
theorem pS_last {s : St} {b : Bk} (h : pE s b = 0) (o i : Int) : (last (pS s b) o i).1.2.2 = if o = b.1 ∧ i = b.2.1 then b.2.2 else (last s o i).1.2.2 := by
  obtain ⟨h1, h2, h3⟩ := pE_zero h
  have e : vers (pS s b) = vers s ++ [(s.2.2.2, s.2.2.1.length, b)] := by
    unfold pS vers
    rw [if_pos h]
    simp only
    rw [plc_snoc, List.append_assoc]
  unfold last
  rw [e]
  by_cases hk : o = b.1 ∧ i = b.2.1
  · rw [if_pos hk, hk.1, hk.2, kn_same]
    have hle : (kn (vers s) b.1 b.2.1).2.1 ≤ s.2.2.2 := by
      rcases kn_last b.1 b.2.1 (vers s) h1.wv with ⟨_, k⟩ | ⟨x, k1, _, k3, _⟩
      · rw [k]; have := h1.next.1; show (0 : Int) ≤ _; omega
      · rw [k3]; exact h1.le k1.mem
    unfold knStep
    rw [if_pos hle]
  · rw [if_neg hk, kn_other _ _ _ _ hk]

/-! Seal. -/

theorem sE_zero {s : St} (h : sE s = 0) : Ok s ∧ s.2.2.1 ≠ [] ∧ lowAt s.1 s.2.1 < s.1.length ∧ s.2.2.2 < 1099511627776 := by
  unfold sE at h
  split at h
  · cases h
  · split at h
    · cases h
    · split at h
      · cases h
      · rename_i h1 h2 h3
        exact ⟨ok_iff.1 (by simpa using h1), fun c => h2 (by rw [c]; rfl), by omega, by omega⟩
theorem low_free : ∀ {l : List Sg} {hd : List Bool}, lowAt l hd < l.length → hd.length = l.length → ∃ p, l[lowAt l hd]? = some p ∧ freeB p = true
  | [], _, h, _ => by simp at h
  | _ :: _, [], _, h => by simp at h
  | p :: l, x :: hd, h, hl => by
    by_cases hc : (freeB p && !x) = true
    · have e : lowAt (p :: l) (x :: hd) = 0 := by unfold lowAt; rw [if_pos hc]
      rw [e]
      exact ⟨p, rfl, (by simp only [Bool.and_eq_true] at hc; exact hc.1)⟩
    · have e : lowAt (p :: l) (x :: hd) = lowAt l hd + 1 := by rw [lowAt, if_neg hc]
      rw [e] at h ⊢
      obtain ⟨q, h1, h2⟩ := low_free (l := l) (hd := hd) (by simp at h; omega) (by simpa using hl)
      exact ⟨q, by simpa using h1, h2⟩
theorem seqs_set {l : List Sg} {k : Nat} {p q : Sg} (hk : l[k]? = some p) (hp : freeB p = true) (hq : freeB q = false) (hn : ∀ r ∈ l, freeB r = false → r.1 ≠ q.1) (h : (seqs l).Nodup) : (seqs (l.set k q)).Nodup := by
  have hlt := (List.getElem?_eq_some_iff.1 hk).1
  have e1 : l = l.take k ++ p :: l.drop (k + 1) := by
    have := (List.getElem?_eq_some_iff.1 hk).2
    rw [← this]
    exact (List.take_append_drop k l).symm.trans (by rw [List.drop_eq_getElem_cons hlt])
  have e2 : l.set k q = l.take k ++ q :: l.drop (k + 1) := by rw [List.set_eq_take_append_cons_drop, if_pos hlt]
  have s1 : seqs l = seqs (l.take k) ++ seqs (l.drop (k + 1)) := by
    conv => lhs; rw [e1]
    unfold seqs
    rw [List.filter_append, List.filter_cons, if_neg (by rw [hp]; decide), List.map_append]
  have s2 : seqs (l.set k q) = seqs (l.take k) ++ q.1 :: seqs (l.drop (k + 1)) := by
    rw [e2]
    unfold seqs
    rw [List.filter_append, List.filter_cons, if_pos (by rw [hq]; decide), List.map_append, List.map_cons]
  have hnot : ∀ m : List Sg, (∀ r ∈ m, r ∈ l) → q.1 ∉ seqs m := fun m hm hc => by
    unfold seqs at hc
    obtain ⟨r, hr, e⟩ := List.mem_map.1 hc
    obtain ⟨hr1, hr2⟩ := List.mem_filter.1 hr
    exact hn r (hm r hr1) (by simpa using hr2) e
  rw [s1] at h
  rw [s2]
  obtain ⟨n1, n2, n3⟩ := List.nodup_append.1 h
  refine List.nodup_append.2 ⟨n1, List.nodup_cons.2 ⟨hnot _ fun r hr => List.mem_of_mem_drop hr, n2⟩, fun a ha b hb e => ?_⟩
  rcases List.mem_cons.1 hb with rfl | hb
  · exact hnot _ (fun r hr => List.mem_of_mem_take hr) (e ▸ ha)
  · exact n3 a ha b hb e
theorem mem_set {l : List Sg} {k : Nat} {q r : Sg} (h : r ∈ l.set k q) : r = q ∨ ∃ j : Nat, j ≠ k ∧ l[j]? = some r := by
  obtain ⟨j, hj, e⟩ := List.getElem_of_mem h
  have hj' : (l.set k q)[j]? = some r := by rw [List.getElem?_eq_getElem hj, e]
  by_cases c : j = k
  · subst c
    rw [List.getElem?_set_self (by simpa using hj)] at hj'
    exact .inl (Option.some.inj hj').symm
  · rw [List.getElem?_set_ne (fun e => c e.symm)] at hj'
    exact .inr ⟨j, c, hj'⟩
theorem mem_set_of {l : List Sg} {k j : Nat} {q r : Sg} (h : l[j]? = some r) (hj : j ≠ k) : r ∈ l.set k q :=
  List.mem_of_getElem? (i := j) (by rw [List.getElem?_set_ne (fun e => hj e.symm)]; exact h)
theorem sS_is {s : St} (h : sE s = 0) : sS s = (s.1.set (lowAt s.1 s.2.1) (s.2.2.2, s.2.2.1), s.2.1, [], s.2.2.2 + 1) := by unfold sS; rw [if_pos h]
theorem sS_ok {s : St} (h : sE s = 0) : Ok (sS s) := by
  obtain ⟨h1, h2, h3, h4⟩ := sE_zero h
  obtain ⟨p, hp, hf⟩ := low_free h3 h1.held
  have hq : freeB ((s.2.2.2, s.2.2.1) : Sg) = false := by
    cases hb : freeB ((s.2.2.2, s.2.2.1) : Sg)
    · rfl
    · have h8 := (free_iff.1 hb).1
      have h9 := h1.next.1
      simp only at h8
      omega
  rw [sS_is h]
  refine ⟨by simpa using h1.slots, by simpa using h1.held, by simp only; have := h1.next; omega, by simp, rfl, fun r hr hrf => ?_, seqs_set hp hf hq (fun r hr hrf => ?_) h1.apart⟩
  · rcases mem_set hr with rfl | ⟨j, _, hj⟩
    · refine ⟨⟨⟨h1.next.1, by have := h1.next.2; omega⟩, ⟨?_, h1.few⟩, h1.may⟩, by simp only; omega⟩
      cases hh : s.2.2.1 with
      | nil => exact absurd hh h2
      | cons a t => simp
    · obtain ⟨k1, k2⟩ := h1.each r (List.mem_of_getElem? hj) hrf
      exact ⟨k1, by simp only; omega⟩
  · have := (h1.each r hr hrf).2
    simp only
    omega
theorem sS_mem {s : St} (h : sE s = 0) (x : Ver) : x ∈ vers (sS s) ↔ x ∈ vers s := by
  obtain ⟨h1, h2, h3, h4⟩ := sE_zero h
  obtain ⟨p, hp, hf⟩ := low_free h3 h1.held
  rw [sS_is h, vers_iff, vers_iff]
  simp only
  constructor
  · rintro (⟨r, hr, e1, e2⟩ | ⟨_, e2⟩)
    · rcases mem_set hr with rfl | ⟨j, _, hj⟩
      · exact .inr ⟨e1, e2⟩
      · exact .inl ⟨r, List.mem_of_getElem? hj, e1, e2⟩
    · cases e2
  · rintro (⟨r, hr, e1, e2⟩ | ⟨e1, e2⟩)
    · obtain ⟨j, hj, e⟩ := List.getElem_of_mem hr
      have hj' : s.1[j]? = some r := by rw [List.getElem?_eq_getElem hj, e]
      refine .inl ⟨r, mem_set_of hj' fun c => ?_, e1, e2⟩
      subst c
      rw [hp] at hj'
      obtain rfl := Option.some.inj hj'
      rw [not_free e2] at hf
      cases hf
    · exact .inl ⟨(s.2.2.2, s.2.2.1), List.mem_of_getElem? (i := lowAt s.1 s.2.1) (by rw [List.getElem?_set_self h3]), e1, e2⟩
theorem sS_last {s : St} (h : sE s = 0) (o i : Int) : (last (sS s) o i).1 = (last s o i).1 ∧ (last (sS s) o i).2.1 = (last s o i).2.1 ∧ (last (sS s) o i).2.2.1 = (last s o i).2.2.1 := kn_same_mem (sS_ok h).wv (sE_zero h).1.wv (sS_mem h) o i

/-! Free. -/

theorem uE_zero {s : St} {k : Int} (h : uE s k = 0) : Ok s ∧ ∃ (i : Nat) (p : Sg), k = i ∧ i < s.1.length ∧ s.1[i]? = some p ∧ slotOf s k = p ∧ freeB p = false := by
  unfold uE at h
  split at h
  · cases h
  · split at h
    · cases h
    · rename_i h1 h2
      obtain ⟨i, p, rfl, hi, hp, hf⟩ := used_at (by simpa using h2 : usedB s k = true)
      exact ⟨ok_iff.1 (by simpa using h1), i, p, rfl, hi, hp, by unfold slotOf; simp [hp], hf⟩
theorem seqs_unset {l : List Sg} {k : Nat} {p : Sg} (hk : l[k]? = some p) (h : (seqs l).Nodup) : (seqs (l.set k (0, []))).Nodup := by
  have hlt := (List.getElem?_eq_some_iff.1 hk).1
  have e1 : l = l.take k ++ p :: l.drop (k + 1) := by
    have := (List.getElem?_eq_some_iff.1 hk).2
    rw [← this]
    exact (List.take_append_drop k l).symm.trans (by rw [List.drop_eq_getElem_cons hlt])
  have e2 : l.set k (0, []) = l.take k ++ (0, []) :: l.drop (k + 1) := by rw [List.set_eq_take_append_cons_drop, if_pos hlt]
  have s2 : seqs (l.set k (0, [])) = seqs (l.take k) ++ seqs (l.drop (k + 1)) := by
    rw [e2]
    unfold seqs
    rw [List.filter_append, List.filter_cons, if_neg (by decide), List.map_append]
  have s1 : List.Sublist (seqs (l.take k) ++ seqs (l.drop (k + 1))) (seqs l) := by
    conv => rhs; rw [e1]
    unfold seqs
    rw [← List.map_append, ← List.filter_append]
    refine List.Sublist.map _ (List.Sublist.filter _ ?_)
    exact List.Sublist.append (List.Sublist.refl _) (List.sublist_cons_self _ _)
  rw [s2]
  exact h.sublist s1
/-- The store with a slot made free. -/
def unS (s : St) (k : Nat) : St := (s.1.set k (0, []), s.2.1, s.2.2.1, s.2.2.2)
theorem unS_ok {s : St} {k : Nat} {p : Sg} (h : Ok s) (hk : s.1[k]? = some p) : Ok (unS s k) := by
  refine ⟨by simpa [unS] using h.slots, by simpa [unS] using h.held, h.next, h.few, h.may, fun r hr hf => ?_, seqs_unset hk h.apart⟩
  rcases mem_set hr with rfl | ⟨j, _, hj⟩
  · exact absurd hf (by decide)
  · exact h.each r (List.mem_of_getElem? hj) hf
theorem unS_mem {s : St} {k : Nat} {p : Sg} (h : Ok s) (hk : s.1[k]? = some p) (hf : freeB p = false) (x : Ver) : x ∈ vers (unS s k) ↔ x ∈ vers s ∧ x.1 ≠ p.1 := by
  unfold unS
  rw [vers_iff, vers_iff]
  simp only
  constructor
  · rintro (⟨r, hr, e1, e2⟩ | ⟨e1, e2⟩)
    · rcases mem_set hr with rfl | ⟨j, hj1, hj⟩
      · cases e2
      · exact ⟨.inl ⟨r, List.mem_of_getElem? hj, e1, e2⟩, fun c => hj1 (h.slot hk hj hf (by omega)).symm⟩
    · refine ⟨.inr ⟨e1, e2⟩, fun c => ?_⟩
      have := (h.each p (List.mem_of_getElem? hk) hf).2
      omega
  · rintro ⟨⟨r, hr, e1, e2⟩ | ⟨e1, e2⟩, hne⟩
    · obtain ⟨j, hj, e⟩ := List.getElem_of_mem hr
      have hj' : s.1[j]? = some r := by rw [List.getElem?_eq_getElem hj, e]
      refine .inl ⟨r, mem_set_of hj' fun c => ?_, e1, e2⟩
      subst c
      rw [hk] at hj'
      obtain rfl := Option.some.inj hj'
      exact hne e1
    · exact .inr ⟨e1, e2⟩
theorem isLive_iff {s : St} {x : Ver} : isLive s x = true ↔ (last s x.2.2.1 x.2.2.2.1).2.1 = x.1 ∧ (last s x.2.2.1 x.2.2.2.1).2.2.1 = x.2.1 ∧ (x.2.2.2.2 ≠ [] ∨ 1 < (last s x.2.2.1 x.2.2.2.1).2.2.2) := by
  unfold isLive
  simp only [Bool.and_eq_true, Bool.or_eq_true, Bool.not_eq_true', decide_eq_false_iff_not, decide_eq_true_eq, List.length_eq_zero_iff, and_assoc]
theorem lvs_iff {s : St} {q : Int} {l : List Bk} {b : Bk} : b ∈ lvs s q l ↔ ∃ k : Nat, l[k]? = some b ∧ isLive s (q, k, b) = true := by
  unfold lvs
  rw [List.mem_map]
  constructor
  · rintro ⟨⟨a, k, c⟩, hx, rfl⟩
    obtain ⟨h1, h2⟩ := List.mem_filter.1 hx
    obtain ⟨e1, e2⟩ := plc_mem.1 h1
    simp only at e1 e2
    subst e1
    exact ⟨k, e2, h2⟩
  · rintro ⟨k, h1, h2⟩
    exact ⟨(q, k, b), List.mem_filter.2 ⟨plc_mem.2 ⟨rfl, h1⟩, h2⟩, rfl⟩
/-- One version alone: another one of the same kind makes two. -/
theorem two_count {l : List Ver} {o i : Int} {x y : Ver} (hx : x ∈ l) (hy : y ∈ l) (hne : x ≠ y) (kx : isK o i x = true) (ky : isK o i y = true) : 1 < (kn l o i).2.2.2 := by
  rw [kn_count]
  have m1 := List.mem_filter.2 ⟨hx, kx⟩
  have m2 := List.mem_filter.2 ⟨hy, ky⟩
  match h : l.filter (isK o i) with
  | [] => rw [h] at m1; cases m1
  | [a] => rw [h] at m1 m2; exact absurd ((List.mem_singleton.1 m1).trans (List.mem_singleton.1 m2).symm) hne
  | _ :: _ :: _ => simp
/-- A slot none of whose blocks is live can go: what is got stays. -/
theorem unS_last {s : St} {k : Nat} {p : Sg} (h : Ok s) (hk : s.1[k]? = some p) (hf : freeB p = false) (hl : lvs s p.1 p.2 = []) (o i : Int) : (last (unS s k) o i).1.2.2 = (last s o i).1.2.2 := by
  have hm := unS_mem h hk hf
  have w1 := h.wv
  have w2 := (unS_ok h hk).wv
  have none : ∀ x, IsLast (vers s) o i x → x.1 = p.1 → x.2.2.2.2 = [] ∧ ∀ y ∈ vers s, isK o i y = true → y = x := by
    intro x hx e
    have hkx : o = x.2.2.1 ∧ i = x.2.2.2.1 := by
      have := hx.kind
      simp only [isK, Bool.and_eq_true, decide_eq_true_eq] at this
      exact ⟨this.1.symm, this.2.symm⟩
    have hin : p.2[x.2.1]? = some x.2.2 := by
      rcases vers_iff.1 hx.mem with ⟨r, hr, e1, e2⟩ | ⟨e1, e2⟩
      · obtain ⟨j, hj, ej⟩ := List.getElem_of_mem hr
        have hj' : s.1[j]? = some r := by rw [List.getElem?_eq_getElem hj, ej]
        have := h.slot hk hj' hf (by omega)
        subst this
        rw [hk] at hj'
        obtain rfl := Option.some.inj hj'
        exact e2
      · have := (h.each p (List.mem_of_getElem? hk) hf).2
        omega
    have hnl : isLive s (p.1, x.2.1, x.2.2) = false := by
      cases hb : isLive s (p.1, x.2.1, x.2.2)
      · rfl
      · have := lvs_iff.2 ⟨_, hin, hb⟩
        rw [hl] at this
        cases this
    have hkn : (last s o i).1 = x.2.2 ∧ (last s o i).2.1 = x.1 ∧ (last s o i).2.2.1 = x.2.1 := by
      rcases kn_last o i (vers s) w1 with ⟨g1, _⟩ | ⟨y, g1, g2⟩
      · have := g1 x hx.mem; rw [hx.kind] at this; cases this
      · obtain rfl := hx.eq w1 g1
        exact g2
    have hnot : ¬ ((x.2.2.2.2 ≠ [] ∨ 1 < (last s o i).2.2.2)) := fun c => by
      have : isLive s (p.1, x.2.1, x.2.2) = true := by
        rw [isLive_iff]
        simp only
        rw [← hkx.1, ← hkx.2]
        exact ⟨hkn.2.1.trans e, hkn.2.2, c⟩
      rw [hnl] at this
      cases this
    refine ⟨Classical.byContradiction fun c => hnot (.inl c), fun y hy ky => Classical.byContradiction fun c => hnot (.inr ?_)⟩
    exact two_count hy hx.mem c ky hx.kind
  unfold last
  rcases kn_last o i (vers s) w1 with ⟨g1, g2⟩ | ⟨x, g1, g2, _⟩
  · rcases kn_last o i (vers (unS s k)) w2 with ⟨_, k2⟩ | ⟨y, k1, _⟩
    · rw [g2, k2]
    · have := g1 y ((hm y).1 k1.mem).1; rw [k1.kind] at this; cases this
  · by_cases e : x.1 = p.1
    · obtain ⟨c1, c2⟩ := none x g1 e
      rcases kn_last o i (vers (unS s k)) w2 with ⟨_, k2⟩ | ⟨y, k1, _⟩
      · rw [g2, k2, c1]; rfl
      · obtain ⟨y1, y2⟩ := (hm y).1 k1.mem
        rw [c2 y y1 k1.kind] at y2
        exact absurd e y2
    · rcases kn_last o i (vers (unS s k)) w2 with ⟨k1, _⟩ | ⟨y, k1, k2, _⟩
      · have := k1 x ((hm x).2 ⟨g1.mem, e⟩); rw [g1.kind] at this; cases this
      · have hy : IsLast (vers (unS s k)) o i x := ⟨(hm x).2 ⟨g1.mem, e⟩, g1.kind, fun z hz kz => g1.max z ((hm z).1 hz).1 kz⟩
        obtain rfl := hy.eq w2 k1
        rw [g2, k2]
theorem fE_zero {s : St} {k : Int} (h : fE s k = 0) : uE s k = 0 ∧ lL s k = [] := by
  unfold fE at h
  split at h
  · split at h
    · cases h
    · rename_i h1 h2
      exact ⟨h1, List.eq_nil_of_length_eq_zero (by omega)⟩
  · rename_i h1; exact absurd h h1
theorem fS_is {s : St} {k : Int} (h : fE s k = 0) : fS s k = unS s k.toNat := by unfold fS unS; rw [if_pos h]
theorem fS_ok {s : St} {k : Int} (h : fE s k = 0) : Ok (fS s k) := by
  obtain ⟨h1, i, p, rfl, hi, hp, _⟩ := uE_zero (fE_zero h).1
  rw [fS_is h]
  exact unS_ok h1 hp
theorem fS_last {s : St} {k : Int} (h : fE s k = 0) (o i : Int) : (last (fS s k) o i).1.2.2 = (last s o i).1.2.2 := by
  obtain ⟨h0, hl⟩ := fE_zero h
  unfold lL at hl
  rw [if_pos h0] at hl
  obtain ⟨h1, j, p, rfl, hi, hp, e, hf⟩ := uE_zero h0
  rw [e] at hl
  rw [fS_is h]
  exact unS_last h1 hp hf hl o i

/-! What is live is got. -/

theorem live_got {s : St} {k : Int} {b : Bk} (h : uE s k = 0) (hb : b ∈ lL s k) : gB s b.1 b.2.1 = b.2.2 := by
  unfold lL at hb
  rw [if_pos h] at hb
  obtain ⟨h1, j, p, rfl, hi, hp, e, hf⟩ := uE_zero h
  rw [e] at hb
  obtain ⟨c, h2, h3⟩ := lvs_iff.1 hb
  obtain ⟨l1, l2, _⟩ := isLive_iff.1 h3
  simp only at l1 l2
  unfold gB
  rw [if_pos (ok_iff.2 h1)]
  unfold last at l1 l2 ⊢
  have hm : ((p.1, c, b) : Ver) ∈ vers s := vers_iff.2 (.inl ⟨p, List.mem_of_getElem? hp, rfl, h2⟩)
  rcases kn_last b.1 b.2.1 (vers s) h1.wv with ⟨g1, _⟩ | ⟨x, g1, g2, g3, g4⟩
  · have := g1 _ hm; simp [isK] at this
  · have : x = (p.1, c, b) := h1.wv.one g1.mem hm (by rw [← g3, l1]) (by rw [← g4, l2])
    rw [g2, this]
theorem AllOf.same {s t : St} {L : List Bk} (h : AllOf s L) (e : ∀ o i, (last t o i).1.2.2 = (last s o i).1.2.2) : AllOf t L := ⟨h.up, fun b => (h.mem b).trans (by unfold isThere; rw [e])⟩

end Go.Proofs.Ytkpckadicjdieab

/-
  Score: the program's and the document's.
-/
namespace Go.Proofs.Ytkpckadicjdieab
open Go.RowKit

/-- May a score be told? -/
def scOk (q l n : Int) : Prop := 1 ≤ q ∧ q ≤ 1099511627776 ∧ 0 ≤ l ∧ l ≤ 8 ∧ q ≤ n ∧ n ≤ 1099511627776
def scB (q l n : Int) : Bool := decide (1 ≤ q) && decide (q ≤ 1099511627776) && decide (0 ≤ l) && decide (l ≤ 8) && decide (q ≤ n) && decide (n ≤ 1099511627776)
theorem scB_iff {q l n : Int} : scB q l n = true ↔ scOk q l n := by
  unfold scB scOk
  simp only [Bool.and_eq_true, decide_eq_true_eq, and_assoc]
def scE (q l n : Int) : Int := if scB q l n = true then 0 else 4
def scV (q l n : Int) : Int := if scB q l n = true then 64 * (8 - l) * (n - q) / (8 + l) else 0
theorem sc_no {q l n : Int} (h : ¬ scOk q l n) : scV q l n = 0 := if_neg fun c => h (scB_iff.1 c)
theorem sc_no2 {q l n : Int} (h : ¬ scOk q l n) : scE q l n = 4 := if_neg fun c => h (scB_iff.1 c)
theorem sc_yes {q l n : Int} (h : scOk q l n) : scV q l n = 64 * (8 - l) * (n - q) / (8 + l) := if_pos (scB_iff.2 h)
theorem sc_yes2 {q l n : Int} (h : scOk q l n) : scE q l n = 0 := if_pos (scB_iff.2 h)

set_option maxRecDepth 100000 in
set_option maxHeartbeats 4000000 in
theorem score_any (q l n : Int) (w : World) (hq : I64 q) (hl : I64 l) (hn : I64 n) :
    Calls Try.prog 16 #[.int .i64 q, .int .i64 l, .int .i64 n] w fun e w' => e = .returned (.tuple #[.int .i64 (scV q l n), .int .i64 (scE q l n)]) ∧ w = w' := by
  obtain ⟨post, hpost⟩ : ∃ post : Ending → World → Prop, post = fun e w' => e = .returned (.tuple #[.int .i64 (scV q l n), .int .i64 (scE q l n)]) ∧ w = w' := ⟨_, rfl⟩
  have HNO : Hid (¬ scOk q l n → post (.returned (.tuple #[.int .i64 0, .int .i64 4])) w) := fun h => by rw [hpost, sc_no h, sc_no2 h]; exact ⟨rfl, rfl⟩
  have HYES : Hid (∀ r, scOk q l n → r = 64 * (8 - l) * (n - q) / (8 + l) → post (.returned (.tuple #[.int .i64 r, .int .i64 0])) w) := fun r h e => by rw [hpost, sc_yes h, sc_yes2 h, e]; exact ⟨rfl, rfl⟩
  rw [← hpost]
  clear hpost
  obtain ⟨hq1, hq2⟩ := hq
  obtain ⟨hl1, hl2⟩ := hl
  obtain ⟨hn1, hn2⟩ := hn
  by_cases h0 : q < 1
  · have HQ : Hid (post (.returned (.tuple #[.int .i64 0, .int .i64 4])) w) := HNO.out fun h => by unfold scOk at h; omega
    go_enter Try.func16, Try.ntmps16
    go_wp2
    exact HQ.out
  by_cases h1 : 1099511627776 < q
  · have HQ : Hid (post (.returned (.tuple #[.int .i64 0, .int .i64 4])) w) := HNO.out fun h => by unfold scOk at h; omega
    go_enter Try.func16, Try.ntmps16
    go_wp2
    exact HQ.out
  by_cases h2 : l < 0
  · have HQ : Hid (post (.returned (.tuple #[.int .i64 0, .int .i64 4])) w) := HNO.out fun h => by unfold scOk at h; omega
    go_enter Try.func16, Try.ntmps16
    go_wp2
    exact HQ.out
  by_cases h3 : 8 < l
  · have HQ : Hid (post (.returned (.tuple #[.int .i64 0, .int .i64 4])) w) := HNO.out fun h => by unfold scOk at h; omega
    go_enter Try.func16, Try.ntmps16
    go_wp2
    exact HQ.out
  by_cases h4 : n < q
  · have HQ : Hid (post (.returned (.tuple #[.int .i64 0, .int .i64 4])) w) := HNO.out fun h => by unfold scOk at h; omega
    go_enter Try.func16, Try.ntmps16
    go_wp2
    exact HQ.out
  by_cases h5 : 1099511627776 < n
  · have HQ : Hid (post (.returned (.tuple #[.int .i64 0, .int .i64 4])) w) := HNO.out fun h => by unfold scOk at h; omega
    go_enter Try.func16, Try.ntmps16
    go_wp2
    exact HQ.out
  have hl : l = 0 ∨ l = 1 ∨ l = 2 ∨ l = 3 ∨ l = 4 ∨ l = 5 ∨ l = 6 ∨ l = 7 ∨ l = 8 := by omega
  clear hl1 hl2 h2 h3
  rcases hl with rfl | rfl | rfl | rfl | rfl | rfl | rfl | rfl | rfl
  · have HQ : Hid (∀ r, r = 512 * (n - q) / 8 → post (.returned (.tuple #[.int .i64 r, .int .i64 0])) w) := fun r e => HYES.out r (by unfold scOk; omega) (by omega)
    go_enter Try.func16, Try.ntmps16
    go_wp2
    exact HQ.out _ (by omega)
  · have HQ : Hid (∀ r, r = 448 * (n - q) / 9 → post (.returned (.tuple #[.int .i64 r, .int .i64 0])) w) := fun r e => HYES.out r (by unfold scOk; omega) (by omega)
    go_enter Try.func16, Try.ntmps16
    go_wp2
    exact HQ.out _ (by omega)
  · have HQ : Hid (∀ r, r = 384 * (n - q) / 10 → post (.returned (.tuple #[.int .i64 r, .int .i64 0])) w) := fun r e => HYES.out r (by unfold scOk; omega) (by omega)
    go_enter Try.func16, Try.ntmps16
    go_wp2
    exact HQ.out _ (by omega)
  · have HQ : Hid (∀ r, r = 320 * (n - q) / 11 → post (.returned (.tuple #[.int .i64 r, .int .i64 0])) w) := fun r e => HYES.out r (by unfold scOk; omega) (by omega)
    go_enter Try.func16, Try.ntmps16
    go_wp2
    exact HQ.out _ (by omega)
  · have HQ : Hid (∀ r, r = 256 * (n - q) / 12 → post (.returned (.tuple #[.int .i64 r, .int .i64 0])) w) := fun r e => HYES.out r (by unfold scOk; omega) (by omega)
    go_enter Try.func16, Try.ntmps16
    go_wp2
    exact HQ.out _ (by omega)
  · have HQ : Hid (∀ r, r = 192 * (n - q) / 13 → post (.returned (.tuple #[.int .i64 r, .int .i64 0])) w) := fun r e => HYES.out r (by unfold scOk; omega) (by omega)
    go_enter Try.func16, Try.ntmps16
    go_wp2
    exact HQ.out _ (by omega)
  · have HQ : Hid (∀ r, r = 128 * (n - q) / 14 → post (.returned (.tuple #[.int .i64 r, .int .i64 0])) w) := fun r e => HYES.out r (by unfold scOk; omega) (by omega)
    go_enter Try.func16, Try.ntmps16
    go_wp2
    exact HQ.out _ (by omega)
  · have HQ : Hid (∀ r, r = 64 * (n - q) / 15 → post (.returned (.tuple #[.int .i64 r, .int .i64 0])) w) := fun r e => HYES.out r (by unfold scOk; omega) (by omega)
    go_enter Try.func16, Try.ntmps16
    go_wp2
    exact HQ.out _ (by omega)
  · have HQ : Hid (∀ r, r = 0 * (n - q) / 16 → post (.returned (.tuple #[.int .i64 r, .int .i64 0])) w) := fun r e => HYES.out r (by unfold scOk; omega) (by omega)
    go_enter Try.func16, Try.ntmps16
    go_wp2
    exact HQ.out _ (by omega)

end Go.Proofs.Ytkpckadicjdieab

/-
  Plain mathematics of a cleaning: live blocks written once more behind all others, the slot made free.
-/
namespace Go.Proofs.Ytkpckadicjdieab

/-- A block put, with room made ahead of it. -/
def ptE (t : St) (b : Bk) : Int := if t.2.2.1.length = 8 then (if sE t = 0 then pE (sS t) b else sE t) else pE t b
def ptS (t : St) (b : Bk) : St := if t.2.2.1.length = 8 then (if sE t = 0 then pS (sS t) b else s0) else pS t b
/-- Several ones. -/
def mvE : List Bk → St → Int
  | [], _ => 0
  | b :: l, t => if ptE t b = 0 then mvE l (ptS t b) else ptE t b
def mvS : List Bk → St → St
  | [], t => t
  | b :: l, t => if ptE t b = 0 then mvS l (ptS t b) else s0
def movE (l : List Bk) (s : St) : Int := if l = [] then 0 else if mvE l s = 0 then sE (mvS l s) else mvE l s
def movS (l : List Bk) (s : St) : St := if l = [] then s else if mvE l s = 0 then sS (mvS l s) else s0
/-- What Clean answers. -/
def clE (s : St) (k q : Int) : Int := if uE s k = 0 then (if (slotOf s k).1 = q then movE (lL s k) s else 81) else uE s k
def clS (s : St) (k q : Int) : St := if clE s k q = 0 then unS (movS (lL s k) s) k.toNat else s0

theorem mv_append (m : List Bk) : ∀ (l : List Bk) (t : St), mvE (l ++ m) t = (if mvE l t = 0 then mvE m (mvS l t) else mvE l t) ∧ mvS (l ++ m) t = (if mvE l t = 0 then mvS m (mvS l t) else s0)
  | [], t => ⟨rfl, rfl⟩
  | b :: l, t => by
    by_cases h : ptE t b = 0
    · have := mv_append m l (ptS t b)
      simpa [mvE, mvS, h] using this
    · simp [mvE, mvS, h]
theorem mv_snoc {l : List Bk} {t : St} {b : Bk} (h : mvE l t = 0) : mvE (l ++ [b]) t = ptE (mvS l t) b ∧ (ptE (mvS l t) b = 0 → mvS (l ++ [b]) t = ptS (mvS l t) b) := by
  have := mv_append [b] l t
  rw [if_pos h, if_pos h] at this
  refine ⟨?_, fun h1 => ?_⟩
  · rw [this.1]
    by_cases h1 : ptE (mvS l t) b = 0 <;> simp [mvE, h1]
  · rw [this.2]; simp [mvS, h1]
theorem mv_stop {l m : List Bk} {t : St} {e : Int} (h : mvE l t = e) (he : e ≠ 0) : mvE (l ++ m) t = e := by
  have := (mv_append m l t).1
  rw [h, if_neg he] at this
  exact this
/-- A store in which the blocks l of the slot i (it has p) have been written once more. -/
structure Mvd (s : St) (p : Sg) (i : Nat) (l : List Bk) (t : St) : Prop where
  ok : Ok t
  slot : t.1[i]? = some p
  next : s.2.2.2 ≤ t.2.2.2
  got : ∀ o i, (last t o i).1.2.2 = (last s o i).1.2.2
  old : ∀ x ∈ vers t, x ∈ vers s ∨ (p.1 < x.1 ∧ x.2.2 ∈ l)
  kept : ∀ x ∈ vers s, x ∈ vers t
  new : ∀ b ∈ l, ∃ x ∈ vers t, isK b.1 b.2.1 x = true ∧ p.1 < x.1
theorem Mvd.start {s : St} {p : Sg} {i : Nat} (h : Ok s) (hp : s.1[i]? = some p) : Mvd s p i [] s := ⟨h, hp, Int.le_refl _, fun _ _ => rfl, fun _ hx => .inl hx, fun _ hx => hx, fun _ hb => by cases hb⟩
theorem Mvd.seal {s t : St} {p : Sg} {i : Nat} {l : List Bk} (h : Mvd s p i l t) (hf : freeB p = false) (he : sE t = 0) : Mvd s p i l (sS t) := by
  obtain ⟨h1, h2, h3, h4⟩ := sE_zero he
  have hm := sS_mem he
  refine ⟨sS_ok he, ?_, ?_, fun o j => ?_, fun x hx => h.old x ((hm x).1 hx), fun x hx => (hm x).2 (h.kept x hx), fun b hb => ?_⟩
  · rw [sS_is he]
    obtain ⟨q, hq, hqf⟩ := low_free h3 h1.held
    have hne : lowAt t.1 t.2.1 ≠ i := fun c => by
      rw [c, h.slot] at hq
      obtain rfl := Option.some.inj hq
      rw [hf] at hqf
      cases hqf
    simp only
    rw [List.getElem?_set_ne hne]
    exact h.slot
  · rw [sS_is he]
    have := h.next
    simp only
    omega
  · rw [(sS_last he o j).1]
    exact h.got o j
  · obtain ⟨x, hx, h5⟩ := h.new b hb
    exact ⟨x, (hm x).2 hx, h5⟩
theorem Mvd.put {s t : St} {p : Sg} {i : Nat} {l : List Bk} {b : Bk} (h : Mvd s p i l t) (hp : p.1 < s.2.2.2) (hb : (last s b.1 b.2.1).1.2.2 = b.2.2) (he : pE t b = 0) : Mvd s p i (l ++ [b]) (pS t b) := by
  obtain ⟨h1, h2, h3⟩ := pE_zero he
  have e : vers (pS t b) = vers t ++ [(t.2.2.2, t.2.2.1.length, b)] := by
    unfold pS vers
    rw [if_pos he]
    simp only
    rw [plc_snoc, List.append_assoc]
  have hn := h.next
  refine ⟨pS_ok he, ?_, ?_, fun o j => ?_, fun x hx => ?_, fun x hx => ?_, fun c hc => ?_⟩
  · unfold pS; rw [if_pos he]; exact h.slot
  · unfold pS; rw [if_pos he]; exact h.next
  · rw [pS_last he]
    by_cases hk : o = b.1 ∧ j = b.2.1
    · rw [if_pos hk, hk.1, hk.2, hb]
    · rw [if_neg hk]; exact h.got o j
  · rw [e] at hx
    rcases List.mem_append.1 hx with hx | hx
    · rcases h.old x hx with c | ⟨c1, c2⟩
      · exact .inl c
      · exact .inr ⟨c1, List.mem_append_left _ c2⟩
    · rw [List.mem_singleton.1 hx]
      exact .inr ⟨by simp only; omega, List.mem_append_right _ (List.mem_singleton.2 rfl)⟩
  · rw [e]; exact List.mem_append_left _ (h.kept x hx)
  · rw [e]
    rcases List.mem_append.1 hc with hc | hc
    · obtain ⟨x, hx, h5⟩ := h.new c hc
      exact ⟨x, List.mem_append_left _ hx, h5⟩
    · rw [List.mem_singleton.1 hc]
      exact ⟨_, List.mem_append_right _ (List.mem_singleton.2 rfl), by simp [isK], by simp only; omega⟩
theorem ptE_is {t : St} {b : Bk} (h : Ok t) (hb : mayB b = true) : (t.2.2.1.length < 8 ∧ ptE t b = 0 ∧ pE t b = 0 ∧ ptS t b = pS t b) ∨ (t.2.2.1.length = 8 ∧ sE t = 0 ∧ ptE t b = 0 ∧ pE (sS t) b = 0 ∧ ptS t b = pS (sS t) b) ∨ (t.2.2.1.length = 8 ∧ sE t ≠ 0 ∧ ptE t b = sE t ∧ ptS t b = s0) := by
  have := h.few
  unfold ptE ptS
  by_cases c : t.2.2.1.length = 8
  · rw [if_pos c, if_pos c]
    by_cases d : sE t = 0
    · rw [if_pos d, if_pos d]
      have : pE (sS t) b = 0 := pE_ok (sS_ok d) hb (by rw [sS_is d]; simp)
      exact .inr (.inl ⟨c, d, this, this, rfl⟩)
    · rw [if_neg d, if_neg d]
      exact .inr (.inr ⟨c, d, rfl, rfl⟩)
  · rw [if_neg c, if_neg c]
    have : pE t b = 0 := pE_ok h hb (by omega)
    exact .inl ⟨by omega, this, this, rfl⟩
theorem Mvd.pt {s t : St} {p : Sg} {i : Nat} {l : List Bk} {b : Bk} (h : Mvd s p i l t) (hf : freeB p = false) (hp : p.1 < s.2.2.2) (hm : mayB b = true) (hb : (last s b.1 b.2.1).1.2.2 = b.2.2) (he : ptE t b = 0) : Mvd s p i (l ++ [b]) (ptS t b) := by
  rcases ptE_is h.ok hm with ⟨_, _, h1, h2⟩ | ⟨_, h0, _, h1, h2⟩ | ⟨_, h0, h1, _⟩
  · rw [h2]; exact h.put hp hb h1
  · rw [h2]; exact (h.seal hf h0).put hp hb h1
  · rw [h1] at he; exact absurd he h0
theorem Mvd.all {s : St} {p : Sg} {i : Nat} (hf : freeB p = false) (hp : p.1 < s.2.2.2) : ∀ {m l : List Bk} {t : St}, Mvd s p i l t → (∀ b ∈ m, mayB b = true ∧ (last s b.1 b.2.1).1.2.2 = b.2.2) → mvE m t = 0 → Mvd s p i (l ++ m) (mvS m t)
  | [], l, t, h, _, _ => by rw [List.append_nil]; exact h
  | b :: m, l, t, h, hm, he => by
    unfold mvE at he
    split at he
    · rename_i h1
      obtain ⟨k1, k2⟩ := hm b (List.mem_cons_self ..)
      have := Mvd.all hf hp (h.pt hf hp k1 k2 h1) (fun c hc => hm c (List.mem_cons_of_mem _ hc)) he
      rw [List.append_assoc] at this
      unfold mvS
      rw [if_pos h1]
      exact this
    · rename_i h1
      exact absurd he h1
theorem two_of_count {l : List Ver} {o i : Int} (hw : WV l) (h : 1 < (kn l o i).2.2.2) : ∃ x ∈ l, ∃ y ∈ l, x ≠ y ∧ isK o i x = true ∧ isK o i y = true := by
  rw [kn_count] at h
  match e : l.filter (isK o i) with
  | [] => rw [e] at h; simp at h
  | [a] => rw [e] at h; simp at h
  | a :: b :: m =>
    have ma : a ∈ l.filter (isK o i) := by rw [e]; exact List.mem_cons_self ..
    have mb : b ∈ l.filter (isK o i) := by rw [e]; exact List.mem_cons_of_mem _ (List.mem_cons_self ..)
    have hs : (a :: b :: m).Pairwise fun y z => y.1 = z.1 → y.2.1 < z.2.1 := by rw [← e]; exact hw.up.filter _
    refine ⟨a, (List.mem_filter.1 ma).1, b, (List.mem_filter.1 mb).1, fun c => ?_, (List.mem_filter.1 ma).2, (List.mem_filter.1 mb).2⟩
    have := (List.pairwise_cons.1 hs).1 b (List.mem_cons_self ..) (by rw [c])
    rw [c] at this
    omega
theorem Mvd.dead {s t : St} {p : Sg} {i : Nat} (h : Mvd s p i (lvs s p.1 p.2) t) (hs : Ok s) (hp : s.1[i]? = some p) : lvs t p.1 p.2 = [] := by
  have w1 := hs.wv
  have w2 := h.ok.wv
  refine List.eq_nil_iff_forall_not_mem.2 fun b hb => ?_
  obtain ⟨c, h1, h2⟩ := lvs_iff.1 hb
  obtain ⟨l1, l2, l3⟩ := isLive_iff.1 h2
  simp only at l1 l2 l3
  have hv : ((p.1, c, b) : Ver) ∈ vers s := vers_iff.2 (.inl ⟨p, List.mem_of_getElem? hp, rfl, h1⟩)
  have hv2 := h.kept _ hv
  have kb : isK b.1 b.2.1 (p.1, c, b) = true := by simp [isK]
  have hlast : IsLast (vers t) b.1 b.2.1 (p.1, c, b) := by
    unfold last at l1 l2
    rcases kn_last b.1 b.2.1 (vers t) w2 with ⟨g1, _⟩ | ⟨x, g1, g2, g3, g4⟩
    · have := g1 _ hv2; rw [kb] at this; cases this
    · have : x = (p.1, c, b) := w2.one g1.mem hv2 (by rw [← g3, l1]) (by rw [← g4, l2])
      rw [← this]
      exact g1
  have hkind : ∀ y ∈ vers t, isK b.1 b.2.1 y = true → y ∈ vers s := fun y hy ky => by
    rcases h.old y hy with c1 | ⟨c1, c2⟩
    · exact c1
    · have := hlast.max y hy ky
      unfold vLe at this
      simp only at this
      omega
  have hl2 : IsLast (vers s) b.1 b.2.1 (p.1, c, b) := ⟨hv, kb, fun y hy ky => hlast.max y (h.kept y hy) ky⟩
  have hkn : (last s b.1 b.2.1).2.1 = p.1 ∧ (last s b.1 b.2.1).2.2.1 = c := by
    unfold last
    rcases kn_last b.1 b.2.1 (vers s) w1 with ⟨g1, _⟩ | ⟨x, g1, _, g3, g4⟩
    · have := g1 _ hv; rw [kb] at this; cases this
    · have : x = (p.1, c, b) := g1.eq w1 hl2
      rw [g3, g4, this]
      exact ⟨rfl, rfl⟩
  have hbs : b ∈ lvs s p.1 p.2 := by
    refine lvs_iff.2 ⟨c, h1, isLive_iff.2 ⟨hkn.1, hkn.2, ?_⟩⟩
    rcases l3 with l3 | l3
    · exact .inl l3
    · right
      obtain ⟨x, hx, y, hy, hne, kx, ky⟩ := two_of_count w2 l3
      exact two_count (hkind x hx kx) (hkind y hy ky) hne kx ky
  obtain ⟨x, hx, kx, hlt⟩ := h.new b hbs
  have := hlast.max x hx kx
  unfold vLe at this
  simp only at this
  omega
theorem live_may {s : St} {p : Sg} {i : Nat} (h : Ok s) (hp : s.1[i]? = some p) {b : Bk} (hb : b ∈ lvs s p.1 p.2) : mayB b = true ∧ (last s b.1 b.2.1).1.2.2 = b.2.2 := by
  refine ⟨h.data p (List.mem_of_getElem? hp) b (lvs_mem hb), ?_⟩
  obtain ⟨c, h2, h3⟩ := lvs_iff.1 hb
  obtain ⟨l1, l2, _⟩ := isLive_iff.1 h3
  simp only at l1 l2
  unfold last at l1 l2 ⊢
  have hm : ((p.1, c, b) : Ver) ∈ vers s := vers_iff.2 (.inl ⟨p, List.mem_of_getElem? hp, rfl, h2⟩)
  rcases kn_last b.1 b.2.1 (vers s) h.wv with ⟨g1, _⟩ | ⟨x, g1, g2, g3, g4⟩
  · have := g1 _ hm; simp [isK] at this
  · have : x = (p.1, c, b) := h.wv.one g1.mem hm (by rw [← g3, l1]) (by rw [← g4, l2])
    rw [g2, this]
/-- What Clean's parts are where it is not refused ahead. -/
theorem mov_ok {s : St} {p : Sg} {i : Nat} (h : Ok s) (hp : s.1[i]? = some p) (hf : freeB p = false) (he : movE (lvs s p.1 p.2) s = 0) : Mvd s p i (lvs s p.1 p.2) (movS (lvs s p.1 p.2) s) := by
  have h9 := (h.each p (List.mem_of_getElem? hp) hf).2
  obtain ⟨l, hl⟩ : ∃ l, l = lvs s p.1 p.2 := ⟨_, rfl⟩
  have hm : ∀ b ∈ l, mayB b = true ∧ (last s b.1 b.2.1).1.2.2 = b.2.2 := fun b hb => live_may h hp (by rw [← hl]; exact hb)
  rw [← hl] at he ⊢
  unfold movE at he
  unfold movS
  by_cases c : l = []
  · rw [if_pos c, c]
    exact Mvd.start h hp
  · rw [if_neg c] at he ⊢
    split at he
    · rename_i h1
      rw [if_pos h1]
      have := Mvd.all hf h9 (Mvd.start h hp) hm h1
      rw [List.nil_append] at this
      exact this.seal hf he
    · rename_i h1
      exact absurd he h1
theorem clE_zero {s : St} {k q : Int} (h : clE s k q = 0) : uE s k = 0 ∧ (slotOf s k).1 = q ∧ movE (lL s k) s = 0 := by
  unfold clE at h
  split at h
  · split at h
    · rename_i h1 h2; exact ⟨h1, h2, h⟩
    · cases h
  · rename_i h1; exact absurd h h1
theorem cl_parts {s : St} {k q : Int} (h : clE s k q = 0) : ∃ (i : Nat) (p : Sg), k = i ∧ Ok s ∧ s.1[i]? = some p ∧ freeB p = false ∧ p.1 = q ∧ Mvd s p i (lL s k) (movS (lL s k) s) ∧ lvs (movS (lL s k) s) p.1 p.2 = [] := by
  obtain ⟨h1, h2, h3⟩ := clE_zero h
  obtain ⟨h4, i, p, rfl, hi, hp, e, hf⟩ := uE_zero h1
  have hl : lL s (i : Int) = lvs s p.1 p.2 := by unfold lL; rw [if_pos h1, e]
  rw [hl] at h3 ⊢
  rw [e] at h2
  have hM := mov_ok h4 hp hf h3
  exact ⟨i, p, rfl, h4, hp, hf, h2, hM, hM.dead h4 hp⟩
/-- The program's last step, Free, is not refused. -/
theorem cl_free {s : St} {k q : Int} (h : clE s k q = 0) : fE (movS (lL s k) s) k = 0 ∧ fS (movS (lL s k) s) k = clS s k q := by
  obtain ⟨i, p, rfl, h4, hp, hf, h2, hM, hd⟩ := cl_parts h
  obtain ⟨t, ht⟩ : ∃ t, t = movS (lL s (i : Int)) s := ⟨_, rfl⟩
  have e : clS s (i : Int) q = unS t i := by unfold clS; rw [if_pos h, ← ht]; simp
  rw [← ht] at hM hd ⊢
  have hu : uE t (i : Int) = 0 := by
    unfold uE usedB
    rw [ok_iff.2 hM.ok]
    simp [hM.slot, hf]
  have hsl : slotOf t (i : Int) = p := by unfold slotOf; simp [hM.slot]
  have hE : fE t (i : Int) = 0 := by
    unfold fE lL
    rw [if_pos hu, if_pos hu, hsl, hd]
    rfl
  exact ⟨hE, by rw [fS_is hE, e]; simp⟩
theorem clS_ok {s : St} {k q : Int} (h : clE s k q = 0) : Ok (clS s k q) := by
  rw [← (cl_free h).2]
  exact fS_ok (cl_free h).1
/-- Nothing is lost. -/
theorem clS_last {s : St} {k q : Int} (h : clE s k q = 0) (o i : Int) : (last (clS s k q) o i).1.2.2 = (last s o i).1.2.2 := by
  obtain ⟨_, _, _, _, _, _, _, hM, _⟩ := cl_parts h
  rw [← (cl_free h).2, fS_last (cl_free h).1]
  exact hM.got o i
theorem clS_free {s : St} {k q : Int} (h : clE s k q = 0) : ∃ i : Nat, k = i ∧ i < (clS s k q).1.length ∧ (clS s k q).1[i]? = some (0, []) := by
  obtain ⟨i, p, rfl, h4, hp, hf, h2, hM, hd⟩ := cl_parts h
  have e : clS s (i : Int) q = unS (movS (lL s (i : Int)) s) i := by unfold clS; rw [if_pos h]; simp
  have hi := (List.getElem?_eq_some_iff.1 hM.slot).1
  refine ⟨i, rfl, ?_, ?_⟩
  · rw [e]; unfold unS; simpa using hi
  · rw [e]; unfold unS; simp only; rw [List.getElem?_set_self hi]
theorem clS_no {s : St} {k q : Int} (h : clE s k q ≠ 0) : clS s k q = s0 := if_neg h

end Go.Proofs.Ytkpckadicjdieab

/-
  Plain mathematics: which numbers a cleaning answers.
-/
namespace Go.Proofs.Ytkpckadicjdieab

theorem sE_some {t : St} (h : Ok t) (hn : t.2.2.1 ≠ []) : sE t = 0 ∨ sE t = 51 := by
  unfold sE
  rw [if_neg (by rw [ok_iff.2 h]; decide), if_neg (fun c => hn (List.eq_nil_of_length_eq_zero c))]
  split
  · exact .inr rfl
  · exact .inl rfl
theorem ptE_some {t : St} {b : Bk} (h : Ok t) (hb : mayB b = true) : (ptE t b = 0 ∧ Ok (ptS t b) ∧ (ptS t b).2.2.1 ≠ []) ∨ ptE t b = 51 := by
  rcases ptE_is h hb with ⟨_, h1, h2, h3⟩ | ⟨_, h0, h1, h2, h3⟩ | ⟨h4, h0, h1, _⟩
  · refine .inl ⟨h1, by rw [h3]; exact pS_ok h2, ?_⟩
    rw [h3]
    unfold pS
    rw [if_pos h2]
    simp
  · refine .inl ⟨h1, by rw [h3]; exact pS_ok h2, ?_⟩
    rw [h3]
    unfold pS
    rw [if_pos h2]
    simp
  · rcases sE_some h (fun c => by rw [c] at h4; simp at h4) with c | c
    · exact absurd c h0
    · exact .inr (h1.trans c)
theorem mv_some : ∀ (l : List Bk) (t : St), Ok t → (∀ b ∈ l, mayB b = true) → (mvE l t = 0 ∧ Ok (mvS l t) ∧ (l ≠ [] → (mvS l t).2.2.1 ≠ [])) ∨ mvE l t = 51
  | [], t, h, _ => .inl ⟨rfl, h, fun c => absurd rfl c⟩
  | b :: l, t, h, hm => by
    rcases ptE_some h (hm b (List.mem_cons_self ..)) with ⟨h1, h2, h3⟩ | h1
    · unfold mvE mvS
      rw [if_pos h1, if_pos h1]
      rcases mv_some l (ptS t b) h2 (fun c hc => hm c (List.mem_cons_of_mem _ hc)) with ⟨k1, k2, k3⟩ | k1
      · refine .inl ⟨k1, k2, fun _ => ?_⟩
        by_cases hl : l = []
        · subst hl; exact h3
        · exact k3 hl
      · exact .inr k1
    · right
      unfold mvE
      rw [if_neg (by rw [h1]; decide)]
      exact h1
theorem mov_some {s : St} {p : Sg} {i : Nat} (h : Ok s) (hp : s.1[i]? = some p) : movE (lvs s p.1 p.2) s = 0 ∨ movE (lvs s p.1 p.2) s = 51 := by
  unfold movE
  by_cases c : lvs s p.1 p.2 = []
  · rw [if_pos c]; exact .inl rfl
  · rw [if_neg c]
    rcases mv_some (lvs s p.1 p.2) s h (fun b hb => (live_may h hp hb).1) with ⟨k1, k2, k3⟩ | k1
    · rw [if_pos k1]; exact sE_some k2 (k3 c)
    · rw [if_neg (by rw [k1]; decide)]; exact .inr k1
theorem cl_cases (s : St) (k q : Int) : (¬ Ok s ∧ clE s k q = 9) ∨ (Ok s ∧ clE s k q = 71 ∧ (k < 0 ∨ (s.1.length : Int) ≤ k ∨ ∃ (i : Nat) (p : Sg), k = i ∧ i < s.1.length ∧ s.1[i]? = some p ∧ p.1 = 0)) ∨
    (Ok s ∧ ∃ (i : Nat) (p : Sg), k = i ∧ i < s.1.length ∧ s.1[i]? = some p ∧ p.1 ≠ 0 ∧ ((p.1 ≠ q ∧ clE s k q = 81) ∨ (p.1 = q ∧ (clE s k q = 0 ∨ clE s k q = 51)))) := by
  by_cases h : Ok s
  case neg =>
    left
    refine ⟨h, ?_⟩
    have : uE s k = 9 := by
      unfold uE
      rw [if_pos (by cases hb : okB s with | false => rfl | true => exact absurd (ok_iff.1 hb) h)]
    unfold clE
    rw [if_neg (by rw [this]; decide)]
    exact this
  right
  cases hu : usedB s k
  · left
    have h1 : uE s k = 71 := by unfold uE; rw [if_neg (by rw [ok_iff.2 h]; decide), if_pos hu]
    refine ⟨h, by unfold clE; rw [if_neg (by rw [h1]; decide)]; exact h1, ?_⟩
    by_cases h2 : k < 0
    · exact .inl h2
    · by_cases h3 : (s.1.length : Int) ≤ k
      · exact .inr (.inl h3)
      · obtain ⟨p, hp⟩ := get_lt (l := s.1) (k := k.toNat) (by omega)
        refine .inr (.inr ⟨k.toNat, p, by omega, by omega, hp, ?_⟩)
        unfold usedB at hu
        rw [hp] at hu
        simp only [Option.map_some, Option.getD_some, Bool.and_eq_false_iff, decide_eq_false_iff_not, Bool.not_eq_false'] at hu
        rcases hu with c | c
        · omega
        · exact (free_iff.1 c).1
  · right
    have h1 : uE s k = 0 := by unfold uE; rw [if_neg (by rw [ok_iff.2 h]; decide), if_neg (by rw [hu]; decide)]
    obtain ⟨_, i, p, rfl, hi, hp, e, hf⟩ := uE_zero h1
    have h0 := (h.each p (List.mem_of_getElem? hp) hf).1.1.1
    refine ⟨h, i, p, rfl, hi, hp, by omega, ?_⟩
    unfold clE
    rw [if_pos h1, e]
    by_cases hq : p.1 = q
    · right
      rw [if_pos hq]
      have hl : lL s (i : Int) = lvs s p.1 p.2 := by unfold lL; rw [if_pos h1, e]
      rw [hl]
      exact ⟨hq, mov_some h hp⟩
    · left
      rw [if_neg hq]
      exact ⟨hq, rfl⟩

end Go.Proofs.Ytkpckadicjdieab

/-
  Plain mathematics: which segment is cleaned next; how many slots may be given out.
-/
namespace Go.Proofs.Ytkpckadicjdieab

theorem slot_at {s : St} {j : Nat} {p : Sg} (h : s.1[j]? = some p) : slotOf s (j : Int) = p := by
  unfold slotOf
  rw [Int.toNat_natCast, h]
  rfl
/-- May slot j be cleaned? -/
def cnd (s : St) (j : Nat) : Bool := decide (uE s (j : Int) = 0) && decide ((lL s (j : Int)).length < 8)
def vSc (s : St) (j : Nat) : Int := scV (slotOf s (j : Int)).1 ((lL s (j : Int)).length : Nat) s.2.2.2
def vic (s : St) : Nat → Bool × Nat × Int
  | 0 => (false, 0, 0)
  | j + 1 => if cnd s j = true then (if (vic s j).1 = false ∨ (vic s j).2.2 < vSc s j then (true, j, vSc s j) else vic s j) else vic s j
theorem vic_skip {s : St} {j : Nat} (h : cnd s j = false) : vic s (j + 1) = vic s j := by
  rw [vic, if_neg (by rw [h]; decide)]
theorem vic_take {s : St} {j : Nat} (h : cnd s j = true) (h1 : (vic s j).1 = false ∨ (vic s j).2.2 < vSc s j) : vic s (j + 1) = (true, j, vSc s j) := by
  rw [vic, if_pos h, if_pos h1]
theorem vic_stay {s : St} {j : Nat} (h : cnd s j = true) (h1 : (vic s j).1 = true) (h2 : ¬ (vic s j).2.2 < vSc s j) : vic s (j + 1) = vic s j := by
  rw [vic, if_pos h, if_neg]
  rintro (c | c)
  · rw [h1] at c; cases c
  · exact h2 c
theorem vic_lt {s : St} : ∀ {j : Nat}, (vic s j).1 = true → (vic s j).2.1 < j ∧ cnd s (vic s j).2.1 = true
  | 0, h => by cases h
  | j + 1, h => by
    cases hc : cnd s j with
    | false =>
      rw [vic_skip hc] at h ⊢
      have := vic_lt h
      exact ⟨by omega, this.2⟩
    | true =>
      by_cases h1 : (vic s j).1 = false ∨ (vic s j).2.2 < vSc s j
      · rw [vic_take hc h1]
        exact ⟨by simp, hc⟩
      · have hf : (vic s j).1 = true := by
          cases hh : (vic s j).1 with
          | true => rfl
          | false => exact absurd (.inl hh) h1
        rw [vic_stay hc hf (fun c => h1 (.inr c))]
        have := vic_lt hf
        exact ⟨by omega, this.2⟩
theorem vic_none {s : St} : ∀ {j : Nat}, (vic s j).1 = false → vic s j = (false, 0, 0)
  | 0, _ => rfl
  | j + 1, h => by
    cases hc : cnd s j with
    | false =>
      rw [vic_skip hc] at h ⊢
      exact vic_none h
    | true =>
      by_cases h1 : (vic s j).1 = false ∨ (vic s j).2.2 < vSc s j
      · rw [vic_take hc h1] at h; cases h
      · have hf : (vic s j).1 = true := by
          cases hh : (vic s j).1 with
          | true => rfl
          | false => exact absurd (.inl hh) h1
        rw [vic_stay hc hf (fun c => h1 (.inr c)), hf] at h; cases h
def vE (s : St) : Int := if okB s = false then 9 else if (vic s s.1.length).1 = false then 71 else 0
def vA (s : St) : Nat := if vE s = 0 then (vic s s.1.length).2.1 else 0
def vQ (s : St) : Int := if vE s = 0 then (slotOf s (vA s : Int)).1 else 0
theorem vic_bad {s : St} (h : ¬ Ok s) : vE s = 9 ∧ vA s = 0 ∧ vQ s = 0 := by
  have hb : okB s = false := by
    cases hb : okB s with
    | false => rfl
    | true => exact absurd (ok_iff.1 hb) h
  have e : vE s = 9 := by unfold vE; rw [if_pos hb]
  refine ⟨e, ?_, ?_⟩
  · unfold vA; rw [e]; rfl
  · unfold vQ; rw [e]; rfl
theorem vic_no {s : St} (h : Ok s) (h1 : (vic s s.1.length).1 = false) : vE s = 71 ∧ vA s = 0 ∧ vQ s = 0 := by
  have e : vE s = 71 := by unfold vE; rw [if_neg (by rw [ok_iff.2 h]; decide), if_pos h1]
  refine ⟨e, ?_, ?_⟩
  · unfold vA; rw [e]; rfl
  · unfold vQ; rw [e]; rfl
theorem vic_yes {s : St} (h : Ok s) (h1 : (vic s s.1.length).1 = true) : vE s = 0 ∧ vA s = (vic s s.1.length).2.1 ∧ vQ s = (slotOf s ((vic s s.1.length).2.1 : Int)).1 := by
  have e : vE s = 0 := by unfold vE; rw [if_neg (by rw [ok_iff.2 h]; decide), if_neg (by rw [h1]; decide)]
  have e2 : vA s = (vic s s.1.length).2.1 := by unfold vA; rw [if_pos e]
  refine ⟨e, e2, ?_⟩
  unfold vQ; rw [if_pos e, e2]
theorem live_small {s : St} (h : Ok s) (k : Int) : (lL s k).length ≤ 8 := by
  unfold lL
  split
  · rename_i h1
    obtain ⟨_, i, p, _, _, h2, h3, _⟩ := uE_zero h1
    rw [h3]
    exact Nat.le_trans (lvs_le _ _ _) (h.small p (List.mem_of_getElem? h2))
  · simp
/-- How many slots may be given out. -/
def rmB (s : St) (j : Nat) : Bool := decide ((slotOf s (j : Int)).1 = 0) && !(s.2.1[j]?).getD true
def rm (s : St) : Nat → Nat
  | 0 => 0
  | j + 1 => if rmB s j = true then rm s j + 1 else rm s j
theorem rm_yes {s : St} {j : Nat} (h : rmB s j = true) : rm s (j + 1) = rm s j + 1 := by rw [rm, if_pos h]
theorem rm_no {s : St} {j : Nat} (h : rmB s j = false) : rm s (j + 1) = rm s j := by rw [rm, if_neg (by rw [h]; decide)]
theorem rm_le {s : St} : ∀ j : Nat, rm s j ≤ j
  | 0 => Nat.le_refl _
  | j + 1 => by
    have := rm_le (s := s) j
    unfold rm
    split <;> omega
theorem rmB_at {s : St} {j : Nat} {p : Sg} {x : Bool} (h : s.1[j]? = some p) (h2 : s.2.1[j]? = some x) : rmB s j = (decide (p.1 = 0) && !x) := by
  unfold rmB
  rw [slot_at h, h2]
  rfl
def rmV (s : St) : Nat := if okE s = 0 then rm s s.1.length else 0

end Go.Proofs.Ytkpckadicjdieab

/-
  The laws' own helpers: a store for the program, in memory of its own; whether two are alike.
-/
namespace Go.Proofs.Ytkpckadicjdieab
open Go.RowKit

set_option maxHeartbeats 1000000 in
theorem cbools_any (n0 : Nat) (v : Value) (l : List Bool) (w : World) (h : boolsS.lies n0 w [v] l) (hs : l.length ≤ 140737488355328) :
    Calls Try.prog 26 #[v] w fun e w' => (∃ v', e = .returned v' ∧ boolsS.owns w.heap.size w' [v'] l) ∧ Below w.heap.size w w' := by
  obtain ⟨i0, hi, hz0, hz1, hz2⟩ := info_parts Try.info4
  obtain ⟨v', hv, hC, _⟩ := h
  obtain rfl : v = v' := by simpa using hv
  obtain ⟨hl, h | ⟨x, cap, rfl, hcap, hm, _, hc⟩⟩ := hC
  · obtain ⟨rfl, h0⟩ := h
    obtain rfl := List.eq_nil_of_length_eq_zero h0
    go_enter Try.func26, Try.ntmps26
    go_wp2_with (at_builtin; refine wpList_append_own_none rfl _ _ 23 rfl w.heap.size 4 i0 1 Try.underlying23 hi (.slice none 0 0) 0 [] rfl (World.ownsRow_nil _ _ _ _) rfl ?_)
    go_ret
    exact ⟨⟨_, rfl, ⟨_, rfl, World.ownsRow_nil _ _ _ _, fun _ _ => trivial⟩⟩, Below.refl _ _⟩
  · have hone : ∀ u ∈ l.map bL.val, u.oneCell' = true := fun u hu => by
      obtain ⟨y, _, rfl⟩ := List.mem_map.1 hu
      rfl
    go_enter Try.func26, Try.ntmps26
    go_wp2_with (at_builtin; refine wpList_append_own _ rfl _ _ 23 rfl w.heap.size 4 i0 (.bool false) 1 1 Try.underlying23 hi hz0 hz1 hz2 rfl (by decide) (.slice none 0 0) 0 [] rfl (World.ownsRow_nil _ _ _ _) x l.length cap (l.map bL.val) rfl (by simp) hc hone (by omega) (by omega) (Nat.le_refl _) ?_)
    intro v' w1 hown hgrow _
    have hb : Below w.heap.size w w1 := (Below.refl _ _).grown hgrow (Nat.le_refl _) (fun _ h => by cases h)
    clear hgrow hc hone
    go_wp2
    go_ret
    exact ⟨⟨v', rfl, ⟨_, rfl, (show w1.ownsRow w.heap.size 4 1 v' l.length (l.map bL.val) by simpa using hown), fun _ _ => trivial⟩⟩, hb⟩

theorem own_set4 {α : Type} (S : Shape α) (hid : 31 ∉ S.ids) {n B : Nat} {w : World} {us : List Value} {x : α} {cs : Array Value} (h : S.owns n w us x) (hB : Box w B 31 cs) (u v y z : Value) : S.owns n ((((w.setCell ⟨B, 0, none⟩ u).setCell ⟨B, 1, none⟩ v).setCell ⟨B, 2, none⟩ y).setCell ⟨B, 3, none⟩ z) us x :=
  S.ogrown (S.ogrown (S.ogrown (S.ogrown h (grown_set w B 0 u) (hB.clear hid)) (grown_set _ B 1 v) ((hB.set 0 u).clear hid)) (grown_set _ B 2 y) (((hB.set 0 u).set 1 v).clear hid)) (grown_set _ B 3 z) ((((hB.set 0 u).set 1 v).set 2 y).clear hid)

set_option maxRecDepth 100000 in
set_option maxHeartbeats 2000000 in
theorem sbools_true (n1 n2 : Nat) (v1 v2 : Value) (l : List Bool) (w : World) (h1 : boolsS.lies n1 w [v1] l) (h2 : boolsS.lies n2 w [v2] l) :
    Calls Try.prog 51 #[v1, v2] w fun e w' => e = .returned (.bool true) ∧ ∃ q, w' = w.drewN q := by
  obtain ⟨a1, c1, e1, _, m1, _⟩ := Leaf.row_len (L := bL) (ht := Try.underlying23) (hc := cells23) h1
  obtain ⟨a2, c2, e2, _, m2, _⟩ := Leaf.row_len (L := bL) (ht := Try.underlying23) (hc := cells23) h2
  obtain rfl : v1 = _ := by simpa using e1
  obtain rfl : v2 = _ := by simpa using e2
  obtain ⟨n, hn⟩ : ∃ n, n = l.length := ⟨_, rfl⟩
  rw [← hn] at h1 h2 m1 m2 ⊢
  unfold maxLen at m1
  have HL : Hid (boolsS.lies n1 w [.slice a1 n c1] l ∧ boolsS.lies n2 w [.slice a2 n c2] l ∧ n = l.length) := ⟨h1, h2, hn⟩
  have hl1 := run_len Try.underlying23 a1 n c1
  have hl2 := run_len Try.underlying23 a2 n c2
  clear h1 h2 e1 e2 hn m2
  go_enter Try.func51, Try.ntmps51
  go_wp2
  go_loopw [5] (fun i wr => ∃ k : Nat, k ≤ n ∧ i = .int .i64 k ∧ ∃ q, wr = w.drewN q) (fun i _ => n - (intOf i).toNat)
  case atStart => exact ⟨0, Nat.zero_le _, rfl, 0, rfl⟩
  case round =>
    obtain ⟨k, hk, rfl, q, rfl⟩ := hrel
    by_cases hlt : k < n
    · obtain ⟨x, hx⟩ := get_lt (l := l) (k := k) (by rw [← HL.out.2.2]; exact hlt)
      obtain ⟨b1, o1, hix1, _, g1⟩ := bools_at HL.out.1 k x hx
      obtain ⟨b2, o2, hix2, _, g2⟩ := bools_at HL.out.2.1 k x hx
      have hkn : (k : Int) < (n : Int) := by omega
      clear hx
      cases x with
      | true =>
        go_wp2
        go_quiet (fail)
        go_wp2
        go_roundw
        case rel => exact ⟨k + 1, by omega, by go_num, _, rfl⟩
        case measure => simp [intOf]; omega
      | false =>
        go_wp2
        go_quiet (fail)
        go_wp2
        go_roundw
        case rel => exact ⟨k + 1, by omega, by go_num, _, rfl⟩
        case measure => simp [intOf]; omega
    · obtain rfl : k = n := by omega
      go_wp2
      go_ret
      exact ⟨rfl, q, rfl⟩

end Go.Proofs.Ytkpckadicjdieab

/-
  A block put with room made ahead of it (clean).
-/
namespace Go.Proofs.Ytkpckadicjdieab
open Go.ChangeShapes Go.WideShapes Go.ChangeAt Go.RowKit
set_option linter.unusedVariables false

set_option maxRecDepth 100000 in
set_option maxHeartbeats 8000000 in
theorem putx_any (n0 n1 : Nat) (us : List Value) (s : St) (ub : List Value) (p : Bk) (w : World) (h : stN.lies n0 w us s) (hp : bkN.lies n1 w ub p) :
    Calls Try.prog 65 #[.agg us.toArray, .agg ub.toArray] w (TellsS (ptE s p) (ptS s p) w) := by
  obtain ⟨a0, n0, c0, b0, m0, d0, e0, k0, f0, q0, rfl, -, hk0, hk1, -⟩ := st_flatNl h
  obtain ⟨pa, pc, rfl, hPA, hpo, hpi⟩ := bk_view hp
  obtain ⟨po, pi, pd⟩ := p
  simp only at hPA hpo hpi ⊢
  obtain ⟨pm, hpm⟩ : ∃ z, z = pd.length := ⟨_, rfl⟩
  simp only [← hpm] at hp hPA ⊢
  obtain ⟨post, hpost⟩ : ∃ post : Ending → World → Prop, post = TellsS (ptE s (po, pi, pd)) (ptS s (po, pi, pd)) w := ⟨_, rfl⟩
  have HPo : Hid (∀ us' k t w', k = ptE s (po, pi, pd) → t = ptS s (po, pi, pd) → stN.owns w.heap.size w' us' t → Below w.heap.size w w' → post (.returned (.tuple #[.agg us'.toArray, .int .i64 k])) w') := fun us' k t w' e1 e2 e3 e4 => by
    rw [hpost, e1]
    rw [e2] at e3
    exact ⟨⟨us', rfl, e3⟩, e4⟩
  rw [← hpost]
  clear hpost
  obtain ⟨W, hW⟩ : ∃ W, W = ((w.alloc (.cells #[.slice a0 n0 c0, .slice b0 m0 d0, .slice e0 k0 f0, .int .i64 q0] 31)).alloc (.cells #[.int .i64 po, .int .i64 pi, .slice pa pm pc] 48)).alloc (.cells #[.slice none 0 0, .slice none 0 0, .slice none 0 0, .int .i64 0] 31) := ⟨_, rfl⟩
  have HB : Hid (Below w.heap.size w W) := by rw [hW]; exact (((Below.refl _ w).alloc (Nat.le_refl _) _).alloc (by simp) _).alloc (by simp; omega) _
  have HX : Hid (Box W w.heap.size 31 #[.slice a0 n0 c0, .slice b0 m0 d0, .slice e0 k0 f0, .int .i64 q0] ∧ Box W (w.heap.size + 1) 48 #[.int .i64 po, .int .i64 pi, .slice pa pm pc] ∧ Box W (w.heap.size + 2) 31 #[.slice none 0 0, .slice none 0 0, .slice none 0 0, .int .i64 0]) := by
    rw [hW]
    refine ⟨((Box.new _ _ _).alloc _).alloc _, ?_, ?_⟩
    · have := Box.new (w.alloc (.cells #[.slice a0 n0 c0, .slice b0 m0 d0, .slice e0 k0 f0, .int .i64 q0] 31)) 48 #[.int .i64 po, .int .i64 pi, .slice pa pm pc]
      rw [World.size_alloc] at this
      exact this.alloc _
    · have := Box.new ((w.alloc (.cells #[.slice a0 n0 c0, .slice b0 m0 d0, .slice e0 k0 f0, .int .i64 q0] 31)).alloc (.cells #[.int .i64 po, .int .i64 pi, .slice pa pm pc] 48)) 31 #[.slice none 0 0, .slice none 0 0, .slice none 0 0, .int .i64 0]
      rwa [World.size_alloc, World.size_alloc] at this
  have HL : Hid (∀ V, Below w.heap.size w V → stN.lies 0 V [.slice a0 n0 c0, .slice b0 m0 d0, .slice e0 k0 f0, .int .i64 q0] s ∧ bkN.lies 0 V [.int .i64 po, .int .i64 pi, .slice pa pm pc] (po, pi, pd)) := fun V hV => ⟨stN.below (stN.weaken h (Nat.zero_le _)) hV, bkN.below (bkN.weaken hp (Nat.zero_le _)) hV⟩
  have HK : Hid (k0 = s.2.2.1.length) := hk0
  have hl0 := run_len Try.underlying29 e0 k0 f0
  clear h hp hPA hpo hpi hpm hk0
  go_enter Try.func65, Try.ntmps65
  go_upto_region 1 with fail
  rw [← hW]
  clear hW
  by_cases h8 : k0 = 8
  · subst h8
    obtain ⟨se, hse⟩ : ∃ z, z = sE s := ⟨_, rfl⟩
    obtain ⟨sp, hsp⟩ : ∃ z, z = sP s := ⟨_, rfl⟩
    have HC := seal_any 0 [.slice a0 n0 c0, .slice b0 m0 d0, .slice e0 8 f0, .int .i64 q0] s W (HL.out W HB.out).1
    rw [← hse, ← hsp] at HC
    have HSE : Hid (se = sE s) := hse
    obtain ⟨x0, x1, x2, x3, -⟩ := HX.out.1.four
    clear hse hsp
    go_wp2_with fail
    clear x0 x1 x2 x3
    refine HC.mono ?_
    rintro e1 w1 ⟨⟨us1, rfl, ho1⟩, hb1⟩
    obtain ⟨a1, n1, c1, b1, m1, d1, e1, k1, f1, q1, rfl⟩ := st_fl ho1
    have hX1 := HX.out.1.below hb1 HX.out.1.lt
    have hX2 := HX.out.2.1.below hb1 HX.out.2.1.lt
    have hX3 := HX.out.2.2.below hb1 HX.out.2.2.lt
    obtain ⟨z0, z1, z2, z3, i0, i1, i2, i3⟩ := hX1.four
    obtain ⟨X, hX⟩ : ∃ X, X = (((w1.setCell ⟨w.heap.size, 0, none⟩ (.slice a1 n1 c1)).setCell ⟨w.heap.size, 1, none⟩ (.slice b1 m1 d1)).setCell ⟨w.heap.size, 2, none⟩ (.slice e1 k1 f1)).setCell ⟨w.heap.size, 3, none⟩ (.int .i64 q1) := ⟨_, rfl⟩
    have HBX : Hid (Below w.heap.size w X) := by rw [hX]; exact below_set4 (below_any HB.out hb1) (Nat.le_refl _) _ _ _ _
    have HXX : Hid (Box X w.heap.size 31 #[.slice a1 n1 c1, .slice b1 m1 d1, .slice e1 k1 f1, .int .i64 q1] ∧ Box X (w.heap.size + 1) 48 #[.int .i64 po, .int .i64 pi, .slice pa pm pc] ∧ Box X (w.heap.size + 2) 31 #[.slice none 0 0, .slice none 0 0, .slice none 0 0, .int .i64 0]) := by
      rw [hX]
      exact ⟨(((hX1.set 0 _).set 1 _).set 2 _).set 3 _, (((hX2.other (by omega)).other (by omega)).other (by omega)).other (by omega), (((hX3.other (by omega)).other (by omega)).other (by omega)).other (by omega)⟩
    have HO : Hid (stN.lies 0 X [.slice a1 n1 c1, .slice b1 m1 d1, .slice e1 k1 f1, .int .i64 q1] (sS s)) := by rw [hX]; exact stN.weaken (stN.olies (own_set4 stN (by decide) ho1 hX1 _ _ _ _)) (Nat.zero_le _)
    go_upto_region 4 with fail
    rw [← hX]
    clear hX HC ho1 hb1 hX1 hX2 hX3 z0 z1 z2 z3 i0 i1 i2 i3
    by_cases hz : se = 0
    · subst hz
      obtain ⟨pe, hpe⟩ : ∃ z, z = pE (sS s) (po, pi, pd) := ⟨_, rfl⟩
      have HC := put_any 0 0 [.slice a1 n1 c1, .slice b1 m1 d1, .slice e1 k1 f1, .int .i64 q1] (sS s) [.int .i64 po, .int .i64 pi, .slice pa pm pc] (po, pi, pd) X HO.out (HL.out X HBX.out).2 (Nat.zero_le _)
      rw [← hpe] at HC
      have HPE : Hid (pe = pE (sS s) (po, pi, pd)) := hpe
      obtain ⟨x0, x1, x2, x3, -⟩ := HXX.out.1.four
      obtain ⟨v0, v1, v2, -⟩ := HXX.out.2.1.three
      clear hpe
      go_wp2_with fail
      clear x0 x1 x2 x3 v0 v1 v2
      refine HC.mono ?_
      rintro e8 w8 ⟨⟨us8, rfl, ho8⟩, hb8⟩
      obtain ⟨a8, n8, c8, b8, m8, d8, e8, k8, f8, q8, rfl⟩ := st_fl ho8
      have hR := HXX.out.2.2.below hb8 HXX.out.2.2.lt
      obtain ⟨y0, y1, y2, y3, j0, j1, j2, j3⟩ := hR.four
      have HE : Hid (post (.returned (.tuple #[.agg #[.slice a8 n8 c8, .slice b8 m8 d8, .slice e8 k8 f8, .int .i64 q8], .int .i64 pe])) ((((w8.setCell ⟨(w.heap.size + 2), 0, none⟩ (.slice a8 n8 c8)).setCell ⟨(w.heap.size + 2), 1, none⟩ (.slice b8 m8 d8)).setCell ⟨(w.heap.size + 2), 2, none⟩ (.slice e8 k8 f8)).setCell ⟨(w.heap.size + 2), 3, none⟩ (.int .i64 q8))) := HPo.out [.slice a8 n8 c8, .slice b8 m8 d8, .slice e8 k8 f8, .int .i64 q8] pe (pS (sS s) (po, pi, pd)) _ (by unfold ptE; rw [if_pos HK.out.symm, if_pos HSE.out.symm]; exact HPE.out) (by unfold ptS; rw [if_pos HK.out.symm, if_pos HSE.out.symm]) (own_set4 stN (by decide) (stN.oweaken ho8 HBX.out.size) hR _ _ _ _) (below_set4 (below_any HBX.out hb8) (by omega) _ _ _ _)
      clear HC ho8 hb8 hR
      go_wp2
      refine bodyPost_ret (v := .tuple #[.agg #[.slice a8 n8 c8, .slice b8 m8 d8, .slice e8 k8 f8, .int .i64 q8], .int .i64 pe]) (by simp [results, Try.results65, go_sem, *]) rfl HE.out
    · have hzb : (se == 0) = false := by simpa using hz
      have hR := HXX.out.2.2
      obtain ⟨y0, y1, y2, y3, j0, j1, j2, j3⟩ := hR.four
      have HE : Hid (post (.returned (.tuple #[.agg #[.slice none 0 0, .slice none 0 0, .slice none 0 0, .int .i64 0], .int .i64 se])) ((((X.setCell ⟨(w.heap.size + 2), 0, none⟩ (.slice none 0 0)).setCell ⟨(w.heap.size + 2), 1, none⟩ (.slice none 0 0)).setCell ⟨(w.heap.size + 2), 2, none⟩ (.slice none 0 0)).setCell ⟨(w.heap.size + 2), 3, none⟩ (.int .i64 0))) := HPo.out [.slice none 0 0, .slice none 0 0, .slice none 0 0, .int .i64 0] se s0 _ (by unfold ptE; rw [if_pos HK.out.symm, if_neg (by rw [← HSE.out]; exact hz)]; exact HSE.out) (by unfold ptS; rw [if_pos HK.out.symm, if_neg (by rw [← HSE.out]; exact hz)]) (s0_owns _ _) (below_set4 HBX.out (by omega) _ _ _ _)
      clear hR
      go_wp2
      refine bodyPost_ret (v := .tuple #[.agg #[.slice none 0 0, .slice none 0 0, .slice none 0 0, .int .i64 0], .int .i64 se]) (by simp [results, Try.results65, go_sem, *]) rfl HE.out
  · have h8i : ((k0 : Int) == 8) = false := by simp; omega
    have h8j : ¬ (k0 : Int) = 8 := by omega
    have HK8 : Hid (¬ s.2.2.1.length = 8) := by rw [← HK.out]; exact h8
    obtain ⟨g0, g1, g2, g3, -⟩ := HX.out.1.four
    obtain ⟨pe, hpe⟩ : ∃ z, z = pE s (po, pi, pd) := ⟨_, rfl⟩
    have HC := put_any 0 0 [.slice a0 n0 c0, .slice b0 m0 d0, .slice e0 k0 f0, .int .i64 q0] s [.int .i64 po, .int .i64 pi, .slice pa pm pc] (po, pi, pd) W (HL.out W HB.out).1 (HL.out W HB.out).2 (Nat.zero_le _)
    rw [← hpe] at HC
    have HPE : Hid (pe = pE s (po, pi, pd)) := hpe
    obtain ⟨x0, x1, x2, x3, -⟩ := HX.out.1.four
    obtain ⟨v0, v1, v2, -⟩ := HX.out.2.1.three
    clear hpe
    go_wp2_with fail
    clear x0 x1 x2 x3 v0 v1 v2
    refine HC.mono ?_
    rintro e8 w8 ⟨⟨us8, rfl, ho8⟩, hb8⟩
    obtain ⟨a8, n8, c8, b8, m8, d8, e8, k8, f8, q8, rfl⟩ := st_fl ho8
    have hR := HX.out.2.2.below hb8 HX.out.2.2.lt
    obtain ⟨y0, y1, y2, y3, j0, j1, j2, j3⟩ := hR.four
    have HE : Hid (post (.returned (.tuple #[.agg #[.slice a8 n8 c8, .slice b8 m8 d8, .slice e8 k8 f8, .int .i64 q8], .int .i64 pe])) ((((w8.setCell ⟨(w.heap.size + 2), 0, none⟩ (.slice a8 n8 c8)).setCell ⟨(w.heap.size + 2), 1, none⟩ (.slice b8 m8 d8)).setCell ⟨(w.heap.size + 2), 2, none⟩ (.slice e8 k8 f8)).setCell ⟨(w.heap.size + 2), 3, none⟩ (.int .i64 q8))) := HPo.out [.slice a8 n8 c8, .slice b8 m8 d8, .slice e8 k8 f8, .int .i64 q8] pe (pS s (po, pi, pd)) _ (by unfold ptE; rw [if_neg HK8.out]; exact HPE.out) (by unfold ptS; rw [if_neg HK8.out]) (own_set4 stN (by decide) (stN.oweaken ho8 HB.out.size) hR _ _ _ _) (below_set4 (below_any HB.out hb8) (by omega) _ _ _ _)
    clear HC ho8 hb8 hR
    go_wp2
    refine bodyPost_ret (v := .tuple #[.agg #[.slice a8 n8 c8, .slice b8 m8 d8, .slice e8 k8 f8, .int .i64 q8], .int .i64 pe]) (by simp [results, Try.results65, go_sem, *]) rfl HE.out

end Go.Proofs.Ytkpckadicjdieab

/-
  Several blocks put and sealed (clean).
-/
namespace Go.Proofs.Ytkpckadicjdieab
open Go.ChangeShapes Go.WideShapes Go.ChangeAt Go.RowKit
set_option linter.unusedVariables false

set_option maxRecDepth 100000 in
set_option maxHeartbeats 8000000 in
theorem moved_any (n0 n1 : Nat) (us : List Value) (s : St) (v : Value) (l : List Bk) (w : World) (h : stN.lies n0 w us s) (hl : bksN.lies n1 w [v] l) :
    Calls Try.prog 30 #[.agg us.toArray, v] w fun e w' => (∃ us', e = .returned (.tuple #[.agg us'.toArray, .int .i64 (movE l s)]) ∧ ((us' = us ∧ movS l s = s) ∨ stN.owns w.heap.size w' us' (movS l s))) ∧ Below w.heap.size w w' := by
  obtain ⟨a0, n0, c0, b0, m0, d0, e0, k0, f0, q0, rfl, -, hk0, hk1, -⟩ := st_flatNl h
  obtain ⟨va, vc, e0', _, hm, _⟩ := Shape.list_len (S := bkN) (ht := Try.underlying29) (hc := cells29) hl
  obtain rfl : v = _ := (List.cons.inj e0').1
  obtain ⟨n, hn⟩ : ∃ n, n = l.length := ⟨_, rfl⟩
  rw [← hn] at hl hm ⊢
  unfold maxLen at hm
  obtain ⟨post, hpost⟩ : ∃ post : Ending → World → Prop, post = fun e w' => (∃ us', e = .returned (.tuple #[.agg us'.toArray, .int .i64 (movE l s)]) ∧ ((us' = [.slice a0 n0 c0, .slice b0 m0 d0, .slice e0 k0 f0, .int .i64 q0] ∧ movS l s = s) ∨ stN.owns w.heap.size w' us' (movS l s))) ∧ Below w.heap.size w w' := ⟨_, rfl⟩
  have HPo : Hid (∀ us' k w', k = movE l s → ((us' = [.slice a0 n0 c0, .slice b0 m0 d0, .slice e0 k0 f0, .int .i64 q0] ∧ movS l s = s) ∨ stN.owns w.heap.size w' us' (movS l s)) → Below w.heap.size w w' → post (.returned (.tuple #[.agg us'.toArray, .int .i64 k])) w') := fun us' k w' e1 e2 e3 => by
    rw [hpost, e1]
    exact ⟨⟨us', rfl, e2⟩, e3⟩
  rw [← hpost]
  clear hpost
  obtain ⟨W, hW⟩ : ∃ W, W = (w.alloc (.cells #[.slice a0 n0 c0, .slice b0 m0 d0, .slice e0 k0 f0, .int .i64 q0] 31)).alloc (.cells #[.slice none 0 0, .slice none 0 0, .slice none 0 0, .int .i64 0] 31) := ⟨_, rfl⟩
  have HB : Hid (Below w.heap.size w W) := by rw [hW]; exact ((Below.refl _ w).alloc (Nat.le_refl _) _).alloc (by simp) _
  have HX : Hid (Box W w.heap.size 31 #[.slice a0 n0 c0, .slice b0 m0 d0, .slice e0 k0 f0, .int .i64 q0] ∧ Box W (w.heap.size + 1) 31 #[.slice none 0 0, .slice none 0 0, .slice none 0 0, .int .i64 0]) := by
    rw [hW]
    refine ⟨(Box.new _ _ _).alloc _, ?_⟩
    have := Box.new (w.alloc (.cells #[.slice a0 n0 c0, .slice b0 m0 d0, .slice e0 k0 f0, .int .i64 q0] 31)) 31 #[.slice none 0 0, .slice none 0 0, .slice none 0 0, .int .i64 0]
    rwa [World.size_alloc] at this
  have HL : Hid (∀ V, Below w.heap.size w V → stN.lies 0 V [.slice a0 n0 c0, .slice b0 m0 d0, .slice e0 k0 f0, .int .i64 q0] s ∧ bksN.lies 0 V [.slice va n vc] l) := fun V hV => ⟨stN.below (stN.weaken h (Nat.zero_le _)) hV, bksN.below (bksN.weaken hl (Nat.zero_le _)) hV⟩
  have HN : Hid (n = l.length) := hn
  have hl0 := run_len Try.underlying29 va n vc
  clear h hl e0' hn hk0 hk1
  go_enter Try.func30, Try.ntmps30
  go_upto_region 1 with fail
  rw [← hW]
  clear hW
  by_cases hz : n = 0
  · subst hz
    obtain ⟨x0, x1, x2, x3, -⟩ := HX.out.1.four
    have hR := HX.out.2
    obtain ⟨y0, y1, y2, y3, j0, j1, j2, j3⟩ := hR.four
    have hnil : l = [] := List.eq_nil_of_length_eq_zero HN.out.symm
    have HE : Hid (post (.returned (.tuple #[.agg #[.slice a0 n0 c0, .slice b0 m0 d0, .slice e0 k0 f0, .int .i64 q0], .int .i64 0])) ((((W.setCell ⟨(w.heap.size + 1), 0, none⟩ (.slice a0 n0 c0)).setCell ⟨(w.heap.size + 1), 1, none⟩ (.slice b0 m0 d0)).setCell ⟨(w.heap.size + 1), 2, none⟩ (.slice e0 k0 f0)).setCell ⟨(w.heap.size + 1), 3, none⟩ (.int .i64 q0))) := HPo.out [.slice a0 n0 c0, .slice b0 m0 d0, .slice e0 k0 f0, .int .i64 q0] 0 _ (by unfold movE; rw [if_pos hnil]) (.inl ⟨rfl, by unfold movS; rw [if_pos hnil]⟩) (below_set4 HB.out (by omega) _ _ _ _)
    clear hR hnil
    go_wp2
    refine bodyPost_ret (v := .tuple #[.agg #[.slice a0 n0 c0, .slice b0 m0 d0, .slice e0 k0 f0, .int .i64 q0], .int .i64 0]) (by simp [results, Try.results30, go_sem, *]) rfl HE.out
  have hzb : ((n : Int) == 0) = false := by simp; omega
  have hzi : ¬ (n : Int) = 0 := by omega
  have HNE : Hid (l ≠ []) := fun c => hz (by rw [HN.out, c]; rfl)
  clear hz
  go_wp2
  go_loopw [17] (fun i wr => ∃ k : Nat, k ≤ n ∧ i = .int .i64 k ∧ Hid (Below w.heap.size w wr ∧ Box wr (w.heap.size + 1) 31 #[.slice none 0 0, .slice none 0 0, .slice none 0 0, .int .i64 0] ∧ mvE (l.take k) s = 0 ∧ ∃ us9 : List Value, Box wr w.heap.size 31 us9.toArray ∧ (((us9 : List Value) = [.slice a0 n0 c0, .slice b0 m0 d0, .slice e0 k0 f0, .int .i64 q0] ∧ (mvS (l.take k) s) = s) ∨ stN.owns w.heap.size wr us9 (mvS (l.take k) s)))) (fun i _ => n - (intOf i).toNat)
  case atStart => exact ⟨0, Nat.zero_le _, rfl, HB.out, HX.out.2, rfl, [.slice a0 n0 c0, .slice b0 m0 d0, .slice e0 k0 f0, .int .i64 q0], HX.out.1, .inl ⟨rfl, rfl⟩⟩
  case round =>
    obtain ⟨k, hk, rfl, HR⟩ := hrel
    obtain ⟨hbr, hRr, hmv, us9, hX9, hsl⟩ := HR.out
    obtain ⟨t, ht⟩ : ∃ t, t = mvS (l.take k) s := ⟨_, rfl⟩
    rw [← ht] at hsl
    have hl9 : stN.lies 0 wr us9 t := by
      rcases hsl with ⟨rfl, e⟩ | ho
      · rw [e]; exact (HL.out wr hbr).1
      · exact stN.weaken (stN.olies ho) (Nat.zero_le _)
    obtain ⟨a9, n9, c9, b9, m9, d9, e9, k9, f9, q9, rfl, -⟩ := st_flatNl hl9
    have HT : Hid (t = mvS (l.take k) s ∧ mvE (l.take k) s = 0 ∧ Below w.heap.size w wr ∧ Box wr w.heap.size 31 #[.slice a9 n9 c9, .slice b9 m9 d9, .slice e9 k9 f9, .int .i64 q9] ∧ Box wr (w.heap.size + 1) 31 #[.slice none 0 0, .slice none 0 0, .slice none 0 0, .int .i64 0] ∧ stN.lies 0 wr [.slice a9 n9 c9, .slice b9 m9 d9, .slice e9 k9 f9, .int .i64 q9] t) := ⟨ht, hmv, hbr, hX9, hRr, hl9⟩
    clear HR hbr hRr hmv hX9 hsl ht hl9
    by_cases hlt : k < n
    · obtain ⟨x, hx⟩ := get_lt (l := l) (k := k) (by rw [← HN.out]; exact hlt)
      obtain ⟨gb1, go1, gx1, gz1, hix1, p0, p1, p2, hA1, i1, i2, _⟩ := bks_atN (HL.out wr HT.out.2.2.1).2 k x hx
      have hki : (k : Int) < (n : Int) := by omega
      have HTK : Hid (l.take (k + 1) = l.take k ++ [x] ∧ l = l.take (k + 1) ++ l.drop (k + 1)) := ⟨take_snoc hx, (List.take_append_drop _ _).symm⟩
      obtain ⟨xo, xi, xd⟩ := x
      simp only at p0 p1 p2 hA1 i1 i2
      obtain ⟨xl, hxl⟩ : ∃ m, m = xd.length := ⟨_, rfl⟩
      rw [← hxl] at p2 hA1
      obtain ⟨V, hV⟩ : ∃ V, V = wr.alloc (.cells #[.int .i64 xo, .int .i64 xi, .slice gx1 xl gz1] 48) := ⟨_, rfl⟩
      have hbV : Below wr.heap.size wr V := by rw [hV]; exact (Below.refl _ _).alloc (Nat.le_refl _) _
      have hBV : Box V wr.heap.size 48 #[.int .i64 xo, .int .i64 xi, .slice gx1 xl gz1] := by rw [hV]; exact Box.new _ _ _
      have hX1 := HT.out.2.2.2.1.below hbV HT.out.2.2.2.1.lt
      have hX2 := HT.out.2.2.2.2.1.below hbV HT.out.2.2.2.2.1.lt
      have hw1 := HT.out.2.2.2.1.lt
      have hw2 := HT.out.2.2.2.2.1.lt
      obtain ⟨pe, hpe⟩ : ∃ z, z = ptE t (xo, xi, xd) := ⟨_, rfl⟩
      have HC := putx_any 0 0 [.slice a9 n9 c9, .slice b9 m9 d9, .slice e9 k9 f9, .int .i64 q9] t [.int .i64 xo, .int .i64 xi, .slice gx1 xl gz1] (xo, xi, xd) V (stN.below HT.out.2.2.2.2.2 hbV) (bkN.below (bk_mk (p := (xo, xi, xd)) hA1 i1 i2) hbV)
      rw [← hpe] at HC
      have HPE : Hid (pe = ptE t (xo, xi, xd)) := hpe
      have HVX : Hid (Box V w.heap.size 31 #[.slice a9 n9 c9, .slice b9 m9 d9, .slice e9 k9 f9, .int .i64 q9] ∧ Box V (w.heap.size + 1) 31 #[.slice none 0 0, .slice none 0 0, .slice none 0 0, .int .i64 0] ∧ Below wr.heap.size wr V ∧ w.heap.size + 2 ≤ V.heap.size) := ⟨hX1, hX2, hbV, by have := hbV.size; omega⟩
      clear hx hA1 i1 i2 hxl hX2 hw1 hw2 hpe hbV
      go_upto_region 7 with fail
      rw [← hV]
      clear hV p0 p1 p2
      obtain ⟨x0, x1, x2, x3, -⟩ := hX1.four
      obtain ⟨v0, v1, v2, -⟩ := hBV.three
      clear hX1 hBV
      go_wp2_with fail
      clear x0 x1 x2 x3 v0 v1 v2
      refine HC.mono ?_
      rintro e8 w8 ⟨⟨us8, rfl, ho8⟩, hb8⟩
      obtain ⟨a8, n8, c8, b8, m8, d8, e8, k8, f8, q8, rfl⟩ := st_fl ho8
      have hY1 := HVX.out.1.below hb8 HVX.out.1.lt
      have hY2 := HVX.out.2.1.below hb8 HVX.out.2.1.lt
      obtain ⟨z0, z1, z2, z3, j0, j1, j2, j3⟩ := hY1.four
      obtain ⟨X, hX⟩ : ∃ X, X = (((w8.setCell ⟨w.heap.size, 0, none⟩ (.slice a8 n8 c8)).setCell ⟨w.heap.size, 1, none⟩ (.slice b8 m8 d8)).setCell ⟨w.heap.size, 2, none⟩ (.slice e8 k8 f8)).setCell ⟨w.heap.size, 3, none⟩ (.int .i64 q8) := ⟨_, rfl⟩
      have hbX : Below w.heap.size w X := by rw [hX]; exact below_set4 (below_any (below_any HT.out.2.2.1 HVX.out.2.2.1) hb8) (Nat.le_refl _) _ _ _ _
      have hZ1 : Box X w.heap.size 31 #[.slice a8 n8 c8, .slice b8 m8 d8, .slice e8 k8 f8, .int .i64 q8] := by rw [hX]; exact (((hY1.set 0 _).set 1 _).set 2 _).set 3 _
      have hZ2 : Box X (w.heap.size + 1) 31 #[.slice none 0 0, .slice none 0 0, .slice none 0 0, .int .i64 0] := by rw [hX]; exact (((hY2.other (by omega)).other (by omega)).other (by omega)).other (by omega)
      have hoX : stN.owns w.heap.size X [.slice a8 n8 c8, .slice b8 m8 d8, .slice e8 k8 f8, .int .i64 q8] (ptS t (xo, xi, xd)) := by rw [hX]; exact own_set4 stN (by decide) (stN.oweaken ho8 (by have := HVX.out.2.2.2; omega)) hY1 _ _ _ _
      have HXX : Hid (Below w.heap.size w X ∧ Box X w.heap.size 31 #[.slice a8 n8 c8, .slice b8 m8 d8, .slice e8 k8 f8, .int .i64 q8] ∧ Box X (w.heap.size + 1) 31 #[.slice none 0 0, .slice none 0 0, .slice none 0 0, .int .i64 0] ∧ stN.owns w.heap.size X [.slice a8 n8 c8, .slice b8 m8 d8, .slice e8 k8 f8, .int .i64 q8] (ptS t (xo, xi, xd))) := ⟨hbX, hZ1, hZ2, hoX⟩
      go_upto_region 8 with fail
      rw [← hX]
      clear hX HC ho8 hb8 hY1 hY2 z0 z1 z2 z3 j0 j1 j2 j3 hbX hZ1 hZ2 hoX
      by_cases hp0 : pe = 0
      · subst hp0
        have hmvs := mv_snoc (b := (xo, xi, xd)) HT.out.2.1
        rw [← HTK.out.1, ← HT.out.1] at hmvs
        have HI : Hid (Below w.heap.size w X ∧ Box X (w.heap.size + 1) 31 #[.slice none 0 0, .slice none 0 0, .slice none 0 0, .int .i64 0] ∧ mvE (l.take (k + 1)) s = 0 ∧ ∃ us9 : List Value, Box X w.heap.size 31 us9.toArray ∧ (((us9 : List Value) = [.slice a0 n0 c0, .slice b0 m0 d0, .slice e0 k0 f0, .int .i64 q0] ∧ (mvS (l.take (k + 1)) s) = s) ∨ stN.owns w.heap.size X us9 (mvS (l.take (k + 1)) s))) := ⟨HXX.out.1, HXX.out.2.2.1, hmvs.1.trans HPE.out.symm, [.slice a8 n8 c8, .slice b8 m8 d8, .slice e8 k8 f8, .int .i64 q8], HXX.out.2.1, .inr (by rw [hmvs.2 HPE.out.symm]; exact HXX.out.2.2.2)⟩
        clear hmvs
        go_wp2
        go_roundw
        case rel => exact ⟨k + 1, by omega, by go_num, HI.out⟩
        case measure => simp [intOf]; omega
      · have hpb : (pe == 0) = false := by simpa using hp0
        have hR := HXX.out.2.2.1
        obtain ⟨y0, y1, y2, y3, j0, j1, j2, j3⟩ := hR.four
        have hst : mvE l s = pe := by
          rw [HTK.out.2]
          refine mv_stop ?_ hp0
          rw [HTK.out.1, (mv_snoc HT.out.2.1).1, ← HT.out.1]
          exact HPE.out.symm
        have HE : Hid (post (.returned (.tuple #[.agg #[.slice none 0 0, .slice none 0 0, .slice none 0 0, .int .i64 0], .int .i64 pe])) ((((X.setCell ⟨(w.heap.size + 1), 0, none⟩ (.slice none 0 0)).setCell ⟨(w.heap.size + 1), 1, none⟩ (.slice none 0 0)).setCell ⟨(w.heap.size + 1), 2, none⟩ (.slice none 0 0)).setCell ⟨(w.heap.size + 1), 3, none⟩ (.int .i64 0))) := HPo.out [.slice none 0 0, .slice none 0 0, .slice none 0 0, .int .i64 0] pe _ (by unfold movE; rw [if_neg HNE.out, hst, if_neg hp0]) (.inr (by unfold movS; rw [if_neg HNE.out, hst, if_neg hp0]; exact s0_owns _ _)) (below_set4 HXX.out.1 (by omega) _ _ _ _)
        clear hR hst
        go_wp2
        refine bodyPost_ret (v := .tuple #[.agg #[.slice none 0 0, .slice none 0 0, .slice none 0 0, .int .i64 0], .int .i64 pe]) (by simp [results, Try.results30, go_sem, *]) rfl HE.out
    · obtain rfl : k = n := by omega
      have htl : t = mvS l s ∧ mvE l s = 0 := by
        have := HT.out.1
        have h2 := HT.out.2.1
        rw [HN.out, List.take_length] at this h2
        exact ⟨this, h2⟩
      have HTL : Hid (t = mvS l s ∧ mvE l s = 0) := htl
      obtain ⟨se, hse⟩ : ∃ z, z = sE t := ⟨_, rfl⟩
      obtain ⟨sp, hsp⟩ : ∃ z, z = sP t := ⟨_, rfl⟩
      have HC := seal_any 0 [.slice a9 n9 c9, .slice b9 m9 d9, .slice e9 k9 f9, .int .i64 q9] t wr HT.out.2.2.2.2.2
      rw [← hse, ← hsp] at HC
      have HSE : Hid (se = sE t) := hse
      obtain ⟨x0, x1, x2, x3, -⟩ := HT.out.2.2.2.1.four
      clear hse hsp htl
      go_wp2_with fail
      clear x0 x1 x2 x3
      refine HC.mono ?_
      rintro e8 w8 ⟨⟨us8, rfl, ho8⟩, hb8⟩
      obtain ⟨a8, n8, c8, b8, m8, d8, e8, k8, f8, q8, rfl⟩ := st_fl ho8
      have hY1 := HT.out.2.2.2.1.below hb8 HT.out.2.2.2.1.lt
      have hY2 := HT.out.2.2.2.2.1.below hb8 HT.out.2.2.2.2.1.lt
      have hws := HT.out.2.2.1.size
      obtain ⟨z0, z1, z2, z3, j0, j1, j2, j3⟩ := hY1.four
      obtain ⟨X, hX⟩ : ∃ X, X = (((w8.setCell ⟨w.heap.size, 0, none⟩ (.slice a8 n8 c8)).setCell ⟨w.heap.size, 1, none⟩ (.slice b8 m8 d8)).setCell ⟨w.heap.size, 2, none⟩ (.slice e8 k8 f8)).setCell ⟨w.heap.size, 3, none⟩ (.int .i64 q8) := ⟨_, rfl⟩
      have hbX : Below w.heap.size w X := by rw [hX]; exact below_set4 (below_any HT.out.2.2.1 hb8) (Nat.le_refl _) _ _ _ _
      have hZ1 : Box X w.heap.size 31 #[.slice a8 n8 c8, .slice b8 m8 d8, .slice e8 k8 f8, .int .i64 q8] := by rw [hX]; exact (((hY1.set 0 _).set 1 _).set 2 _).set 3 _
      have hZ2 : Box X (w.heap.size + 1) 31 #[.slice none 0 0, .slice none 0 0, .slice none 0 0, .int .i64 0] := by rw [hX]; exact (((hY2.other (by omega)).other (by omega)).other (by omega)).other (by omega)
      have hoX : stN.owns w.heap.size X [.slice a8 n8 c8, .slice b8 m8 d8, .slice e8 k8 f8, .int .i64 q8] (sS t) := by rw [hX]; exact own_set4 stN (by decide) (stN.oweaken ho8 hws) hY1 _ _ _ _
      have HE : Hid (post (.returned (.tuple #[.agg #[.slice a8 n8 c8, .slice b8 m8 d8, .slice e8 k8 f8, .int .i64 q8], .int .i64 se])) ((((X.setCell ⟨(w.heap.size + 1), 0, none⟩ (.slice a8 n8 c8)).setCell ⟨(w.heap.size + 1), 1, none⟩ (.slice b8 m8 d8)).setCell ⟨(w.heap.size + 1), 2, none⟩ (.slice e8 k8 f8)).setCell ⟨(w.heap.size + 1), 3, none⟩ (.int .i64 q8))) := HPo.out [.slice a8 n8 c8, .slice b8 m8 d8, .slice e8 k8 f8, .int .i64 q8] se _ (by unfold movE; rw [if_neg HNE.out, if_pos HTL.out.2, ← HTL.out.1]; exact HSE.out) (.inr (by unfold movS; rw [if_neg HNE.out, if_pos HTL.out.2, ← HTL.out.1]; exact own_set4 stN (by decide) hoX hZ2 _ _ _ _)) (below_set4 hbX (by omega) _ _ _ _)
      have HZZ : Hid (Box X w.heap.size 31 #[.slice a8 n8 c8, .slice b8 m8 d8, .slice e8 k8 f8, .int .i64 q8] ∧ Box X (w.heap.size + 1) 31 #[.slice none 0 0, .slice none 0 0, .slice none 0 0, .int .i64 0]) := ⟨hZ1, hZ2⟩
      go_upto_region 12 with fail
      rw [← hX]
      clear hX HC ho8 hb8 hY1 hY2 z0 z1 z2 z3 j0 j1 j2 j3 hbX hZ1 hZ2 hoX hws
      obtain ⟨x0, x1, x2, x3, -⟩ := HZZ.out.1.four
      obtain ⟨y0, y1, y2, y3, j0, j1, j2, j3⟩ := HZZ.out.2.four
      go_wp2
      refine bodyPost_ret (v := .tuple #[.agg #[.slice a8 n8 c8, .slice b8 m8 d8, .slice e8 k8 f8, .int .i64 q8], .int .i64 se]) (by simp [results, Try.results30, go_sem, *]) rfl HE.out

end Go.Proofs.Ytkpckadicjdieab

/-
  Clean, the program: for every store and record.
-/
namespace Go.Proofs.Ytkpckadicjdieab
open Go.ChangeShapes Go.WideShapes Go.ChangeAt Go.RowKit
set_option linter.unusedVariables false

set_option maxRecDepth 100000 in
set_option maxHeartbeats 8000000 in
theorem clean_any (n0 : Nat) (us : List Value) (s : St) (k q : Int) (w : World) (h : stN.lies n0 w us s) :
    Calls Try.prog 10 #[.agg us.toArray, .agg #[.int .i64 k, .int .i64 q]] w (TellsS (clE s k q) (clS s k q) w) := by
  obtain ⟨a0, n0, c0, b0, m0, d0, e0, k0, f0, q0, rfl, -, -, -, -⟩ := st_flatNl h
  obtain ⟨post, hpost⟩ : ∃ post : Ending → World → Prop, post = TellsS (clE s k q) (clS s k q) w := ⟨_, rfl⟩
  have HPo : Hid (∀ us' z t w', z = clE s k q → t = clS s k q → stN.owns w.heap.size w' us' t → Below w.heap.size w w' → post (.returned (.tuple #[.agg us'.toArray, .int .i64 z])) w') := fun us' z t w' e1 e2 e3 e4 => by
    rw [hpost, e1]
    rw [e2] at e3
    exact ⟨⟨us', rfl, e3⟩, e4⟩
  rw [← hpost]
  clear hpost
  obtain ⟨W, hW⟩ : ∃ W, W = ((w.alloc (.cells #[.slice a0 n0 c0, .slice b0 m0 d0, .slice e0 k0 f0, .int .i64 q0] 31)).alloc (.cells #[.int .i64 k, .int .i64 q] 34)).alloc (.cells #[.slice none 0 0, .slice none 0 0, .slice none 0 0, .int .i64 0] 31) := ⟨_, rfl⟩
  have HB : Hid (Below w.heap.size w W) := by rw [hW]; exact (((Below.refl _ w).alloc (Nat.le_refl _) _).alloc (by simp) _).alloc (by simp; omega) _
  have HX : Hid (Box W w.heap.size 31 #[.slice a0 n0 c0, .slice b0 m0 d0, .slice e0 k0 f0, .int .i64 q0] ∧ Box W (w.heap.size + 1) 34 #[.int .i64 k, .int .i64 q] ∧ Box W (w.heap.size + 2) 31 #[.slice none 0 0, .slice none 0 0, .slice none 0 0, .int .i64 0]) := by
    rw [hW]
    refine ⟨((Box.new _ _ _).alloc _).alloc _, ?_, ?_⟩
    · have := Box.new (w.alloc (.cells #[.slice a0 n0 c0, .slice b0 m0 d0, .slice e0 k0 f0, .int .i64 q0] 31)) 34 #[.int .i64 k, .int .i64 q]
      rw [World.size_alloc] at this
      exact this.alloc _
    · have := Box.new ((w.alloc (.cells #[.slice a0 n0 c0, .slice b0 m0 d0, .slice e0 k0 f0, .int .i64 q0] 31)).alloc (.cells #[.int .i64 k, .int .i64 q] 34)) 31 #[.slice none 0 0, .slice none 0 0, .slice none 0 0, .int .i64 0]
      rwa [World.size_alloc, World.size_alloc] at this
  have HL : Hid (∀ V, Below w.heap.size w V → stN.lies 0 V [.slice a0 n0 c0, .slice b0 m0 d0, .slice e0 k0 f0, .int .i64 q0] s) := fun V hV => stN.below (stN.weaken h (Nat.zero_le _)) hV
  clear h
  obtain ⟨ue, hue⟩ : ∃ z, z = uE s k := ⟨_, rfl⟩
  have HC := liveL_any 0 [.slice a0 n0 c0, .slice b0 m0 d0, .slice e0 k0 f0, .int .i64 q0] s k W (HL.out W HB.out)
  rw [← hue] at HC
  have HUE : Hid (ue = uE s k) := hue
  clear hue
  go_enter Try.func10, Try.ntmps10
  go_upto_region 1 with fail
  rw [← hW]
  clear hW
  obtain ⟨x0, x1, x2, x3, -⟩ := HX.out.1.four
  obtain ⟨r0, r1, -⟩ := HX.out.2.1.two
  go_wp2_with fail
  clear x0 x1 x2 x3 r0 r1
  refine HC.mono ?_
  rintro e1 w1 ⟨⟨v1, rfl, ho1⟩, hb1⟩
  have HB1 : Hid (Below w.heap.size w w1 ∧ w.heap.size + 3 ≤ w1.heap.size) := ⟨below_any HB.out hb1, by have := hb1.size; have := HX.out.2.2.lt; omega⟩
  have HX1 : Hid (Box w1 w.heap.size 31 #[.slice a0 n0 c0, .slice b0 m0 d0, .slice e0 k0 f0, .int .i64 q0] ∧ Box w1 (w.heap.size + 1) 34 #[.int .i64 k, .int .i64 q] ∧ Box w1 (w.heap.size + 2) 31 #[.slice none 0 0, .slice none 0 0, .slice none 0 0, .int .i64 0]) := ⟨HX.out.1.below hb1 HX.out.1.lt, HX.out.2.1.below hb1 HX.out.2.1.lt, HX.out.2.2.below hb1 HX.out.2.2.lt⟩
  have HLV : Hid (bksN.lies 0 w1 [v1] (lL s k)) := bksN.weaken (bksN.olies ho1) (Nat.zero_le _)
  clear HC ho1 hb1
  by_cases hu : ue = 0
  case neg =>
    have hub : (ue == 0) = false := by simpa using hu
    have hun : clE s k q = ue := by unfold clE; rw [if_neg (by rw [← HUE.out]; exact hu)]; exact HUE.out.symm
    have hR := HX1.out.2.2
    obtain ⟨y0, y1, y2, y3, j0, j1, j2, j3⟩ := hR.four
    have HE : Hid (post (.returned (.tuple #[.agg #[.slice none 0 0, .slice none 0 0, .slice none 0 0, .int .i64 0], .int .i64 ue])) ((((w1.setCell ⟨(w.heap.size + 2), 0, none⟩ (.slice none 0 0)).setCell ⟨(w.heap.size + 2), 1, none⟩ (.slice none 0 0)).setCell ⟨(w.heap.size + 2), 2, none⟩ (.slice none 0 0)).setCell ⟨(w.heap.size + 2), 3, none⟩ (.int .i64 0))) := HPo.out [.slice none 0 0, .slice none 0 0, .slice none 0 0, .int .i64 0] ue s0 _ (hun.symm) ((clS_no (by rw [hun]; exact hu)).symm) (s0_owns _ _) (below_set4 HB1.out.1 (by omega) _ _ _ _)
    clear hR
    go_wp2
    refine bodyPost_ret (v := .tuple #[.agg #[.slice none 0 0, .slice none 0 0, .slice none 0 0, .int .i64 0], .int .i64 ue]) (by simp [results, Try.results10, go_sem, *]) rfl HE.out
  subst hu
  obtain ⟨hok, i, p, hki, hil, hp, hsl, hfr⟩ := uE_zero HUE.out.symm
  subst hki
  obtain ⟨gb, go', ga, gc, hix, hc0, hc1, hSG, _⟩ := sgs_atN (st_seg (HL.out w1 HB1.out.1)).1 i p hp
  have HP : Hid (Ok s ∧ s.1[i]? = some p ∧ slotOf s (i : Int) = p) := ⟨hok, hp, hsl⟩
  have HS : Hid (∀ V, Below w1.heap.size w1 V → V.cell? ⟨w.heap.size, 0, none⟩ = some (.slice a0 n0 c0) ∧ V.cell? ⟨w.heap.size + 1, 0, none⟩ = some (.int .i64 i) ∧ V.cell? ⟨w.heap.size + 1, 1, none⟩ = some (.int .i64 q) ∧ V.cell? ⟨gb, go', none⟩ = some (.int .i64 p.1)) := fun V hV => ⟨((HX1.out.1.below hV HX1.out.1.lt).four).1, ((HX1.out.2.1.below hV HX1.out.2.1.lt).two).1, ((HX1.out.2.1.below hV HX1.out.2.1.lt).two).2.1, cell_below hV hc0⟩
  clear hok hil hp hsl hfr hc0 hc1 hSG
  obtain ⟨pq, hpq⟩ : ∃ z, z = p.1 := ⟨_, rfl⟩
  rw [← hpq] at HS
  have HPQ : Hid (pq = p.1) := hpq
  clear hpq
  go_upto_region 4 with fail
  refine AnyBut.begin (fun V => V.cell? ⟨w.heap.size, 0, none⟩ = some (.slice a0 n0 c0) ∧ V.cell? ⟨w.heap.size + 1, 0, none⟩ = some (.int .i64 i) ∧ V.cell? ⟨w.heap.size + 1, 1, none⟩ = some (.int .i64 q) ∧ V.cell? ⟨gb, go', none⟩ = some (.int .i64 pq)) 1000 (by kernel_rfl) ?_
  have hSS := HS.out w1.drew (Below.refl _ w1).drew
  have HZ : Hid (∃ z, z = w1.drew) := ⟨_, rfl⟩
  refine tx 0 19 hSS ?_
  simp only [ua, ub, uc, ud]
  refine tx 1 20 hSS ?_
  simp only [ua, ub, uc, ud]
  refine tx 2 21 hSS ?_
  simp only [ua, ub, uc, ud]
  refine tx 3 22 hSS ?_
  simp only [ua, ub, uc, ud]
  refine tx 4 23 hSS ?_
  simp only [ua, ub, uc, ud]
  refine tx 5 24 hSS ?_
  simp only [ua, ub, uc, ud]
  refine tx 6 25 hSS ?_
  simp only [ua, ub, uc, ud]
  refine tx 7 26 hSS ?_
  simp only [ua, ub, uc, ud]
  refine tx 8 27 hSS ?_
  simp only [ua, ub, uc, ud]
  obtain ⟨D, hD⟩ : ∃ D, D = w1.drew := ⟨_, rfl⟩
  have hbD : Below w1.heap.size w1 D := by rw [hD]; exact (Below.refl _ w1).drew
  have HBD : Hid (Below w.heap.size w D ∧ w.heap.size + 3 ≤ D.heap.size) := ⟨below_any HB1.out.1 hbD, by have := hbD.size; have := HB1.out.2; omega⟩
  have HXD : Hid (Box D w.heap.size 31 #[.slice a0 n0 c0, .slice b0 m0 d0, .slice e0 k0 f0, .int .i64 q0] ∧ Box D (w.heap.size + 1) 34 #[.int .i64 (i : Int), .int .i64 q] ∧ Box D (w.heap.size + 2) 31 #[.slice none 0 0, .slice none 0 0, .slice none 0 0, .int .i64 0]) := ⟨HX1.out.1.below hbD HX1.out.1.lt, HX1.out.2.1.below hbD HX1.out.2.1.lt, HX1.out.2.2.below hbD HX1.out.2.2.lt⟩
  have HLD : Hid (bksN.lies 0 D [v1] (lL s (i : Int))) := bksN.below HLV.out hbD
  rw [← hD] at hSS ⊢
  clear hD hbD HS HZ HX1 HB1 HLV
  by_cases hpe : pq = q
  case neg =>
    have hpb : (pq == q) = false := by simpa using hpe
    have hpn : (pq != q) = true := by simpa using hpe
    refine tx 9 28 hSS ?_
    simp only [ua, ub, uc, ud]
    refine AnyBut.done (by kernel_rfl) ?_
    clear hSS hix
    have hun : clE s (i : Int) q = 81 := by unfold clE; rw [if_pos HUE.out.symm, HP.out.2.2, if_neg (by rw [← HPQ.out]; exact hpe)]
    have hR := HXD.out.2.2
    obtain ⟨y0, y1, y2, y3, j0, j1, j2, j3⟩ := hR.four
    have HE : Hid (post (.returned (.tuple #[.agg #[.slice none 0 0, .slice none 0 0, .slice none 0 0, .int .i64 0], .int .i64 81])) ((((D.setCell ⟨(w.heap.size + 2), 0, none⟩ (.slice none 0 0)).setCell ⟨(w.heap.size + 2), 1, none⟩ (.slice none 0 0)).setCell ⟨(w.heap.size + 2), 2, none⟩ (.slice none 0 0)).setCell ⟨(w.heap.size + 2), 3, none⟩ (.int .i64 0))) := HPo.out [.slice none 0 0, .slice none 0 0, .slice none 0 0, .int .i64 0] 81 s0 _ (hun.symm) ((clS_no (by rw [hun]; decide)).symm) (s0_owns _ _) (below_set4 HBD.out.1 (by omega) _ _ _ _)
    clear hR
    go_wp2
    refine bodyPost_ret (v := .tuple #[.agg #[.slice none 0 0, .slice none 0 0, .slice none 0 0, .int .i64 0], .int .i64 81]) (by simp [results, Try.results10, go_sem, *]) rfl HE.out
  subst hpe
  have hpn : (pq != pq) = false := by simp
  refine tx 9 28 hSS ?_
  simp only [ua, ub, uc, ud]
  refine AnyBut.done (by kernel_rfl) ?_
  clear hSS hix hpn
  obtain ⟨me, hme⟩ : ∃ z, z = movE (lL s (i : Int)) s := ⟨_, rfl⟩
  have HC := moved_any 0 0 [.slice a0 n0 c0, .slice b0 m0 d0, .slice e0 k0 f0, .int .i64 q0] s v1 (lL s (i : Int)) D (HL.out D HBD.out.1) HLD.out
  rw [← hme] at HC
  have HCE : Hid (me = movE (lL s (i : Int)) s ∧ clE s (i : Int) pq = me) := ⟨hme, by unfold clE; rw [if_pos HUE.out.symm, HP.out.2.2, if_pos HPQ.out.symm]; exact hme.symm⟩
  obtain ⟨x0, x1, x2, x3, -⟩ := HXD.out.1.four
  clear hme
  go_wp2_with fail
  clear x0 x1 x2 x3
  refine HC.mono ?_
  rintro e8 w8 ⟨⟨us8, rfl, hsl8⟩, hb8⟩
  have hl8 : ∀ V, Below w.heap.size w V → (∀ u1 u2 u3 u4, V = ((((w8.setCell ⟨w.heap.size, 0, none⟩ u1).setCell ⟨w.heap.size, 1, none⟩ u2).setCell ⟨w.heap.size, 2, none⟩ u3).setCell ⟨w.heap.size, 3, none⟩ u4) → stN.lies 0 V us8 (movS (lL s (i : Int)) s)) := fun V hV u1 u2 u3 u4 e => by
    rcases hsl8 with ⟨e1, e2⟩ | ho
    · rw [e1, e2]; exact HL.out V hV
    · rw [e]; exact stN.weaken (stN.olies (own_set4 stN (by decide) ho (HXD.out.1.below hb8 HXD.out.1.lt) _ _ _ _)) (Nat.zero_le _)
  obtain ⟨a8, n8, c8, b8, m8, d8, e8, k8, f8, q8, hus8⟩ : ∃ a n1 c b n2 d e n3 f q, us8 = [.slice a n1 c, .slice b n2 d, .slice e n3 f, .int .i64 q] := by
    rcases hsl8 with ⟨e1, _⟩ | ho
    · exact ⟨_, _, _, _, _, _, _, _, _, _, e1⟩
    · exact st_fl ho
  subst hus8
  have hY1 := HXD.out.1.below hb8 HXD.out.1.lt
  have hY2 := HXD.out.2.1.below hb8 HXD.out.2.1.lt
  have hY3 := HXD.out.2.2.below hb8 HXD.out.2.2.lt
  obtain ⟨z0, z1, z2, z3, j0, j1, j2, j3⟩ := hY1.four
  obtain ⟨X, hX⟩ : ∃ X, X = (((w8.setCell ⟨w.heap.size, 0, none⟩ (.slice a8 n8 c8)).setCell ⟨w.heap.size, 1, none⟩ (.slice b8 m8 d8)).setCell ⟨w.heap.size, 2, none⟩ (.slice e8 k8 f8)).setCell ⟨w.heap.size, 3, none⟩ (.int .i64 q8) := ⟨_, rfl⟩
  have hbX : Below w.heap.size w X := by rw [hX]; exact below_set4 (below_any HBD.out.1 hb8) (Nat.le_refl _) _ _ _ _
  have HBX : Hid (Below w.heap.size w X) := hbX
  have HXX : Hid (Box X w.heap.size 31 #[.slice a8 n8 c8, .slice b8 m8 d8, .slice e8 k8 f8, .int .i64 q8] ∧ Box X (w.heap.size + 1) 34 #[.int .i64 (i : Int), .int .i64 pq] ∧ Box X (w.heap.size + 2) 31 #[.slice none 0 0, .slice none 0 0, .slice none 0 0, .int .i64 0]) := by
    rw [hX]
    exact ⟨(((hY1.set 0 _).set 1 _).set 2 _).set 3 _, (((hY2.other (by omega)).other (by omega)).other (by omega)).other (by omega), (((hY3.other (by omega)).other (by omega)).other (by omega)).other (by omega)⟩
  have HLX : Hid (stN.lies 0 X [.slice a8 n8 c8, .slice b8 m8 d8, .slice e8 k8 f8, .int .i64 q8] (movS (lL s (i : Int)) s)) := hl8 X hbX _ _ _ _ hX
  go_upto_region 7 with fail
  rw [← hX]
  clear hX HC hsl8 hb8 hl8 hbX hY1 hY2 hY3 z0 z1 z2 z3 j0 j1 j2 j3
  by_cases hm : me = 0
  case neg =>
    have hmb : (me == 0) = false := by simpa using hm
    have hR := HXX.out.2.2
    obtain ⟨y0, y1, y2, y3, j0, j1, j2, j3⟩ := hR.four
    have HE : Hid (post (.returned (.tuple #[.agg #[.slice none 0 0, .slice none 0 0, .slice none 0 0, .int .i64 0], .int .i64 me])) ((((X.setCell ⟨(w.heap.size + 2), 0, none⟩ (.slice none 0 0)).setCell ⟨(w.heap.size + 2), 1, none⟩ (.slice none 0 0)).setCell ⟨(w.heap.size + 2), 2, none⟩ (.slice none 0 0)).setCell ⟨(w.heap.size + 2), 3, none⟩ (.int .i64 0))) := HPo.out [.slice none 0 0, .slice none 0 0, .slice none 0 0, .int .i64 0] me s0 _ (HCE.out.2.symm) ((clS_no (by rw [HCE.out.2]; exact hm)).symm) (s0_owns _ _) (below_set4 HBX.out (by omega) _ _ _ _)
    clear hR
    go_wp2
    refine bodyPost_ret (v := .tuple #[.agg #[.slice none 0 0, .slice none 0 0, .slice none 0 0, .int .i64 0], .int .i64 me]) (by simp [results, Try.results10, go_sem, *]) rfl HE.out
  subst hm
  have hcf := cl_free HCE.out.2
  have HC := free_any 0 [.slice a8 n8 c8, .slice b8 m8 d8, .slice e8 k8 f8, .int .i64 q8] (movS (lL s (i : Int)) s) i X HLX.out
  rw [hcf.1, hcf.2] at HC
  obtain ⟨x0, x1, x2, x3, -⟩ := HXX.out.1.four
  obtain ⟨r0, r1, -⟩ := HXX.out.2.1.two
  clear hcf
  go_wp2_with fail
  clear x0 x1 x2 x3 r0 r1
  refine HC.mono ?_
  rintro e7 w7 ⟨⟨us7, rfl, ho7⟩, hb7⟩
  obtain ⟨a7, n7, c7, b7, m7, d7, e7, k7, f7, q7, rfl⟩ := st_fl ho7
  have hR := HXX.out.2.2.below hb7 HXX.out.2.2.lt
  obtain ⟨y0, y1, y2, y3, j0, j1, j2, j3⟩ := hR.four
  have HE : Hid (post (.returned (.tuple #[.agg #[.slice a7 n7 c7, .slice b7 m7 d7, .slice e7 k7 f7, .int .i64 q7], .int .i64 0])) ((((w7.setCell ⟨(w.heap.size + 2), 0, none⟩ (.slice a7 n7 c7)).setCell ⟨(w.heap.size + 2), 1, none⟩ (.slice b7 m7 d7)).setCell ⟨(w.heap.size + 2), 2, none⟩ (.slice e7 k7 f7)).setCell ⟨(w.heap.size + 2), 3, none⟩ (.int .i64 q7))) := HPo.out [.slice a7 n7 c7, .slice b7 m7 d7, .slice e7 k7 f7, .int .i64 q7] 0 (clS s (i : Int) pq) _ HCE.out.2.symm rfl (own_set4 stN (by decide) (stN.oweaken ho7 HBX.out.size) hR _ _ _ _) (below_set4 (below_any HBX.out hb7) (by omega) _ _ _ _)
  clear HC ho7 hb7 hR
  go_wp2
  refine bodyPost_ret (v := .tuple #[.agg #[.slice a7 n7 c7, .slice b7 m7 d7, .slice e7 k7 f7, .int .i64 q7], .int .i64 0]) (by simp [results, Try.results10, go_sem, *]) rfl HE.out

end Go.Proofs.Ytkpckadicjdieab

/-
  What the comparison of two kinds answers.
-/
namespace Go.Proofs.Ytkpckadicjdieab
open Go.RowKit

set_option maxHeartbeats 400000 in
theorem nan_any (x : Int) (w : World) : Calls Try.prog 70 #[.int .i64 x] w fun e w' => e = .returned (.bool false) ∧ w = w' := by
  go_enter Try.func70, Try.ntmps70
  go_wp2
  go_ret
  exact ⟨by simp, rfl⟩

set_option maxHeartbeats 1000000 in
theorem compare_any (x y : Int) (w : World) : Calls Try.prog 37 #[.int .i64 x, .int .i64 y] w fun e w' => e = .returned (.int .i64 (cmpI x y)) ∧ w = w' := by
  have HN := nan_any
  by_cases h1 : x < y
  · rw [show cmpI x y = -1 from if_pos h1]
    go_enter Try.func37, Try.ntmps37
    go_wp2_with (go_at_call 70; refine (HN _ _).mono ?_; rintro e w1 ⟨rfl, rfl⟩)
    go_ret
    exact ⟨rfl, rfl⟩
  · by_cases h2 : y < x
    · rw [show cmpI x y = 1 by unfold cmpI; rw [if_neg h1, if_pos h2]]
      go_enter Try.func37, Try.ntmps37
      go_wp2_with (go_at_call 70; refine (HN _ _).mono ?_; rintro e w1 ⟨rfl, rfl⟩)
      go_ret
      exact ⟨rfl, rfl⟩
    · rw [show cmpI x y = 0 by unfold cmpI; rw [if_neg h1, if_neg h2]]
      go_enter Try.func37, Try.ntmps37
      go_wp2_with (go_at_call 70; refine (HN _ _).mono ?_; rintro e w1 ⟨rfl, rfl⟩)
      go_ret
      exact ⟨rfl, rfl⟩


set_option maxRecDepth 100000 in
set_option maxHeartbeats 1000000 in
theorem or_any (g : Nat) (x y : Int) (w : World) (hB : Box w g 3 #[.int .i64 x, .int .i64 y]) :
    Calls Try.prog 36 #[.slice (some ⟨g, 0, none⟩) 2 2] w fun e w' => e = .returned (.int .i64 (if x ≠ 0 then x else y)) ∧ w = w' := by
  obtain ⟨i0, hi0, _, hz, _⟩ := info_parts Try.info3
  obtain ⟨c0, c1, -⟩ := hB.two
  have hl := run_len Try.underlying127 (some ⟨g, 0, none⟩) 2 2
  have h0 : ∀ W, (Instr.indexAt 127 (.slice (some ⟨g, 0, none⟩) 2 2) (.int .i64 (0 : Nat))).run Try.prog W = .ok (.pointer (some ⟨g, 0, none⟩)) W := fun W => by simpa using run_index (size := 1) Try.underlying127 hi0 hz g 0 2 2 0 (by omega) W
  have h1 : ∀ W, (Instr.indexAt 127 (.slice (some ⟨g, 0, none⟩) 2 2) (.int .i64 (1 : Nat))).run Try.prog W = .ok (.pointer (some ⟨g, 1, none⟩)) W := fun W => by simpa using run_index (size := 1) Try.underlying127 hi0 hz g 0 2 2 1 (by omega) W
  have h0 : ∀ W, (Instr.indexAt 127 (.slice (some ⟨g, 0, none⟩) 2 2) (.int .i64 0)).run Try.prog W = .ok (.pointer (some ⟨g, 0, none⟩)) W := h0
  have h1 : ∀ W, (Instr.indexAt 127 (.slice (some ⟨g, 0, none⟩) 2 2) (.int .i64 1)).run Try.prog W = .ok (.pointer (some ⟨g, 1, none⟩)) W := h1
  clear hi0 hz hB
  by_cases hx : x = 0
  · subst hx
    by_cases hy : y = 0
    · subst hy
      go_enter Try.func36, Try.ntmps36
      go_wp2
      refine wp_loop_rounds 3 ?_
      rw [rounds_succ]
      go_wp2
      rw [rounds_succ]
      go_wp2
      rw [rounds_succ]
      go_wp2
      go_ret
      exact ⟨by simp, rfl⟩
    · have hyi : (y == 0) = false := by simp [hy]
      have e : (if (0 : Int) ≠ 0 then (0 : Int) else y) = y := by simp
      rw [e]
      clear e
      go_enter Try.func36, Try.ntmps36
      go_wp2
      refine wp_loop_rounds 2 ?_
      rw [rounds_succ]
      go_wp2
      rw [rounds_succ]
      go_wp2
      go_ret
      exact ⟨rfl, rfl⟩
  · have hxi : (x == 0) = false := by simp [hx]
    rw [if_pos hx]
    go_enter Try.func36, Try.ntmps36
    go_wp2
    refine wp_loop_rounds 1 ?_
    rw [rounds_succ]
    go_wp2
    go_ret
    exact ⟨rfl, rfl⟩

end Go.Proofs.Ytkpckadicjdieab

/-
  A range over the map of last versions, under way: which kinds are still to come.
-/
namespace Go.Proofs.Ytkpckadicjdieab
open Go.RowKit
open Go.Maps (Keyed)

/-- A range under way. -/
def LG (w0 w : World) (b r : Nat) (l : List Ver) (left : Int → Int → Bool) (cnt : Nat) : Prop := ∃ (D : DataW Value) (M : Int → Int → Value) (Lf : Lit → Bool), w.ranges Try.prog 80 elV b r l.length D Lf cnt ∧
  (∀ o i, I64 o → I64 i → D.atKey (kk o i) (.held z0) = .held (M o i) ∧ KvAt w0 (M o i) (kn l o i)) ∧ (∀ o i, I64 o → I64 i → Lf (kk o i) = left o i)
theorem LG.lt {w0 w : World} {b r : Nat} {l : List Ver} {left : Int → Int → Bool} {cnt : Nat} (h : LG w0 w b r l left cnt) : r < w.heap.size ∧ b < w.heap.size := let ⟨_, _, _, h1, _⟩ := h; ⟨h1.lt, h1.owns.lt⟩
theorem LG.left_eq {w0 w : World} {b r : Nat} {l : List Ver} {left : Int → Int → Bool} {cnt : Nat} (h : LG w0 w b r l left cnt) : w.rangeLeft b r = cnt := let ⟨_, _, _, h1, _⟩ := h; h1.left_eq
theorem LG.kept {w0 w w' : World} {b r : Nat} {l : List Ver} {left : Int → Int → Bool} {cnt : Nat} {row : Option Nat} (h : LG w0 w b r l left cnt) (hg : w.grownBy w' row) (h1 : some b ≠ row) (h2 : some r ≠ row) : LG w0 w' b r l left cnt := by
  obtain ⟨D, M, Lf, hr, rest⟩ := h
  exact ⟨D, M, Lf, hr.kept hg h1 h2, rest⟩
theorem LG.below {w0 w w' : World} {b r : Nat} {l : List Ver} {left : Int → Int → Bool} {cnt : Nat} (h : LG w0 w b r l left cnt) (hb : Below w.heap.size w w') : LG w0 w' b r l left cnt := h.kept (grown_below hb none) (by simp) (by simp)
theorem LV.range {w0 w : World} {b : Nat} {l : List Ver} (h : LV w0 w b l) :
    ∃ w' cnt, (Instr.range 77 (.map (some b))).run Try.prog w = .ok (.pointer (some ⟨w.heap.size, 0, none⟩)) w' ∧ LG w0 w' b w.heap.size l (fun o i => decide (0 < (kn l o i).2.2.2)) cnt ∧ w.grownBy w' none ∧ w'.heap.size = w.heap.size + 1 := by
  obtain ⟨D, M, h1, h2⟩ := h
  obtain ⟨w', hrun, h3, hg, hs⟩ := h1.range keyedK Try.underlying77
  exact ⟨w', _, hrun, ⟨D, M, _, h3, fun o i ho hi => ⟨(h2 o i ho hi).1, (h2 o i ho hi).2.2⟩, fun o i ho hi => (h2 o i ho hi).2.1⟩, hg, hs⟩
theorem LG.next {w0 w : World} {b r : Nat} {l : List Ver} {left : Int → Int → Bool} {cnt : Nat} (h : LG w0 w b r l left cnt) (ty : TypeId) :
    ((∀ o i, I64 o → I64 i → left o i = false) ∧ (Instr.next (.pointer (some ⟨r, 0, none⟩)) false ty).run Try.prog w = .ok (.tuple #[.bool false]) w) ∨
    ∃ (o i : Int) (v : Value) (w' : World) (cnt' : Nat), I64 o ∧ I64 i ∧ left o i = true ∧ KvAt w0 v (kn l o i) ∧ (Instr.next (.pointer (some ⟨r, 0, none⟩)) false ty).run Try.prog w = .ok (.tuple #[.bool true, kv o i, v]) w' ∧
      LG w0 w' b r l (fun o' i' => left o' i' && !decide (o' = o ∧ i' = i)) cnt' ∧ cnt' < cnt ∧ w.grownBy w' (some r) ∧ w'.heap.size = w.heap.size ∧ (Instr.entry (.pointer (some ⟨r, 0, none⟩))).run Try.prog w' = .ok (.tuple #[kv o i, v]) w' := by
  obtain ⟨D, M, Lf, h1, h2, h3⟩ := h
  rcases h1.next keyedK ty with ⟨h0, hl, hrun⟩ | ⟨key, v, k, y, w', cnt', hkey, hlk, hv, hat, hrun, hrg, hlt, hgr, hsz, hen⟩
  · exact .inl ⟨fun o i ho hi => by rw [← h3 o i ho hi]; exact hl _, hrun⟩
  · obtain ⟨o, i, rfl, ho, hi, rfl⟩ := kk_inv hkey
    have hvM : v = M o i := by
      have e1 := hat (.held z0)
      rw [(h2 o i ho hi).1] at e1
      have e2 : y = (.held v, []) := (Option.some.inj hv).symm
      rw [e2] at e1
      exact (DataW.held.inj e1).symm
    refine .inr ⟨o, i, v, w', cnt', ho, hi, by rw [← h3 o i ho hi]; exact hlk, by rw [hvM]; exact (h2 o i ho hi).2, hrun, ⟨D, M, _, hrg, h2, fun o' i' ho' hi' => ?_⟩, hlt, hgr, hsz, hen⟩
    show (Lf (kk o' i') && !(kk o' i').sameKey (kk o i)) = _
    rw [h3 o' i' ho' hi']
    by_cases e : o' = o ∧ i' = i
    · obtain ⟨rfl, rfl⟩ := e
      rw [WideAt.sameKey_self (keyedK.key (kk_key ho hi))]
      simp
    · rw [Maps.sameKey_ne (fun e' => e (kk_inj ho' hi' ho hi e'))]
      simp [e]

/-- Octets that lie in a slice are determined by it. -/
theorem Arg.unique {n m : Nat} {w : World} {v : Value} {l k : List Int} (h1 : Arg n w v l) (h2 : Arg m w v k) : l = k := by
  obtain ⟨a, c, e1, _⟩ := h1.shape
  obtain ⟨a', c', e2, _⟩ := h2.shape
  have hl : l.length = k.length := by
    have h9 := e1.symm.trans e2
    simp only [Value.slice.injEq] at h9
    exact h9.2.1
  apply List.ext_getElem? 
  intro i
  by_cases hi : i < l.length
  · obtain ⟨x, hx⟩ := get_lt (l := l) (k := i) hi
    obtain ⟨y, hy⟩ := get_lt (l := k) (k := i) (by omega)
    obtain ⟨b, o, r1, _, c1, _⟩ := h1.at i x hx
    obtain ⟨b2, o2, r2, _, c2, _⟩ := h2.at i y hy
    have h9 := (r1 w).symm.trans (r2 w)
    simp only [Result.ok.injEq, Value.pointer.injEq, Option.some.injEq, Addr.mk.injEq, and_true] at h9
    obtain ⟨rfl, rfl⟩ := h9
    rw [c1] at c2
    simp only [Option.some.injEq, Value.int.injEq, true_and] at c2
    rw [hx, hy, c2]
  · rw [List.getElem?_eq_none (by omega), List.getElem?_eq_none (by omega)]
/-- Data that are not empty come of a version of their kind. -/
theorem kn_kind {l : List Ver} {o i : Int} (h : (kn l o i).1.2.2 ≠ []) : (kn l o i).1.1 = o ∧ (kn l o i).1.2.1 = i ∧ 0 < (kn l o i).2.2.2 := by
  rw [kn_count]
  unfold kn at *
  rcases kn_mem (l.filter (isK o i)) kn0 with e | ⟨y, hy, e⟩
  · rw [e] at h
    exact absurd rfl h
  · rw [e]
    have hk := (List.mem_filter.1 hy).2
    have hk' : y.2.2.1 = o ∧ y.2.2.2.1 = i := by simpa [isK] using hk
    exact ⟨hk'.1, hk'.2, List.length_pos_of_mem hy⟩

end Go.Proofs.Ytkpckadicjdieab
