import Derived.Test.YtkpckadicjdieaaZ11
import Derived.Test.YtkpckadicjdieaaZ7
import Derived.Test.YtkpckadicjdieaaZ8
import Derived.Test.YtkpckadicjdieaaZ4
/-
  Plain mathematics: the last version of a kind, whatever the order in which versions are met; what Put, Seal and Free make of it.
-/
namespace Go.Proofs.Ytkpckadicjdieaa

theorem snoc_ind {α : Type} {P : List α → Prop} (nil : P []) (snoc : ∀ l a, P l → P (l ++ [a])) (l : List α) : P l := by
  have h : ∀ r : List α, P r.reverse := fun r => by
    induction r with
    | nil => exact nil
    | cons a r ih => rw [List.reverse_cons]; exact snoc _ _ ih
  have := h l.reverse
  rwa [List.reverse_reverse] at this
/-- One version ahead of another, or the same. -/
def vLe (y x : Ver) : Prop := y.1 < x.1 ∨ (y.1 = x.1 ∧ y.2.1 ≤ x.2.1)
/-- Versions as they stand in a store: numbers from 0 up; of one number the places rise. -/
structure WV (l : List Ver) : Prop where
  pos : ∀ x ∈ l, 0 ≤ x.1
  up : l.Pairwise fun y z => y.1 = z.1 → y.2.1 < z.2.1
theorem WV.of_append {l m : List Ver} (h : WV (l ++ m)) : WV l := ⟨fun x hx => h.pos x (List.mem_append_left _ hx), (List.pairwise_append.1 h.up).1⟩
theorem WV.one {l : List Ver} (h : WV l) {x y : Ver} (hx : x ∈ l) (hy : y ∈ l) (e1 : x.1 = y.1) (e2 : x.2.1 = y.2.1) : x = y := by
  induction l with
  | nil => cases hx
  | cons a l ih =>
    obtain ⟨p1, p2⟩ := List.pairwise_cons.1 h.up
    rcases List.mem_cons.1 hx with rfl | hx'
    · rcases List.mem_cons.1 hy with rfl | hy'
      · rfl
      · have := p1 y hy' e1; omega
    · rcases List.mem_cons.1 hy with rfl | hy'
      · have := p1 x hx' e1.symm; omega
      · exact ih ⟨fun z hz => h.pos z (List.mem_cons_of_mem _ hz), p2⟩ hx' hy'
/-- The last one of a kind. -/
structure IsLast (l : List Ver) (o i : Int) (x : Ver) : Prop where
  mem : x ∈ l
  kind : isK o i x = true
  max : ∀ y ∈ l, isK o i y = true → vLe y x
theorem vLe.refl (x : Ver) : vLe x x := .inr ⟨rfl, Nat.le_refl _⟩
theorem vLe.trans {x y z : Ver} (h : vLe x y) (k : vLe y z) : vLe x z := by unfold vLe at *; omega
theorem IsLast.eq {l : List Ver} {o i : Int} {x y : Ver} (hw : WV l) (h : IsLast l o i x) (k : IsLast l o i y) : x = y := by
  have a := h.max y k.mem k.kind
  have b := k.max x h.mem h.kind
  unfold vLe at a b
  exact hw.one h.mem k.mem (by omega) (by omega)
theorem kn_last (o i : Int) (l : List Ver) : WV l → ((∀ y ∈ l, isK o i y = false) ∧ kn l o i = kn0) ∨ ∃ x, IsLast l o i x ∧ (kn l o i).1 = x.2.2 ∧ (kn l o i).2.1 = x.1 ∧ (kn l o i).2.2.1 = x.2.1 := by
  refine snoc_ind (P := fun l => WV l → ((∀ y ∈ l, isK o i y = false) ∧ kn l o i = kn0) ∨ ∃ x, IsLast l o i x ∧ (kn l o i).1 = x.2.2 ∧ (kn l o i).2.1 = x.1 ∧ (kn l o i).2.2.1 = x.2.1) (fun _ => .inl ⟨fun y hy => (by cases hy), rfl⟩) (fun l x ih hw => ?_) l
  have hw' := hw.of_append
  rw [kn_snoc]
  by_cases hk : isK o i x = true
  · rw [if_pos hk]
    right
    rcases ih hw' with ⟨h1, h2⟩ | ⟨y, h1, h2, h3, h4⟩
    · refine ⟨x, ⟨List.mem_append_right _ (List.mem_singleton.2 rfl), hk, fun z hz hzk => ?_⟩, ?_⟩
      · rcases List.mem_append.1 hz with hz | hz
        · rw [h1 z hz] at hzk; cases hzk
        · rw [List.mem_singleton.1 hz]; exact vLe.refl x
      · rw [h2]
        have h0 : kn0.2.1 ≤ x.1 := hw.pos x (List.mem_append_right _ (List.mem_singleton.2 rfl))
        unfold knStep
        rw [if_pos h0]
        exact ⟨rfl, rfl, rfl⟩
    · by_cases hle : (kn l o i).2.1 ≤ x.1
      · refine ⟨x, ⟨List.mem_append_right _ (List.mem_singleton.2 rfl), hk, fun z hz hzk => ?_⟩, ?_⟩
        · rcases List.mem_append.1 hz with hz | hz
          · refine (h1.max z hz hzk).trans ?_
            rw [h3] at hle
            by_cases e : y.1 = x.1
            · exact .inr ⟨e, Nat.le_of_lt ((List.pairwise_append.1 hw.up).2.2 y h1.mem x (List.mem_singleton.2 rfl) e)⟩
            · exact .inl (by omega)
          · rw [List.mem_singleton.1 hz]; exact vLe.refl x
        · unfold knStep
          rw [if_pos hle]
          exact ⟨rfl, rfl, rfl⟩
      · refine ⟨y, ⟨List.mem_append_left _ h1.mem, h1.kind, fun z hz hzk => ?_⟩, ?_⟩
        · rcases List.mem_append.1 hz with hz | hz
          · exact h1.max z hz hzk
          · rw [List.mem_singleton.1 hz]
            rw [h3] at hle
            exact .inl (by omega)
        · unfold knStep
          rw [if_neg hle]
          exact ⟨h2, h3, h4⟩
  · rw [if_neg hk]
    rcases ih hw' with ⟨h1, h2⟩ | ⟨y, h1, h2⟩
    · left
      refine ⟨fun z hz => ?_, h2⟩
      rcases List.mem_append.1 hz with hz | hz
      · exact h1 z hz
      · rw [List.mem_singleton.1 hz]; simpa using hk
    · right
      refine ⟨y, ⟨List.mem_append_left _ h1.mem, h1.kind, fun z hz hzk => ?_⟩, h2⟩
      rcases List.mem_append.1 hz with hz | hz
      · exact h1.max z hz hzk
      · rw [List.mem_singleton.1 hz] at hzk; exact absurd hzk hk
/-- Of the same versions, in whatever order, the same one is the last. -/
theorem kn_same_mem {l m : List Ver} (hl : WV l) (hm : WV m) (h : ∀ x, x ∈ l ↔ x ∈ m) (o i : Int) : (kn l o i).1 = (kn m o i).1 ∧ (kn l o i).2.1 = (kn m o i).2.1 ∧ (kn l o i).2.2.1 = (kn m o i).2.2.1 := by
  rcases kn_last o i l hl with ⟨h1, h2⟩ | ⟨x, h1, h2, h3, h4⟩
  · rcases kn_last o i m hm with ⟨_, k2⟩ | ⟨y, k1, _⟩
    · rw [h2, k2]; exact ⟨rfl, rfl, rfl⟩
    · have := h1 y ((h y).2 k1.mem); rw [k1.kind] at this; cases this
  · rcases kn_last o i m hm with ⟨k1, _⟩ | ⟨y, k1, k2, k3, k4⟩
    · have := k1 x ((h x).1 h1.mem); rw [h1.kind] at this; cases this
    · have e : x = y := h1.eq hl ⟨(h y).2 k1.mem, k1.kind, fun z hz hk => k1.max z ((h z).1 hz) hk⟩
      subst e
      rw [h2, h3, h4, k2, k3, k4]
      exact ⟨rfl, rfl, rfl⟩
theorem plc_mem {q : Int} {l : List Bk} {x : Ver} : x ∈ plc q l ↔ x.1 = q ∧ l[x.2.1]? = some x.2.2 := by
  obtain ⟨a, k, b⟩ := x
  unfold plc
  rw [List.mem_map]
  constructor
  · rintro ⟨⟨c, j⟩, hy, e⟩
    simp only [Prod.mk.injEq] at e
    obtain ⟨rfl, rfl, rfl⟩ := e
    exact ⟨rfl, by have := List.mem_zipIdx_iff_getElem?.1 hy; simpa using this⟩
  · rintro ⟨e, h⟩
    exact ⟨(b, k), List.mem_zipIdx_iff_getElem?.2 (by simpa using h), by simp only at e; rw [e]⟩
theorem segv_mem {l : List Sg} {x : Ver} : x ∈ segv l ↔ ∃ p ∈ l, x.1 = p.1 ∧ p.2[x.2.1]? = some x.2.2 := by
  unfold segv
  rw [List.mem_flatten]
  constructor
  · rintro ⟨m, hm, hx⟩
    obtain ⟨p, hp, rfl⟩ := List.mem_map.1 hm
    exact ⟨p, hp, plc_mem.1 hx⟩
  · rintro ⟨p, hp, h⟩
    exact ⟨_, List.mem_map.2 ⟨p, hp, rfl⟩, plc_mem.2 h⟩
theorem plc_up (q : Int) (l : List Bk) : (plc q l).Pairwise fun y z => y.1 = z.1 → y.2.1 < z.2.1 := by
  refine snoc_ind (P := fun l => (plc q l).Pairwise fun y z => y.1 = z.1 → y.2.1 < z.2.1) List.Pairwise.nil (fun l b ih => ?_) l
  rw [plc_snoc]
  refine List.pairwise_append.2 ⟨ih, List.pairwise_singleton _ _, fun y hy z hz _ => ?_⟩
  rw [List.mem_singleton.1 hz]
  have := (plc_mem.1 hy).2
  exact (List.getElem?_eq_some_iff.1 this).1
theorem segv_up {l : List Sg} (h : (seqs l).Nodup) : (segv l).Pairwise fun y z => y.1 = z.1 → y.2.1 < z.2.1 := by
  revert h
  refine snoc_ind (P := fun l => (seqs l).Nodup → (segv l).Pairwise fun y z => y.1 = z.1 → y.2.1 < z.2.1) (fun _ => List.Pairwise.nil) (fun l p ih h => ?_) l
  rw [segv_snoc]
  rw [seqs_snoc] at h
  by_cases hf : freeB p = true
  · rw [if_pos hf] at h
    have : p.2 = [] := List.eq_nil_of_length_eq_zero (free_iff.1 hf).2
    rw [this]
    simpa [plc] using ih h
  · rw [if_neg hf] at h
    obtain ⟨h1, _, h3⟩ := List.nodup_append.1 h
    refine List.pairwise_append.2 ⟨ih h1, plc_up _ _, fun y hy z hz e => ?_⟩
    obtain ⟨q, hq, e1, e2⟩ := segv_mem.1 hy
    have hqf : freeB q = false := by
      cases hb : freeB q
      · rfl
      · have := (free_iff.1 hb).2
        rw [List.eq_nil_of_length_eq_zero this] at e2
        cases e2
    have hm : q.1 ∈ seqs l := by
      unfold seqs
      exact List.mem_map.2 ⟨q, List.mem_filter.2 ⟨hq, by rw [hqf]; rfl⟩, rfl⟩
    have := h3 q.1 hm p.1 (List.mem_singleton.2 rfl)
    rw [(plc_mem.1 hz).1, e1] at e
    exact absurd e this
theorem not_free {p : Sg} {k : Nat} {b : Bk} (h : p.2[k]? = some b) : freeB p = false := by
  cases hb : freeB p
  · rfl
  · have := (free_iff.1 hb).2
    rw [List.eq_nil_of_length_eq_zero this] at h
    cases h
theorem Ok.wv {s : St} (h : Ok s) : WV (vers s) := by
  unfold vers
  refine ⟨fun x hx => ?_, List.pairwise_append.2 ⟨segv_up h.apart, plc_up _ _, fun y hy z hz e => ?_⟩⟩
  · rcases List.mem_append.1 hx with hx | hx
    · obtain ⟨p, hp, e1, e2⟩ := segv_mem.1 hx
      have := (h.each p hp (not_free e2)).1.1.1
      omega
    · have := (plc_mem.1 hx).1
      have := h.next.1
      omega
  · obtain ⟨p, hp, e1, e2⟩ := segv_mem.1 hy
    have h1 := (h.each p hp (not_free e2)).2
    have h2 := (plc_mem.1 hz).1
    omega
theorem vers_iff {s : St} {x : Ver} : x ∈ vers s ↔ (∃ p ∈ s.1, x.1 = p.1 ∧ p.2[x.2.1]? = some x.2.2) ∨ (x.1 = s.2.2.2 ∧ s.2.2.1[x.2.1]? = some x.2.2) := by
  unfold vers
  rw [List.mem_append, segv_mem, plc_mem]
theorem Ok.le {s : St} (h : Ok s) {x : Ver} (hx : x ∈ vers s) : x.1 ≤ s.2.2.2 := by
  rcases vers_iff.1 hx with ⟨p, hp, e1, e2⟩ | ⟨e, _⟩
  · have := (h.each p hp (not_free e2)).2
    omega
  · omega
/-- Slots of one number are one slot. -/
theorem Ok.slot {s : St} (h : Ok s) {i j : Nat} {p q : Sg} (hi : s.1[i]? = some p) (hj : s.1[j]? = some q) (hf : freeB p = false) (e : p.1 = q.1) : i = j := by
  have hq : freeB q = false := by
    cases hb : freeB q
    · rfl
    · have := (h.each p (List.mem_of_getElem? hi) hf).1.1.1
      have := (free_iff.1 hb).1
      omega
  have key : ∀ (l : List Sg), (seqs l).Nodup → ∀ i j : Nat, i < j → l[i]? = some p → l[j]? = some q → False := by
    intro l hn i j hij h1 h2
    have h3 := nodup_of_take (k := j + 1) hn
    rw [seqs_take h2, if_neg (by rw [hq]; decide)] at h3
    obtain ⟨_, _, h4⟩ := List.nodup_append.1 h3
    refine h4 p.1 ?_ q.1 (List.mem_singleton.2 rfl) e
    unfold seqs
    refine List.mem_map.2 ⟨p, List.mem_filter.2 ⟨?_, by rw [hf]; rfl⟩, rfl⟩
    have : (l.take j)[i]? = some p := by rw [List.getElem?_take, if_pos hij]; exact h1
    exact List.mem_of_getElem? this
  rcases Nat.lt_trichotomy i j with c | c | c
  · exact (key s.1 h.apart i j c hi hj).elim
  · exact c
  · have key2 : ∀ (l : List Sg), (seqs l).Nodup → ∀ i j : Nat, i < j → l[i]? = some q → l[j]? = some p → False := by
      intro l hn i j hij h1 h2
      have h3 := nodup_of_take (k := j + 1) hn
      rw [seqs_take h2, if_neg (by rw [hf]; decide)] at h3
      obtain ⟨_, _, h4⟩ := List.nodup_append.1 h3
      refine h4 q.1 ?_ p.1 (List.mem_singleton.2 rfl) e.symm
      unfold seqs
      refine List.mem_map.2 ⟨q, List.mem_filter.2 ⟨?_, by rw [hq]; rfl⟩, rfl⟩
      have : (l.take j)[i]? = some q := by rw [List.getElem?_take, if_pos hij]; exact h1
      exact List.mem_of_getElem? this
    exact (key2 s.1 h.apart j i c hj hi).elim

/-! Put. -/

theorem pE_zero {s : St} {b : Bk} (h : pE s b = 0) : Ok s ∧ mayB b = true ∧ s.2.2.1.length < 8 := by
  unfold pE at h
  split at h
  · cases h
  · split at h
    · cases h
    · split at h
      · cases h
      · rename_i h1 h2 h3
        exact ⟨ok_iff.1 (by simpa using h1), by simpa using h2, by omega⟩
theorem pE_ok {s : St} {b : Bk} (h : Ok s) (h1 : mayB b = true) (h2 : s.2.2.1.length < 8) : pE s b = 0 := by
  unfold pE
  rw [if_neg (by rw [ok_iff.2 h]; decide), if_neg (by rw [h1]; decide), if_neg (by omega)]
theorem pS_ok {s : St} {b : Bk} (h : pE s b = 0) : Ok (pS s b) := by
  obtain ⟨h1, h2, h3⟩ := pE_zero h
  unfold pS
  rw [if_pos h]
  exact ⟨h1.slots, h1.held, h1.next, by simp only [List.length_append, List.length_singleton]; omega, by simp only [List.all_append, h1.may, List.all_cons, h2, List.all_nil, Bool.and_self], h1.each, h1.apart⟩
theorem pS_last {s : St} {b : Bk} (h : pE s b = 0) (o i : Int) : (last (pS s b) o i).1.2.2 = if o = b.1 ∧ i = b.2.1 then b.2.2 else (last s o i).1.2.2 := by
  obtain ⟨h1, h2, h3⟩ := pE_zero h
  have e : vers (pS s b) = vers s ++ [(s.2.2.2, s.2.2.1.length, b)] := by
    unfold pS vers
    rw [if_pos h]
    simp only
    rw [plc_snoc, List.append_assoc]
  unfold last
  rw [e]
  by_cases hk : o = b.1 ∧ i = b.2.1
  · rw [if_pos hk, hk.1, hk.2, kn_same]
    have hle : (kn (vers s) b.1 b.2.1).2.1 ≤ s.2.2.2 := by
      rcases kn_last b.1 b.2.1 (vers s) h1.wv with ⟨_, k⟩ | ⟨x, k1, _, k3, _⟩
      · rw [k]; have := h1.next.1; show (0 : Int) ≤ _; omega
      · rw [k3]; exact h1.le k1.mem
    unfold knStep
    rw [if_pos hle]
  · rw [if_neg hk, kn_other _ _ _ _ hk]

/-! Seal. -/

theorem sE_zero {s : St} (h : sE s = 0) : Ok s ∧ s.2.2.1 ≠ [] ∧ lowAt s.1 s.2.1 < s.1.length ∧ s.2.2.2 < 1099511627776 := by
  unfold sE at h
  split at h
  · cases h
  · split at h
    · cases h
    · split at h
      · cases h
      · rename_i h1 h2 h3
        exact ⟨ok_iff.1 (by simpa using h1), fun c => h2 (by rw [c]; rfl), by omega, by omega⟩
theorem low_free : ∀ {l : List Sg} {hd : List Bool}, lowAt l hd < l.length → hd.length = l.length → ∃ p, l[lowAt l hd]? = some p ∧ freeB p = true
  | [], _, h, _ => by simp at h
  | _ :: _, [], _, h => by simp at h
  | p :: l, x :: hd, h, hl => by
    by_cases hc : (freeB p && !x) = true
    · have e : lowAt (p :: l) (x :: hd) = 0 := by unfold lowAt; rw [if_pos hc]
      rw [e]
      exact ⟨p, rfl, (by simp only [Bool.and_eq_true] at hc; exact hc.1)⟩
    · have e : lowAt (p :: l) (x :: hd) = lowAt l hd + 1 := by rw [lowAt, if_neg hc]
      rw [e] at h ⊢
      obtain ⟨q, h1, h2⟩ := low_free (l := l) (hd := hd) (by simp at h; omega) (by simpa using hl)
      exact ⟨q, by simpa using h1, h2⟩
theorem seqs_set {l : List Sg} {k : Nat} {p q : Sg} (hk : l[k]? = some p) (hp : freeB p = true) (hq : freeB q = false) (hn : ∀ r ∈ l, freeB r = false → r.1 ≠ q.1) (h : (seqs l).Nodup) : (seqs (l.set k q)).Nodup := by
  have hlt := (List.getElem?_eq_some_iff.1 hk).1
  have e1 : l = l.take k ++ p :: l.drop (k + 1) := by
    have := (List.getElem?_eq_some_iff.1 hk).2
    rw [← this]
    exact (List.take_append_drop k l).symm.trans (by rw [List.drop_eq_getElem_cons hlt])
  have e2 : l.set k q = l.take k ++ q :: l.drop (k + 1) := by rw [List.set_eq_take_append_cons_drop, if_pos hlt]
  have s1 : seqs l = seqs (l.take k) ++ seqs (l.drop (k + 1)) := by
    conv => lhs; rw [e1]
    unfold seqs
    rw [List.filter_append, List.filter_cons, if_neg (by rw [hp]; decide), List.map_append]
  have s2 : seqs (l.set k q) = seqs (l.take k) ++ q.1 :: seqs (l.drop (k + 1)) := by
    rw [e2]
    unfold seqs
    rw [List.filter_append, List.filter_cons, if_pos (by rw [hq]; decide), List.map_append, List.map_cons]
  have hnot : ∀ m : List Sg, (∀ r ∈ m, r ∈ l) → q.1 ∉ seqs m := fun m hm hc => by
    unfold seqs at hc
    obtain ⟨r, hr, e⟩ := List.mem_map.1 hc
    obtain ⟨hr1, hr2⟩ := List.mem_filter.1 hr
    exact hn r (hm r hr1) (by simpa using hr2) e
  rw [s1] at h
  rw [s2]
  obtain ⟨n1, n2, n3⟩ := List.nodup_append.1 h
  refine List.nodup_append.2 ⟨n1, List.nodup_cons.2 ⟨hnot _ fun r hr => List.mem_of_mem_drop hr, n2⟩, fun a ha b hb e => ?_⟩
  rcases List.mem_cons.1 hb with rfl | hb
  · exact hnot _ (fun r hr => List.mem_of_mem_take hr) (e ▸ ha)
  · exact n3 a ha b hb e
theorem mem_set {l : List Sg} {k : Nat} {q r : Sg} (h : r ∈ l.set k q) : r = q ∨ ∃ j : Nat, j ≠ k ∧ l[j]? = some r := by
  obtain ⟨j, hj, e⟩ := List.getElem_of_mem h
  have hj' : (l.set k q)[j]? = some r := by rw [List.getElem?_eq_getElem hj, e]
  by_cases c : j = k
  · subst c
    rw [List.getElem?_set_self (by simpa using hj)] at hj'
    exact .inl (Option.some.inj hj').symm
  · rw [List.getElem?_set_ne (fun e => c e.symm)] at hj'
    exact .inr ⟨j, c, hj'⟩
theorem mem_set_of {l : List Sg} {k j : Nat} {q r : Sg} (h : l[j]? = some r) (hj : j ≠ k) : r ∈ l.set k q :=
  List.mem_of_getElem? (i := j) (by rw [List.getElem?_set_ne (fun e => hj e.symm)]; exact h)
theorem sS_is {s : St} (h : sE s = 0) : sS s = (s.1.set (lowAt s.1 s.2.1) (s.2.2.2, s.2.2.1), s.2.1, [], s.2.2.2 + 1) := by unfold sS; rw [if_pos h]
theorem sS_ok {s : St} (h : sE s = 0) : Ok (sS s) := by
  obtain ⟨h1, h2, h3, h4⟩ := sE_zero h
  obtain ⟨p, hp, hf⟩ := low_free h3 h1.held
  have hq : freeB ((s.2.2.2, s.2.2.1) : Sg) = false := by
    cases hb : freeB ((s.2.2.2, s.2.2.1) : Sg)
    · rfl
    · have h8 := (free_iff.1 hb).1
      have h9 := h1.next.1
      simp only at h8
      omega
  rw [sS_is h]
  refine ⟨by simpa using h1.slots, by simpa using h1.held, by simp only; have := h1.next; omega, by simp, rfl, fun r hr hrf => ?_, seqs_set hp hf hq (fun r hr hrf => ?_) h1.apart⟩
  · rcases mem_set hr with rfl | ⟨j, _, hj⟩
    · refine ⟨⟨⟨h1.next.1, by have := h1.next.2; omega⟩, ⟨?_, h1.few⟩, h1.may⟩, by simp only; omega⟩
      cases hh : s.2.2.1 with
      | nil => exact absurd hh h2
      | cons a t => simp
    · obtain ⟨k1, k2⟩ := h1.each r (List.mem_of_getElem? hj) hrf
      exact ⟨k1, by simp only; omega⟩
  · have := (h1.each r hr hrf).2
    simp only
    omega
theorem sS_mem {s : St} (h : sE s = 0) (x : Ver) : x ∈ vers (sS s) ↔ x ∈ vers s := by
  obtain ⟨h1, h2, h3, h4⟩ := sE_zero h
  obtain ⟨p, hp, hf⟩ := low_free h3 h1.held
  rw [sS_is h, vers_iff, vers_iff]
  simp only
  constructor
  · rintro (⟨r, hr, e1, e2⟩ | ⟨_, e2⟩)
    · rcases mem_set hr with rfl | ⟨j, _, hj⟩
      · exact .inr ⟨e1, e2⟩
      · exact .inl ⟨r, List.mem_of_getElem? hj, e1, e2⟩
    · cases e2
  · rintro (⟨r, hr, e1, e2⟩ | ⟨e1, e2⟩)
    · obtain ⟨j, hj, e⟩ := List.getElem_of_mem hr
      have hj' : s.1[j]? = some r := by rw [List.getElem?_eq_getElem hj, e]
      refine .inl ⟨r, mem_set_of hj' fun c => ?_, e1, e2⟩
      subst c
      rw [hp] at hj'
      obtain rfl := Option.some.inj hj'
      rw [not_free e2] at hf
      cases hf
    · exact .inl ⟨(s.2.2.2, s.2.2.1), List.mem_of_getElem? (i := lowAt s.1 s.2.1) (by rw [List.getElem?_set_self h3]), e1, e2⟩
theorem sS_last {s : St} (h : sE s = 0) (o i : Int) : (last (sS s) o i).1 = (last s o i).1 ∧ (last (sS s) o i).2.1 = (last s o i).2.1 ∧ (last (sS s) o i).2.2.1 = (last s o i).2.2.1 := kn_same_mem (sS_ok h).wv (sE_zero h).1.wv (sS_mem h) o i

/-! Free. -/

theorem uE_zero {s : St} {k : Int} (h : uE s k = 0) : Ok s ∧ ∃ (i : Nat) (p : Sg), k = i ∧ i < s.1.length ∧ s.1[i]? = some p ∧ slotOf s k = p ∧ freeB p = false := by
  unfold uE at h
  split at h
  · cases h
  · split at h
    · cases h
    · rename_i h1 h2
      obtain ⟨i, p, rfl, hi, hp, hf⟩ := used_at (by simpa using h2 : usedB s k = true)
      exact ⟨ok_iff.1 (by simpa using h1), i, p, rfl, hi, hp, by unfold slotOf; simp [hp], hf⟩
theorem seqs_unset {l : List Sg} {k : Nat} {p : Sg} (hk : l[k]? = some p) (h : (seqs l).Nodup) : (seqs (l.set k (0, []))).Nodup := by
  have hlt := (List.getElem?_eq_some_iff.1 hk).1
  have e1 : l = l.take k ++ p :: l.drop (k + 1) := by
    have := (List.getElem?_eq_some_iff.1 hk).2
    rw [← this]
    exact (List.take_append_drop k l).symm.trans (by rw [List.drop_eq_getElem_cons hlt])
  have e2 : l.set k (0, []) = l.take k ++ (0, []) :: l.drop (k + 1) := by rw [List.set_eq_take_append_cons_drop, if_pos hlt]
  have s2 : seqs (l.set k (0, [])) = seqs (l.take k) ++ seqs (l.drop (k + 1)) := by
    rw [e2]
    unfold seqs
    rw [List.filter_append, List.filter_cons, if_neg (by decide), List.map_append]
  have s1 : List.Sublist (seqs (l.take k) ++ seqs (l.drop (k + 1))) (seqs l) := by
    conv => rhs; rw [e1]
    unfold seqs
    rw [← List.map_append, ← List.filter_append]
    refine List.Sublist.map _ (List.Sublist.filter _ ?_)
    exact List.Sublist.append (List.Sublist.refl _) (List.sublist_cons_self _ _)
  rw [s2]
  exact h.sublist s1
/-- The store with a slot made free. -/
def unS (s : St) (k : Nat) : St := (s.1.set k (0, []), s.2.1, s.2.2.1, s.2.2.2)
theorem unS_ok {s : St} {k : Nat} {p : Sg} (h : Ok s) (hk : s.1[k]? = some p) : Ok (unS s k) := by
  refine ⟨by simpa [unS] using h.slots, by simpa [unS] using h.held, h.next, h.few, h.may, fun r hr hf => ?_, seqs_unset hk h.apart⟩
  rcases mem_set hr with rfl | ⟨j, _, hj⟩
  · exact absurd hf (by decide)
  · exact h.each r (List.mem_of_getElem? hj) hf
theorem unS_mem {s : St} {k : Nat} {p : Sg} (h : Ok s) (hk : s.1[k]? = some p) (hf : freeB p = false) (x : Ver) : x ∈ vers (unS s k) ↔ x ∈ vers s ∧ x.1 ≠ p.1 := by
  unfold unS
  rw [vers_iff, vers_iff]
  simp only
  constructor
  · rintro (⟨r, hr, e1, e2⟩ | ⟨e1, e2⟩)
    · rcases mem_set hr with rfl | ⟨j, hj1, hj⟩
      · cases e2
      · exact ⟨.inl ⟨r, List.mem_of_getElem? hj, e1, e2⟩, fun c => hj1 (h.slot hk hj hf (by omega)).symm⟩
    · refine ⟨.inr ⟨e1, e2⟩, fun c => ?_⟩
      have := (h.each p (List.mem_of_getElem? hk) hf).2
      omega
  · rintro ⟨⟨r, hr, e1, e2⟩ | ⟨e1, e2⟩, hne⟩
    · obtain ⟨j, hj, e⟩ := List.getElem_of_mem hr
      have hj' : s.1[j]? = some r := by rw [List.getElem?_eq_getElem hj, e]
      refine .inl ⟨r, mem_set_of hj' fun c => ?_, e1, e2⟩
      subst c
      rw [hk] at hj'
      obtain rfl := Option.some.inj hj'
      exact hne e1
    · exact .inr ⟨e1, e2⟩
theorem isLive_iff {s : St} {x : Ver} : isLive s x = true ↔ (last s x.2.2.1 x.2.2.2.1).2.1 = x.1 ∧ (last s x.2.2.1 x.2.2.2.1).2.2.1 = x.2.1 ∧ (x.2.2.2.2 ≠ [] ∨ 1 < (last s x.2.2.1 x.2.2.2.1).2.2.2) := by
  unfold isLive
  simp only [Bool.and_eq_true, Bool.or_eq_true, Bool.not_eq_true', decide_eq_false_iff_not, decide_eq_true_eq, List.length_eq_zero_iff, and_assoc]
theorem lvs_iff {s : St} {q : Int} {l : List Bk} {b : Bk} : b ∈ lvs s q l ↔ ∃ k : Nat, l[k]? = some b ∧ isLive s (q, k, b) = true := by
  unfold lvs
  rw [List.mem_map]
  constructor
  · rintro ⟨⟨a, k, c⟩, hx, rfl⟩
    obtain ⟨h1, h2⟩ := List.mem_filter.1 hx
    obtain ⟨e1, e2⟩ := plc_mem.1 h1
    simp only at e1 e2
    subst e1
    exact ⟨k, e2, h2⟩
  · rintro ⟨k, h1, h2⟩
    exact ⟨(q, k, b), List.mem_filter.2 ⟨plc_mem.2 ⟨rfl, h1⟩, h2⟩, rfl⟩
/-- One version alone: another one of the same kind makes two. -/
theorem two_count {l : List Ver} {o i : Int} {x y : Ver} (hx : x ∈ l) (hy : y ∈ l) (hne : x ≠ y) (kx : isK o i x = true) (ky : isK o i y = true) : 1 < (kn l o i).2.2.2 := by
  rw [kn_count]
  have m1 := List.mem_filter.2 ⟨hx, kx⟩
  have m2 := List.mem_filter.2 ⟨hy, ky⟩
  match h : l.filter (isK o i) with
  | [] => rw [h] at m1; cases m1
  | [a] => rw [h] at m1 m2; exact absurd ((List.mem_singleton.1 m1).trans (List.mem_singleton.1 m2).symm) hne
  | _ :: _ :: _ => simp
/-- A slot none of whose blocks is live can go: what is got stays. -/
theorem unS_last {s : St} {k : Nat} {p : Sg} (h : Ok s) (hk : s.1[k]? = some p) (hf : freeB p = false) (hl : lvs s p.1 p.2 = []) (o i : Int) : (last (unS s k) o i).1.2.2 = (last s o i).1.2.2 := by
  have hm := unS_mem h hk hf
  have w1 := h.wv
  have w2 := (unS_ok h hk).wv
  have none : ∀ x, IsLast (vers s) o i x → x.1 = p.1 → x.2.2.2.2 = [] ∧ ∀ y ∈ vers s, isK o i y = true → y = x := by
    intro x hx e
    have hkx : o = x.2.2.1 ∧ i = x.2.2.2.1 := by
      have := hx.kind
      simp only [isK, Bool.and_eq_true, decide_eq_true_eq] at this
      exact ⟨this.1.symm, this.2.symm⟩
    have hin : p.2[x.2.1]? = some x.2.2 := by
      rcases vers_iff.1 hx.mem with ⟨r, hr, e1, e2⟩ | ⟨e1, e2⟩
      · obtain ⟨j, hj, ej⟩ := List.getElem_of_mem hr
        have hj' : s.1[j]? = some r := by rw [List.getElem?_eq_getElem hj, ej]
        have := h.slot hk hj' hf (by omega)
        subst this
        rw [hk] at hj'
        obtain rfl := Option.some.inj hj'
        exact e2
      · have := (h.each p (List.mem_of_getElem? hk) hf).2
        omega
    have hnl : isLive s (p.1, x.2.1, x.2.2) = false := by
      cases hb : isLive s (p.1, x.2.1, x.2.2)
      · rfl
      · have := lvs_iff.2 ⟨_, hin, hb⟩
        rw [hl] at this
        cases this
    have hkn : (last s o i).1 = x.2.2 ∧ (last s o i).2.1 = x.1 ∧ (last s o i).2.2.1 = x.2.1 := by
      rcases kn_last o i (vers s) w1 with ⟨g1, _⟩ | ⟨y, g1, g2⟩
      · have := g1 x hx.mem; rw [hx.kind] at this; cases this
      · obtain rfl := hx.eq w1 g1
        exact g2
    have hnot : ¬ ((x.2.2.2.2 ≠ [] ∨ 1 < (last s o i).2.2.2)) := fun c => by
      have : isLive s (p.1, x.2.1, x.2.2) = true := by
        rw [isLive_iff]
        simp only
        rw [← hkx.1, ← hkx.2]
        exact ⟨hkn.2.1.trans e, hkn.2.2, c⟩
      rw [hnl] at this
      cases this
    refine ⟨Classical.byContradiction fun c => hnot (.inl c), fun y hy ky => Classical.byContradiction fun c => hnot (.inr ?_)⟩
    exact two_count hy hx.mem c ky hx.kind
  unfold last
  rcases kn_last o i (vers s) w1 with ⟨g1, g2⟩ | ⟨x, g1, g2, _⟩
  · rcases kn_last o i (vers (unS s k)) w2 with ⟨_, k2⟩ | ⟨y, k1, _⟩
    · rw [g2, k2]
    · have := g1 y ((hm y).1 k1.mem).1; rw [k1.kind] at this; cases this
  · by_cases e : x.1 = p.1
    · obtain ⟨c1, c2⟩ := none x g1 e
      rcases kn_last o i (vers (unS s k)) w2 with ⟨_, k2⟩ | ⟨y, k1, _⟩
      · rw [g2, k2, c1]; rfl
      · obtain ⟨y1, y2⟩ := (hm y).1 k1.mem
        rw [c2 y y1 k1.kind] at y2
        exact absurd e y2
    · rcases kn_last o i (vers (unS s k)) w2 with ⟨k1, _⟩ | ⟨y, k1, k2, _⟩
      · have := k1 x ((hm x).2 ⟨g1.mem, e⟩); rw [g1.kind] at this; cases this
      · have hy : IsLast (vers (unS s k)) o i x := ⟨(hm x).2 ⟨g1.mem, e⟩, g1.kind, fun z hz kz => g1.max z ((hm z).1 hz).1 kz⟩
        obtain rfl := hy.eq w2 k1
        rw [g2, k2]
theorem fE_zero {s : St} {k : Int} (h : fE s k = 0) : uE s k = 0 ∧ lL s k = [] := by
  unfold fE at h
  split at h
  · split at h
    · cases h
    · rename_i h1 h2
      exact ⟨h1, List.eq_nil_of_length_eq_zero (by omega)⟩
  · rename_i h1; exact absurd h h1
theorem fS_is {s : St} {k : Int} (h : fE s k = 0) : fS s k = unS s k.toNat := by unfold fS unS; rw [if_pos h]
theorem fS_ok {s : St} {k : Int} (h : fE s k = 0) : Ok (fS s k) := by
  obtain ⟨h1, i, p, rfl, hi, hp, _⟩ := uE_zero (fE_zero h).1
  rw [fS_is h]
  exact unS_ok h1 hp
theorem fS_last {s : St} {k : Int} (h : fE s k = 0) (o i : Int) : (last (fS s k) o i).1.2.2 = (last s o i).1.2.2 := by
  obtain ⟨h0, hl⟩ := fE_zero h
  unfold lL at hl
  rw [if_pos h0] at hl
  obtain ⟨h1, j, p, rfl, hi, hp, e, hf⟩ := uE_zero h0
  rw [e] at hl
  rw [fS_is h]
  exact unS_last h1 hp hf hl o i

/-! What is live is got. -/

theorem live_got {s : St} {k : Int} {b : Bk} (h : uE s k = 0) (hb : b ∈ lL s k) : gB s b.1 b.2.1 = b.2.2 := by
  unfold lL at hb
  rw [if_pos h] at hb
  obtain ⟨h1, j, p, rfl, hi, hp, e, hf⟩ := uE_zero h
  rw [e] at hb
  obtain ⟨c, h2, h3⟩ := lvs_iff.1 hb
  obtain ⟨l1, l2, _⟩ := isLive_iff.1 h3
  simp only at l1 l2
  unfold gB
  rw [if_pos (ok_iff.2 h1)]
  unfold last at l1 l2 ⊢
  have hm : ((p.1, c, b) : Ver) ∈ vers s := vers_iff.2 (.inl ⟨p, List.mem_of_getElem? hp, rfl, h2⟩)
  rcases kn_last b.1 b.2.1 (vers s) h1.wv with ⟨g1, _⟩ | ⟨x, g1, g2, g3, g4⟩
  · have := g1 _ hm; simp [isK] at this
  · have : x = (p.1, c, b) := h1.wv.one g1.mem hm (by rw [← g3, l1]) (by rw [← g4, l2])
    rw [g2, this]
theorem AllOf.same {s t : St} {L : List Bk} (h : AllOf s L) (e : ∀ o i, (last t o i).1.2.2 = (last s o i).1.2.2) : AllOf t L := ⟨h.up, fun b => (h.mem b).trans (by unfold isThere; rw [e])⟩

end Go.Proofs.Ytkpckadicjdieaa

/-
  Score: the program's and the document's.
-/
namespace Go.Proofs.Ytkpckadicjdieaa
open Go.RowKit

/-- May a score be told? -/
def scOk (q l n : Int) : Prop := 1 ≤ q ∧ q ≤ 1099511627776 ∧ 0 ≤ l ∧ l ≤ 8 ∧ q ≤ n ∧ n ≤ 1099511627776
def scB (q l n : Int) : Bool := decide (1 ≤ q) && decide (q ≤ 1099511627776) && decide (0 ≤ l) && decide (l ≤ 8) && decide (q ≤ n) && decide (n ≤ 1099511627776)
theorem scB_iff {q l n : Int} : scB q l n = true ↔ scOk q l n := by
  unfold scB scOk
  simp only [Bool.and_eq_true, decide_eq_true_eq, and_assoc]
def scE (q l n : Int) : Int := if scB q l n = true then 0 else 4
def scV (q l n : Int) : Int := if scB q l n = true then 64 * (8 - l) * (n - q) / (8 + l) else 0
theorem sc_no {q l n : Int} (h : ¬ scOk q l n) : scV q l n = 0 := if_neg fun c => h (scB_iff.1 c)
theorem sc_no2 {q l n : Int} (h : ¬ scOk q l n) : scE q l n = 4 := if_neg fun c => h (scB_iff.1 c)
theorem sc_yes {q l n : Int} (h : scOk q l n) : scV q l n = 64 * (8 - l) * (n - q) / (8 + l) := if_pos (scB_iff.2 h)
theorem sc_yes2 {q l n : Int} (h : scOk q l n) : scE q l n = 0 := if_pos (scB_iff.2 h)

set_option maxRecDepth 100000 in
set_option maxHeartbeats 4000000 in
theorem score_any (q l n : Int) (w : World) (hq : I64 q) (hl : I64 l) (hn : I64 n) :
    Calls Try.prog 28 #[.int .i64 q, .int .i64 l, .int .i64 n] w fun e w' => e = .returned (.tuple #[.int .i64 (scV q l n), .int .i64 (scE q l n)]) ∧ w = w' := by
  obtain ⟨post, hpost⟩ : ∃ post : Ending → World → Prop, post = fun e w' => e = .returned (.tuple #[.int .i64 (scV q l n), .int .i64 (scE q l n)]) ∧ w = w' := ⟨_, rfl⟩
  have HNO : Hid (¬ scOk q l n → post (.returned (.tuple #[.int .i64 0, .int .i64 4])) w) := fun h => by rw [hpost, sc_no h, sc_no2 h]; exact ⟨rfl, rfl⟩
  have HYES : Hid (∀ r, scOk q l n → r = 64 * (8 - l) * (n - q) / (8 + l) → post (.returned (.tuple #[.int .i64 r, .int .i64 0])) w) := fun r h e => by rw [hpost, sc_yes h, sc_yes2 h, e]; exact ⟨rfl, rfl⟩
  rw [← hpost]
  clear hpost
  obtain ⟨hq1, hq2⟩ := hq
  obtain ⟨hl1, hl2⟩ := hl
  obtain ⟨hn1, hn2⟩ := hn
  by_cases h0 : q < 1
  · have HQ : Hid (post (.returned (.tuple #[.int .i64 0, .int .i64 4])) w) := HNO.out fun h => by unfold scOk at h; omega
    go_enter Try.func28, Try.ntmps28
    go_wp2
    exact HQ.out
  by_cases h1 : 1099511627776 < q
  · have HQ : Hid (post (.returned (.tuple #[.int .i64 0, .int .i64 4])) w) := HNO.out fun h => by unfold scOk at h; omega
    go_enter Try.func28, Try.ntmps28
    go_wp2
    exact HQ.out
  by_cases h2 : l < 0
  · have HQ : Hid (post (.returned (.tuple #[.int .i64 0, .int .i64 4])) w) := HNO.out fun h => by unfold scOk at h; omega
    go_enter Try.func28, Try.ntmps28
    go_wp2
    exact HQ.out
  by_cases h3 : 8 < l
  · have HQ : Hid (post (.returned (.tuple #[.int .i64 0, .int .i64 4])) w) := HNO.out fun h => by unfold scOk at h; omega
    go_enter Try.func28, Try.ntmps28
    go_wp2
    exact HQ.out
  by_cases h4 : n < q
  · have HQ : Hid (post (.returned (.tuple #[.int .i64 0, .int .i64 4])) w) := HNO.out fun h => by unfold scOk at h; omega
    go_enter Try.func28, Try.ntmps28
    go_wp2
    exact HQ.out
  by_cases h5 : 1099511627776 < n
  · have HQ : Hid (post (.returned (.tuple #[.int .i64 0, .int .i64 4])) w) := HNO.out fun h => by unfold scOk at h; omega
    go_enter Try.func28, Try.ntmps28
    go_wp2
    exact HQ.out
  have hl : l = 0 ∨ l = 1 ∨ l = 2 ∨ l = 3 ∨ l = 4 ∨ l = 5 ∨ l = 6 ∨ l = 7 ∨ l = 8 := by omega
  clear hl1 hl2 h2 h3
  rcases hl with rfl | rfl | rfl | rfl | rfl | rfl | rfl | rfl | rfl
  · have HQ : Hid (∀ r, r = 512 * (n - q) / 8 → post (.returned (.tuple #[.int .i64 r, .int .i64 0])) w) := fun r e => HYES.out r (by unfold scOk; omega) (by omega)
    go_enter Try.func28, Try.ntmps28
    go_wp2
    exact HQ.out _ (by omega)
  · have HQ : Hid (∀ r, r = 448 * (n - q) / 9 → post (.returned (.tuple #[.int .i64 r, .int .i64 0])) w) := fun r e => HYES.out r (by unfold scOk; omega) (by omega)
    go_enter Try.func28, Try.ntmps28
    go_wp2
    exact HQ.out _ (by omega)
  · have HQ : Hid (∀ r, r = 384 * (n - q) / 10 → post (.returned (.tuple #[.int .i64 r, .int .i64 0])) w) := fun r e => HYES.out r (by unfold scOk; omega) (by omega)
    go_enter Try.func28, Try.ntmps28
    go_wp2
    exact HQ.out _ (by omega)
  · have HQ : Hid (∀ r, r = 320 * (n - q) / 11 → post (.returned (.tuple #[.int .i64 r, .int .i64 0])) w) := fun r e => HYES.out r (by unfold scOk; omega) (by omega)
    go_enter Try.func28, Try.ntmps28
    go_wp2
    exact HQ.out _ (by omega)
  · have HQ : Hid (∀ r, r = 256 * (n - q) / 12 → post (.returned (.tuple #[.int .i64 r, .int .i64 0])) w) := fun r e => HYES.out r (by unfold scOk; omega) (by omega)
    go_enter Try.func28, Try.ntmps28
    go_wp2
    exact HQ.out _ (by omega)
  · have HQ : Hid (∀ r, r = 192 * (n - q) / 13 → post (.returned (.tuple #[.int .i64 r, .int .i64 0])) w) := fun r e => HYES.out r (by unfold scOk; omega) (by omega)
    go_enter Try.func28, Try.ntmps28
    go_wp2
    exact HQ.out _ (by omega)
  · have HQ : Hid (∀ r, r = 128 * (n - q) / 14 → post (.returned (.tuple #[.int .i64 r, .int .i64 0])) w) := fun r e => HYES.out r (by unfold scOk; omega) (by omega)
    go_enter Try.func28, Try.ntmps28
    go_wp2
    exact HQ.out _ (by omega)
  · have HQ : Hid (∀ r, r = 64 * (n - q) / 15 → post (.returned (.tuple #[.int .i64 r, .int .i64 0])) w) := fun r e => HYES.out r (by unfold scOk; omega) (by omega)
    go_enter Try.func28, Try.ntmps28
    go_wp2
    exact HQ.out _ (by omega)
  · have HQ : Hid (∀ r, r = 0 * (n - q) / 16 → post (.returned (.tuple #[.int .i64 r, .int .i64 0])) w) := fun r e => HYES.out r (by unfold scOk; omega) (by omega)
    go_enter Try.func28, Try.ntmps28
    go_wp2
    exact HQ.out _ (by omega)
set_option maxRecDepth 100000 in
set_option maxHeartbeats 4000000 in
theorem rscore_any (q l n : Int) (w : World) (hq : I64 q) (hl : I64 l) (hn : I64 n) :
    Calls Try.prog 29 #[.int .i64 q, .int .i64 l, .int .i64 n] w fun e w' => e = .returned (.tuple #[.int .i64 (scV q l n), .int .i64 (scE q l n)]) ∧ w = w' := by
  obtain ⟨post, hpost⟩ : ∃ post : Ending → World → Prop, post = fun e w' => e = .returned (.tuple #[.int .i64 (scV q l n), .int .i64 (scE q l n)]) ∧ w = w' := ⟨_, rfl⟩
  have HNO : Hid (¬ scOk q l n → post (.returned (.tuple #[.int .i64 0, .int .i64 4])) w) := fun h => by rw [hpost, sc_no h, sc_no2 h]; exact ⟨rfl, rfl⟩
  have HYES : Hid (∀ r, scOk q l n → r = 64 * (8 - l) * (n - q) / (8 + l) → post (.returned (.tuple #[.int .i64 r, .int .i64 0])) w) := fun r h e => by rw [hpost, sc_yes h, sc_yes2 h, e]; exact ⟨rfl, rfl⟩
  rw [← hpost]
  clear hpost
  obtain ⟨hq1, hq2⟩ := hq
  obtain ⟨hl1, hl2⟩ := hl
  obtain ⟨hn1, hn2⟩ := hn
  by_cases h0 : q < 1
  · have HQ : Hid (post (.returned (.tuple #[.int .i64 0, .int .i64 4])) w) := HNO.out fun h => by unfold scOk at h; omega
    go_enter Try.func29, Try.ntmps29
    go_wp2
    exact HQ.out
  by_cases h1 : 1099511627776 < q
  · have HQ : Hid (post (.returned (.tuple #[.int .i64 0, .int .i64 4])) w) := HNO.out fun h => by unfold scOk at h; omega
    go_enter Try.func29, Try.ntmps29
    go_wp2
    exact HQ.out
  by_cases h2 : l < 0
  · have HQ : Hid (post (.returned (.tuple #[.int .i64 0, .int .i64 4])) w) := HNO.out fun h => by unfold scOk at h; omega
    go_enter Try.func29, Try.ntmps29
    go_wp2
    exact HQ.out
  by_cases h3 : 8 < l
  · have HQ : Hid (post (.returned (.tuple #[.int .i64 0, .int .i64 4])) w) := HNO.out fun h => by unfold scOk at h; omega
    go_enter Try.func29, Try.ntmps29
    go_wp2
    exact HQ.out
  by_cases h4 : n < q
  · have HQ : Hid (post (.returned (.tuple #[.int .i64 0, .int .i64 4])) w) := HNO.out fun h => by unfold scOk at h; omega
    go_enter Try.func29, Try.ntmps29
    go_wp2
    exact HQ.out
  by_cases h5 : 1099511627776 < n
  · have HQ : Hid (post (.returned (.tuple #[.int .i64 0, .int .i64 4])) w) := HNO.out fun h => by unfold scOk at h; omega
    go_enter Try.func29, Try.ntmps29
    go_wp2
    exact HQ.out
  have hl : l = 0 ∨ l = 1 ∨ l = 2 ∨ l = 3 ∨ l = 4 ∨ l = 5 ∨ l = 6 ∨ l = 7 ∨ l = 8 := by omega
  clear hl1 hl2 h2 h3
  rcases hl with rfl | rfl | rfl | rfl | rfl | rfl | rfl | rfl | rfl
  · have HQ : Hid (∀ r, r = 512 * (n - q) / 8 → post (.returned (.tuple #[.int .i64 r, .int .i64 0])) w) := fun r e => HYES.out r (by unfold scOk; omega) (by omega)
    go_enter Try.func29, Try.ntmps29
    go_wp2
    exact HQ.out _ (by omega)
  · have HQ : Hid (∀ r, r = 448 * (n - q) / 9 → post (.returned (.tuple #[.int .i64 r, .int .i64 0])) w) := fun r e => HYES.out r (by unfold scOk; omega) (by omega)
    go_enter Try.func29, Try.ntmps29
    go_wp2
    exact HQ.out _ (by omega)
  · have HQ : Hid (∀ r, r = 384 * (n - q) / 10 → post (.returned (.tuple #[.int .i64 r, .int .i64 0])) w) := fun r e => HYES.out r (by unfold scOk; omega) (by omega)
    go_enter Try.func29, Try.ntmps29
    go_wp2
    exact HQ.out _ (by omega)
  · have HQ : Hid (∀ r, r = 320 * (n - q) / 11 → post (.returned (.tuple #[.int .i64 r, .int .i64 0])) w) := fun r e => HYES.out r (by unfold scOk; omega) (by omega)
    go_enter Try.func29, Try.ntmps29
    go_wp2
    exact HQ.out _ (by omega)
  · have HQ : Hid (∀ r, r = 256 * (n - q) / 12 → post (.returned (.tuple #[.int .i64 r, .int .i64 0])) w) := fun r e => HYES.out r (by unfold scOk; omega) (by omega)
    go_enter Try.func29, Try.ntmps29
    go_wp2
    exact HQ.out _ (by omega)
  · have HQ : Hid (∀ r, r = 192 * (n - q) / 13 → post (.returned (.tuple #[.int .i64 r, .int .i64 0])) w) := fun r e => HYES.out r (by unfold scOk; omega) (by omega)
    go_enter Try.func29, Try.ntmps29
    go_wp2
    exact HQ.out _ (by omega)
  · have HQ : Hid (∀ r, r = 128 * (n - q) / 14 → post (.returned (.tuple #[.int .i64 r, .int .i64 0])) w) := fun r e => HYES.out r (by unfold scOk; omega) (by omega)
    go_enter Try.func29, Try.ntmps29
    go_wp2
    exact HQ.out _ (by omega)
  · have HQ : Hid (∀ r, r = 64 * (n - q) / 15 → post (.returned (.tuple #[.int .i64 r, .int .i64 0])) w) := fun r e => HYES.out r (by unfold scOk; omega) (by omega)
    go_enter Try.func29, Try.ntmps29
    go_wp2
    exact HQ.out _ (by omega)
  · have HQ : Hid (∀ r, r = 0 * (n - q) / 16 → post (.returned (.tuple #[.int .i64 r, .int .i64 0])) w) := fun r e => HYES.out r (by unfold scOk; omega) (by omega)
    go_enter Try.func29, Try.ntmps29
    go_wp2
    exact HQ.out _ (by omega)

end Go.Proofs.Ytkpckadicjdieaa

/-
  Plain mathematics of a cleaning: live blocks written once more behind all others, the slot made free.
-/
namespace Go.Proofs.Ytkpckadicjdieaa

/-- A block put, with room made ahead of it. -/
def ptE (t : St) (b : Bk) : Int := if t.2.2.1.length = 8 then (if sE t = 0 then pE (sS t) b else sE t) else pE t b
def ptS (t : St) (b : Bk) : St := if t.2.2.1.length = 8 then (if sE t = 0 then pS (sS t) b else s0) else pS t b
/-- Several ones. -/
def mvE : List Bk → St → Int
  | [], _ => 0
  | b :: l, t => if ptE t b = 0 then mvE l (ptS t b) else ptE t b
def mvS : List Bk → St → St
  | [], t => t
  | b :: l, t => if ptE t b = 0 then mvS l (ptS t b) else s0
def movE (l : List Bk) (s : St) : Int := if l = [] then 0 else if mvE l s = 0 then sE (mvS l s) else mvE l s
def movS (l : List Bk) (s : St) : St := if l = [] then s else if mvE l s = 0 then sS (mvS l s) else s0
/-- What Clean answers. -/
def clE (s : St) (k q : Int) : Int := if uE s k = 0 then (if (slotOf s k).1 = q then movE (lL s k) s else 81) else uE s k
def clS (s : St) (k q : Int) : St := if clE s k q = 0 then unS (movS (lL s k) s) k.toNat else s0

theorem mv_append (m : List Bk) : ∀ (l : List Bk) (t : St), mvE (l ++ m) t = (if mvE l t = 0 then mvE m (mvS l t) else mvE l t) ∧ mvS (l ++ m) t = (if mvE l t = 0 then mvS m (mvS l t) else s0)
  | [], t => ⟨rfl, rfl⟩
  | b :: l, t => by
    by_cases h : ptE t b = 0
    · have := mv_append m l (ptS t b)
      simpa [mvE, mvS, h] using this
    · simp [mvE, mvS, h]
theorem mv_snoc {l : List Bk} {t : St} {b : Bk} (h : mvE l t = 0) : mvE (l ++ [b]) t = ptE (mvS l t) b ∧ (ptE (mvS l t) b = 0 → mvS (l ++ [b]) t = ptS (mvS l t) b) := by
  have := mv_append [b] l t
  rw [if_pos h, if_pos h] at this
  refine ⟨?_, fun h1 => ?_⟩
  · rw [this.1]
    by_cases h1 : ptE (mvS l t) b = 0 <;> simp [mvE, h1]
  · rw [this.2]; simp [mvS, h1]
theorem mv_stop {l m : List Bk} {t : St} {e : Int} (h : mvE l t = e) (he : e ≠ 0) : mvE (l ++ m) t = e := by
  have := (mv_append m l t).1
  rw [h, if_neg he] at this
  exact this
/-- A store in which the blocks l of the slot i (it has p) have been written once more. -/
structure Mvd (s : St) (p : Sg) (i : Nat) (l : List Bk) (t : St) : Prop where
  ok : Ok t
  slot : t.1[i]? = some p
  next : s.2.2.2 ≤ t.2.2.2
  got : ∀ o i, (last t o i).1.2.2 = (last s o i).1.2.2
  old : ∀ x ∈ vers t, x ∈ vers s ∨ (p.1 < x.1 ∧ x.2.2 ∈ l)
  kept : ∀ x ∈ vers s, x ∈ vers t
  new : ∀ b ∈ l, ∃ x ∈ vers t, isK b.1 b.2.1 x = true ∧ p.1 < x.1
theorem Mvd.start {s : St} {p : Sg} {i : Nat} (h : Ok s) (hp : s.1[i]? = some p) : Mvd s p i [] s := ⟨h, hp, Int.le_refl _, fun _ _ => rfl, fun _ hx => .inl hx, fun _ hx => hx, fun _ hb => by cases hb⟩
theorem Mvd.seal {s t : St} {p : Sg} {i : Nat} {l : List Bk} (h : Mvd s p i l t) (hf : freeB p = false) (he : sE t = 0) : Mvd s p i l (sS t) := by
  obtain ⟨h1, h2, h3, h4⟩ := sE_zero he
  have hm := sS_mem he
  refine ⟨sS_ok he, ?_, ?_, fun o j => ?_, fun x hx => h.old x ((hm x).1 hx), fun x hx => (hm x).2 (h.kept x hx), fun b hb => ?_⟩
  · rw [sS_is he]
    obtain ⟨q, hq, hqf⟩ := low_free h3 h1.held
    have hne : lowAt t.1 t.2.1 ≠ i := fun c => by
      rw [c, h.slot] at hq
      obtain rfl := Option.some.inj hq
      rw [hf] at hqf
      cases hqf
    simp only
    rw [List.getElem?_set_ne hne]
    exact h.slot
  · rw [sS_is he]
    have := h.next
    simp only
    omega
  · rw [(sS_last he o j).1]
    exact h.got o j
  · obtain ⟨x, hx, h5⟩ := h.new b hb
    exact ⟨x, (hm x).2 hx, h5⟩
theorem Mvd.put {s t : St} {p : Sg} {i : Nat} {l : List Bk} {b : Bk} (h : Mvd s p i l t) (hp : p.1 < s.2.2.2) (hb : (last s b.1 b.2.1).1.2.2 = b.2.2) (he : pE t b = 0) : Mvd s p i (l ++ [b]) (pS t b) := by
  obtain ⟨h1, h2, h3⟩ := pE_zero he
  have e : vers (pS t b) = vers t ++ [(t.2.2.2, t.2.2.1.length, b)] := by
    unfold pS vers
    rw [if_pos he]
    simp only
    rw [plc_snoc, List.append_assoc]
  have hn := h.next
  refine ⟨pS_ok he, ?_, ?_, fun o j => ?_, fun x hx => ?_, fun x hx => ?_, fun c hc => ?_⟩
  · unfold pS; rw [if_pos he]; exact h.slot
  · unfold pS; rw [if_pos he]; exact h.next
  · rw [pS_last he]
    by_cases hk : o = b.1 ∧ j = b.2.1
    · rw [if_pos hk, hk.1, hk.2, hb]
    · rw [if_neg hk]; exact h.got o j
  · rw [e] at hx
    rcases List.mem_append.1 hx with hx | hx
    · rcases h.old x hx with c | ⟨c1, c2⟩
      · exact .inl c
      · exact .inr ⟨c1, List.mem_append_left _ c2⟩
    · rw [List.mem_singleton.1 hx]
      exact .inr ⟨by simp only; omega, List.mem_append_right _ (List.mem_singleton.2 rfl)⟩
  · rw [e]; exact List.mem_append_left _ (h.kept x hx)
  · rw [e]
    rcases List.mem_append.1 hc with hc | hc
    · obtain ⟨x, hx, h5⟩ := h.new c hc
      exact ⟨x, List.mem_append_left _ hx, h5⟩
    · rw [List.mem_singleton.1 hc]
      exact ⟨_, List.mem_append_right _ (List.mem_singleton.2 rfl), by simp [isK], by simp only; omega⟩
theorem ptE_is {t : St} {b : Bk} (h : Ok t) (hb : mayB b = true) : (t.2.2.1.length < 8 ∧ ptE t b = 0 ∧ pE t b = 0 ∧ ptS t b = pS t b) ∨ (t.2.2.1.length = 8 ∧ sE t = 0 ∧ ptE t b = 0 ∧ pE (sS t) b = 0 ∧ ptS t b = pS (sS t) b) ∨ (t.2.2.1.length = 8 ∧ sE t ≠ 0 ∧ ptE t b = sE t ∧ ptS t b = s0) := by
  have := h.few
  unfold ptE ptS
  by_cases c : t.2.2.1.length = 8
  · rw [if_pos c, if_pos c]
    by_cases d : sE t = 0
    · rw [if_pos d, if_pos d]
      have : pE (sS t) b = 0 := pE_ok (sS_ok d) hb (by rw [sS_is d]; simp)
      exact .inr (.inl ⟨c, d, this, this, rfl⟩)
    · rw [if_neg d, if_neg d]
      exact .inr (.inr ⟨c, d, rfl, rfl⟩)
  · rw [if_neg c, if_neg c]
    have : pE t b = 0 := pE_ok h hb (by omega)
    exact .inl ⟨by omega, this, this, rfl⟩
theorem Mvd.pt {s t : St} {p : Sg} {i : Nat} {l : List Bk} {b : Bk} (h : Mvd s p i l t) (hf : freeB p = false) (hp : p.1 < s.2.2.2) (hm : mayB b = true) (hb : (last s b.1 b.2.1).1.2.2 = b.2.2) (he : ptE t b = 0) : Mvd s p i (l ++ [b]) (ptS t b) := by
  rcases ptE_is h.ok hm with ⟨_, _, h1, h2⟩ | ⟨_, h0, _, h1, h2⟩ | ⟨_, h0, h1, _⟩
  · rw [h2]; exact h.put hp hb h1
  · rw [h2]; exact (h.seal hf h0).put hp hb h1
  · rw [h1] at he; exact absurd he h0
theorem Mvd.all {s : St} {p : Sg} {i : Nat} (hf : freeB p = false) (hp : p.1 < s.2.2.2) : ∀ {m l : List Bk} {t : St}, Mvd s p i l t → (∀ b ∈ m, mayB b = true ∧ (last s b.1 b.2.1).1.2.2 = b.2.2) → mvE m t = 0 → Mvd s p i (l ++ m) (mvS m t)
  | [], l, t, h, _, _ => by rw [List.append_nil]; exact h
  | b :: m, l, t, h, hm, he => by
    unfold mvE at he
    split at he
    · rename_i h1
      obtain ⟨k1, k2⟩ := hm b (List.mem_cons_self ..)
      have := Mvd.all hf hp (h.pt hf hp k1 k2 h1) (fun c hc => hm c (List.mem_cons_of_mem _ hc)) he
      rw [List.append_assoc] at this
      unfold mvS
      rw [if_pos h1]
      exact this
    · rename_i h1
      exact absurd he h1
theorem two_of_count {l : List Ver} {o i : Int} (hw : WV l) (h : 1 < (kn l o i).2.2.2) : ∃ x ∈ l, ∃ y ∈ l, x ≠ y ∧ isK o i x = true ∧ isK o i y = true := by
  rw [kn_count] at h
  match e : l.filter (isK o i) with
  | [] => rw [e] at h; simp at h
  | [a] => rw [e] at h; simp at h
  | a :: b :: m =>
    have ma : a ∈ l.filter (isK o i) := by rw [e]; exact List.mem_cons_self ..
    have mb : b ∈ l.filter (isK o i) := by rw [e]; exact List.mem_cons_of_mem _ (List.mem_cons_self ..)
    have hs : (a :: b :: m).Pairwise fun y z => y.1 = z.1 → y.2.1 < z.2.1 := by rw [← e]; exact hw.up.filter _
    refine ⟨a, (List.mem_filter.1 ma).1, b, (List.mem_filter.1 mb).1, fun c => ?_, (List.mem_filter.1 ma).2, (List.mem_filter.1 mb).2⟩
    have := (List.pairwise_cons.1 hs).1 b (List.mem_cons_self ..) (by rw [c])
    rw [c] at this
    omega
theorem Mvd.dead {s t : St} {p : Sg} {i : Nat} (h : Mvd s p i (lvs s p.1 p.2) t) (hs : Ok s) (hp : s.1[i]? = some p) : lvs t p.1 p.2 = [] := by
  have w1 := hs.wv
  have w2 := h.ok.wv
  refine List.eq_nil_iff_forall_not_mem.2 fun b hb => ?_
  obtain ⟨c, h1, h2⟩ := lvs_iff.1 hb
  obtain ⟨l1, l2, l3⟩ := isLive_iff.1 h2
  simp only at l1 l2 l3
  have hv : ((p.1, c, b) : Ver) ∈ vers s := vers_iff.2 (.inl ⟨p, List.mem_of_getElem? hp, rfl, h1⟩)
  have hv2 := h.kept _ hv
  have kb : isK b.1 b.2.1 (p.1, c, b) = true := by simp [isK]
  have hlast : IsLast (vers t) b.1 b.2.1 (p.1, c, b) := by
    unfold last at l1 l2
    rcases kn_last b.1 b.2.1 (vers t) w2 with ⟨g1, _⟩ | ⟨x, g1, g2, g3, g4⟩
    · have := g1 _ hv2; rw [kb] at this; cases this
    · have : x = (p.1, c, b) := w2.one g1.mem hv2 (by rw [← g3, l1]) (by rw [← g4, l2])
      rw [← this]
      exact g1
  have hkind : ∀ y ∈ vers t, isK b.1 b.2.1 y = true → y ∈ vers s := fun y hy ky => by
    rcases h.old y hy with c1 | ⟨c1, c2⟩
    · exact c1
    · have := hlast.max y hy ky
      unfold vLe at this
      simp only at this
      omega
  have hl2 : IsLast (vers s) b.1 b.2.1 (p.1, c, b) := ⟨hv, kb, fun y hy ky => hlast.max y (h.kept y hy) ky⟩
  have hkn : (last s b.1 b.2.1).2.1 = p.1 ∧ (last s b.1 b.2.1).2.2.1 = c := by
    unfold last
    rcases kn_last b.1 b.2.1 (vers s) w1 with ⟨g1, _⟩ | ⟨x, g1, _, g3, g4⟩
    · have := g1 _ hv; rw [kb] at this; cases this
    · have : x = (p.1, c, b) := g1.eq w1 hl2
      rw [g3, g4, this]
      exact ⟨rfl, rfl⟩
  have hbs : b ∈ lvs s p.1 p.2 := by
    refine lvs_iff.2 ⟨c, h1, isLive_iff.2 ⟨hkn.1, hkn.2, ?_⟩⟩
    rcases l3 with l3 | l3
    · exact .inl l3
    · right
      obtain ⟨x, hx, y, hy, hne, kx, ky⟩ := two_of_count w2 l3
      exact two_count (hkind x hx kx) (hkind y hy ky) hne kx ky
  obtain ⟨x, hx, kx, hlt⟩ := h.new b hbs
  have := hlast.max x hx kx
  unfold vLe at this
  simp only at this
  omega
theorem live_may {s : St} {p : Sg} {i : Nat} (h : Ok s) (hp : s.1[i]? = some p) {b : Bk} (hb : b ∈ lvs s p.1 p.2) : mayB b = true ∧ (last s b.1 b.2.1).1.2.2 = b.2.2 := by
  refine ⟨h.data p (List.mem_of_getElem? hp) b (lvs_mem hb), ?_⟩
  obtain ⟨c, h2, h3⟩ := lvs_iff.1 hb
  obtain ⟨l1, l2, _⟩ := isLive_iff.1 h3
  simp only at l1 l2
  unfold last at l1 l2 ⊢
  have hm : ((p.1, c, b) : Ver) ∈ vers s := vers_iff.2 (.inl ⟨p, List.mem_of_getElem? hp, rfl, h2⟩)
  rcases kn_last b.1 b.2.1 (vers s) h.wv with ⟨g1, _⟩ | ⟨x, g1, g2, g3, g4⟩
  · have := g1 _ hm; simp [isK] at this
  · have : x = (p.1, c, b) := h.wv.one g1.mem hm (by rw [← g3, l1]) (by rw [← g4, l2])
    rw [g2, this]
/-- What Clean's parts are where it is not refused ahead. -/
theorem mov_ok {s : St} {p : Sg} {i : Nat} (h : Ok s) (hp : s.1[i]? = some p) (hf : freeB p = false) (he : movE (lvs s p.1 p.2) s = 0) : Mvd s p i (lvs s p.1 p.2) (movS (lvs s p.1 p.2) s) := by
  have h9 := (h.each p (List.mem_of_getElem? hp) hf).2
  obtain ⟨l, hl⟩ : ∃ l, l = lvs s p.1 p.2 := ⟨_, rfl⟩
  have hm : ∀ b ∈ l, mayB b = true ∧ (last s b.1 b.2.1).1.2.2 = b.2.2 := fun b hb => live_may h hp (by rw [← hl]; exact hb)
  rw [← hl] at he ⊢
  unfold movE at he
  unfold movS
  by_cases c : l = []
  · rw [if_pos c, c]
    exact Mvd.start h hp
  · rw [if_neg c] at he ⊢
    split at he
    · rename_i h1
      rw [if_pos h1]
      have := Mvd.all hf h9 (Mvd.start h hp) hm h1
      rw [List.nil_append] at this
      exact this.seal hf he
    · rename_i h1
      exact absurd he h1
theorem clE_zero {s : St} {k q : Int} (h : clE s k q = 0) : uE s k = 0 ∧ (slotOf s k).1 = q ∧ movE (lL s k) s = 0 := by
  unfold clE at h
  split at h
  · split at h
    · rename_i h1 h2; exact ⟨h1, h2, h⟩
    · cases h
  · rename_i h1; exact absurd h h1
theorem cl_parts {s : St} {k q : Int} (h : clE s k q = 0) : ∃ (i : Nat) (p : Sg), k = i ∧ Ok s ∧ s.1[i]? = some p ∧ freeB p = false ∧ p.1 = q ∧ Mvd s p i (lL s k) (movS (lL s k) s) ∧ lvs (movS (lL s k) s) p.1 p.2 = [] := by
  obtain ⟨h1, h2, h3⟩ := clE_zero h
  obtain ⟨h4, i, p, rfl, hi, hp, e, hf⟩ := uE_zero h1
  have hl : lL s (i : Int) = lvs s p.1 p.2 := by unfold lL; rw [if_pos h1, e]
  rw [hl] at h3 ⊢
  rw [e] at h2
  have hM := mov_ok h4 hp hf h3
  exact ⟨i, p, rfl, h4, hp, hf, h2, hM, hM.dead h4 hp⟩
/-- The program's last step, Free, is not refused. -/
theorem cl_free {s : St} {k q : Int} (h : clE s k q = 0) : fE (movS (lL s k) s) k = 0 ∧ fS (movS (lL s k) s) k = clS s k q := by
  obtain ⟨i, p, rfl, h4, hp, hf, h2, hM, hd⟩ := cl_parts h
  obtain ⟨t, ht⟩ : ∃ t, t = movS (lL s (i : Int)) s := ⟨_, rfl⟩
  have e : clS s (i : Int) q = unS t i := by unfold clS; rw [if_pos h, ← ht]; simp
  rw [← ht] at hM hd ⊢
  have hu : uE t (i : Int) = 0 := by
    unfold uE usedB
    rw [ok_iff.2 hM.ok]
    simp [hM.slot, hf]
  have hsl : slotOf t (i : Int) = p := by unfold slotOf; simp [hM.slot]
  have hE : fE t (i : Int) = 0 := by
    unfold fE lL
    rw [if_pos hu, if_pos hu, hsl, hd]
    rfl
  exact ⟨hE, by rw [fS_is hE, e]; simp⟩
theorem clS_ok {s : St} {k q : Int} (h : clE s k q = 0) : Ok (clS s k q) := by
  rw [← (cl_free h).2]
  exact fS_ok (cl_free h).1
/-- Nothing is lost. -/
theorem clS_last {s : St} {k q : Int} (h : clE s k q = 0) (o i : Int) : (last (clS s k q) o i).1.2.2 = (last s o i).1.2.2 := by
  obtain ⟨_, _, _, _, _, _, _, hM, _⟩ := cl_parts h
  rw [← (cl_free h).2, fS_last (cl_free h).1]
  exact hM.got o i
theorem clS_free {s : St} {k q : Int} (h : clE s k q = 0) : ∃ i : Nat, k = i ∧ i < (clS s k q).1.length ∧ (clS s k q).1[i]? = some (0, []) := by
  obtain ⟨i, p, rfl, h4, hp, hf, h2, hM, hd⟩ := cl_parts h
  have e : clS s (i : Int) q = unS (movS (lL s (i : Int)) s) i := by unfold clS; rw [if_pos h]; simp
  have hi := (List.getElem?_eq_some_iff.1 hM.slot).1
  refine ⟨i, rfl, ?_, ?_⟩
  · rw [e]; unfold unS; simpa using hi
  · rw [e]; unfold unS; simp only; rw [List.getElem?_set_self hi]
theorem clS_no {s : St} {k q : Int} (h : clE s k q ≠ 0) : clS s k q = s0 := if_neg h

end Go.Proofs.Ytkpckadicjdieaa

/-
  Plain mathematics: which numbers a cleaning answers.
-/
namespace Go.Proofs.Ytkpckadicjdieaa

theorem sE_some {t : St} (h : Ok t) (hn : t.2.2.1 ≠ []) : sE t = 0 ∨ sE t = 51 := by
  unfold sE
  rw [if_neg (by rw [ok_iff.2 h]; decide), if_neg (fun c => hn (List.eq_nil_of_length_eq_zero c))]
  split
  · exact .inr rfl
  · exact .inl rfl
theorem ptE_some {t : St} {b : Bk} (h : Ok t) (hb : mayB b = true) : (ptE t b = 0 ∧ Ok (ptS t b) ∧ (ptS t b).2.2.1 ≠ []) ∨ ptE t b = 51 := by
  rcases ptE_is h hb with ⟨_, h1, h2, h3⟩ | ⟨_, h0, h1, h2, h3⟩ | ⟨h4, h0, h1, _⟩
  · refine .inl ⟨h1, by rw [h3]; exact pS_ok h2, ?_⟩
    rw [h3]
    unfold pS
    rw [if_pos h2]
    simp
  · refine .inl ⟨h1, by rw [h3]; exact pS_ok h2, ?_⟩
    rw [h3]
    unfold pS
    rw [if_pos h2]
    simp
  · rcases sE_some h (fun c => by rw [c] at h4; simp at h4) with c | c
    · exact absurd c h0
    · exact .inr (h1.trans c)
theorem mv_some : ∀ (l : List Bk) (t : St), Ok t → (∀ b ∈ l, mayB b = true) → (mvE l t = 0 ∧ Ok (mvS l t) ∧ (l ≠ [] → (mvS l t).2.2.1 ≠ [])) ∨ mvE l t = 51
  | [], t, h, _ => .inl ⟨rfl, h, fun c => absurd rfl c⟩
  | b :: l, t, h, hm => by
    rcases ptE_some h (hm b (List.mem_cons_self ..)) with ⟨h1, h2, h3⟩ | h1
    · unfold mvE mvS
      rw [if_pos h1, if_pos h1]
      rcases mv_some l (ptS t b) h2 (fun c hc => hm c (List.mem_cons_of_mem _ hc)) with ⟨k1, k2, k3⟩ | k1
      · refine .inl ⟨k1, k2, fun _ => ?_⟩
        by_cases hl : l = []
        · subst hl; exact h3
        · exact k3 hl
      · exact .inr k1
    · right
      unfold mvE
      rw [if_neg (by rw [h1]; decide)]
      exact h1
theorem mov_some {s : St} {p : Sg} {i : Nat} (h : Ok s) (hp : s.1[i]? = some p) : movE (lvs s p.1 p.2) s = 0 ∨ movE (lvs s p.1 p.2) s = 51 := by
  unfold movE
  by_cases c : lvs s p.1 p.2 = []
  · rw [if_pos c]; exact .inl rfl
  · rw [if_neg c]
    rcases mv_some (lvs s p.1 p.2) s h (fun b hb => (live_may h hp hb).1) with ⟨k1, k2, k3⟩ | k1
    · rw [if_pos k1]; exact sE_some k2 (k3 c)
    · rw [if_neg (by rw [k1]; decide)]; exact .inr k1
theorem cl_cases (s : St) (k q : Int) : (¬ Ok s ∧ clE s k q = 9) ∨ (Ok s ∧ clE s k q = 71 ∧ (k < 0 ∨ (s.1.length : Int) ≤ k ∨ ∃ (i : Nat) (p : Sg), k = i ∧ i < s.1.length ∧ s.1[i]? = some p ∧ p.1 = 0)) ∨
    (Ok s ∧ ∃ (i : Nat) (p : Sg), k = i ∧ i < s.1.length ∧ s.1[i]? = some p ∧ p.1 ≠ 0 ∧ ((p.1 ≠ q ∧ clE s k q = 81) ∨ (p.1 = q ∧ (clE s k q = 0 ∨ clE s k q = 51)))) := by
  by_cases h : Ok s
  case neg =>
    left
    refine ⟨h, ?_⟩
    have : uE s k = 9 := by
      unfold uE
      rw [if_pos (by cases hb : okB s with | false => rfl | true => exact absurd (ok_iff.1 hb) h)]
    unfold clE
    rw [if_neg (by rw [this]; decide)]
    exact this
  right
  cases hu : usedB s k
  · left
    have h1 : uE s k = 71 := by unfold uE; rw [if_neg (by rw [ok_iff.2 h]; decide), if_pos hu]
    refine ⟨h, by unfold clE; rw [if_neg (by rw [h1]; decide)]; exact h1, ?_⟩
    by_cases h2 : k < 0
    · exact .inl h2
    · by_cases h3 : (s.1.length : Int) ≤ k
      · exact .inr (.inl h3)
      · obtain ⟨p, hp⟩ := get_lt (l := s.1) (k := k.toNat) (by omega)
        refine .inr (.inr ⟨k.toNat, p, by omega, by omega, hp, ?_⟩)
        unfold usedB at hu
        rw [hp] at hu
        simp only [Option.map_some, Option.getD_some, Bool.and_eq_false_iff, decide_eq_false_iff_not, Bool.not_eq_false'] at hu
        rcases hu with c | c
        · omega
        · exact (free_iff.1 c).1
  · right
    have h1 : uE s k = 0 := by unfold uE; rw [if_neg (by rw [ok_iff.2 h]; decide), if_neg (by rw [hu]; decide)]
    obtain ⟨_, i, p, rfl, hi, hp, e, hf⟩ := uE_zero h1
    have h0 := (h.each p (List.mem_of_getElem? hp) hf).1.1.1
    refine ⟨h, i, p, rfl, hi, hp, by omega, ?_⟩
    unfold clE
    rw [if_pos h1, e]
    by_cases hq : p.1 = q
    · right
      rw [if_pos hq]
      have hl : lL s (i : Int) = lvs s p.1 p.2 := by unfold lL; rw [if_pos h1, e]
      rw [hl]
      exact ⟨hq, mov_some h hp⟩
    · left
      rw [if_neg hq]
      exact ⟨hq, rfl⟩

end Go.Proofs.Ytkpckadicjdieaa

/-
  Plain mathematics: which segment is cleaned next; how many slots may be given out.
-/
namespace Go.Proofs.Ytkpckadicjdieaa

theorem slot_at {s : St} {j : Nat} {p : Sg} (h : s.1[j]? = some p) : slotOf s (j : Int) = p := by
  unfold slotOf
  rw [Int.toNat_natCast, h]
  rfl
/-- May slot j be cleaned? -/
def cnd (s : St) (j : Nat) : Bool := decide (uE s (j : Int) = 0) && decide ((lL s (j : Int)).length < 8)
def vSc (s : St) (j : Nat) : Int := scV (slotOf s (j : Int)).1 ((lL s (j : Int)).length : Nat) s.2.2.2
def vic (s : St) : Nat → Bool × Nat × Int
  | 0 => (false, 0, 0)
  | j + 1 => if cnd s j = true then (if (vic s j).1 = false ∨ (vic s j).2.2 < vSc s j then (true, j, vSc s j) else vic s j) else vic s j
theorem vic_skip {s : St} {j : Nat} (h : cnd s j = false) : vic s (j + 1) = vic s j := by
  rw [vic, if_neg (by rw [h]; decide)]
theorem vic_take {s : St} {j : Nat} (h : cnd s j = true) (h1 : (vic s j).1 = false ∨ (vic s j).2.2 < vSc s j) : vic s (j + 1) = (true, j, vSc s j) := by
  rw [vic, if_pos h, if_pos h1]
theorem vic_stay {s : St} {j : Nat} (h : cnd s j = true) (h1 : (vic s j).1 = true) (h2 : ¬ (vic s j).2.2 < vSc s j) : vic s (j + 1) = vic s j := by
  rw [vic, if_pos h, if_neg]
  rintro (c | c)
  · rw [h1] at c; cases c
  · exact h2 c
theorem vic_lt {s : St} : ∀ {j : Nat}, (vic s j).1 = true → (vic s j).2.1 < j ∧ cnd s (vic s j).2.1 = true
  | 0, h => by cases h
  | j + 1, h => by
    cases hc : cnd s j with
    | false =>
      rw [vic_skip hc] at h ⊢
      have := vic_lt h
      exact ⟨by omega, this.2⟩
    | true =>
      by_cases h1 : (vic s j).1 = false ∨ (vic s j).2.2 < vSc s j
      · rw [vic_take hc h1]
        exact ⟨by simp, hc⟩
      · have hf : (vic s j).1 = true := by
          cases hh : (vic s j).1 with
          | true => rfl
          | false => exact absurd (.inl hh) h1
        rw [vic_stay hc hf (fun c => h1 (.inr c))]
        have := vic_lt hf
        exact ⟨by omega, this.2⟩
theorem vic_none {s : St} : ∀ {j : Nat}, (vic s j).1 = false → vic s j = (false, 0, 0)
  | 0, _ => rfl
  | j + 1, h => by
    cases hc : cnd s j with
    | false =>
      rw [vic_skip hc] at h ⊢
      exact vic_none h
    | true =>
      by_cases h1 : (vic s j).1 = false ∨ (vic s j).2.2 < vSc s j
      · rw [vic_take hc h1] at h; cases h
      · have hf : (vic s j).1 = true := by
          cases hh : (vic s j).1 with
          | true => rfl
          | false => exact absurd (.inl hh) h1
        rw [vic_stay hc hf (fun c => h1 (.inr c)), hf] at h; cases h
def vE (s : St) : Int := if okB s = false then 9 else if (vic s s.1.length).1 = false then 71 else 0
def vA (s : St) : Nat := if vE s = 0 then (vic s s.1.length).2.1 else 0
def vQ (s : St) : Int := if vE s = 0 then (slotOf s (vA s : Int)).1 else 0
theorem vic_bad {s : St} (h : ¬ Ok s) : vE s = 9 ∧ vA s = 0 ∧ vQ s = 0 := by
  have hb : okB s = false := by
    cases hb : okB s with
    | false => rfl
    | true => exact absurd (ok_iff.1 hb) h
  have e : vE s = 9 := by unfold vE; rw [if_pos hb]
  refine ⟨e, ?_, ?_⟩
  · unfold vA; rw [e]; rfl
  · unfold vQ; rw [e]; rfl
theorem vic_no {s : St} (h : Ok s) (h1 : (vic s s.1.length).1 = false) : vE s = 71 ∧ vA s = 0 ∧ vQ s = 0 := by
  have e : vE s = 71 := by unfold vE; rw [if_neg (by rw [ok_iff.2 h]; decide), if_pos h1]
  refine ⟨e, ?_, ?_⟩
  · unfold vA; rw [e]; rfl
  · unfold vQ; rw [e]; rfl
theorem vic_yes {s : St} (h : Ok s) (h1 : (vic s s.1.length).1 = true) : vE s = 0 ∧ vA s = (vic s s.1.length).2.1 ∧ vQ s = (slotOf s ((vic s s.1.length).2.1 : Int)).1 := by
  have e : vE s = 0 := by unfold vE; rw [if_neg (by rw [ok_iff.2 h]; decide), if_neg (by rw [h1]; decide)]
  have e2 : vA s = (vic s s.1.length).2.1 := by unfold vA; rw [if_pos e]
  refine ⟨e, e2, ?_⟩
  unfold vQ; rw [if_pos e, e2]
theorem live_small {s : St} (h : Ok s) (k : Int) : (lL s k).length ≤ 8 := by
  unfold lL
  split
  · rename_i h1
    obtain ⟨_, i, p, _, _, h2, h3, _⟩ := uE_zero h1
    rw [h3]
    exact Nat.le_trans (lvs_le _ _ _) (h.small p (List.mem_of_getElem? h2))
  · simp
/-- How many slots may be given out. -/
def rmB (s : St) (j : Nat) : Bool := decide ((slotOf s (j : Int)).1 = 0) && !(s.2.1[j]?).getD true
def rm (s : St) : Nat → Nat
  | 0 => 0
  | j + 1 => if rmB s j = true then rm s j + 1 else rm s j
theorem rm_yes {s : St} {j : Nat} (h : rmB s j = true) : rm s (j + 1) = rm s j + 1 := by rw [rm, if_pos h]
theorem rm_no {s : St} {j : Nat} (h : rmB s j = false) : rm s (j + 1) = rm s j := by rw [rm, if_neg (by rw [h]; decide)]
theorem rm_le {s : St} : ∀ j : Nat, rm s j ≤ j
  | 0 => Nat.le_refl _
  | j + 1 => by
    have := rm_le (s := s) j
    unfold rm
    split <;> omega
theorem rmB_at {s : St} {j : Nat} {p : Sg} {x : Bool} (h : s.1[j]? = some p) (h2 : s.2.1[j]? = some x) : rmB s j = (decide (p.1 = 0) && !x) := by
  unfold rmB
  rw [slot_at h, h2]
  rfl
def rmV (s : St) : Nat := if okE s = 0 then rm s s.1.length else 0

end Go.Proofs.Ytkpckadicjdieaa

/-
  The last version of a kind, as the document tells it.
-/
namespace Go.Proofs.Ytkpckadicjdieaa
open Go.RowKit

/-- What is known of a kind, as the document holds it. -/
def KX (w : World) (L : List Ver) (o x sq : Int) (pl ct : Nat) (v : Value) : Prop := ∃ kb : Bk, kn L o x = (kb, sq, pl, ct) ∧ Arg 0 w v kb.2.2 ∧ I64 sq ∧ ct ≤ L.length
theorem KX.nil (w : World) (o x : Int) : KX w [] o x 0 0 0 (.slice none 0 0) := ⟨(0, 0, []), rfl, .mk ⟨rfl, .inl ⟨rfl, rfl⟩⟩ (fun _ h => by cases h), ⟨by omega, by omega⟩, Nat.le_refl _⟩
theorem KX.skip {w : World} {L : List Ver} {o x sq : Int} {pl ct : Nat} {v : Value} (h : KX w L o x sq pl ct v) {q : Int} {j : Nat} {t : Bk} (hn : ¬ (t.1 = o ∧ t.2.1 = x)) : KX w (L ++ [(q, j, t)]) o x sq pl ct v := by
  obtain ⟨kb, h1, h2, h3, h4⟩ := h
  exact ⟨kb, by rw [kn_other _ _ _ _ (fun c => hn ⟨c.1.symm, c.2.symm⟩)]; exact h1, h2, h3, by rw [List.length_append]; omega⟩
theorem KX.keep {w : World} {L : List Ver} {sq : Int} {pl ct : Nat} {v : Value} {q : Int} {j : Nat} {t : Bk} (h : KX w L t.1 t.2.1 sq pl ct v) (hn : ¬ sq ≤ q) : KX w (L ++ [(q, j, t)]) t.1 t.2.1 sq pl (ct + 1) v := by
  obtain ⟨kb, h1, h2, h3, h4⟩ := h
  refine ⟨kb, ?_, h2, h3, by rw [List.length_append]; simp; omega⟩
  rw [kn_same, h1]
  unfold knStep
  rw [if_neg hn]
theorem KX.over {w : World} {L : List Ver} {sq : Int} {pl ct : Nat} {v u : Value} {q : Int} {j : Nat} {t : Bk} (h : KX w L t.1 t.2.1 sq pl ct v) (hn : sq ≤ q) (hu : Arg 0 w u t.2.2) (hq : I64 q) : KX w (L ++ [(q, j, t)]) t.1 t.2.1 q j (ct + 1) u := by
  obtain ⟨kb, h1, h2, h3, h4⟩ := h
  refine ⟨t, ?_, hu, hq, by rw [List.length_append]; simp; omega⟩
  rw [kn_same, h1]
  unfold knStep
  rw [if_pos hn]
theorem kn_seq : ∀ (m : List Ver) (y : Kn) (b : Int), y.2.1 ≤ b → (∀ v ∈ m, v.1 ≤ b) → (m.foldl knStep y).2.1 ≤ b
  | [], _, _, h, _ => h
  | v :: m, y, b, h, hv => by
    rw [List.foldl_cons]
    refine kn_seq m _ b ?_ fun v' hv' => hv v' (List.mem_cons_of_mem _ hv')
    unfold knStep
    split
    · exact hv v (List.mem_cons_self ..)
    · exact h
theorem seq_le {s : St} (h : Ok s) (j : Nat) (o x : Int) : (kn (segv s.1 ++ plc s.2.2.2 (s.2.2.1.take j)) o x).2.1 ≤ s.2.2.2 := by
  unfold kn
  refine kn_seq _ _ _ (by have := h.next.1; show (0 : Int) ≤ _; omega) fun v hv => ?_
  have hm : v ∈ vers s := by
    rcases List.mem_append.1 (List.mem_filter.1 hv).1 with hm | hm
    · exact List.mem_append_left _ hm
    · refine List.mem_append_right _ ?_
      unfold plc at hm ⊢
      obtain ⟨y, hy, rfl⟩ := List.mem_map.1 hm
      refine List.mem_map.2 ⟨y, ?_, rfl⟩
      obtain ⟨y1, y2⟩ := y
      rw [List.mem_zipIdx_iff_getElem?] at hy ⊢
      rw [List.getElem?_take] at hy
      by_cases c : y2 < j
      · rw [if_pos c] at hy; exact hy
      · rw [if_neg c] at hy; cases hy
  rcases vers_mem hm with ⟨p, hp, hb, e⟩ | ⟨_, e⟩
  · rw [e]
    cases hf : freeB p
    · have := (h.each p hp hf).2; omega
    · have := (free_iff.1 hf).1; have := h.next.1; omega
  · rw [e]; omega

set_option maxRecDepth 100000 in
set_option maxHeartbeats 8000000 in
theorem rlast_any (n0 : Nat) (us : List Value) (s : St) (o x : Int) (w : World) (h : stR.lies n0 w us s) (hok : Ok s) :
    Calls Try.prog 50 #[.agg us.toArray, .int .i64 o, .int .i64 x] w fun e w' => (∃ (sq : Int) (pl ct : Nat) (v : Value), e = .returned (.tuple #[.int .i64 sq, .int .i64 (pl : Nat), v, .int .i64 (ct : Nat)]) ∧ KX w (vers s) o x sq pl ct v) ∧ Below w.heap.size w w' := by
  obtain ⟨a, c, b, d, e, f, rfl, hS, hH, hO, hN, m1, m2, m3⟩ := st_viewR h
  have HSL : Hid (∀ j, (kn (segv s.1 ++ plc s.2.2.2 (s.2.2.1.take j)) o x).2.1 ≤ s.2.2.2) := fun j => seq_le hok j o x
  have HOK : Hid (s.1.length ≤ 64 ∧ s.2.2.1.length ≤ 8 ∧ ∀ p ∈ s.1, p.2.length ≤ 8) := ⟨hok.slots.2, hok.few, hok.small⟩
  obtain ⟨l, hd, op, nx⟩ := s
  simp only at hS hH hO hN m1 m2 m3 HOK HSL ⊢
  obtain ⟨post, hpost⟩ : ∃ post : Ending → World → Prop, post = fun e w' => (∃ (sq : Int) (pl ct : Nat) (v : Value), e = .returned (.tuple #[.int .i64 sq, .int .i64 (pl : Nat), v, .int .i64 (ct : Nat)]) ∧ KX w (vers (l, hd, op, nx)) o x sq pl ct v) ∧ Below w.heap.size w w' := ⟨_, rfl⟩
  have HPo : Hid (∀ sq pl ct v w', KX w (vers (l, hd, op, nx)) o x sq pl ct v → Below w.heap.size w w' → post (.returned (.tuple #[.int .i64 sq, .int .i64 (pl : Nat), v, .int .i64 (ct : Nat)])) w') := fun sq pl ct v w' h1 h2 => by rw [hpost]; exact ⟨⟨sq, pl, ct, v, rfl, h1⟩, h2⟩
  rw [← hpost]
  clear hpost
  obtain ⟨n, hn⟩ : ∃ n, n = l.length := ⟨_, rfl⟩
  obtain ⟨nh, hnh⟩ : ∃ n, n = hd.length := ⟨_, rfl⟩
  obtain ⟨no, hno⟩ : ∃ n, n = op.length := ⟨_, rfl⟩
  have hl1 := run_len Try.underlying22 a n c
  have hl3 := run_len Try.underlying24 e no f
  rw [← hn] at hS HOK ⊢
  rw [← hnh] at ⊢
  rw [← hno] at hO HOK ⊢
  have HN : Hid (n = l.length ∧ no = op.length ∧ I64 nx) := ⟨hn, hno, hN⟩
  have HA : Hid (sgsR.lies n0 w [.slice a n c] l ∧ bksR.lies n0 w [.slice e no f] op) := ⟨hS, hO⟩
  have hn64 := HOK.out.1
  have hno8 := HOK.out.2.1
  obtain ⟨W, hW⟩ : ∃ W, W = w.alloc (.cells #[.slice a n c, .slice b nh d, .slice e no f, .int .i64 nx] 26) := ⟨_, rfl⟩
  have hbW : Below w.heap.size w W := by rw [hW]; exact (Below.refl _ w).alloc (Nat.le_refl _) _
  have hB1 : Box W w.heap.size 26 #[.slice a n c, .slice b nh d, .slice e no f, .int .i64 nx] := by rw [hW]; exact Box.new _ _ _
  have HB : Hid (Below w.heap.size w W ∧ Box W w.heap.size 26 #[.slice a n c, .slice b nh d, .slice e no f, .int .i64 nx]) := ⟨hbW, hB1⟩
  clear h hS hH hO hN m1 m2 m3 hbW hB1 hn hnh hno hok
  go_enter Try.func50, Try.ntmps50
  go_wp2
  rw [← hW]
  clear hW
  go_loopw [10, 11, 12, 13, 14] (fun s10 s11 s12 s13 i wr => ∃ (k : Nat) (sq : Int) (pl ct : Nat) (ka : Option Addr) (km kc : Nat), k ≤ n ∧ i = .int .i64 k ∧ s10 = .int .i64 sq ∧ s11 = .int .i64 (pl : Nat) ∧ s12 = .int .i64 (ct : Nat) ∧ s13 = .slice ka km kc ∧ Hid (KX w (segv (l.take k)) o x sq pl ct (.slice ka km kc) ∧ Below W.heap.size W wr)) (fun _ _ _ _ i _ => n - (intOf i).toNat)
  case atStart => exact ⟨0, 0, 0, 0, none, 0, 0, Nat.zero_le _, rfl, rfl, rfl, rfl, rfl, by simpa [segv] using KX.nil w o x, Below.refl _ _⟩
  case round =>
    obtain ⟨k, sq, pl, ct, ka, km, kc, hk, rfl, rfl, rfl, rfl, rfl, HJ⟩ := hrel
    obtain ⟨z0, z1, z2, z3, -⟩ := (HB.out.2.below HJ.out.2 HB.out.2.lt).four
    by_cases hlt : k < n
    · obtain ⟨p, hp⟩ := get_lt (l := l) (k := k) (by rw [← HN.out.1]; exact hlt)
      have hki : (k : Int) < (n : Int) := by omega
      obtain ⟨pb, po, px, pcap, hix, c0, c1, hL, _⟩ := sgs_atR HA.out.1 k p hp
      obtain ⟨_, _, e0, hLb, hI, _⟩ := sg_viewR hL
      obtain ⟨m, hm⟩ : ∃ m, m = p.2.length := ⟨_, rfl⟩
      have HP : Hid (bksR.lies n0 w [.slice px m pcap] p.2 ∧ m = p.2.length ∧ I64 p.1 ∧ segv (l.take (k + 1)) = segv (l.take k) ++ plc p.1 p.2 ∧ (segv (l.take k)).length ≤ 512) := ⟨by rw [hm]; simp at e0; obtain ⟨rfl, rfl⟩ := e0; exact hLb, hm, hI, segv_take hp, by
        have h1 := segv_length (l := l.take k) fun q hq => HOK.out.2.2 q (List.mem_of_mem_take hq)
        rw [List.length_take] at h1
        omega⟩
      have hm8 : m ≤ 8 := by rw [hm]; exact HOK.out.2.2 p (List.mem_of_getElem? hp)
      have HC : Hid (∀ V, Below W.heap.size W V → (V.cell? ⟨w.heap.size, 0, none⟩ = some (.slice a n c) ∧ V.cell? ⟨w.heap.size, 2, none⟩ = some (.slice e no f) ∧ V.cell? ⟨w.heap.size, 3, none⟩ = some (.int .i64 nx)) ∧ V.cell? ⟨pb, po, none⟩ = some (.int .i64 p.1) ∧ V.cell? ⟨pb, po + 1, none⟩ = some (.slice px m pcap)) := fun V hV => by
        have h1 := (HB.out.2.below hV HB.out.2.lt).four
        have h2 := below_any HB.out.1 hV
        exact ⟨⟨h1.1, h1.2.2.1, h1.2.2.2.1⟩, by rw [h2.cell (cell_lt c0)]; exact c0, by rw [h2.cell (cell_lt c1)]; rw [hm]; exact c1⟩
      have hl5 := run_len Try.underlying24 px m pcap
      clear hp c0 c1 hL hLb hI e0 hm
      go_wp2
      clear z0 z1 z2 z3
      go_loopw [10, 11, 12, 13, 15] (fun s10 s11 s12 s13 i wr => ∃ (j : Nat) (sq : Int) (pl ct : Nat) (ka : Option Addr) (km kc : Nat), j ≤ m ∧ i = .int .i64 j ∧ s10 = .int .i64 sq ∧ s11 = .int .i64 (pl : Nat) ∧ s12 = .int .i64 (ct : Nat) ∧ s13 = .slice ka km kc ∧ Hid (KX w (segv (l.take k) ++ plc p.1 (p.2.take j)) o x sq pl ct (.slice ka km kc) ∧ Below W.heap.size W wr)) (fun _ _ _ _ i _ => m - (intOf i).toNat)
      case atStart => exact ⟨0, sq, pl, ct, ka, km, kc, Nat.zero_le _, rfl, rfl, rfl, rfl, rfl, by simpa [plc] using HJ.out.1, HJ.out.2⟩
      case round =>
        obtain ⟨j, sq, pl, ct, ka, km, kc, hj, rfl, rfl, rfl, rfl, rfl, HJ⟩ := hrel
        obtain ⟨⟨z0, z2, z3⟩, y0, y1⟩ := HC.out wr HJ.out.2
        by_cases hjm : j < m
        · obtain ⟨t, ht⟩ := get_lt (l := p.2) (k := j) (by rw [← HP.out.2.1]; exact hjm)
          obtain ⟨tb, tof, tx', tcap, hixt, k0, k1, k2, hA, hto, hti, _⟩ := bks_atR HP.out.1 j t ht
          have hji : (j : Int) < (m : Int) := by omega
          have hbr := below_any HB.out.1 HJ.out.2
          have g0 : wr.cell? ⟨tb, tof, none⟩ = some (.int .i64 t.1) := by rw [hbr.cell (cell_lt k0)]; exact k0
          have g1 : wr.cell? ⟨tb, tof + 1, none⟩ = some (.int .i64 t.2.1) := by rw [hbr.cell (cell_lt k1)]; exact k1
          have g2 : wr.cell? ⟨tb, tof + 2, none⟩ = some (.slice tx' t.2.2.length tcap) := by rw [hbr.cell (cell_lt k2)]; exact k2
          obtain ⟨ml, hml⟩ : ∃ k, k = t.2.2.length := ⟨_, rfl⟩
          rw [← hml] at g2 hA
          have HT : Hid (plc p.1 (p.2.take (j + 1)) = plc p.1 (p.2.take j) ++ [(p.1, j, t)] ∧ Arg 0 w (.slice tx' ml tcap) t.2.2) := ⟨plc_take ht, hA.weaken (Nat.zero_le _)⟩
          have HCT : Hid (ct ≤ 600) := by
            obtain ⟨_, _, _, _, h4⟩ := HJ.out.1
            show ct ≤ 600
            have := HP.out.2.2.2.2
            rw [List.length_append, plc_length, List.length_take] at h4
            omega
          have hct := HCT.out
          obtain ⟨V, hV⟩ : ∃ V, V = wr.alloc (.cells #[.int .i64 t.1, .int .i64 t.2.1, .slice tx' ml tcap] 29) := ⟨_, rfl⟩
          have hbV : Below W.heap.size W V := by rw [hV]; exact HJ.out.2.alloc HJ.out.2.size _
          have hxV : Box V wr.heap.size 29 #[.int .i64 t.1, .int .i64 t.2.1, .slice tx' ml tcap] := by rw [hV]; exact Box.new _ _ _
          have HV : Hid (Below W.heap.size W V) := hbV
          obtain ⟨v0, v1, v2, -⟩ := hxV.three
          obtain ⟨⟨w0', w2', w3'⟩, x0', x1'⟩ := HC.out V hbV
          clear ht hA hto hti k0 k1 k2 hml hbr hbV hxV
          go_upto_region 10 with fail
          rw [← hV]
          clear hV g0 g1 g2 hixt z0 z2 z3 y0 y1
          by_cases ho : t.1 = o
          · by_cases hx : t.2.1 = x
            · subst ho hx
              by_cases hge : sq ≤ p.1
              · have HF : Hid (KX w (segv (l.take k) ++ plc p.1 (p.2.take (j + 1))) t.1 t.2.1 p.1 j (ct + 1) (.slice tx' ml tcap) ∧ ∀ r, Below W.heap.size W (V.drewN r)) := ⟨by rw [HT.out.1, ← List.append_assoc]; exact HJ.out.1.over hge HT.out.2 HP.out.2.2.1, fun r => below_drewN HV.out r⟩
                go_wp2
                go_quiet (fail)
                go_wp2
                go_roundw
                case rel => exact ⟨j + 1, p.1, j, ct + 1, tx', ml, tcap, by omega, by go_num, rfl, rfl, by go_num, rfl, HF.out.1, HF.out.2 _⟩
                case measure => simp [intOf]; omega
              · have HF : Hid (KX w (segv (l.take k) ++ plc p.1 (p.2.take (j + 1))) t.1 t.2.1 sq pl (ct + 1) (.slice ka km kc) ∧ Below W.heap.size W V) := ⟨by rw [HT.out.1, ← List.append_assoc]; exact HJ.out.1.keep hge, HV.out⟩
                go_wp2
                go_roundw
                case rel => exact ⟨j + 1, sq, pl, ct + 1, ka, km, kc, by omega, by go_num, rfl, rfl, by go_num, rfl, HF.out⟩
                case measure => simp [intOf]; omega
            · have hxi : (t.2.1 == x) = false := by simp [hx]
              have HF : Hid (KX w (segv (l.take k) ++ plc p.1 (p.2.take (j + 1))) o x sq pl ct (.slice ka km kc) ∧ Below W.heap.size W V) := ⟨by rw [HT.out.1, ← List.append_assoc]; exact HJ.out.1.skip (fun c => hx c.2), HV.out⟩
              subst ho
              go_wp2
              go_roundw
              case rel => exact ⟨j + 1, sq, pl, ct, ka, km, kc, by omega, by go_num, rfl, rfl, rfl, rfl, HF.out⟩
              case measure => simp [intOf]; omega
          · have hoi : (t.1 == o) = false := by simp [ho]
            have HF : Hid (KX w (segv (l.take k) ++ plc p.1 (p.2.take (j + 1))) o x sq pl ct (.slice ka km kc) ∧ Below W.heap.size W V) := ⟨by rw [HT.out.1, ← List.append_assoc]; exact HJ.out.1.skip (fun c => ho c.1), HV.out⟩
            go_wp2
            go_roundw
            case rel => exact ⟨j + 1, sq, pl, ct, ka, km, kc, by omega, by go_num, rfl, rfl, rfl, rfl, HF.out⟩
            case measure => simp [intOf]; omega
        · obtain rfl : j = m := by omega
          have HF : Hid (KX w (segv (l.take (k + 1))) o x sq pl ct (.slice ka km kc) ∧ Below W.heap.size W wr) := by
            show _ ∧ _
            have := HJ.out
            rwa [HP.out.2.1, List.take_length, ← HP.out.2.2.2.1] at this
          go_wp2
          go_roundw
          case rel => exact ⟨k + 1, sq, pl, ct, ka, km, kc, by omega, by go_num, rfl, rfl, rfl, rfl, HF.out⟩
          case measure => simp [intOf]; omega
    · obtain rfl : k = n := by omega
      have HJ0 : Hid (KX w (segv l) o x sq pl ct (.slice ka km kc) ∧ Below W.heap.size W wr) := by
        show _ ∧ _
        have := HJ.out
        rwa [HN.out.1, List.take_length] at this
      clear HJ
      go_wp2
      clear z0 z1 z2 z3
      go_loopw [10, 11, 12, 13, 17] (fun s10 s11 s12 s13 i wr => ∃ (j : Nat) (sq : Int) (pl ct : Nat) (ka : Option Addr) (km kc : Nat), j ≤ no ∧ i = .int .i64 j ∧ s10 = .int .i64 sq ∧ s11 = .int .i64 (pl : Nat) ∧ s12 = .int .i64 (ct : Nat) ∧ s13 = .slice ka km kc ∧ Hid (KX w (segv l ++ plc nx (op.take j)) o x sq pl ct (.slice ka km kc) ∧ Below W.heap.size W wr)) (fun _ _ _ _ i _ => no - (intOf i).toNat)
      case atStart => exact ⟨0, sq, pl, ct, ka, km, kc, Nat.zero_le _, rfl, rfl, rfl, rfl, rfl, by simpa [plc] using HJ0.out.1, HJ0.out.2⟩
      case round =>
        obtain ⟨j, sq, pl, ct, ka, km, kc, hj, rfl, rfl, rfl, rfl, rfl, HJ⟩ := hrel
        obtain ⟨z0, z1, z2, z3, -⟩ := (HB.out.2.below HJ.out.2 HB.out.2.lt).four
        by_cases hjm : j < no
        · obtain ⟨t, ht⟩ := get_lt (l := op) (k := j) (by rw [← HN.out.2.1]; exact hjm)
          obtain ⟨tb, tof, tx', tcap, hixt, k0, k1, k2, hA, hto, hti, _⟩ := bks_atR HA.out.2 j t ht
          have hji : (j : Int) < (no : Int) := by omega
          have hbr := below_any HB.out.1 HJ.out.2
          have g0 : wr.cell? ⟨tb, tof, none⟩ = some (.int .i64 t.1) := by rw [hbr.cell (cell_lt k0)]; exact k0
          have g1 : wr.cell? ⟨tb, tof + 1, none⟩ = some (.int .i64 t.2.1) := by rw [hbr.cell (cell_lt k1)]; exact k1
          have g2 : wr.cell? ⟨tb, tof + 2, none⟩ = some (.slice tx' t.2.2.length tcap) := by rw [hbr.cell (cell_lt k2)]; exact k2
          obtain ⟨ml, hml⟩ : ∃ k, k = t.2.2.length := ⟨_, rfl⟩
          rw [← hml] at g2 hA
          have HT : Hid (plc nx (op.take (j + 1)) = plc nx (op.take j) ++ [(nx, j, t)] ∧ Arg 0 w (.slice tx' ml tcap) t.2.2) := ⟨plc_take ht, hA.weaken (Nat.zero_le _)⟩
          have HSQ : Hid (sq ≤ nx) := by
            obtain ⟨_, h1, _⟩ := HJ.out.1
            have h2 := HSL.out j
            rw [h1] at h2
            exact h2
          have HCT : Hid (ct ≤ 600) := by
            obtain ⟨_, _, _, _, h4⟩ := HJ.out.1
            show ct ≤ 600
            have h1 := segv_length (l := l) fun q hq => HOK.out.2.2 q hq
            have := HN.out.1
            rw [List.length_append, plc_length, List.length_take] at h4
            omega
          have hct := HCT.out
          clear ht hA hto hti k0 k1 k2 hml hbr
          by_cases ho : t.1 = o
          · by_cases hx : t.2.1 = x
            · subst ho hx
              have HF : Hid (KX w (segv l ++ plc nx (op.take (j + 1))) t.1 t.2.1 nx j (ct + 1) (.slice tx' ml tcap) ∧ ∀ r, Below W.heap.size W (wr.drewN r)) := ⟨by rw [HT.out.1, ← List.append_assoc]; exact HJ.out.1.over HSQ.out HT.out.2 HN.out.2.2, fun r => below_drewN HJ.out.2 r⟩
              go_wp2
              go_quiet (fail)
              go_wp2
              go_roundw
              case rel => exact ⟨j + 1, nx, j, ct + 1, tx', ml, tcap, by omega, by go_num, rfl, rfl, by go_num, rfl, HF.out.1, HF.out.2 _⟩
              case measure => simp [intOf]; omega
            · have hxi : (t.2.1 == x) = false := by simp [hx]
              have HF : Hid (KX w (segv l ++ plc nx (op.take (j + 1))) o x sq pl ct (.slice ka km kc) ∧ Below W.heap.size W wr) := ⟨by rw [HT.out.1, ← List.append_assoc]; exact HJ.out.1.skip (fun c => hx c.2), HJ.out.2⟩
              subst ho
              go_wp2
              go_roundw
              case rel => exact ⟨j + 1, sq, pl, ct, ka, km, kc, by omega, by go_num, rfl, rfl, rfl, rfl, HF.out⟩
              case measure => simp [intOf]; omega
          · have hoi : (t.1 == o) = false := by simp [ho]
            have HF : Hid (KX w (segv l ++ plc nx (op.take (j + 1))) o x sq pl ct (.slice ka km kc) ∧ Below W.heap.size W wr) := ⟨by rw [HT.out.1, ← List.append_assoc]; exact HJ.out.1.skip (fun c => ho c.1), HJ.out.2⟩
            go_wp2
            go_roundw
            case rel => exact ⟨j + 1, sq, pl, ct, ka, km, kc, by omega, by go_num, rfl, rfl, rfl, rfl, HF.out⟩
            case measure => simp [intOf]; omega
        · obtain rfl : j = no := by omega
          have HE : Hid (post (.returned (.tuple #[.int .i64 sq, .int .i64 (pl : Nat), .slice ka km kc, .int .i64 (ct : Nat)])) wr) := HPo.out _ _ _ _ _ (by have := HJ.out.1; rw [HN.out.2.1, List.take_length] at this; exact this) (below_any HB.out.1 HJ.out.2)
          go_wp2
          refine bodyPost_ret (v := .tuple #[.int .i64 sq, .int .i64 (pl : Nat), .slice ka km kc, .int .i64 (ct : Nat)]) (by simp [results, Try.results50, go_sem, *]) rfl HE.out

end Go.Proofs.Ytkpckadicjdieaa

/-
  The document's slots in use.
-/
namespace Go.Proofs.Ytkpckadicjdieaa
open Go.RowKit

set_option maxRecDepth 100000 in
set_option maxHeartbeats 4000000 in
theorem rused_any (n0 : Nat) (us : List Value) (s : St) (k : Int) (w : World) (h : stR.lies n0 w us s) :
    Calls Try.prog 83 #[.agg us.toArray, .int .i64 k] w fun e w' => e = .returned (.int .i64 (uE s k)) ∧ Below w.heap.size w w' := by
  obtain ⟨a, c, b, d, e, f, rfl, hS, hH, hO, hN, m1, m2, m3⟩ := st_viewR h
  obtain ⟨post, hpost⟩ : ∃ post : Ending → World → Prop, post = fun e w' => e = .returned (.int .i64 (uE s k)) ∧ Below w.heap.size w w' := ⟨_, rfl⟩
  have HP : Hid (∀ r w', uE s k = r → Below w.heap.size w w' → post (.returned (.int .i64 r)) w') := fun r w' h1 h2 => by rw [hpost]; exact ⟨by rw [h1], h2⟩
  rw [← hpost]
  clear hpost
  unfold maxLen at m1
  obtain ⟨n, hn⟩ : ∃ n, n = s.1.length := ⟨_, rfl⟩
  obtain ⟨nh, hnh⟩ : ∃ n, n = s.2.1.length := ⟨_, rfl⟩
  obtain ⟨no, hno⟩ : ∃ n, n = s.2.2.1.length := ⟨_, rfl⟩
  obtain ⟨nx, hnx⟩ : ∃ n, n = s.2.2.2 := ⟨_, rfl⟩
  rw [← hn, ← hnh, ← hno, ← hnx] at h ⊢
  rw [← hn] at hS m1
  obtain ⟨W, hW⟩ : ∃ W, W = w.alloc (.cells #[.slice a n c, .slice b nh d, .slice e no f, .int .i64 nx] 26) := ⟨_, rfl⟩
  have hbW : Below w.heap.size w W := by rw [hW]; exact (Below.refl _ w).alloc (Nat.le_refl _) _
  have hB1 : Box W w.heap.size 26 #[.slice a n c, .slice b nh d, .slice e no f, .int .i64 nx] := by rw [hW]; exact Box.new _ _ _
  have HC := rcheckL_any n0 [.slice a n c, .slice b nh d, .slice e no f, .int .i64 nx] s W (stR.below h hbW)
  have HW : Hid (Below w.heap.size w W ∧ Box W w.heap.size 26 #[.slice a n c, .slice b nh d, .slice e no f, .int .i64 nx] ∧ sgsR.lies n0 w [.slice a n c] s.1 ∧ n = s.1.length) := ⟨hbW, hB1, hS, hn⟩
  have hl1 := run_len Try.underlying22 a n c
  obtain ⟨g0, g1, g2, g3, -⟩ := hB1.four
  rw [hW] at g0 g1 g2 g3
  clear h hS hH hO hN m2 m3 hbW hB1 hn hnh hno hnx
  go_enter Try.func83, Try.ntmps83
  go_wp2_with fail
  rw [← hW]
  clear hW g0 g1 g2 g3
  refine HC.mono ?_
  rintro e1 w1 ⟨rfl, hb1⟩
  have hx1 := HW.out.2.1.below hb1 HW.out.2.1.lt
  have HB1 : Hid (Below w.heap.size w w1) := below_any HW.out.1 hb1
  obtain ⟨q0, q1, q2, q3, -⟩ := hx1.four
  clear hx1 hb1 HC
  rcases okE_cases s with ⟨hk, hok⟩ | ⟨hk, hok⟩
  case inr =>
    rw [hk]
    have HE : Hid (post (.returned (.int .i64 9)) w1) := HP.out 9 w1 (by
      have : okB s = false := by cases hb : okB s with | false => rfl | true => exact absurd (ok_iff.1 hb) hok
      unfold uE; rw [if_pos this]) HB1.out
    clear hk hok
    go_wp2
    exact HE.out
  case inl =>
    rw [hk]
    have HOK : Hid (Ok s ∧ okB s = true) := ⟨hok, ok_iff.2 hok⟩
    have HBAD : Hid (usedB s k = false → post (.returned (.int .i64 71)) w1) := fun h => HP.out 71 w1 (by unfold uE; rw [if_neg (by rw [HOK.out.2]; simp), if_pos h]) HB1.out
    clear hk hok
    by_cases h0 : k < 0
    · have HE : Hid (post (.returned (.int .i64 71)) w1) := HBAD.out (by unfold usedB; rw [decide_eq_false (by omega)]; rfl)
      go_wp2
      exact HE.out
    · obtain ⟨i, rfl⟩ : ∃ i : Nat, k = i := ⟨k.toNat, by omega⟩
      by_cases h1 : n ≤ i
      · have h1i : (n : Int) ≤ (i : Int) := by omega
        have HE : Hid (post (.returned (.int .i64 71)) w1) := HBAD.out (by unfold usedB; rw [Int.toNat_natCast, List.getElem?_eq_none (by rw [← HW.out.2.2.2]; exact h1)]; simp)
        go_wp2
        exact HE.out
      · have h1i : ¬ (n : Int) ≤ (i : Int) := by omega
        obtain ⟨p, hp⟩ := get_lt (l := s.1) (k := i) (by rw [← HW.out.2.2.2]; omega)
        obtain ⟨pb, po, x, cap, hix, c0, c1, hL, _⟩ := sgs_atR (sgsR.below HW.out.2.2.1 HB1.out) i p hp
        have HU : Hid (usedB s (i : Int) = !freeB p) := by
          show usedB s (i : Int) = _
          unfold usedB
          rw [Int.toNat_natCast, hp, decide_eq_true (by omega)]
          rfl
        obtain ⟨q, pl⟩ := p
        simp only at c0 c1
        obtain ⟨m, hm⟩ : ∃ m, m = pl.length := ⟨_, rfl⟩
        rw [← hm] at c1
        have HFR : Hid (freeB (q, pl) = (decide (q = 0) && decide (m = 0))) := by show freeB _ = _; rw [hm]; rfl
        have HC := rfree_any q x m cap w1
        rw [← HFR.out] at HC
        cases hfr : freeB (q, pl)
        · rw [hfr] at HC HU
          clear hp hL hm hfr
          go_wp2_with fail
          refine HC.mono ?_
          rintro e2 w2 ⟨rfl, hb2⟩
          have HE : Hid (post (.returned (.int .i64 0)) w2) := HP.out 0 w2 (by unfold uE; rw [if_neg (by rw [HOK.out.2]; simp), if_neg (by rw [HU.out]; simp)]) (below_any HB1.out hb2)
          clear hb2
          go_wp2
          exact HE.out
        · rw [hfr] at HC HU
          clear hp hL hm hfr
          go_wp2_with fail
          refine HC.mono ?_
          rintro e2 w2 ⟨rfl, hb2⟩
          have HE : Hid (post (.returned (.int .i64 71)) w2) := HP.out 71 w2 (by unfold uE; rw [if_neg (by rw [HOK.out.2]; simp), if_pos (by rw [HU.out]; rfl)]) (below_any HB1.out hb2)
          clear hb2
          go_wp2
          exact HE.out


end Go.Proofs.Ytkpckadicjdieaa

/-
  The document's live blocks.
-/
namespace Go.Proofs.Ytkpckadicjdieaa
open Go.RowKit

/-! A row of blocks of its own whose data lie elsewhere. -/
def BR (w0 w : World) (base : Nat) (v : Value) (L : List Bk) : Prop := ∃ vss : List (List Value), w.ownsRow base 29 3 v L.length vss.flatten ∧ Each (bkR.lies 0 w0) vss L
theorem BR.nil (w0 w : World) (base : Nat) : BR w0 w base (.slice none 0 0) [] := ⟨[], World.ownsRow_nil _ _ _ _, trivial⟩
theorem BR.below {w0 w w' : World} {base : Nat} {v : Value} {L : List Bk} (h : BR w0 w base v L) (hb : Below w.heap.size w w') : BR w0 w' base v L := by
  obtain ⟨vss, h1, h2⟩ := h
  exact ⟨vss, own_below h1 hb, h2⟩
theorem BR.weaken {w0 w : World} {base b2 : Nat} {v : Value} {L : List Bk} (h : BR w0 w base v L) (hb : b2 ≤ base) : BR w0 w b2 v L := by
  obtain ⟨vss, h1, h2⟩ := h
  exact ⟨vss, own_weaken h1 hb, h2⟩
theorem BR.row {w0 w : World} {base : Nat} {v : Value} {L : List Bk} (h : BR w0 w base v L) : ∃ xs, w.ownsRow base 29 3 v L.length xs := let ⟨_, h1, _⟩ := h; ⟨_, h1⟩
theorem BR.shape {w0 w : World} {base : Nat} {v : Value} {L : List Bk} (h : BR w0 w base v L) : ∃ a c, v = .slice a L.length c := let ⟨_, h1⟩ := h.row; own_shape h1
theorem BR.lies {w0 w : World} {base : Nat} {v : Value} {L : List Bk} (h : BR w0 w base v L) (hb : Below w0.heap.size w0 w) : bksR.lies 0 w [v] L := by
  obtain ⟨vss, h1, h2⟩ := h
  exact ⟨v, vss, rfl, (Cells.own h1).weaken (Nat.zero_le _), h2.mono fun _ _ h => bkR.below h hb⟩
theorem BR.push {w0 wr : World} {base : Nat} {v : Value} {L : List Bk} {us : List Value} {b : Bk} (h : BR w0 wr base v L) (hu : bkR.lies 0 w0 us b) (hb : base ≤ wr.heap.size) (hl : L.length ≤ 10000) :
    ∃ g cap w3, (Builtin.append_ #[24, 24] 24 #[v, .slice (some ⟨wr.heap.size, 0, none⟩) 1 1]).run Try.prog (wr.alloc (.cells us.toArray 29)) = .ok (.slice (some ⟨g, 0, none⟩) (L.length + 1) cap) w3 ∧ BR w0 w3 base (.slice (some ⟨g, 0, none⟩) (L.length + 1) cap) (L ++ [b]) ∧ wr.grownBy w3 v.ownBlock := by
  obtain ⟨vss, hown, hE⟩ := h
  obtain ⟨i, hi, hz, hsz, hby⟩ := info_parts Try.info29
  have hul : us.length = 3 := bkR.length hu
  obtain ⟨g, cap, w3, h1, h2, h3, _, _⟩ := run_append_lies (P := Try.prog) (wr.alloc (.cells us.toArray 29)) 24 24 base 29 i _ 3 40 Try.underlying24 hi hz hsz hby rfl (by decide) v L.length vss.flatten (hown.alloc _) ⟨wr.heap.size, 0, none⟩ 1 1 us (by omega)
    (fun j u hj => World.news_of_block (cs := us.toArray) (t := 29) (fr := (0, 0)) (heap_alloc_new wr _) j u (by simpa using hj)) (bkR.ones hu) (by omega) (by unfold maxLen; omega) (by omega) (by simp; omega) (wr.heap.size + 1) (by simp)
  refine ⟨g, cap, w3, h1, ⟨vss ++ [us], by rw [List.length_append, flat_snoc]; exact h2, hE.snoc hu⟩, ?_⟩
  refine ⟨h3.os, h3.tape, h3.output, ?_, fun k hk hne => ?_⟩
  · have := h3.size
    simp at this
    omega
  · rw [h3.block k (by simp; omega) hne, Below.heap_alloc wr _ k hk]
theorem BR.grow {w0 w wr w3 : World} {base : Nat} {v : Value} {L : List Bk} (h : BR w0 wr base v L) (hg : wr.grownBy w3 v.ownBlock) (hb : Below base w wr) (hs : base ≤ wr.heap.size) : Below base w w3 := let ⟨_, h1⟩ := h.row; below_row hb h1 hg hs


set_option maxRecDepth 100000 in
set_option maxHeartbeats 8000000 in
theorem rliveL_any (n0 : Nat) (us : List Value) (s : St) (k : Int) (w : World) (h : stR.lies n0 w us s) :
    Calls Try.prog 68 #[.agg us.toArray, .int .i64 k] w fun e w' => (∃ v', e = .returned (.tuple #[v', .int .i64 (uE s k)]) ∧ bksR.owns w.heap.size w' [v'] (lL s k)) ∧ Below w.heap.size w w' := by
  obtain ⟨a, c, b, d, e, f, rfl, hS, hH, hO, hN, m1, m2, m3⟩ := st_viewR h
  obtain ⟨post, hpost⟩ : ∃ post : Ending → World → Prop, post = fun e w' => (∃ v', e = .returned (.tuple #[v', .int .i64 (uE s k)]) ∧ bksR.owns w.heap.size w' [v'] (lL s k)) ∧ Below w.heap.size w w' := ⟨_, rfl⟩
  have HNO : Hid (∀ r w', uE s k = r → r ≠ 0 → Below w.heap.size w w' → post (.returned (.tuple #[.slice none 0 0, .int .i64 r])) w') := fun r w' h1 h2 h3 => by
    rw [hpost]
    refine ⟨⟨_, by rw [h1], ?_⟩, h3⟩
    unfold lL
    rw [if_neg (by rw [h1]; exact h2)]
    exact Shape.list_nil bkR 24 Try.underlying24 cells24 _ _
  have HYES : Hid (∀ v' w', uE s k = 0 → bksR.owns w.heap.size w' [v'] (lL s k) → Below w.heap.size w w' → post (.returned (.tuple #[v', .int .i64 0])) w') := fun v' w' h1 h2 h3 => by
    rw [hpost]
    exact ⟨⟨v', by rw [h1], h2⟩, h3⟩
  rw [← hpost]
  clear hpost
  obtain ⟨n, hn⟩ : ∃ n, n = s.1.length := ⟨_, rfl⟩
  obtain ⟨nh, hnh⟩ : ∃ n, n = s.2.1.length := ⟨_, rfl⟩
  obtain ⟨no, hno⟩ : ∃ n, n = s.2.2.1.length := ⟨_, rfl⟩
  obtain ⟨nx, hnx⟩ : ∃ n, n = s.2.2.2 := ⟨_, rfl⟩
  rw [← hn, ← hnh, ← hno, ← hnx] at h ⊢
  rw [← hn] at hS
  obtain ⟨W, hW⟩ : ∃ W, W = w.alloc (.cells #[.slice a n c, .slice b nh d, .slice e no f, .int .i64 nx] 26) := ⟨_, rfl⟩
  have hbW : Below w.heap.size w W := by rw [hW]; exact (Below.refl _ w).alloc (Nat.le_refl _) _
  have hB1 : Box W w.heap.size 26 #[.slice a n c, .slice b nh d, .slice e no f, .int .i64 nx] := by rw [hW]; exact Box.new _ _ _
  have HC := rused_any n0 [.slice a n c, .slice b nh d, .slice e no f, .int .i64 nx] s k W (stR.below h hbW)
  have HW : Hid (Below w.heap.size w W ∧ Box W w.heap.size 26 #[.slice a n c, .slice b nh d, .slice e no f, .int .i64 nx] ∧ stR.lies n0 w [.slice a n c, .slice b nh d, .slice e no f, .int .i64 nx] s ∧ sgsR.lies n0 w [.slice a n c] s.1) := ⟨hbW, hB1, h, hS⟩
  obtain ⟨g0, g1, g2, g3, -⟩ := hB1.four
  rw [hW] at g0 g1 g2 g3
  clear h hS hH hO hN m1 m2 m3 hbW hB1 hn hnh hno hnx
  go_enter Try.func68, Try.ntmps68
  go_wp2_with fail
  rw [← hW]
  clear hW g0 g1 g2 g3
  refine HC.mono ?_
  rintro e1 w1 ⟨rfl, hb1⟩
  have HB1 : Hid (Below W.heap.size W w1) := hb1
  obtain ⟨q0, q1, q2, q3, -⟩ := (HW.out.2.1.below hb1 HW.out.2.1.lt).four
  clear hb1 HC
  rcases uE_cases s k with ⟨hu, hok, i, p, hki, hil, hip, hsl⟩ | ⟨hu, hv⟩
  · rw [hu]
    have HU : Hid (uE s k = 0 ∧ lL s k = lvs s p.1 p.2 ∧ Ok s) := ⟨hu, by unfold lL; rw [if_pos hu, hsl], hok⟩
    subst hki
    have HFB : Hid (FitsB (lvs s p.1 p.2)) := ⟨by have := lvs_le s p.1 p.2; have := hok.small p (List.mem_of_getElem? hip); omega, fun t ht => by
      have := may_len (hok.data p (List.mem_of_getElem? hip) t (lvs_mem ht))
      omega⟩
    obtain ⟨pb, po, x, cap, hix, c0, c1, hL, _⟩ := sgs_atR HW.out.2.2.2 i p hip
    obtain ⟨_, _, e0, hLb, hI, _⟩ := sg_viewR hL
    obtain ⟨m, hm⟩ : ∃ m, m = p.2.length := ⟨_, rfl⟩
    have HM : Hid (m = p.2.length) := hm
    have HLB : Hid (bksR.lies n0 w [.slice x m cap] p.2 ∧ m ≤ 8) := ⟨by rw [hm]; simp at e0; obtain ⟨rfl, rfl⟩ := e0; exact hLb, by rw [hm]; exact hok.small p (List.mem_of_getElem? hip)⟩
    have hm8 := HLB.out.2
    have hbw1 := below_any HW.out.1 HB1.out
    have k0 : w1.cell? ⟨pb, po, none⟩ = some (.int .i64 p.1) := by rw [hbw1.cell (cell_lt c0)]; exact c0
    have k1 : w1.cell? ⟨pb, po + 1, none⟩ = some (.slice x m cap) := by rw [hbw1.cell (cell_lt c1), hm]; exact c1
    obtain ⟨WX, hWX⟩ : ∃ V, V = w1.alloc (.cells #[.int .i64 p.1, .slice x m cap] 91) := ⟨_, rfl⟩
    have hbX : Below W.heap.size W WX := by rw [hWX]; exact HB1.out.alloc HB1.out.size _
    have hxX : Box WX w1.heap.size 91 #[.int .i64 p.1, .slice x m cap] := by rw [hWX]; exact Box.new _ _ _
    have HX : Hid (Below W.heap.size W WX ∧ ∀ U, Below WX.heap.size WX U → (U.cell? ⟨w1.heap.size, 0, none⟩ = some (.int .i64 p.1) ∧ U.cell? ⟨w1.heap.size, 1, none⟩ = some (.slice x m cap)) ∧ U.cell? ⟨w.heap.size, 0, none⟩ = some (.slice a n c) ∧ U.cell? ⟨w.heap.size, 1, none⟩ = some (.slice b nh d) ∧ U.cell? ⟨w.heap.size, 2, none⟩ = some (.slice e no f) ∧ U.cell? ⟨w.heap.size, 3, none⟩ = some (.int .i64 nx)) := ⟨hbX, fun U hU => by
      have h1 := (hxX.below hU hxX.lt).two
      have h2 := (HW.out.2.1.below (hbX.trans (hU.mono hbX.size)) HW.out.2.1.lt).four
      exact ⟨⟨h1.1, h1.2.1⟩, h2.1, h2.2.1, h2.2.2.1, h2.2.2.2.1⟩⟩
    have hl3 := run_len Try.underlying24 x m cap
    clear hu hok hil hip hsl hL hLb hI e0 hm hbw1 c0 c1 hbX hxX
    go_upto_region 6 with fail
    rw [← hWX]
    clear hWX hix k0 k1 q0 q1 q2 q3
    go_wp2
    go_loopw [7, 9] (fun v i wr => ∃ j : Nat, j ≤ m ∧ i = .int .i64 j ∧ Hid (BR w wr WX.heap.size v (lvs s p.1 (p.2.take j)) ∧ Below WX.heap.size WX wr)) (fun _ i _ => m - (intOf i).toNat)
    case atStart => exact ⟨0, Nat.zero_le _, rfl, BR.nil _ _ _, Below.refl _ _⟩
    case round =>
      obtain ⟨j, hj, rfl, HJ⟩ := hrel
      obtain ⟨a7, c7, rfl⟩ := HJ.out.1.shape
      obtain ⟨⟨s0', s1'⟩, -⟩ := HX.out.2 wr HJ.out.2
      by_cases hlt : j < m
      · obtain ⟨t, ht⟩ := get_lt (l := p.2) (k := j) (by rw [← HM.out]; exact hlt)
        have hbr : Below w.heap.size w wr := below_any (below_any HW.out.1 HX.out.1) HJ.out.2
        obtain ⟨tb, tof, tx', tcap, hixt, k0, k1, k2, hA, hto, hti, _⟩ := bks_atR HLB.out.1 j t ht
        have g0 : wr.cell? ⟨tb, tof, none⟩ = some (.int .i64 t.1) := by rw [hbr.cell (cell_lt k0)]; exact k0
        have g1 : wr.cell? ⟨tb, tof + 1, none⟩ = some (.int .i64 t.2.1) := by rw [hbr.cell (cell_lt k1)]; exact k1
        have g2 : wr.cell? ⟨tb, tof + 2, none⟩ = some (.slice tx' t.2.2.length tcap) := by rw [hbr.cell (cell_lt k2)]; exact k2
        have HTK : Hid (lvs s p.1 (p.2.take (j + 1)) = if isLive s (p.1, j, t) = true then lvs s p.1 (p.2.take j) ++ [t] else lvs s p.1 (p.2.take j)) := lvs_take ht
        have HLL : Hid ((lvs s p.1 (p.2.take j)).length ≤ 8) := Nat.le_trans (lvs_le _ _ _) (by rw [List.length_take]; omega)
        obtain ⟨ml, hml⟩ : ∃ k, k = t.2.2.length := ⟨_, rfl⟩
        rw [← hml] at g2 hA
        have HUS : Hid (bkR.lies 0 w [.int .i64 t.1, .int .i64 t.2.1, .slice tx' ml tcap] t) := bk_mk (p := t) (hA.weaken (Nat.zero_le _)) hto hti
        have HML : Hid (ml = t.2.2.length) := hml
        obtain ⟨V, hV⟩ : ∃ V, V = wr.alloc (.cells #[.int .i64 t.1, .int .i64 t.2.1, .slice tx' ml tcap] 29) := ⟨_, rfl⟩
        have hbV : Below wr.heap.size wr V := by rw [hV]; exact (Below.refl _ _).alloc (Nat.le_refl _) _
        have hxV : Box V wr.heap.size 29 #[.int .i64 t.1, .int .i64 t.2.1, .slice tx' ml tcap] := by rw [hV]; exact Box.new _ _ _
        have HCL := rlast_any n0 [.slice a n c, .slice b nh d, .slice e no f, .int .i64 nx] s t.1 t.2.1 V (stR.below HW.out.2.2.1 (below_any hbr hbV)) HU.out.2.2
        have HV : Hid (Below wr.heap.size wr V ∧ Box V wr.heap.size 29 #[.int .i64 t.1, .int .i64 t.2.1, .slice tx' ml tcap]) := ⟨hbV, hxV⟩
        obtain ⟨v0, v1, v2, -⟩ := hxV.three
        obtain ⟨-, y0, y1, y2, y3⟩ := HX.out.2 V (HJ.out.2.trans (hbV.mono HJ.out.2.size))
        have hji : (j : Int) < (m : Int) := by omega
        have hlm := run_len Try.underlying27 tx' ml tcap
        clear ht hA hto hti k0 k1 k2 hml hbV hxV hbr
        go_upto_region 10 with fail
        rw [← hV]
        clear hV hixt g0 g1 g2 s0' s1'
        go_wp2_with fail
        refine HCL.mono ?_
        rintro e2 V2 ⟨⟨sq, pl, ct, v2', rfl, hkx⟩, hb2⟩
        obtain ⟨kb, hkn, hka, -, -⟩ := hkx
        obtain ⟨va, vc, rfl, -⟩ := hka.shape
        generalize kb.2.2.length = vm
        have HLT : Hid (isLive s (p.1, j, t) = (decide (sq = p.1) && decide (pl = j) && (!decide (ml = 0) || decide (1 < ct)))) := by
          show isLive s (p.1, j, t) = _
          unfold isLive last
          simp only
          rw [hkn, ← HML.out]
        have hbV2 : Below wr.heap.size wr V2 := HV.out.1.trans (hb2.mono HV.out.1.size)
        have hyV2 := HV.out.2.below hb2 HV.out.2.lt
        have HVV : Hid (Below wr.heap.size wr V2 ∧ True) := ⟨hbV2, trivial⟩
        have HBX : Hid (BR w wr WX.heap.size (.slice a7 (lvs s p.1 (p.2.take j)).length c7) (lvs s p.1 (p.2.take j))) := HJ.out.1
        have HSKIP : Hid (isLive s (p.1, j, t) = false → Hid (BR w V2 WX.heap.size (.slice a7 (lvs s p.1 (p.2.take j)).length c7) (lvs s p.1 (p.2.take (j + 1))) ∧ Below WX.heap.size WX V2)) := fun hl => by
          refine ⟨?_, HJ.out.2.trans (hbV2.mono HJ.out.2.size)⟩
          rw [HTK.out, hl]
          exact HBX.out.below hbV2
        have HPUSH : Hid (isLive s (p.1, j, t) = true → ∀ v3 w6, V2.grownBy w6 (Value.slice a7 (lvs s p.1 (p.2.take j)).length c7).ownBlock → BR w w6 WX.heap.size v3 (lvs s p.1 (p.2.take j) ++ [t]) → BR w w6 WX.heap.size v3 (lvs s p.1 (p.2.take (j + 1))) ∧ Below WX.heap.size WX w6) := fun hl v3 w6 hg h6 => by
          refine ⟨by rw [HTK.out, hl, if_pos rfl]; exact h6, ?_⟩
          exact (HBX.out.below hbV2).grow hg (HJ.out.2.trans (hbV2.mono HJ.out.2.size)) (by have := HJ.out.2.size; have := hbV2.size; omega)
        obtain ⟨b0, b1, b2, -⟩ := hyV2.three
        obtain ⟨⟨s0', s1'⟩, -⟩ := HX.out.2 V2 (HJ.out.2.trans (hbV2.mono HJ.out.2.size))
        clear hbV2 hyV2 hb2 HCL v0 v1 v2 y0 y1 y2 y3 hkn hka
        by_cases h1 : sq = p.1
        · subst h1
          by_cases h2 : pl = j
          · subst h2
            by_cases h3 : ml = 0
            · subst h3
              by_cases h4 : 1 < ct
              · have h4i : (1 : Int) < (ct : Int) := by omega
                have HLIV : Hid (isLive s (p.1, pl, t) = true) := show _ = _ by rw [HLT.out]; simp [h4]
                obtain ⟨gg, cap3, w6, hrun, hbx6, hg6⟩ := (HBX.out.below HVV.out.1).push HUS.out (by have := HJ.out.2.size; have := HVV.out.1.size; omega) (by have := HLL.out; omega)
                have HF : Hid (BR w w6 WX.heap.size (.slice (some ⟨gg, 0, none⟩) ((lvs s p.1 (p.2.take pl)).length + 1) cap3) (lvs s p.1 (p.2.take (pl + 1))) ∧ Below WX.heap.size WX w6) := HPUSH.out HLIV.out _ _ hg6 hbx6
                clear hbx6 hg6
                go_wp2_with (at_builtin; refine list_app rfl _ _ 24 rfl rfl rfl rfl hrun ?_)
                go_roundw
                case rel => exact ⟨pl + 1, by omega, by go_num, HF.out⟩
                case measure => simp [intOf]; omega
              · have h4i : ¬ (1 : Int) < (ct : Int) := by omega
                have h4d : decide ((1 : Int) < (ct : Int)) = false := decide_eq_false h4i
                have HLIV : Hid (isLive s (p.1, pl, t) = false) := show _ = _ by rw [HLT.out]; simp [h4]
                go_wp2
                go_roundw
                case rel => exact ⟨pl + 1, by omega, by go_num, (HSKIP.out HLIV.out).out⟩
                case measure => simp [intOf]; omega
            · have h3i : (0 : Int) < (ml : Int) := by omega
              have HLIV : Hid (isLive s (p.1, pl, t) = true) := show _ = _ by rw [HLT.out]; simp [h3]
              obtain ⟨gg, cap3, w6, hrun, hbx6, hg6⟩ := (HBX.out.below HVV.out.1).push HUS.out (by have := HJ.out.2.size; have := HVV.out.1.size; omega) (by have := HLL.out; omega)
              have HF : Hid (BR w w6 WX.heap.size (.slice (some ⟨gg, 0, none⟩) ((lvs s p.1 (p.2.take pl)).length + 1) cap3) (lvs s p.1 (p.2.take (pl + 1))) ∧ Below WX.heap.size WX w6) := HPUSH.out HLIV.out _ _ hg6 hbx6
              clear hbx6 hg6
              go_wp2_with (at_builtin; refine list_app rfl _ _ 24 rfl rfl rfl rfl hrun ?_)
              go_roundw
              case rel => exact ⟨pl + 1, by omega, by go_num, HF.out⟩
              case measure => simp [intOf]; omega
          · have h2i : ((pl : Int) == (j : Int)) = false := by simp; omega
            have HLIV : Hid (isLive s (p.1, j, t) = false) := show _ = _ by rw [HLT.out]; simp [h2]
            go_wp2
            go_roundw
            case rel => exact ⟨j + 1, by omega, by go_num, (HSKIP.out HLIV.out).out⟩
            case measure => simp [intOf]; omega
        · have h1i : (sq == p.1) = false := by simp [h1]
          have HLIV : Hid (isLive s (p.1, j, t) = false) := show _ = _ by rw [HLT.out]; simp [h1]
          go_wp2
          go_roundw
          case rel => exact ⟨j + 1, by omega, by go_num, (HSKIP.out HLIV.out).out⟩
          case measure => simp [intOf]; omega
      · obtain rfl : j = m := by omega
        have HE0 : Hid (BR w wr WX.heap.size (.slice a7 (lvs s p.1 p.2).length c7) (lvs s p.1 p.2) ∧ Below WX.heap.size WX wr) := by
          show _ ∧ _
          have := HJ.out
          rwa [HM.out, List.take_length] at this
        have hT : p.2.take j = p.2 := by rw [HM.out, List.take_length]
        rw [hT]
        have hbw := below_any (below_any HW.out.1 HX.out.1) HE0.out.2
        have HCB := rown_any 0 (.slice a7 (lvs s p.1 p.2).length c7) (lvs s p.1 p.2) wr (HE0.out.1.lies hbw) HFB.out
        have HBW : Hid (Below w.heap.size w wr) := hbw
        clear hbw HJ
        generalize (lvs s p.1 p.2).length = n2 at HCB
        go_wp2_with fail
        refine HCB.mono ?_
        rintro e3 w3 ⟨⟨v3, rfl, ho3⟩, hb3⟩
        have HE : Hid (post (.returned (.tuple #[v3, .int .i64 0])) w3) := HYES.out v3 w3 HU.out.1 (by rw [HU.out.2.1]; exact bksR.oweaken ho3 HBW.out.size) (below_any HBW.out hb3)
        clear ho3 hb3 HCB
        go_wp2
        exact HE.out
  · have HE : Hid (post (.returned (.tuple #[.slice none 0 0, .int .i64 (uE s k)])) w1) := HNO.out _ w1 rfl hu (below_any HW.out.1 HB1.out)
    generalize uE s k = r at hu hv HE
    have hri : (r == 0) = false := by simp [hu]
    clear hv
    go_wp2
    exact HE.out

end Go.Proofs.Ytkpckadicjdieaa

/-
  Victim, the document's.
-/
namespace Go.Proofs.Ytkpckadicjdieaa
open Go.RowKit

set_option maxRecDepth 100000 in
set_option maxHeartbeats 8000000 in
theorem rvictim_any (n0 : Nat) (us : List Value) (s : St) (w : World) (h : stR.lies n0 w us s) :
    Calls Try.prog 31 #[.agg us.toArray] w fun e w' => e = .returned (.tuple #[.agg #[.int .i64 (vA s : Nat), .int .i64 (vQ s)], .int .i64 (vE s)]) ∧ Below w.heap.size w w' := by
  obtain ⟨a, c, b, d, e, f, rfl, hS, hH, hO, hN, m1, m2, m3⟩ := st_viewR h
  obtain ⟨post, hpost⟩ : ∃ post : Ending → World → Prop, post = fun e w' => e = .returned (.tuple #[.agg #[.int .i64 (vA s : Nat), .int .i64 (vQ s)], .int .i64 (vE s)]) ∧ Below w.heap.size w w' := ⟨_, rfl⟩
  have HPo : Hid (∀ (A Q E : Int) w', (vA s : Int) = A → vQ s = Q → vE s = E → Below w.heap.size w w' → post (.returned (.tuple #[.agg #[.int .i64 A, .int .i64 Q], .int .i64 E])) w') := fun A Q E w' h1 h2 h3 h4 => by
    rw [hpost, ← h1, ← h2, ← h3]
    exact ⟨rfl, h4⟩
  rw [← hpost]
  clear hpost
  unfold maxLen at m1
  obtain ⟨n, hn⟩ : ∃ n, n = s.1.length := ⟨_, rfl⟩
  obtain ⟨nh, hnh⟩ : ∃ n, n = s.2.1.length := ⟨_, rfl⟩
  obtain ⟨no, hno⟩ : ∃ n, n = s.2.2.1.length := ⟨_, rfl⟩
  obtain ⟨nx, hnx⟩ : ∃ n, n = s.2.2.2 := ⟨_, rfl⟩
  rw [← hn, ← hnh, ← hno, ← hnx] at h ⊢
  rw [← hn] at hS m1
  rw [← hnx] at hN
  obtain ⟨W, hW⟩ : ∃ W, W = (w.alloc (.cells #[.slice a n c, .slice b nh d, .slice e no f, .int .i64 nx] 26)).alloc (.cells #[.int .i64 0, .int .i64 0] 69) := ⟨_, rfl⟩
  have hbW : Below w.heap.size w W := by rw [hW]; exact ((Below.refl _ w).alloc (Nat.le_refl _) _).alloc (by simp) _
  have hB1 : Box W w.heap.size 26 #[.slice a n c, .slice b nh d, .slice e no f, .int .i64 nx] := by rw [hW]; exact (Box.new _ _ _).alloc _
  have hB2 : Box W (w.heap.size + 1) 69 #[.int .i64 0, .int .i64 0] := by
    rw [hW]
    have := Box.new (w.alloc (.cells #[.slice a n c, .slice b nh d, .slice e no f, .int .i64 nx] 26)) 69 #[.int .i64 0, .int .i64 0]
    rwa [World.size_alloc] at this
  have HC := rcheckL_any n0 [.slice a n c, .slice b nh d, .slice e no f, .int .i64 nx] s W (stR.below h hbW)
  have HW : Hid (Below w.heap.size w W ∧ (Box W w.heap.size 26 #[.slice a n c, .slice b nh d, .slice e no f, .int .i64 nx] ∧ Box W (w.heap.size + 1) 69 #[.int .i64 0, .int .i64 0]) ∧ stR.lies n0 w [.slice a n c, .slice b nh d, .slice e no f, .int .i64 nx] s ∧ sgsR.lies n0 w [.slice a n c] s.1 ∧ n = s.1.length ∧ nx = s.2.2.2 ∧ I64 nx) := ⟨hbW, ⟨hB1, hB2⟩, h, hS, hn, hnx, hN⟩
  have hl1 := run_len Try.underlying22 a n c
  clear h hS hH hO hN m2 m3 hbW hB1 hB2 hn hnh hno hnx
  go_enter Try.func31, Try.ntmps31
  go_upto_region 1 with fail
  rw [← hW]
  clear hW
  obtain ⟨g0, g1, g2, g3, -⟩ := HW.out.2.1.1.four
  go_wp2_with fail
  clear g0 g1 g2 g3
  refine HC.mono ?_
  rintro e1 w1 ⟨rfl, hb1⟩
  have HB1 : Hid (Below w.heap.size w w1 ∧ Box w1 w.heap.size 26 #[.slice a n c, .slice b nh d, .slice e no f, .int .i64 nx] ∧ Box w1 (w.heap.size + 1) 69 #[.int .i64 0, .int .i64 0]) := ⟨below_any HW.out.1 hb1, HW.out.2.1.1.below hb1 HW.out.2.1.1.lt, HW.out.2.1.2.below hb1 HW.out.2.1.2.lt⟩
  clear hb1 HC
  rcases okE_cases s with ⟨hk, hok⟩ | ⟨hk, hok⟩
  case inr =>
    rw [hk]
    obtain ⟨e1', e2', e3'⟩ := vic_bad hok
    obtain ⟨y0, y1, f0, f1⟩ := HB1.out.2.2.two
    have HE : Hid (post (.returned (.tuple #[.agg #[.int .i64 0, .int .i64 0], .int .i64 9])) ((w1.setCell ⟨w.heap.size + 1, 0, none⟩ (.int .i64 0)).setCell ⟨w.heap.size + 1, 1, none⟩ (.int .i64 0))) := HPo.out 0 0 9 _ (by rw [e2']; rfl) e3' e1' (below_set2 HB1.out.1 (by omega) _ _)
    clear hk hok e1' e2' e3'
    go_wp2
    refine bodyPost_ret (v := .tuple #[.agg #[.int .i64 0, .int .i64 0], .int .i64 9]) (by simp [results, Try.results31, go_sem, *]) rfl HE.out
  case inl =>
    rw [hk]
    have HOK : Hid (Ok s) := hok
    clear hk hok
    go_wp2
    go_loopw [4, 5, 6, 7] (fun bs at' fd i wr => ∃ j : Nat, j ≤ n ∧ i = .int .i64 j ∧ bs = .int .i64 (vic s j).2.2 ∧ at' = .int .i64 ((vic s j).2.1 : Nat) ∧ fd = .bool (vic s j).1 ∧ Hid (Below w1.heap.size w1 wr)) (fun _ _ _ i _ => n - (intOf i).toNat)
    case atStart => exact ⟨0, Nat.zero_le _, rfl, rfl, rfl, rfl, Below.refl _ _⟩
    case round =>
      obtain ⟨j, hj, rfl, rfl, rfl, rfl, HJ⟩ := hrel
      obtain ⟨⟨fd, at', bs⟩, hvic⟩ : ∃ x, x = vic s j := ⟨_, rfl⟩
      rw [← hvic]
      have HVC : Hid ((fd, at', bs) = vic s j) := hvic
      have hbr : Below w.heap.size w wr := below_any HB1.out.1 HJ.out
      have HBR : Hid (Below w.heap.size w wr ∧ Box wr w.heap.size 26 #[.slice a n c, .slice b nh d, .slice e no f, .int .i64 nx] ∧ Box wr (w.heap.size + 1) 69 #[.int .i64 0, .int .i64 0]) := ⟨hbr, HB1.out.2.1.below HJ.out HB1.out.2.1.lt, HB1.out.2.2.below HJ.out HB1.out.2.2.lt⟩
      clear hvic hbr
      simp only
      by_cases hlt : j < n
      · have hji : (j : Int) < (n : Int) := by omega
        obtain ⟨ue, hue⟩ : ∃ z, z = uE s (j : Int) := ⟨_, rfl⟩
        have HC := rliveL_any n0 [.slice a n c, .slice b nh d, .slice e no f, .int .i64 nx] s (j : Int) wr (stR.below HW.out.2.2.1 HBR.out.1)
        rw [← hue] at HC
        have HUE : Hid (ue = uE s (j : Int)) := hue
        clear hue
        obtain ⟨g0, g1, g2, g3, -⟩ := HBR.out.2.1.four
        go_wp2_with fail
        clear g0 g1 g2 g3
        refine HC.mono ?_
        rintro e2 w2 ⟨⟨v2, rfl, ho2⟩, hb2⟩
        obtain ⟨va, vc, _, hv2, -⟩ := Shape.list_own (S := bkR) (ht := Try.underlying24) (hc := cells24) ho2
        obtain rfl : v2 = _ := (List.cons.inj hv2).1
        obtain ⟨nl, hnl⟩ : ∃ z, z = (lL s (j : Int)).length := ⟨_, rfl⟩
        have hnl8 : nl ≤ 8 := by rw [hnl]; exact live_small HOK.out _
        rw [← hnl]
        have HNL : Hid (nl = (lL s (j : Int)).length) := hnl
        have hl2 := run_len Try.underlying24 va nl vc
        have HB2 : Hid (Below w1.heap.size w1 w2 ∧ Below w.heap.size w w2 ∧ Box w2 w.heap.size 26 #[.slice a n c, .slice b nh d, .slice e no f, .int .i64 nx]) := ⟨below_any HJ.out hb2, below_any HBR.out.1 hb2, HBR.out.2.1.below hb2 HBR.out.2.1.lt⟩
        clear HC ho2 hv2 hnl hb2
        by_cases hu : ue = 0
        case neg =>
          have hub : (ue == 0) = false := by simpa using hu
          have HV2 : Hid ((fd, at', bs) = vic s (j + 1)) := by
            show _ = _
            rw [vic_skip (by unfold cnd; rw [← HUE.out, decide_eq_false hu]; rfl)]
            exact HVC.out
          go_wp2
          go_roundw
          case rel => exact ⟨j + 1, by omega, by go_num, by rw [← HV2.out], by rw [← HV2.out], by rw [← HV2.out], HB2.out.1⟩
          case measure => simp [intOf]; omega
        subst hu
        by_cases h8 : nl < 8
        case neg =>
          obtain rfl : nl = 8 := by omega
          have HV2 : Hid ((fd, at', bs) = vic s (j + 1)) := by
            show _ = _
            rw [vic_skip (by unfold cnd; rw [← HNL.out]; simp)]
            exact HVC.out
          go_wp2
          go_roundw
          case rel => exact ⟨j + 1, by omega, by go_num, by rw [← HV2.out], by rw [← HV2.out], by rw [← HV2.out], HB2.out.1⟩
          case measure => simp [intOf]; omega
        have h8i : ¬ (8 : Int) ≤ (nl : Int) := by omega
        have HCND : Hid (cnd s j = true) := by
          show _ = _
          unfold cnd
          rw [← HUE.out, ← HNL.out, decide_eq_true rfl, decide_eq_true h8]
          rfl
        obtain ⟨p, hp⟩ := get_lt (l := s.1) (k := j) (by rw [← HW.out.2.2.2.2.1]; exact hlt)
        obtain ⟨pb, po, pa, pc, hix, c0, -, hpL, -⟩ := sgs_atR (sgsR.below HW.out.2.2.2.1 HB2.out.2.1) j p hp
        obtain ⟨_, _, _, _, hpI, _⟩ := sg_viewR hpL
        obtain ⟨pq, hpq⟩ : ∃ q, q = p.1 := ⟨_, rfl⟩
        rw [← hpq] at c0 hpI
        obtain ⟨sc, hsc⟩ : ∃ z, z = scV pq (nl : Int) nx := ⟨_, rfl⟩
        obtain ⟨se, hse⟩ : ∃ z, z = scE pq (nl : Int) nx := ⟨_, rfl⟩
        have HSC : Hid (sc = vSc s j) := by
          show _ = _
          unfold vSc
          rw [slot_at hp, ← hpq, ← HNL.out, ← HW.out.2.2.2.2.2.1]
          exact hsc
        have HCS : Hid (∀ m, Calls Try.prog 29 #[.int .i64 pq, .int .i64 (nl : Int), .int .i64 nx] (w2.drewN m) fun e w' => e = .returned (.tuple #[.int .i64 sc, .int .i64 se]) ∧ ∃ q, w' = (w2.drewN m).drewN q) := fun m => by
          rw [hsc, hse]
          exact (rscore_any pq (nl : Int) nx _ hpI ⟨by omega, by omega⟩ HW.out.2.2.2.2.2.2).mono fun e w' hh => ⟨hh.1, 0, hh.2.symm⟩
        obtain ⟨g0, g1, g2, g3, -⟩ := HB2.out.2.2.four
        clear hp hpL hpI hpq hsc hse
        go_wp2
        go_quiet (first | (go_at_call 29; exact Calls.quiet_of (HCS.out _)))
        clear g0 g1 g2 g3 hix c0
        have HB3 : Hid (Below w1.heap.size w1 (w2.drewN nq)) := below_drewN HB2.out.1 nq
        obtain ⟨w3, hw3⟩ : ∃ w3, w3 = w2.drewN nq := ⟨_, rfl⟩
        rw [← hw3] at HB3 ⊢
        clear hw3
        cases fd with
        | false =>
          have HV2 : Hid ((true, j, sc) = vic s (j + 1)) := by
            show _ = _
            rw [vic_take HCND.out (.inl (by rw [← HVC.out])), HSC.out]
          go_wp2
          go_roundw
          case rel => exact ⟨j + 1, by omega, by go_num, by rw [← HV2.out], by rw [← HV2.out], by rw [← HV2.out], HB3.out⟩
          case measure => simp [intOf]; omega
        | true =>
          by_cases hgt : bs < sc
          · have HV2 : Hid ((true, j, sc) = vic s (j + 1)) := by
              show _ = _
              rw [vic_take HCND.out (.inr (by rw [← HVC.out, ← HSC.out]; exact hgt)), HSC.out]
            go_wp2
            go_roundw
            case rel => exact ⟨j + 1, by omega, by go_num, by rw [← HV2.out], by rw [← HV2.out], by rw [← HV2.out], HB3.out⟩
            case measure => simp [intOf]; omega
          · have HV2 : Hid ((true, at', bs) = vic s (j + 1)) := by
              show _ = _
              rw [vic_stay HCND.out (by rw [← HVC.out]) (by rw [← HVC.out, ← HSC.out]; exact hgt)]
              exact HVC.out
            go_wp2
            go_roundw
            case rel => exact ⟨j + 1, by omega, by go_num, by rw [← HV2.out], by rw [← HV2.out], by rw [← HV2.out], HB3.out⟩
            case measure => simp [intOf]; omega
      · obtain rfl : j = n := by omega
        have HVN : Hid ((fd, at', bs) = vic s s.1.length) := by
          show _ = _
          rw [← HW.out.2.2.2.2.1]
          exact HVC.out
        obtain ⟨y0, y1, f0, f1⟩ := HBR.out.2.2.two
        obtain ⟨g0, g1, g2, g3, -⟩ := HBR.out.2.1.four
        cases fd with
        | false =>
          obtain ⟨e1', e2', e3'⟩ := vic_no HOK.out (by rw [← HVN.out])
          have HE : Hid (post (.returned (.tuple #[.agg #[.int .i64 0, .int .i64 0], .int .i64 71])) ((wr.setCell ⟨w.heap.size + 1, 0, none⟩ (.int .i64 0)).setCell ⟨w.heap.size + 1, 1, none⟩ (.int .i64 0))) := HPo.out 0 0 71 _ (by rw [e2']; rfl) e3' e1' (below_set2 HBR.out.1 (by omega) _ _)
          clear e1' e2' e3'
          go_wp2
          refine bodyPost_ret (v := .tuple #[.agg #[.int .i64 0, .int .i64 0], .int .i64 71]) (by simp [results, Try.results31, go_sem, *]) rfl HE.out
        | true =>
          obtain ⟨e1', e2', e3'⟩ := vic_yes HOK.out (by rw [← HVN.out])
          rw [← HVN.out] at e2' e3'
          have hat : at' < j := by
            have := (vic_lt (s := s) (j := s.1.length) (by rw [← HVN.out])).1
            rw [← HVN.out, ← HW.out.2.2.2.2.1] at this
            exact this
          obtain ⟨p, hp⟩ := get_lt (l := s.1) (k := at') (by rw [← HW.out.2.2.2.2.1]; exact hat)
          obtain ⟨pb, po, pa, pc, hix, c0, -, -, -⟩ := sgs_atR (sgsR.below HW.out.2.2.2.1 HBR.out.1) at' p hp
          simp only at e3'
          rw [slot_at hp] at e3'
          obtain ⟨pq, hpq⟩ : ∃ q, q = p.1 := ⟨_, rfl⟩
          rw [← hpq] at c0 e3'
          have HE : Hid (post (.returned (.tuple #[.agg #[.int .i64 (at' : Int), .int .i64 pq], .int .i64 0])) ((wr.setCell ⟨w.heap.size + 1, 0, none⟩ (.int .i64 (at' : Int))).setCell ⟨w.heap.size + 1, 1, none⟩ (.int .i64 pq))) := HPo.out at' pq 0 _ (by rw [e2']) e3' e1' (below_set2 HBR.out.1 (by omega) _ _)
          clear e1' e2' e3' hp hpq
          go_wp2
          refine bodyPost_ret (v := .tuple #[.agg #[.int .i64 (at' : Int), .int .i64 pq], .int .i64 0]) (by simp [results, Try.results31, go_sem, *]) rfl HE.out

end Go.Proofs.Ytkpckadicjdieaa
