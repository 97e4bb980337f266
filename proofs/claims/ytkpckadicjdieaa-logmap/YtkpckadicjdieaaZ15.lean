import Derived.Test.YtkpckadicjdieaaZ13
import Derived.Test.YtkpckadicjdieaaZ10
import Derived.Test.YtkpckadicjdieaaZ6
/-
  Plain mathematics: the last version of a kind, whatever the order in which versions are met; what Put, Seal and Free make of it.
-/
namespace Go.Proofs.Ytkpckadicjdieaa

theorem snoc_ind {α : Type} {P : List α → Prop} (nil : P []) (snoc : ∀ l a, P l → P (l ++ [a])) (l : List α) : P l := by
  have h : ∀ r : List α, P r.reverse := fun r => by
    induction r with
    | nil => exact nil
    | cons a r ih => rw [List.reverse_cons]; exact snoc _ _ ih
  have := h l.reverse
  rwa [List.reverse_reverse] at this
/-- One version ahead of another, or the same. -/
def vLe (y x : Ver) : Prop := y.1 < x.1 ∨ (y.1 = x.1 ∧ y.2.1 ≤ x.2.1)
/-- Versions as they stand in a store: numbers from 0 up; of one number the places rise. -/
structure WV (l : List Ver) : Prop where
  pos : ∀ x ∈ l, 0 ≤ x.1
  up : l.Pairwise fun y z => y.1 = z.1 → y.2.1 < z.2.1
theorem WV.of_append {l m : List Ver} (h : WV (l ++ m)) : WV l := ⟨fun x hx => h.pos x (List.mem_append_left _ hx), (List.pairwise_append.1 h.up).1⟩
theorem WV.one {l : List Ver} (h : WV l) {x y : Ver} (hx : x ∈ l) (hy : y ∈ l) (e1 : x.1 = y.1) (e2 : x.2.1 = y.2.1) : x = y := by
  induction l with
  | nil => cases hx
  | cons a l ih =>
    obtain ⟨p1, p2⟩ := List.pairwise_cons.1 h.up
    rcases List.mem_cons.1 hx with rfl | hx'
    · rcases List.mem_cons.1 hy with rfl | hy'
      · rfl
      · have := p1 y hy' e1; omega
    · rcases List.mem_cons.1 hy with rfl | hy'
      · have := p1 x hx' e1.symm; omega
      · exact ih ⟨fun z hz => h.pos z (List.mem_cons_of_mem _ hz), p2⟩ hx' hy'
/-- The last one of a kind. -/
structure IsLast (l : List Ver) (o i : Int) (x : Ver) : Prop where
  mem : x ∈ l
  kind : isK o i x = true
  max : ∀ y ∈ l, isK o i y = true → vLe y x
theorem vLe.refl (x : Ver) : vLe x x := .inr ⟨rfl, Nat.le_refl _⟩
theorem vLe.trans {x y z : Ver} (h : vLe x y) (k : vLe y z) : vLe x z := by unfold vLe at *; omega
theorem IsLast.eq {l : List Ver} {o i : Int} {x y : Ver} (hw : WV l) (h : IsLast l o i x) (k : IsLast l o i y) : x = y := by
  have a := h.max y k.mem k.kind
  have b := k.max x h.mem h.kind
  unfold vLe at a b
  exact hw.one h.mem k.mem (by omega) (by omega)
theorem kn_last (o i : Int) (l : List Ver) : WV l → ((∀ y ∈ l, isK o i y = false) ∧ kn l o i = kn0) ∨ ∃ x, IsLast l o i x ∧ (kn l o i).1 = x.2.2 ∧ (kn l o i).2.1 = x.1 ∧ (kn l o i).2.2.1 = x.2.1 := by
  refine snoc_ind (P := fun l => WV l → ((∀ y ∈ l, isK o i y = false) ∧ kn l o i = kn0) ∨ ∃ x, IsLast l o i x ∧ (kn l o i).1 = x.2.2 ∧ (kn l o i).2.1 = x.1 ∧ (kn l o i).2.2.1 = x.2.1) (fun _ => .inl ⟨fun y hy => (by cases hy), rfl⟩) (fun l x ih hw => ?_) l
  have hw' := hw.of_append
  rw [kn_snoc]
  by_cases hk : isK o i x = true
  · rw [if_pos hk]
    right
    rcases ih hw' with ⟨h1, h2⟩ | ⟨y, h1, h2, h3, h4⟩
    · refine ⟨x, ⟨List.mem_append_right _ (List.mem_singleton.2 rfl), hk, fun z hz hzk => ?_⟩, ?_⟩
      · rcases List.mem_append.1 hz with hz | hz
        · rw [h1 z hz] at hzk; cases hzk
        · rw [List.mem_singleton.1 hz]; exact vLe.refl x
      · rw [h2]
        have h0 : kn0.2.1 ≤ x.1 := hw.pos x (List.mem_append_right _ (List.mem_singleton.2 rfl))
        unfold knStep
        rw [if_pos h0]
        exact ⟨rfl, rfl, rfl⟩
    · by_cases hle : (kn l o i).2.1 ≤ x.1
      · refine ⟨x, ⟨List.mem_append_right _ (List.mem_singleton.2 rfl), hk, fun z hz hzk => ?_⟩, ?_⟩
        · rcases List.mem_append.1 hz with hz | hz
          · refine (h1.max z hz hzk).trans ?_
            rw [h3] at hle
            by_cases e : y.1 = x.1
            · exact .inr ⟨e, Nat.le_of_lt ((List.pairwise_append.1 hw.up).2.2 y h1.mem x (List.mem_singleton.2 rfl) e)⟩
            · exact .inl (by omega)
          · rw [List.mem_singleton.1 hz]; exact vLe.refl x
        · unfold knStep
          rw [if_pos hle]
          exact ⟨rfl, rfl, rfl⟩
      · refine ⟨y, ⟨List.mem_append_left _ h1.mem, h1.kind, fun z hz hzk => ?_⟩, ?_⟩
        · rcases List.mem_append.1 hz with hz | hz
          · exact h1.max z hz hzk
          · rw [List.mem_singleton.1 hz]
            rw [h3] at hle
            exact .inl (by omega)
        · unfold knStep
          rw [if_neg hle]
          exact ⟨h2, h3, h4⟩
  · rw [if_neg hk]
    rcases ih hw' with ⟨h1, h2⟩ | ⟨y, h1, h2⟩
    · left
      refine ⟨fun z hz => ?_, h2⟩
      rcases List.mem_append.1 hz with hz | hz
      · exact h1 z hz
      · rw [List.mem_singleton.1 hz]; simpa using hk
    · right
      refine ⟨y, ⟨List.mem_append_left _ h1.mem, h1.kind, fun z hz hzk => ?_⟩, h2⟩
      rcases List.mem_append.1 hz with hz | hz
      · exact h1.max z hz hzk
      · rw [List.mem_singleton.1 hz] at hzk; exact absurd hzk hk
/-- Of the same versions, in whatever order, the same one is the last. -/
theorem kn_same_mem {l m : List Ver} (hl : WV l) (hm : WV m) (h : ∀ x, x ∈ l ↔ x ∈ m) (o i : Int) : (kn l o i).1 = (kn m o i).1 ∧ (kn l o i).2.1 = (kn m o i).2.1 ∧ (kn l o i).2.2.1 = (kn m o i).2.2.1 := by
  rcases kn_last o i l hl with ⟨h1, h2⟩ | ⟨x, h1, h2, h3, h4⟩
  · rcases kn_last o i m hm with ⟨_, k2⟩ | ⟨y, k1, _⟩
    · rw [h2, k2]; exact ⟨rfl, rfl, rfl⟩
    · have := h1 y ((h y).2 k1.mem); rw [k1.kind] at this; cases this
  · rcases kn_last o i m hm with ⟨k1, _⟩ | ⟨y, k1, k2, k3, k4⟩
    · have := k1 x ((h x).1 h1.mem); rw [h1.kind] at this; cases this
    · have e : x = y := h1.eq hl ⟨(h y).2 k1.mem, k1.kind, fun z hz hk => k1.max z ((h z).1 hz) hk⟩
      subst e
      rw [h2, h3, h4, k2, k3, k4]
      exact ⟨rfl, rfl, rfl⟩
theorem plc_mem {q : Int} {l : List Bk} {x : Ver} : x ∈ plc q l ↔ x.1 = q ∧ l[x.2.1]? = some x.2.2 := by
  obtain ⟨a, k, b⟩ := x
  unfold plc
  rw [List.mem_map]
  constructor
  · rintro ⟨⟨c, j⟩, hy, e⟩
    simp only [Prod.mk.injEq] at e
    obtain ⟨rfl, rfl, rfl⟩ := e
    exact ⟨rfl, by have := List.mem_zipIdx_iff_getElem?.1 hy; simpa using this⟩
  · rintro ⟨e, h⟩
    exact ⟨(b, k), List.mem_zipIdx_iff_getElem?.2 (by simpa using h), by simp only at e; rw [e]⟩
theorem segv_mem {l : List Sg} {x : Ver} : x ∈ segv l ↔ ∃ p ∈ l, x.1 = p.1 ∧ p.2[x.2.1]? = some x.2.2 := by
  unfold segv
  rw [List.mem_flatten]
  constructor
  · rintro ⟨m, hm, hx⟩
    obtain ⟨p, hp, rfl⟩ := List.mem_map.1 hm
    exact ⟨p, hp, plc_mem.1 hx⟩
  · rintro ⟨p, hp, h⟩
    exact ⟨_, List.mem_map.2 ⟨p, hp, rfl⟩, plc_mem.2 h⟩
theorem plc_up (q : Int) (l : List Bk) : (plc q l).Pairwise fun y z => y.1 = z.1 → y.2.1 < z.2.1 := by
  refine snoc_ind (P := fun l => (plc q l).Pairwise fun y z => y.1 = z.1 → y.2.1 < z.2.1) List.Pairwise.nil (fun l b ih => ?_) l
  rw [plc_snoc]
  refine List.pairwise_append.2 ⟨ih, List.pairwise_singleton _ _, fun y hy z hz _ => ?_⟩
  rw [List.mem_singleton.1 hz]
  have := (plc_mem.1 hy).2
  exact (List.getElem?_eq_some_iff.1 this).1
theorem segv_up {l : List Sg} (h : (seqs l).Nodup) : (segv l).Pairwise fun y z => y.1 = z.1 → y.2.1 < z.2.1 := by
  revert h
  refine snoc_ind (P := fun l => (seqs l).Nodup → (segv l).Pairwise fun y z => y.1 = z.1 → y.2.1 < z.2.1) (fun _ => List.Pairwise.nil) (fun l p ih h => ?_) l
  rw [segv_snoc]
  rw [seqs_snoc] at h
  by_cases hf : freeB p = true
  · rw [if_pos hf] at h
    have : p.2 = [] := List.eq_nil_of_length_eq_zero (free_iff.1 hf).2
    rw [this]
    simpa [plc] using ih h
  · rw [if_neg hf] at h
    obtain ⟨h1, _, h3⟩ := List.nodup_append.1 h
    refine List.pairwise_append.2 ⟨ih h1, plc_up _ _, fun y hy z hz e => ?_⟩
    obtain ⟨q, hq, e1, e2⟩ := segv_mem.1 hy
    have hqf : freeB q = false := by
      cases hb : freeB q
      · rfl
      · have := (free_iff.1 hb).2
        rw [List.eq_nil_of_length_eq_zero this] at e2
        cases e2
    have hm : q.1 ∈ seqs l := by
      unfold seqs
      exact List.mem_map.2 ⟨q, List.mem_filter.2 ⟨hq, by rw [hqf]; rfl⟩, rfl⟩
    have := h3 q.1 hm p.1 (List.mem_singleton.2 rfl)
    rw [(plc_mem.1 hz).1, e1] at e
    exact absurd e this
theorem not_free {p : Sg} {k : Nat} {b : Bk} (h : p.2[k]? = some b) : freeB p = false := by
  cases hb : freeB p
  · rfl
  · have := (free_iff.1 hb).2
    rw [List.eq_nil_of_length_eq_zero this] at h
    cases h
theorem Ok.wv {s : St} (h : Ok s) : WV (vers s) := by
  unfold vers
  refine ⟨fun x hx => ?_, List.pairwise_append.2 ⟨segv_up h.apart, plc_up _ _, fun y hy z hz e => ?_⟩⟩
  · rcases List.mem_append.1 hx with hx | hx
    · obtain ⟨p, hp, e1, e2⟩ := segv_mem.1 hx
      have := (h.each p hp (not_free e2)).1.1.1
      omega
    · have := (plc_mem.1 hx).1
      have := h.next.1
      omega
  · obtain ⟨p, hp, e1, e2⟩ := segv_mem.1 hy
    have h1 := (h.each p hp (not_free e2)).2
    have h2 := (plc_mem.1 hz).1
    omega
theorem vers_iff {s : St} {x : Ver} : x ∈ vers s ↔ (∃ p ∈ s.1, x.1 = p.1 ∧ p.2[x.2.1]? = some x.2.2) ∨ (x.1 = s.2.2.2 ∧ s.2.2.1[x.2.1]? = some x.2.2) := by
  unfold vers
  rw [List.mem_append, segv_mem, plc_mem]
theorem Ok.le {s : St} (h : Ok s) {x : Ver} (hx : x ∈ vers s) : x.1 ≤ s.2.2.2 := by
  rcases vers_iff.1 hx with ⟨p, hp, e1, e2⟩ | ⟨e, _⟩
  · have := (h.each p hp (not_free e2)).2
    omega
  · omega
/-- Slots of one number are one slot. -/
theorem Ok.slot {s : St} (h : Ok s) {i j : Nat} {p q : Sg} (hi : s.1[i]? = some p) (hj : s.1[j]? = some q) (hf : freeB p = false) (e : p.1 = q.1) : i = j := by
  have hq : freeB q = false := by
    cases hb : freeB q
    · rfl
    · have := (h.each p (List.mem_of_getElem? hi) hf).1.1.1
      have := (free_iff.1 hb).1
      omega
  have key : ∀ (l : List Sg), (seqs l).Nodup → ∀ i j : Nat, i < j → l[i]? = some p → l[j]? = some q → False := by
    intro l hn i j hij h1 h2
    have h3 := nodup_of_take (k := j + 1) hn
    rw [seqs_take h2, if_neg (by rw [hq]; decide)] at h3
    obtain ⟨_, _, h4⟩ := List.nodup_append.1 h3
    refine h4 p.1 ?_ q.1 (List.mem_singleton.2 rfl) e
    unfold seqs
    refine List.mem_map.2 ⟨p, List.mem_filter.2 ⟨?_, by rw [hf]; rfl⟩, rfl⟩
    have : (l.take j)[i]? = some p := by rw [List.getElem?_take, if_pos hij]; exact h1
    exact List.mem_of_getElem? this
  rcases Nat.lt_trichotomy i j with c | c | c
  · exact (key s.1 h.apart i j c hi hj).elim
  · exact c
  · have key2 : ∀ (l : List Sg), (seqs l).Nodup → ∀ i j : Nat, i < j → l[i]? = some q → l[j]? = some p → False := by
      intro l hn i j hij h1 h2
      have h3 := nodup_of_take (k := j + 1) hn
      rw [seqs_take h2, if_neg (by rw [hf]; decide)] at h3
      obtain ⟨_, _, h4⟩ := List.nodup_append.1 h3
      refine h4 q.1 ?_ p.1 (List.mem_singleton.2 rfl) e.symm
      unfold seqs
      refine List.mem_map.2 ⟨q, List.mem_filter.2 ⟨?_, by rw [hq]; rfl⟩, rfl⟩
      have : (l.take j)[i]? = some q := by rw [List.getElem?_take, if_pos hij]; exact h1
      exact List.mem_of_getElem? this
    exact (key2 s.1 h.apart j i c hj hi).elim

/-! Put. -/

theorem pE_zero {s : St} {b : Bk} (h : pE s b = 0) : Ok s ∧ mayB b = true ∧ s.2.2.1.length < 8 := by
  unfold pE at h
  split at h
  · cases h
  · split at h
    · cases h
    · split at h
      · cases h
      · rename_i h1 h2 h3
        exact ⟨ok_iff.1 (by simpa using h1), by simpa using h2, by omega⟩
theorem pE_ok {s : St} {b : Bk} (h : Ok s) (h1 : mayB b = true) (h2 : s.2.2.1.length < 8) : pE s b = 0 := by
  unfold pE
  rw [if_neg (by rw [ok_iff.2 h]; decide), if_neg (by rw [h1]; decide), if_neg (by omega)]
theorem pS_ok {s : St} {b : Bk} (h : pE s b = 0) : Ok (pS s b) := by
  obtain ⟨h1, h2, h3⟩ := pE_zero h
  unfold pS
  rw [if_pos h]
  exact ⟨h1.slots, h1.held, h1.next, by simp only [List.length_append, List.length_singleton]; omega, by simp only [List.all_append, h1.may, List.all_cons, h2, List.all_nil, Bool.and_self], h1.each, h1.apart⟩
theorem pS_last {s : St} {b : Bk} (h : pE s b = 0) (o i : Int) : (last (pS s b) o i).1.2.2 = if o = b.1 ∧ i = b.2.1 then b.2.2 else (last s o i).1.2.2 := by
  obtain ⟨h1, h2, h3⟩ := pE_zero h
  have e : vers (pS s b) = vers s ++ [(s.2.2.2, s.2.2.1.length, b)] := by
    unfold pS vers
    rw [if_pos h]
    simp only
    rw [plc_snoc, List.append_assoc]
  unfold last
  rw [e]
  by_cases hk : o = b.1 ∧ i = b.2.1
  · rw [if_pos hk, hk.1, hk.2, kn_same]
    have hle : (kn (vers s) b.1 b.2.1).2.1 ≤ s.2.2.2 := by
      rcases kn_last b.1 b.2.1 (vers s) h1.wv with ⟨_, k⟩ | ⟨x, k1, _, k3, _⟩
      · rw [k]; have := h1.next.1; show (0 : Int) ≤ _; omega
      · rw [k3]; exact h1.le k1.mem
    unfold knStep
    rw [if_pos hle]
  · rw [if_neg hk, kn_other _ _ _ _ hk]

/-! Seal. -/

theorem sE_zero {s : St} (h : sE s = 0) : Ok s ∧ s.2.2.1 ≠ [] ∧ lowAt s.1 s.2.1 < s.1.length ∧ s.2.2.2 < 1099511627776 := by
  unfold sE at h
  split at h
  · cases h
  · split at h
    · cases h
    · split at h
      · cases h
      · rename_i h1 h2 h3
        exact ⟨ok_iff.1 (by simpa using h1), fun c => h2 (by rw [c]; rfl), by omega, by omega⟩
theorem low_free : ∀ {l : List Sg} {hd : List Bool}, lowAt l hd < l.length → hd.length = l.length → ∃ p, l[lowAt l hd]? = some p ∧ freeB p = true
  | [], _, h, _ => by simp at h
  | _ :: _, [], _, h => by simp at h
  | p :: l, x :: hd, h, hl => by
    by_cases hc : (freeB p && !x) = true
    · have e : lowAt (p :: l) (x :: hd) = 0 := by unfold lowAt; rw [if_pos hc]
      rw [e]
      exact ⟨p, rfl, (by simp only [Bool.and_eq_true] at hc; exact hc.1)⟩
    · have e : lowAt (p :: l) (x :: hd) = lowAt l hd + 1 := by rw [lowAt, if_neg hc]
      rw [e] at h ⊢
      obtain ⟨q, h1, h2⟩ := low_free (l := l) (hd := hd) (by simp at h; omega) (by simpa using hl)
      exact ⟨q, by simpa using h1, h2⟩
theorem seqs_set {l : List Sg} {k : Nat} {p q : Sg} (hk : l[k]? = some p) (hp : freeB p = true) (hq : freeB q = false) (hn : ∀ r ∈ l, freeB r = false → r.1 ≠ q.1) (h : (seqs l).Nodup) : (seqs (l.set k q)).Nodup := by
  have hlt := (List.getElem?_eq_some_iff.1 hk).1
  have e1 : l = l.take k ++ p :: l.drop (k + 1) := by
    have := (List.getElem?_eq_some_iff.1 hk).2
    rw [← this]
    exact (List.take_append_drop k l).symm.trans (by rw [List.drop_eq_getElem_cons hlt])
  have e2 : l.set k q = l.take k ++ q :: l.drop (k + 1) := by rw [List.set_eq_take_append_cons_drop, if_pos hlt]
  have s1 : seqs l = seqs (l.take k) ++ seqs (l.drop (k + 1)) := by
    conv => lhs; rw [e1]
    unfold seqs
    rw [List.filter_append, List.filter_cons, if_neg (by rw [hp]; decide), List.map_append]
  have s2 : seqs (l.set k q) = seqs (l.take k) ++ q.1 :: seqs (l.drop (k + 1)) := by
    rw [e2]
    unfold seqs
    rw [List.filter_append, List.filter_cons, if_pos (by rw [hq]; decide), List.map_append, List.map_cons]
  have hnot : ∀ m : List Sg, (∀ r ∈ m, r ∈ l) → q.1 ∉ seqs m := fun m hm hc => by
    unfold seqs at hc
    obtain ⟨r, hr, e⟩ := List.mem_map.1 hc
    obtain ⟨hr1, hr2⟩ := List.mem_filter.1 hr
    exact hn r (hm r hr1) (by simpa using hr2) e
  rw [s1] at h
  rw [s2]
  obtain ⟨n1, n2, n3⟩ := List.nodup_append.1 h
  refine List.nodup_append.2 ⟨n1, List.nodup_cons.2 ⟨hnot _ fun r hr => List.mem_of_mem_drop hr, n2⟩, fun a ha b hb e => ?_⟩
  rcases List.mem_cons.1 hb with rfl | hb
  · exact hnot _ (fun r hr => List.mem_of_mem_take hr) (e ▸ ha)
  · exact n3 a ha b hb e
theorem mem_set {l : List Sg} {k : Nat} {q r : Sg} (h : r ∈ l.set k q) : r = q ∨ ∃ j : Nat, j ≠ k ∧ l[j]? = some r := by
  obtain ⟨j, hj, e⟩ := List.getElem_of_mem h
  have hj' : (l.set k q)[j]? = some r := by rw [List.getElem?_eq_getElem hj, e]
  by_cases c : j = k
  · subst c
    rw [List.getElem?_set_self (by simpa using hj)] at hj'
    exact .inl (Option.some.inj hj').symm
  · rw [List.getElem?_set_ne (fun e => c e.symm)] at hj'
    exact .inr ⟨j, c, hj'⟩
theorem mem_set_of {l : List Sg} {k j : Nat} {q r : Sg} (h : l[j]? = some r) (hj : j ≠ k) : r ∈ l.set k q :=
  List.mem_of_getElem? (i := j) (by rw [List.getElem?_set_ne (fun e => hj e.symm)]; exact h)
theorem sS_is {s : St} (h : sE s = 0) : sS s = (s.1.set (lowAt s.1 s.2.1) (s.2.2.2, s.2.2.1), s.2.1, [], s.2.2.2 + 1) := by unfold sS; rw [if_pos h]
theorem sS_ok {s : St} (h : sE s = 0) : Ok (sS s) := by
  obtain ⟨h1, h2, h3, h4⟩ := sE_zero h
  obtain ⟨p, hp, hf⟩ := low_free h3 h1.held
  have hq : freeB ((s.2.2.2, s.2.2.1) : Sg) = false := by
    cases hb : freeB ((s.2.2.2, s.2.2.1) : Sg)
    · rfl
    · have h8 := (free_iff.1 hb).1
      have h9 := h1.next.1
      simp only at h8
      omega
  rw [sS_is h]
  refine ⟨by simpa using h1.slots, by simpa using h1.held, by simp only; have := h1.next; omega, by simp, rfl, fun r hr hrf => ?_, seqs_set hp hf hq (fun r hr hrf => ?_) h1.apart⟩
  · rcases mem_set hr with rfl | ⟨j, _, hj⟩
    · refine ⟨⟨⟨h1.next.1, by have := h1.next.2; omega⟩, ⟨?_, h1.few⟩, h1.may⟩, by simp only; omega⟩
      cases hh : s.2.2.1 with
      | nil => exact absurd hh h2
      | cons a t => simp
    · obtain ⟨k1, k2⟩ := h1.each r (List.mem_of_getElem? hj) hrf
      exact ⟨k1, by simp only; omega⟩
  · have := (h1.each r hr hrf).2
    simp only
    omega
theorem sS_mem {s : St} (h : sE s = 0) (x : Ver) : x ∈ vers (sS s) ↔ x ∈ vers s := by
  obtain ⟨h1, h2, h3, h4⟩ := sE_zero h
  obtain ⟨p, hp, hf⟩ := low_free h3 h1.held
  rw [sS_is h, vers_iff, vers_iff]
  simp only
  constructor
  · rintro (⟨r, hr, e1, e2⟩ | ⟨_, e2⟩)
    · rcases mem_set hr with rfl | ⟨j, _, hj⟩
      · exact .inr ⟨e1, e2⟩
      · exact .inl ⟨r, List.mem_of_getElem? hj, e1, e2⟩
    · cases e2
  · rintro (⟨r, hr, e1, e2⟩ | ⟨e1, e2⟩)
    · obtain ⟨j, hj, e⟩ := List.getElem_of_mem hr
      have hj' : s.1[j]? = some r := by rw [List.getElem?_eq_getElem hj, e]
      refine .inl ⟨r, mem_set_of hj' fun c => ?_, e1, e2⟩
      subst c
      rw [hp] at hj'
      obtain rfl := Option.some.inj hj'
      rw [not_free e2] at hf
      cases hf
    · exact .inl ⟨(s.2.2.2, s.2.2.1), List.mem_of_getElem? (i := lowAt s.1 s.2.1) (by rw [List.getElem?_set_self h3]), e1, e2⟩
theorem sS_last {s : St} (h : sE s = 0) (o i : Int) : (last (sS s) o i).1 = (last s o i).1 ∧ (last (sS s) o i).2.1 = (last s o i).2.1 ∧ (last (sS s) o i).2.2.1 = (last s o i).2.2.1 := kn_same_mem (sS_ok h).wv (sE_zero h).1.wv (sS_mem h) o i

/-! Free. -/

theorem uE_zero {s : St} {k : Int} (h : uE s k = 0) : Ok s ∧ ∃ (i : Nat) (p : Sg), k = i ∧ i < s.1.length ∧ s.1[i]? = some p ∧ slotOf s k = p ∧ freeB p = false := by
  unfold uE at h
  split at h
  · cases h
  · split at h
    · cases h
    · rename_i h1 h2
      obtain ⟨i, p, rfl, hi, hp, hf⟩ := used_at (by simpa using h2 : usedB s k = true)
      exact ⟨ok_iff.1 (by simpa using h1), i, p, rfl, hi, hp, by unfold slotOf; simp [hp], hf⟩
theorem seqs_unset {l : List Sg} {k : Nat} {p : Sg} (hk : l[k]? = some p) (h : (seqs l).Nodup) : (seqs (l.set k (0, []))).Nodup := by
  have hlt := (List.getElem?_eq_some_iff.1 hk).1
  have e1 : l = l.take k ++ p :: l.drop (k + 1) := by
    have := (List.getElem?_eq_some_iff.1 hk).2
    rw [← this]
    exact (List.take_append_drop k l).symm.trans (by rw [List.drop_eq_getElem_cons hlt])
  have e2 : l.set k (0, []) = l.take k ++ (0, []) :: l.drop (k + 1) := by rw [List.set_eq_take_append_cons_drop, if_pos hlt]
  have s2 : seqs (l.set k (0, [])) = seqs (l.take k) ++ seqs (l.drop (k + 1)) := by
    rw [e2]
    unfold seqs
    rw [List.filter_append, List.filter_cons, if_neg (by decide), List.map_append]
  have s1 : List.Sublist (seqs (l.take k) ++ seqs (l.drop (k + 1))) (seqs l) := by
    conv => rhs; rw [e1]
    unfold seqs
    rw [← List.map_append, ← List.filter_append]
    refine List.Sublist.map _ (List.Sublist.filter _ ?_)
    exact List.Sublist.append (List.Sublist.refl _) (List.sublist_cons_self _ _)
  rw [s2]
  exact h.sublist s1
/-- The store with a slot made free. -/
def unS (s : St) (k : Nat) : St := (s.1.set k (0, []), s.2.1, s.2.2.1, s.2.2.2)
theorem unS_ok {s : St} {k : Nat} {p : Sg} (h : Ok s) (hk : s.1[k]? = some p) : Ok (unS s k) := by
  refine ⟨by simpa [unS] using h.slots, by simpa [unS] using h.held, h.next, h.few, h.may, fun r hr hf => ?_, seqs_unset hk h.apart⟩
  rcases mem_set hr with rfl | ⟨j, _, hj⟩
  · exact absurd hf (by decide)
  · exact h.each r (List.mem_of_getElem? hj) hf
theorem unS_mem {s : St} {k : Nat} {p : Sg} (h : Ok s) (hk : s.1[k]? = some p) (hf : freeB p = false) (x : Ver) : x ∈ vers (unS s k) ↔ x ∈ vers s ∧ x.1 ≠ p.1 := by
  unfold unS
  rw [vers_iff, vers_iff]
  simp only
  constructor
  · rintro (⟨r, hr, e1, e2⟩ | ⟨e1, e2⟩)
    · rcases mem_set hr with rfl | ⟨j, hj1, hj⟩
      · cases e2
      · exact ⟨.inl ⟨r, List.mem_of_getElem? hj, e1, e2⟩, fun c => hj1 (h.slot hk hj hf (by omega)).symm⟩
    · refine ⟨.inr ⟨e1, e2⟩, fun c => ?_⟩
      have := (h.each p (List.mem_of_getElem? hk) hf).2
      omega
  · rintro ⟨⟨r, hr, e1, e2⟩ | ⟨e1, e2⟩, hne⟩
    · obtain ⟨j, hj, e⟩ := List.getElem_of_mem hr
      have hj' : s.1[j]? = some r := by rw [List.getElem?_eq_getElem hj, e]
      refine .inl ⟨r, mem_set_of hj' fun c => ?_, e1, e2⟩
      subst c
      rw [hk] at hj'
      obtain rfl := Option.some.inj hj'
      exact hne e1
    · exact .inr ⟨e1, e2⟩
theorem isLive_iff {s : St} {x : Ver} : isLive s x = true ↔ (last s x.2.2.1 x.2.2.2.1).2.1 = x.1 ∧ (last s x.2.2.1 x.2.2.2.1).2.2.1 = x.2.1 ∧ (x.2.2.2.2 ≠ [] ∨ 1 < (last s x.2.2.1 x.2.2.2.1).2.2.2) := by
  unfold isLive
  simp only [Bool.and_eq_true, Bool.or_eq_true, Bool.not_eq_true', decide_eq_false_iff_not, decide_eq_true_eq, List.length_eq_zero_iff, and_assoc]
theorem lvs_iff {s : St} {q : Int} {l : List Bk} {b : Bk} : b ∈ lvs s q l ↔ ∃ k : Nat, l[k]? = some b ∧ isLive s (q, k, b) = true := by
  unfold lvs
  rw [List.mem_map]
  constructor
  · rintro ⟨⟨a, k, c⟩, hx, rfl⟩
    obtain ⟨h1, h2⟩ := List.mem_filter.1 hx
    obtain ⟨e1, e2⟩ := plc_mem.1 h1
    simp only at e1 e2
    subst e1
    exact ⟨k, e2, h2⟩
  · rintro ⟨k, h1, h2⟩
    exact ⟨(q, k, b), List.mem_filter.2 ⟨plc_mem.2 ⟨rfl, h1⟩, h2⟩, rfl⟩
/-- One version alone: another one of the same kind makes two. -/
theorem two_count {l : List Ver} {o i : Int} {x y : Ver} (hx : x ∈ l) (hy : y ∈ l) (hne : x ≠ y) (kx : isK o i x = true) (ky : isK o i y = true) : 1 < (kn l o i).2.2.2 := by
  rw [kn_count]
  have m1 := List.mem_filter.2 ⟨hx, kx⟩
  have m2 := List.mem_filter.2 ⟨hy, ky⟩
  match h : l.filter (isK o i) with
  | [] => rw [h] at m1; cases m1
  | [a] => rw [h] at m1 m2; exact absurd ((List.mem_singleton.1 m1).trans (List.mem_singleton.1 m2).symm) hne
  | _ :: _ :: _ => simp
/-- A slot none of whose blocks is live can go: what is got stays. -/
theorem unS_last {s : St} {k : Nat} {p : Sg} (h : Ok s) (hk : s.1[k]? = some p) (hf : freeB p = false) (hl : lvs s p.1 p.2 = []) (o i : Int) : (last (unS s k) o i).1.2.2 = (last s o i).1.2.2 := by
  have hm := unS_mem h hk hf
  have w1 := h.wv
  have w2 := (unS_ok h hk).wv
  have none : ∀ x, IsLast (vers s) o i x → x.1 = p.1 → x.2.2.2.2 = [] ∧ ∀ y ∈ vers s, isK o i y = true → y = x := by
    intro x hx e
    have hkx : o = x.2.2.1 ∧ i = x.2.2.2.1 := by
      have := hx.kind
      simp only [isK, Bool.and_eq_true, decide_eq_true_eq] at this
      exact ⟨this.1.symm, this.2.symm⟩
    have hin : p.2[x.2.1]? = some x.2.2 := by
      rcases vers_iff.1 hx.mem with ⟨r, hr, e1, e2⟩ | ⟨e1, e2⟩
      · obtain ⟨j, hj, ej⟩ := List.getElem_of_mem hr
        have hj' : s.1[j]? = some r := by rw [List.getElem?_eq_getElem hj, ej]
        have := h.slot hk hj' hf (by omega)
        subst this
        rw [hk] at hj'
        obtain rfl := Option.some.inj hj'
        exact e2
      · have := (h.each p (List.mem_of_getElem? hk) hf).2
        omega
    have hnl : isLive s (p.1, x.2.1, x.2.2) = false := by
      cases hb : isLive s (p.1, x.2.1, x.2.2)
      · rfl
      · have := lvs_iff.2 ⟨_, hin, hb⟩
        rw [hl] at this
        cases this
    have hkn : (last s o i).1 = x.2.2 ∧ (last s o i).2.1 = x.1 ∧ (last s o i).2.2.1 = x.2.1 := by
      rcases kn_last o i (vers s) w1 with ⟨g1, _⟩ | ⟨y, g1, g2⟩
      · have := g1 x hx.mem; rw [hx.kind] at this; cases this
      · obtain rfl := hx.eq w1 g1
        exact g2
    have hnot : ¬ ((x.2.2.2.2 ≠ [] ∨ 1 < (last s o i).2.2.2)) := fun c => by
      have : isLive s (p.1, x.2.1, x.2.2) = true := by
        rw [isLive_iff]
        simp only
        rw [← hkx.1, ← hkx.2]
        exact ⟨hkn.2.1.trans e, hkn.2.2, c⟩
      rw [hnl] at this
      cases this
    refine ⟨Classical.byContradiction fun c => hnot (.inl c), fun y hy ky => Classical.byContradiction fun c => hnot (.inr ?_)⟩
    exact two_count hy hx.mem c ky hx.kind
  unfold last
  rcases kn_last o i (vers s) w1 with ⟨g1, g2⟩ | ⟨x, g1, g2, _⟩
  · rcases kn_last o i (vers (unS s k)) w2 with ⟨_, k2⟩ | ⟨y, k1, _⟩
    · rw [g2, k2]
    · have := g1 y ((hm y).1 k1.mem).1; rw [k1.kind] at this; cases this
  · by_cases e : x.1 = p.1
    · obtain ⟨c1, c2⟩ := none x g1 e
      rcases kn_last o i (vers (unS s k)) w2 with ⟨_, k2⟩ | ⟨y, k1, _⟩
      · rw [g2, k2, c1]; rfl
      · obtain ⟨y1, y2⟩ := (hm y).1 k1.mem
        rw [c2 y y1 k1.kind] at y2
        exact absurd e y2
    · rcases kn_last o i (vers (unS s k)) w2 with ⟨k1, _⟩ | ⟨y, k1, k2, _⟩
      · have := k1 x ((hm x).2 ⟨g1.mem, e⟩); rw [g1.kind] at this; cases this
      · have hy : IsLast (vers (unS s k)) o i x := ⟨(hm x).2 ⟨g1.mem, e⟩, g1.kind, fun z hz kz => g1.max z ((hm z).1 hz).1 kz⟩
        obtain rfl := hy.eq w2 k1
        rw [g2, k2]
theorem fE_zero {s : St} {k : Int} (h : fE s k = 0) : uE s k = 0 ∧ lL s k = [] := by
  unfold fE at h
  split at h
  · split at h
    · cases h
    · rename_i h1 h2
      exact ⟨h1, List.eq_nil_of_length_eq_zero (by omega)⟩
  · rename_i h1; exact absurd h h1
theorem fS_is {s : St} {k : Int} (h : fE s k = 0) : fS s k = unS s k.toNat := by unfold fS unS; rw [if_pos h]
theorem fS_ok {s : St} {k : Int} (h : fE s k = 0) : Ok (fS s k) := by
  obtain ⟨h1, i, p, rfl, hi, hp, _⟩ := uE_zero (fE_zero h).1
  rw [fS_is h]
  exact unS_ok h1 hp
theorem fS_last {s : St} {k : Int} (h : fE s k = 0) (o i : Int) : (last (fS s k) o i).1.2.2 = (last s o i).1.2.2 := by
  obtain ⟨h0, hl⟩ := fE_zero h
  unfold lL at hl
  rw [if_pos h0] at hl
  obtain ⟨h1, j, p, rfl, hi, hp, e, hf⟩ := uE_zero h0
  rw [e] at hl
  rw [fS_is h]
  exact unS_last h1 hp hf hl o i

/-! What is live is got. -/

theorem live_got {s : St} {k : Int} {b : Bk} (h : uE s k = 0) (hb : b ∈ lL s k) : gB s b.1 b.2.1 = b.2.2 := by
  unfold lL at hb
  rw [if_pos h] at hb
  obtain ⟨h1, j, p, rfl, hi, hp, e, hf⟩ := uE_zero h
  rw [e] at hb
  obtain ⟨c, h2, h3⟩ := lvs_iff.1 hb
  obtain ⟨l1, l2, _⟩ := isLive_iff.1 h3
  simp only at l1 l2
  unfold gB
  rw [if_pos (ok_iff.2 h1)]
  unfold last at l1 l2 ⊢
  have hm : ((p.1, c, b) : Ver) ∈ vers s := vers_iff.2 (.inl ⟨p, List.mem_of_getElem? hp, rfl, h2⟩)
  rcases kn_last b.1 b.2.1 (vers s) h1.wv with ⟨g1, _⟩ | ⟨x, g1, g2, g3, g4⟩
  · have := g1 _ hm; simp [isK] at this
  · have : x = (p.1, c, b) := h1.wv.one g1.mem hm (by rw [← g3, l1]) (by rw [← g4, l2])
    rw [g2, this]
theorem AllOf.same {s t : St} {L : List Bk} (h : AllOf s L) (e : ∀ o i, (last t o i).1.2.2 = (last s o i).1.2.2) : AllOf t L := ⟨h.up, fun b => (h.mem b).trans (by unfold isThere; rw [e])⟩

end Go.Proofs.Ytkpckadicjdieaa

/-
  What the program's New answers.
-/
namespace Go.Proofs.Ytkpckadicjdieaa
open Go.RowKit

set_option maxRecDepth 100000 in
set_option maxHeartbeats 4000000 in
theorem new_any (k : Int) (w : World) : Calls Try.prog 24 #[.int .i64 k] w (TellsS (nE k) (nS k) w) := by
  obtain ⟨post, hpost⟩ : ∃ post : Ending → World → Prop, post = TellsS (nE k) (nS k) w := ⟨_, rfl⟩
  have HNO : Hid (∀ w', nE k = 4 → Below w.heap.size w w' → post (.returned (.tuple #[.agg #[.slice none 0 0, .slice none 0 0, .slice none 0 0, .int .i64 0], .int .i64 4])) w') := fun w' e1 e3 => by
    rw [hpost]
    refine ⟨⟨_, by rw [e1], ?_⟩, e3⟩
    unfold nS
    rw [if_neg (by rw [e1]; decide)]
    exact s0_owns _ _
  have HYES : Hid (∀ us' w', nE k = 0 → stN.owns w.heap.size w' us' (List.replicate k.toNat (0, []), List.replicate k.toNat false, [], 1) → Below w.heap.size w w' → post (.returned (.tuple #[.agg us'.toArray, .int .i64 0])) w') := fun us' w' e1 e2 e3 => by
    rw [hpost]
    refine ⟨⟨us', by rw [e1], ?_⟩, e3⟩
    unfold nS
    rw [if_pos e1]
    exact e2
  rw [← hpost]
  clear hpost
  obtain ⟨W, hW⟩ : ∃ W, W = w.alloc (.cells #[.slice none 0 0, .slice none 0 0, .slice none 0 0, .int .i64 0] 33) := ⟨_, rfl⟩
  have hbW : Below w.heap.size w W := by rw [hW]; exact (Below.refl _ w).alloc (Nat.le_refl _) _
  have hB1 : Box W w.heap.size 33 #[.slice none 0 0, .slice none 0 0, .slice none 0 0, .int .i64 0] := by rw [hW]; exact Box.new _ _ _
  have HW : Hid (Below w.heap.size w W ∧ Box W w.heap.size 33 #[.slice none 0 0, .slice none 0 0, .slice none 0 0, .int .i64 0] ∧ W.heap.size = w.heap.size + 1) := ⟨hbW, hB1, by rw [hW]; simp⟩
  obtain ⟨g0, g1, g2, g3, f0, f1, f2, f3⟩ := hB1.four
  clear hbW hB1
  by_cases h1 : k < 1
  · have HE := HNO.out ((((W.setCell ⟨w.heap.size, 0, none⟩ (.slice none 0 0)).setCell ⟨w.heap.size, 1, none⟩ (.slice none 0 0)).setCell ⟨w.heap.size, 2, none⟩ (.slice none 0 0)).setCell ⟨w.heap.size, 3, none⟩ (.int .i64 0)) (by unfold nE; rw [if_pos (.inl h1)]) (below_set4 HW.out.1 (Nat.le_refl _) _ _ _ _)
    have HE : Hid _ := HE
    go_enter Try.func24, Try.ntmps24
    go_upto_region 1 with fail
    rw [← hW]
    clear hW
    go_wp2
    refine bodyPost_ret (v := .tuple #[.agg #[.slice none 0 0, .slice none 0 0, .slice none 0 0, .int .i64 0], .int .i64 4]) (by simp [results, Try.results24, go_sem, *]) rfl HE.out
  by_cases h2 : 64 < k
  · have HE := HNO.out ((((W.setCell ⟨w.heap.size, 0, none⟩ (.slice none 0 0)).setCell ⟨w.heap.size, 1, none⟩ (.slice none 0 0)).setCell ⟨w.heap.size, 2, none⟩ (.slice none 0 0)).setCell ⟨w.heap.size, 3, none⟩ (.int .i64 0)) (by unfold nE; rw [if_pos (.inr h2)]) (below_set4 HW.out.1 (Nat.le_refl _) _ _ _ _)
    have HE : Hid _ := HE
    go_enter Try.func24, Try.ntmps24
    go_upto_region 1 with fail
    rw [← hW]
    clear hW
    go_wp2
    refine bodyPost_ret (v := .tuple #[.agg #[.slice none 0 0, .slice none 0 0, .slice none 0 0, .int .i64 0], .int .i64 4]) (by simp [results, Try.results24, go_sem, *]) rfl HE.out
  obtain ⟨n, rfl⟩ : ∃ n : Nat, k = n := ⟨k.toNat, by omega⟩
  have HN : Hid (nE (n : Int) = 0 ∧ n ≤ 64) := ⟨by unfold nE; rw [if_neg (by omega)], by omega⟩
  rw [Int.toNat_natCast] at HYES
  obtain ⟨i1, hi1, hz10, hz11, hz12⟩ := info_parts Try.info88
  obtain ⟨i4, hi4, hz40, hz41, hz42⟩ := info_parts Try.info4
  have HMS : Hid (∀ U, w.heap.size + 1 ≤ U.heap.size → ∃ w', (Instr.makeSlice 30 (.int .i64 (n : Int)) (.int .i64 (n : Int))).run Try.prog U = .ok (.slice (some ⟨U.heap.size, 0, none⟩) n n) w' ∧ sgsN.owns (w.heap.size + 1) w' [.slice (some ⟨U.heap.size, 0, none⟩) n n] (List.replicate n (0, [])) ∧ U.grownBy w' none) := fun U hU => by
    obtain ⟨w', h1, h2, h3⟩ := run_make_full U (w.heap.size + 1) 30 88 i1 _ 2 Try.underlying30 hi1 hz10 hz11 .i64 .i64 n (by rw [hz12]; have := HN.out.2; omega) (by have := HN.out.2; unfold maxLen; omega) hU
    have hm : (madeCells (Value.agg #[.int .i64 0, .slice none 0 0]).cells (n * 2)).toList = (List.replicate n [Value.int .i64 0, Value.slice none 0 0]).flatten := made_two (.int .i64 0) (.slice none 0 0) n
    rw [hm] at h2
    exact ⟨w', h1, ⟨_, List.replicate n [.int .i64 0, .slice none 0 0], rfl, by rw [List.length_replicate]; exact h2, each_rep (sg_omkN (s := (0, [])) (Shape.list_nil bkN 31 Try.underlying31 cells31 _ _) ⟨by show _ ≤ (0 : Int); omega, by show (0 : Int) ≤ _; omega⟩) n⟩, h3⟩
  have HMB : Hid (∀ U, w.heap.size + 1 ≤ U.heap.size → ∃ w', (Instr.makeSlice 23 (.int .i64 (n : Int)) (.int .i64 (n : Int))).run Try.prog U = .ok (.slice (some ⟨U.heap.size, 0, none⟩) n n) w' ∧ boolsS.owns (w.heap.size + 1) w' [.slice (some ⟨U.heap.size, 0, none⟩) n n] (List.replicate n false) ∧ U.grownBy w' none) := fun U hU => by
    obtain ⟨w', h1, h2, h3⟩ := run_make_full U (w.heap.size + 1) 23 4 i4 _ 1 Try.underlying23 hi4 hz40 hz41 .i64 .i64 n (by rw [hz42]; have := HN.out.2; omega) (by have := HN.out.2; unfold maxLen; omega) hU
    have hm : (madeCells (Value.bool false).cells (n * 1)).toList = (List.replicate n false).map Value.bool := by rw [Nat.mul_one, List.map_replicate]; exact toList_madeCells_one _ _
    rw [hm] at h2
    exact ⟨w', h1, ⟨_, rfl, by rw [List.length_replicate]; exact h2, fun _ _ => trivial⟩, h3⟩
  have HEND : Hid (∀ a b w3, Below w.heap.size w w3 → sgsN.owns (w.heap.size + 1) w3 [a] (List.replicate n (0, [])) → boolsS.owns (w.heap.size + 1) w3 [b] (List.replicate n false) → post (.returned (.tuple #[.agg #[a, b, .slice none 0 0, .int .i64 1], .int .i64 0])) ((((w3.setCell ⟨w.heap.size, 0, none⟩ a).setCell ⟨w.heap.size, 1, none⟩ b).setCell ⟨w.heap.size, 2, none⟩ (.slice none 0 0)).setCell ⟨w.heap.size, 3, none⟩ (.int .i64 1))) := fun a b w3 hb h1 h2 => HYES.out [_, _, _, _] _ HN.out.1 (stN.oweaken (n := w.heap.size + 1) (stN.osame (st_omkN (s := (List.replicate n (0, []), List.replicate n false, [], 1)) h1 h2 (Shape.list_nil bkN 31 Try.underlying31 cells31 _ _) ⟨by show _ ≤ (1 : Int); omega, by show (1 : Int) ≤ _; omega⟩) (.set4 (by omega))) (by omega)) (below_set4 hb (Nat.le_refl _) _ _ _ _)
  have hni : (1 : Int) ≤ (n : Int) ∧ (n : Int) ≤ 64 := ⟨by omega, by omega⟩
  clear hi1 hz10 hz11 hz12 hi4 hz40 hz41 hz42
  go_enter Try.func24, Try.ntmps24
  go_upto_region 1 with fail
  rw [← hW]
  clear hW
  go_upto_region 3 with fail
  refine AnyBut.begin (fun _ => True) 1000 (by kernel_rfl) ?_
  have hSS : True := trivial
  refine tx 0 11 hSS ?_
  simp only [ua, ub, uc, ud]
  refine tx 2 13 hSS ?_
  simp only [ua, ub, uc, ud]
  refine AnyBut.two (i := 1) (j := 3) (by kernel_rfl) rfl rfl (fun K hK => ?_) (fun K hK => ?_)
  · obtain ⟨w1, hr1, ho1, hg1⟩ := HMS.out W.drew (by have := HW.out.2.2; show _ ≤ W.heap.size; omega)
    go_simp
    refine hK.out _ _ trivial ?_
    clear hK
    obtain ⟨w2, hr2, ho2, hg2⟩ := HMB.out w1 (by have := hg1.size; have := HW.out.2.2; have h9 : W.drew.heap.size = W.heap.size := rfl; omega)
    refine AnyBut.step (i := 3) (by kernel_rfl) rfl (fun K hK => ?_)
    go_simp
    refine hK.out _ _ trivial ?_
    clear hK
    refine tx 4 15 hSS ?_
    simp only [ua, ub, uc, ud]
    have hbx2 := ((HW.out.2.1.drew.grown hg1 (by simp)).grown hg2 (by simp))
    obtain ⟨y0, y1, y2, y3, j0, j1, j2, j3⟩ := hbx2.four
    have hb2 : Below w.heap.size w w2 := (HW.out.1.drew.grown hg1 HW.out.1.size (fun _ h => by cases h)).grown hg2 (by have := hg1.size; have := HW.out.1.size; have h9 : W.drew.heap.size = W.heap.size := rfl; omega) (fun _ h => by cases h)
    have HE : Hid _ := HEND.out _ _ w2 hb2 (sgsN.osame ho1 (fun k _ h => hg2.block k h (by simp))) ho2
    clear hb2 hbx2 ho1 ho2 hg1 hg2 hr1 hr2 g0 g1 g2 g3 f0 f1 f2 f3
    refine AnyBut.step (i := 5) (by kernel_rfl) rfl (fun K hK => ?_)
    go_simp
    refine hK.out _ _ trivial ?_
    clear hK
    refine tx 6 3 hSS ?_
    simp only [ua, ub, uc, ud]
    refine AnyBut.done (by kernel_rfl) ?_
    go_wp2
    refine bodyPost_ret (v := .tuple #[.agg #[_, _, .slice none 0 0, .int .i64 1], .int .i64 0]) (by simp [results, Try.results24, go_sem, *]) rfl HE.out
  · obtain ⟨w1, hr1, ho1, hg1⟩ := HMB.out W.drew (by have := HW.out.2.2; show _ ≤ W.heap.size; omega)
    go_simp
    refine hK.out _ _ trivial ?_
    clear hK
    obtain ⟨w2, hr2, ho2, hg2⟩ := HMS.out w1 (by have := hg1.size; have := HW.out.2.2; have h9 : W.drew.heap.size = W.heap.size := rfl; omega)
    refine AnyBut.step (i := 1) (by kernel_rfl) rfl (fun K hK => ?_)
    go_simp
    refine hK.out _ _ trivial ?_
    clear hK
    refine tx 4 15 hSS ?_
    simp only [ua, ub, uc, ud]
    have hbx2 := ((HW.out.2.1.drew.grown hg1 (by simp)).grown hg2 (by simp))
    obtain ⟨y0, y1, y2, y3, j0, j1, j2, j3⟩ := hbx2.four
    have hb2 : Below w.heap.size w w2 := (HW.out.1.drew.grown hg1 HW.out.1.size (fun _ h => by cases h)).grown hg2 (by have := hg1.size; have := HW.out.1.size; have h9 : W.drew.heap.size = W.heap.size := rfl; omega) (fun _ h => by cases h)
    have HE : Hid _ := HEND.out _ _ w2 hb2 ho2 (boolsS.osame ho1 (fun k _ h => hg2.block k h (by simp)))
    clear hb2 hbx2 ho1 ho2 hg1 hg2 hr1 hr2 g0 g1 g2 g3 f0 f1 f2 f3
    refine AnyBut.step (i := 5) (by kernel_rfl) rfl (fun K hK => ?_)
    go_simp
    refine hK.out _ _ trivial ?_
    clear hK
    refine tx 6 3 hSS ?_
    simp only [ua, ub, uc, ud]
    refine AnyBut.done (by kernel_rfl) ?_
    go_wp2
    refine bodyPost_ret (v := .tuple #[.agg #[_, _, .slice none 0 0, .int .i64 1], .int .i64 0]) (by simp [results, Try.results24, go_sem, *]) rfl HE.out

end Go.Proofs.Ytkpckadicjdieaa

/-
  The laws' own helpers: a store for the program, in memory of its own; whether two are alike.
-/
namespace Go.Proofs.Ytkpckadicjdieaa
open Go.RowKit

set_option maxHeartbeats 1000000 in
theorem cbools_any (n0 : Nat) (v : Value) (l : List Bool) (w : World) (h : boolsS.lies n0 w [v] l) (hs : l.length ≤ 140737488355328) :
    Calls Try.prog 38 #[v] w fun e w' => (∃ v', e = .returned v' ∧ boolsS.owns w.heap.size w' [v'] l) ∧ Below w.heap.size w w' := by
  obtain ⟨i0, hi, hz0, hz1, hz2⟩ := info_parts Try.info4
  obtain ⟨v', hv, hC, _⟩ := h
  obtain rfl : v = v' := by simpa using hv
  obtain ⟨hl, h | ⟨x, cap, rfl, hcap, hm, _, hc⟩⟩ := hC
  · obtain ⟨rfl, h0⟩ := h
    obtain rfl := List.eq_nil_of_length_eq_zero h0
    go_enter Try.func38, Try.ntmps38
    go_wp2_with (at_builtin; refine wpList_append_own_none rfl _ _ 23 rfl w.heap.size 4 i0 1 Try.underlying23 hi (.slice none 0 0) 0 [] rfl (World.ownsRow_nil _ _ _ _) rfl ?_)
    go_ret
    exact ⟨⟨_, rfl, ⟨_, rfl, World.ownsRow_nil _ _ _ _, fun _ _ => trivial⟩⟩, Below.refl _ _⟩
  · have hone : ∀ u ∈ l.map bL.val, u.oneCell' = true := fun u hu => by
      obtain ⟨y, _, rfl⟩ := List.mem_map.1 hu
      rfl
    go_enter Try.func38, Try.ntmps38
    go_wp2_with (at_builtin; refine wpList_append_own _ rfl _ _ 23 rfl w.heap.size 4 i0 (.bool false) 1 1 Try.underlying23 hi hz0 hz1 hz2 rfl (by decide) (.slice none 0 0) 0 [] rfl (World.ownsRow_nil _ _ _ _) x l.length cap (l.map bL.val) rfl (by simp) hc hone (by omega) (by omega) (Nat.le_refl _) ?_)
    intro v' w1 hown hgrow _
    have hb : Below w.heap.size w w1 := (Below.refl _ _).grown hgrow (Nat.le_refl _) (fun _ h => by cases h)
    clear hgrow hc hone
    go_wp2
    go_ret
    exact ⟨⟨v', rfl, ⟨_, rfl, (show w1.ownsRow w.heap.size 4 1 v' l.length (l.map bL.val) by simpa using hown), fun _ _ => trivial⟩⟩, hb⟩

theorem own_set4 {α : Type} (S : Shape α) (hid : 33 ∉ S.ids) {n B : Nat} {w : World} {us : List Value} {x : α} {cs : Array Value} (h : S.owns n w us x) (hB : Box w B 33 cs) (u v y z : Value) : S.owns n ((((w.setCell ⟨B, 0, none⟩ u).setCell ⟨B, 1, none⟩ v).setCell ⟨B, 2, none⟩ y).setCell ⟨B, 3, none⟩ z) us x :=
  S.ogrown (S.ogrown (S.ogrown (S.ogrown h (grown_set w B 0 u) (hB.clear hid)) (grown_set _ B 1 v) ((hB.set 0 u).clear hid)) (grown_set _ B 2 y) (((hB.set 0 u).set 1 v).clear hid)) (grown_set _ B 3 z) ((((hB.set 0 u).set 1 v).set 2 y).clear hid)

set_option maxRecDepth 100000 in
set_option maxHeartbeats 2000000 in
theorem sbools_true (n1 n2 : Nat) (v1 v2 : Value) (l : List Bool) (w : World) (h1 : boolsS.lies n1 w [v1] l) (h2 : boolsS.lies n2 w [v2] l) :
    Calls Try.prog 56 #[v1, v2] w fun e w' => e = .returned (.bool true) ∧ ∃ q, w' = w.drewN q := by
  obtain ⟨a1, c1, e1, _, m1, _⟩ := Leaf.row_len (L := bL) (ht := Try.underlying23) (hc := cells23) h1
  obtain ⟨a2, c2, e2, _, m2, _⟩ := Leaf.row_len (L := bL) (ht := Try.underlying23) (hc := cells23) h2
  obtain rfl : v1 = _ := by simpa using e1
  obtain rfl : v2 = _ := by simpa using e2
  obtain ⟨n, hn⟩ : ∃ n, n = l.length := ⟨_, rfl⟩
  rw [← hn] at h1 h2 m1 m2 ⊢
  unfold maxLen at m1
  have HL : Hid (boolsS.lies n1 w [.slice a1 n c1] l ∧ boolsS.lies n2 w [.slice a2 n c2] l ∧ n = l.length) := ⟨h1, h2, hn⟩
  have hl1 := run_len Try.underlying23 a1 n c1
  have hl2 := run_len Try.underlying23 a2 n c2
  clear h1 h2 e1 e2 hn m2
  go_enter Try.func56, Try.ntmps56
  go_wp2
  go_loopw [5] (fun i wr => ∃ k : Nat, k ≤ n ∧ i = .int .i64 k ∧ ∃ q, wr = w.drewN q) (fun i _ => n - (intOf i).toNat)
  case atStart => exact ⟨0, Nat.zero_le _, rfl, 0, rfl⟩
  case round =>
    obtain ⟨k, hk, rfl, q, rfl⟩ := hrel
    by_cases hlt : k < n
    · obtain ⟨x, hx⟩ := get_lt (l := l) (k := k) (by rw [← HL.out.2.2]; exact hlt)
      obtain ⟨b1, o1, hix1, _, g1⟩ := bools_at HL.out.1 k x hx
      obtain ⟨b2, o2, hix2, _, g2⟩ := bools_at HL.out.2.1 k x hx
      have hkn : (k : Int) < (n : Int) := by omega
      clear hx
      cases x with
      | true =>
        go_wp2
        go_quiet (fail)
        go_wp2
        go_roundw
        case rel => exact ⟨k + 1, by omega, by go_num, _, rfl⟩
        case measure => simp [intOf]; omega
      | false =>
        go_wp2
        go_quiet (fail)
        go_wp2
        go_roundw
        case rel => exact ⟨k + 1, by omega, by go_num, _, rfl⟩
        case measure => simp [intOf]; omega
    · obtain rfl : k = n := by omega
      go_wp2
      go_ret
      exact ⟨rfl, q, rfl⟩

end Go.Proofs.Ytkpckadicjdieaa

/-
  Octets of a constant; the example's stores.
-/
namespace Go.Proofs.Ytkpckadicjdieaa
open Go.RowKit

theorem Cells.box {n0 : Nat} {w : World} {B : Nat} {t : TypeId} {cs : Array Value} {n : Nat} (h : Box w B t cs) (hn : cs.size = n) (hm : n ≤ maxLen) (hb : n0 ≤ B) : Cells n0 w 1 (.slice (some ⟨B, 0, none⟩) n n) n cs.toList := by
  refine ⟨by simp [hn], .inr ⟨⟨B, 0, none⟩, n, rfl, Nat.le_refl _, hm, hb, fun j u hu => ?_⟩⟩
  rw [add_plain, Nat.zero_add]
  exact h.cell j (by simpa using hu)

/-- The conversion of a constant's octets: the row is marked, no cell is another one. -/
theorem conv_mark (V : World) (g n c : Nat) (C : Array Value) (h : V.heap[g]? = some (.cells C 5 (0, 0))) :
    ∃ V', (convert 27 27 (.slice (some ⟨g, 0, none⟩) n c)).run Try.prog V = .ok (.slice (some ⟨g, 0, none⟩) n c) V' ∧ Below g V V' ∧ (∀ p, V'.cell? p = V.cell? p) := by
  have hsh : V.shape? g = some (5, C.size) := by
    unfold World.shape?
    rw [h]
  have hlt : g < V.heap.size := (Array.getElem?_eq_some_iff.1 h).1
  have hblk : ∀ k, k ≠ g → (V.freeze ⟨g, C.size, none⟩ 1).heap[k]? = V.heap[k]? := fun k hk => by
    unfold World.freeze
    rw [if_neg (by decide)]
    show (V.heap.modify g _)[k]? = _
    rw [Array.getElem?_modify, if_neg (Ne.symm hk)]
  have hown : (V.freeze ⟨g, C.size, none⟩ 1).heap[g]? = some (.cells C 5 (C.size, C.size + 1)) := by
    unfold World.freeze
    rw [if_neg (by decide)]
    show (V.heap.modify g _)[g]? = _
    rw [Array.getElem?_modify, if_pos rfl, h]
    rfl
  refine ⟨V.freeze ⟨g, C.size, none⟩ 1, ?_, ⟨?_, ?_, ?_, ?_, fun k hk => hblk k (by omega)⟩, fun p => ?_⟩
  · simp [convert, run_underlying Try.underlying27, run_underlying Try.underlying5, markStringish, hsh]
  · unfold World.freeze; rw [if_neg (by decide)]
  · unfold World.freeze; rw [if_neg (by decide)]
  · unfold World.freeze; rw [if_neg (by decide)]
  · unfold World.freeze; rw [if_neg (by decide)]; simp
  · by_cases hp : p.block = g
    · unfold World.cell?
      rw [hp, hown, h]
    · unfold World.cell?
      rw [hblk _ hp]
theorem Arg.same {n0 : Nat} {V V' : World} {v : Value} {l : List Int} (h : Arg n0 V v l) (hc : ∀ p, V'.cell? p = V.cell? p) : Arg n0 V' v l := by
  refine Arg.mk ?_ h.oct
  obtain ⟨h1, h2⟩ := h.cells
  refine ⟨h1, h2.imp id ?_⟩
  rintro ⟨x, cap, rfl, a1, a2, a3, a4⟩
  exact ⟨x, cap, rfl, a1, a2, a3, fun j u hu => by rw [hc]; exact a4 j u hu⟩


abbrev x1 : St := ([(0, []), (0, [])], [false, false], [], 1)
abbrev x2 : St := ([(0, []), (0, [])], [false, false], [(1, 0, [97])], 1)
abbrev x3 : St := ([(1, [(1, 0, [97])]), (0, [])], [false, false], [], 2)
abbrev x4 : St := ([(1, [(1, 0, [97])]), (0, [])], [false, false], [(1, 0, [98])], 2)
abbrev x5 : St := ([(1, [(1, 0, [97])]), (2, [(1, 0, [98])])], [false, false], [], 3)
abbrev x6 : St := ([(0, []), (2, [(1, 0, [98])])], [false, false], [], 3)
theorem e1 : nE 2 = 0 ∧ nS 2 = x1 := ⟨by kernel_rfl, by kernel_rfl⟩
theorem e2 : pE x1 (1, 0, [97]) = 0 ∧ pS x1 (1, 0, [97]) = x2 := ⟨by kernel_rfl, by kernel_rfl⟩
theorem e3 : sE x2 = 0 ∧ sS x2 = x3 ∧ sP x2 = 0 := ⟨by kernel_rfl, by kernel_rfl, by kernel_rfl⟩
theorem e4 : pE x3 (1, 0, [98]) = 0 ∧ pS x3 (1, 0, [98]) = x4 := ⟨by kernel_rfl, by kernel_rfl⟩
theorem e5 : sE x4 = 0 ∧ sS x4 = x5 ∧ sP x4 = 1 := ⟨by kernel_rfl, by kernel_rfl, by kernel_rfl⟩
theorem e6 : uE x5 0 = 0 ∧ lL x5 0 = [] := ⟨by kernel_rfl, by kernel_rfl⟩
theorem e7 : fE x5 0 = 0 ∧ fS x5 0 = x6 := ⟨by kernel_rfl, by kernel_rfl⟩
theorem e8 : okE x6 = 0 ∧ gB x6 1 0 = [98] := ⟨by kernel_rfl, by kernel_rfl⟩

end Go.Proofs.Ytkpckadicjdieaa
