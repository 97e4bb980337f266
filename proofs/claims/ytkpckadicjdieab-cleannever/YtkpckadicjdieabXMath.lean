/-
  Plain mathematics of a cleaning: live blocks written once more behind all others, the slot made free.
-/
import Derived.Test.YtkpckadicjdieabVMath
namespace Go.Proofs.Ytkpckadicjdieab

/-- A block put, with room made ahead of it. -/
def ptE (t : St) (b : Bk) : Int := if t.2.2.1.length = 8 then (if sE t = 0 then pE (sS t) b else sE t) else pE t b
def ptS (t : St) (b : Bk) : St := if t.2.2.1.length = 8 then (if sE t = 0 then pS (sS t) b else s0) else pS t b
/-- Several ones. -/
def mvE : List Bk → St → Int
  | [], _ => 0
  | b :: l, t => if ptE t b = 0 then mvE l (ptS t b) else ptE t b
def mvS : List Bk → St → St
  | [], t => t
  | b :: l, t => if ptE t b = 0 then mvS l (ptS t b) else s0
def movE (l : List Bk) (s : St) : Int := if l = [] then 0 else if mvE l s = 0 then sE (mvS l s) else mvE l s
def movS (l : List Bk) (s : St) : St := if l = [] then s else if mvE l s = 0 then sS (mvS l s) else s0
/-- What Clean answers. -/
def clE (s : St) (k q : Int) : Int := if uE s k = 0 then (if (slotOf s k).1 = q then movE (lL s k) s else 81) else uE s k
def clS (s : St) (k q : Int) : St := if clE s k q = 0 then unS (movS (lL s k) s) k.toNat else s0

theorem mv_append (m : List Bk) : ∀ (l : List Bk) (t : St), mvE (l ++ m) t = (if mvE l t = 0 then mvE m (mvS l t) else mvE l t) ∧ mvS (l ++ m) t = (if mvE l t = 0 then mvS m (mvS l t) else s0)
  | [], t => ⟨rfl, rfl⟩
  | b :: l, t => by
    by_cases h : ptE t b = 0
    · have := mv_append m l (ptS t b)
      simpa [mvE, mvS, h] using this
    · simp [mvE, mvS, h]
theorem mv_snoc {l : List Bk} {t : St} {b : Bk} (h : mvE l t = 0) : mvE (l ++ [b]) t = ptE (mvS l t) b ∧ (ptE (mvS l t) b = 0 → mvS (l ++ [b]) t = ptS (mvS l t) b) := by
  have := mv_append [b] l t
  rw [if_pos h, if_pos h] at this
  refine ⟨?_, fun h1 => ?_⟩
  · rw [this.1]
    by_cases h1 : ptE (mvS l t) b = 0 <;> simp [mvE, h1]
  · rw [this.2]; simp [mvS, h1]
theorem mv_stop {l m : List Bk} {t : St} {e : Int} (h : mvE l t = e) (he : e ≠ 0) : mvE (l ++ m) t = e := by
  have := (mv_append m l t).1
  rw [h, if_neg he] at this
  exact this
/-- A store in which the blocks l of the slot i (it has p) have been written once more. -/
structure Mvd (s : St) (p : Sg) (i : Nat) (l : List Bk) (t : St) : Prop where
  ok : Ok t
  slot : t.1[i]? = some p
  next : s.2.2.2 ≤ t.2.2.2
  got : ∀ o i, (last t o i).1.2.2 = (last s o i).1.2.2
  old : ∀ x ∈ vers t, x ∈ vers s ∨ (p.1 < x.1 ∧ x.2.2 ∈ l)
  kept : ∀ x ∈ vers s, x ∈ vers t
  new : ∀ b ∈ l, ∃ x ∈ vers t, isK b.1 b.2.1 x = true ∧ p.1 < x.1
theorem Mvd.start {s : St} {p : Sg} {i : Nat} (h : Ok s) (hp : s.1[i]? = some p) : Mvd s p i [] s := ⟨h, hp, Int.le_refl _, fun _ _ => rfl, fun _ hx => .inl hx, fun _ hx => hx, fun _ hb => by cases hb⟩
theorem Mvd.seal {s t : St} {p : Sg} {i : Nat} {l : List Bk} (h : Mvd s p i l t) (hf : freeB p = false) (he : sE t = 0) : Mvd s p i l (sS t) := by
  obtain ⟨h1, h2, h3, h4⟩ := sE_zero he
  have hm := sS_mem he
  refine ⟨sS_ok he, ?_, ?_, fun o j => ?_, fun x hx => h.old x ((hm x).1 hx), fun x hx => (hm x).2 (h.kept x hx), fun b hb => ?_⟩
  · rw [sS_is he]
    obtain ⟨q, hq, hqf⟩ := low_free h3 h1.held
    have hne : lowAt t.1 t.2.1 ≠ i := fun c => by
      rw [c, h.slot] at hq
      obtain rfl := Option.some.inj hq
      rw [hf] at hqf
      cases hqf
    simp only
    rw [List.getElem?_set_ne hne]
    exact h.slot
  · rw [sS_is he]
    have := h.next
    simp only
    omega
  · rw [(sS_last he o j).1]
    exact h.got o j
  · obtain ⟨x, hx, h5⟩ := h.new b hb
    exact ⟨x, (hm x).2 hx, h5⟩
theorem Mvd.put {s t : St} {p : Sg} {i : Nat} {l : List Bk} {b : Bk} (h : Mvd s p i l t) (hp : p.1 < s.2.2.2) (hb : (last s b.1 b.2.1).1.2.2 = b.2.2) (he : pE t b = 0) : Mvd s p i (l ++ [b]) (pS t b) := by
  obtain ⟨h1, h2, h3⟩ := pE_zero he
  have e : vers (pS t b) = vers t ++ [(t.2.2.2, t.2.2.1.length, b)] := by
    unfold pS vers
    rw [if_pos he]
    simp only
    rw [plc_snoc, List.append_assoc]
  have hn := h.next
  refine ⟨pS_ok he, ?_, ?_, fun o j => ?_, fun x hx => ?_, fun x hx => ?_, fun c hc => ?_⟩
  · unfold pS; rw [if_pos he]; exact h.slot
  · unfold pS; rw [if_pos he]; exact h.next
  · rw [pS_last he]
    by_cases hk : o = b.1 ∧ j = b.2.1
    · rw [if_pos hk, hk.1, hk.2, hb]
    · rw [if_neg hk]; exact h.got o j
  · rw [e] at hx
    rcases List.mem_append.1 hx with hx | hx
    · rcases h.old x hx with c | ⟨c1, c2⟩
      · exact .inl c
      · exact .inr ⟨c1, List.mem_append_left _ c2⟩
    · rw [List.mem_singleton.1 hx]
      exact .inr ⟨by simp only; omega, List.mem_append_right _ (List.mem_singleton.2 rfl)⟩
  · rw [e]; exact List.mem_append_left _ (h.kept x hx)
  · rw [e]
    rcases List.mem_append.1 hc with hc | hc
    · obtain ⟨x, hx, h5⟩ := h.new c hc
      exact ⟨x, List.mem_append_left _ hx, h5⟩
    · rw [List.mem_singleton.1 hc]
      exact ⟨_, List.mem_append_right _ (List.mem_singleton.2 rfl), by simp [isK], by simp only; omega⟩
theorem ptE_is {t : St} {b : Bk} (h : Ok t) (hb : mayB b = true) : (t.2.2.1.length < 8 ∧ ptE t b = 0 ∧ pE t b = 0 ∧ ptS t b = pS t b) ∨ (t.2.2.1.length = 8 ∧ sE t = 0 ∧ ptE t b = 0 ∧ pE (sS t) b = 0 ∧ ptS t b = pS (sS t) b) ∨ (t.2.2.1.length = 8 ∧ sE t ≠ 0 ∧ ptE t b = sE t ∧ ptS t b = s0) := by
  have := h.few
  unfold ptE ptS
  by_cases c : t.2.2.1.length = 8
  · rw [if_pos c, if_pos c]
    by_cases d : sE t = 0
    · rw [if_pos d, if_pos d]
      have : pE (sS t) b = 0 := pE_ok (sS_ok d) hb (by rw [sS_is d]; simp)
      exact .inr (.inl ⟨c, d, this, this, rfl⟩)
    · rw [if_neg d, if_neg d]
      exact .inr (.inr ⟨c, d, rfl, rfl⟩)
  · rw [if_neg c, if_neg c]
    have : pE t b = 0 := pE_ok h hb (by omega)
    exact .inl ⟨by omega, this, this, rfl⟩
theorem Mvd.pt {s t : St} {p : Sg} {i : Nat} {l : List Bk} {b : Bk} (h : Mvd s p i l t) (hf : freeB p = false) (hp : p.1 < s.2.2.2) (hm : mayB b = true) (hb : (last s b.1 b.2.1).1.2.2 = b.2.2) (he : ptE t b = 0) : Mvd s p i (l ++ [b]) (ptS t b) := by
  rcases ptE_is h.ok hm with ⟨_, _, h1, h2⟩ | ⟨_, h0, _, h1, h2⟩ | ⟨_, h0, h1, _⟩
  · rw [h2]; exact h.put hp hb h1
  · rw [h2]; exact (h.seal hf h0).put hp hb h1
  · rw [h1] at he; exact absurd he h0
theorem Mvd.all {s : St} {p : Sg} {i : Nat} (hf : freeB p = false) (hp : p.1 < s.2.2.2) : ∀ {m l : List Bk} {t : St}, Mvd s p i l t → (∀ b ∈ m, mayB b = true ∧ (last s b.1 b.2.1).1.2.2 = b.2.2) → mvE m t = 0 → Mvd s p i (l ++ m) (mvS m t)
  | [], l, t, h, _, _ => by rw [List.append_nil]; exact h
  | b :: m, l, t, h, hm, he => by
    unfold mvE at he
    split at he
    · rename_i h1
      obtain ⟨k1, k2⟩ := hm b (List.mem_cons_self ..)
      have := Mvd.all hf hp (h.pt hf hp k1 k2 h1) (fun c hc => hm c (List.mem_cons_of_mem _ hc)) he
      rw [List.append_assoc] at this
      unfold mvS
      rw [if_pos h1]
      exact this
    · rename_i h1
      exact absurd he h1
theorem two_of_count {l : List Ver} {o i : Int} (hw : WV l) (h : 1 < (kn l o i).2.2.2) : ∃ x ∈ l, ∃ y ∈ l, x ≠ y ∧ isK o i x = true ∧ isK o i y = true := by
  rw [kn_count] at h
  match e : l.filter (isK o i) with
  | [] => rw [e] at h; simp at h
  | [a] => rw [e] at h; simp at h
  | a :: b :: m =>
    have ma : a ∈ l.filter (isK o i) := by rw [e]; exact List.mem_cons_self ..
    have mb : b ∈ l.filter (isK o i) := by rw [e]; exact List.mem_cons_of_mem _ (List.mem_cons_self ..)
    have hs : (a :: b :: m).Pairwise fun y z => y.1 = z.1 → y.2.1 < z.2.1 := by rw [← e]; exact hw.up.filter _
    refine ⟨a, (List.mem_filter.1 ma).1, b, (List.mem_filter.1 mb).1, fun c => ?_, (List.mem_filter.1 ma).2, (List.mem_filter.1 mb).2⟩
    have := (List.pairwise_cons.1 hs).1 b (List.mem_cons_self ..) (by rw [c])
    rw [c] at this
    omega
theorem Mvd.dead {s t : St} {p : Sg} {i : Nat} (h : Mvd s p i (lvs s p.1 p.2) t) (hs : Ok s) (hp : s.1[i]? = some p) : lvs t p.1 p.2 = [] := by
  have w1 := hs.wv
  have w2 := h.ok.wv
  refine List.eq_nil_iff_forall_not_mem.2 fun b hb => ?_
  obtain ⟨c, h1, h2⟩ := lvs_iff.1 hb
  obtain ⟨l1, l2, l3⟩ := isLive_iff.1 h2
  simp only at l1 l2 l3
  have hv : ((p.1, c, b) : Ver) ∈ vers s := vers_iff.2 (.inl ⟨p, List.mem_of_getElem? hp, rfl, h1⟩)
  have hv2 := h.kept _ hv
  have kb : isK b.1 b.2.1 (p.1, c, b) = true := by simp [isK]
  have hlast : IsLast (vers t) b.1 b.2.1 (p.1, c, b) := by
    unfold last at l1 l2
    rcases kn_last b.1 b.2.1 (vers t) w2 with ⟨g1, _⟩ | ⟨x, g1, g2, g3, g4⟩
    · have := g1 _ hv2; rw [kb] at this; cases this
    · have : x = (p.1, c, b) := w2.one g1.mem hv2 (by rw [← g3, l1]) (by rw [← g4, l2])
      rw [← this]
      exact g1
  have hkind : ∀ y ∈ vers t, isK b.1 b.2.1 y = true → y ∈ vers s := fun y hy ky => by
    rcases h.old y hy with c1 | ⟨c1, c2⟩
    · exact c1
    · have := hlast.max y hy ky
      unfold vLe at this
      simp only at this
      omega
  have hl2 : IsLast (vers s) b.1 b.2.1 (p.1, c, b) := ⟨hv, kb, fun y hy ky => hlast.max y (h.kept y hy) ky⟩
  have hkn : (last s b.1 b.2.1).2.1 = p.1 ∧ (last s b.1 b.2.1).2.2.1 = c := by
    unfold last
    rcases kn_last b.1 b.2.1 (vers s) w1 with ⟨g1, _⟩ | ⟨x, g1, _, g3, g4⟩
    · have := g1 _ hv; rw [kb] at this; cases this
    · have : x = (p.1, c, b) := g1.eq w1 hl2
      rw [g3, g4, this]
      exact ⟨rfl, rfl⟩
  have hbs : b ∈ lvs s p.1 p.2 := by
    refine lvs_iff.2 ⟨c, h1, isLive_iff.2 ⟨hkn.1, hkn.2, ?_⟩⟩
    rcases l3 with l3 | l3
    · exact .inl l3
    · right
      obtain ⟨x, hx, y, hy, hne, kx, ky⟩ := two_of_count w2 l3
      exact two_count (hkind x hx kx) (hkind y hy ky) hne kx ky
  obtain ⟨x, hx, kx, hlt⟩ := h.new b hbs
  have := hlast.max x hx kx
  unfold vLe at this
  simp only at this
  omega
theorem live_may {s : St} {p : Sg} {i : Nat} (h : Ok s) (hp : s.1[i]? = some p) {b : Bk} (hb : b ∈ lvs s p.1 p.2) : mayB b = true ∧ (last s b.1 b.2.1).1.2.2 = b.2.2 := by
  refine ⟨h.data p (List.mem_of_getElem? hp) b (lvs_mem hb), ?_⟩
  obtain ⟨c, h2, h3⟩ := lvs_iff.1 hb
  obtain ⟨l1, l2, _⟩ := isLive_iff.1 h3
  simp only at l1 l2
  unfold last at l1 l2 ⊢
  have hm : ((p.1, c, b) : Ver) ∈ vers s := vers_iff.2 (.inl ⟨p, List.mem_of_getElem? hp, rfl, h2⟩)
  rcases kn_last b.1 b.2.1 (vers s) h.wv with ⟨g1, _⟩ | ⟨x, g1, g2, g3, g4⟩
  · have := g1 _ hm; simp [isK] at this
  · have : x = (p.1, c, b) := h.wv.one g1.mem hm (by rw [← g3, l1]) (by rw [← g4, l2])
    rw [g2, this]
/-- What Clean's parts are where it is not refused ahead. -/
theorem mov_ok {s : St} {p : Sg} {i : Nat} (h : Ok s) (hp : s.1[i]? = some p) (hf : freeB p = false) (he : movE (lvs s p.1 p.2) s = 0) : Mvd s p i (lvs s p.1 p.2) (movS (lvs s p.1 p.2) s) := by
  have h9 := (h.each p (List.mem_of_getElem? hp) hf).2
  obtain ⟨l, hl⟩ : ∃ l, l = lvs s p.1 p.2 := ⟨_, rfl⟩
  have hm : ∀ b ∈ l, mayB b = true ∧ (last s b.1 b.2.1).1.2.2 = b.2.2 := fun b hb => live_may h hp (by rw [← hl]; exact hb)
  rw [← hl] at he ⊢
  unfold movE at he
  unfold movS
  by_cases c : l = []
  · rw [if_pos c, c]
    exact Mvd.start h hp
  · rw [if_neg c] at he ⊢
    split at he
    · rename_i h1
      rw [if_pos h1]
      have := Mvd.all hf h9 (Mvd.start h hp) hm h1
      rw [List.nil_append] at this
      exact this.seal hf he
    · rename_i h1
      exact absurd he h1
theorem clE_zero {s : St} {k q : Int} (h : clE s k q = 0) : uE s k = 0 ∧ (slotOf s k).1 = q ∧ movE (lL s k) s = 0 := by
  unfold clE at h
  split at h
  · split at h
    · rename_i h1 h2; exact ⟨h1, h2, h⟩
    · cases h
  · rename_i h1; exact absurd h h1
theorem cl_parts {s : St} {k q : Int} (h : clE s k q = 0) : ∃ (i : Nat) (p : Sg), k = i ∧ Ok s ∧ s.1[i]? = some p ∧ freeB p = false ∧ p.1 = q ∧ Mvd s p i (lL s k) (movS (lL s k) s) ∧ lvs (movS (lL s k) s) p.1 p.2 = [] := by
  obtain ⟨h1, h2, h3⟩ := clE_zero h
  obtain ⟨h4, i, p, rfl, hi, hp, e, hf⟩ := uE_zero h1
  have hl : lL s (i : Int) = lvs s p.1 p.2 := by unfold lL; rw [if_pos h1, e]
  rw [hl] at h3 ⊢
  rw [e] at h2
  have hM := mov_ok h4 hp hf h3
  exact ⟨i, p, rfl, h4, hp, hf, h2, hM, hM.dead h4 hp⟩
/-- The program's last step, Free, is not refused. -/
theorem cl_free {s : St} {k q : Int} (h : clE s k q = 0) : fE (movS (lL s k) s) k = 0 ∧ fS (movS (lL s k) s) k = clS s k q := by
  obtain ⟨i, p, rfl, h4, hp, hf, h2, hM, hd⟩ := cl_parts h
  obtain ⟨t, ht⟩ : ∃ t, t = movS (lL s (i : Int)) s := ⟨_, rfl⟩
  have e : clS s (i : Int) q = unS t i := by unfold clS; rw [if_pos h, ← ht]; simp
  rw [← ht] at hM hd ⊢
  have hu : uE t (i : Int) = 0 := by
    unfold uE usedB
    rw [ok_iff.2 hM.ok]
    simp [hM.slot, hf]
  have hsl : slotOf t (i : Int) = p := by unfold slotOf; simp [hM.slot]
  have hE : fE t (i : Int) = 0 := by
    unfold fE lL
    rw [if_pos hu, if_pos hu, hsl, hd]
    rfl
  exact ⟨hE, by rw [fS_is hE, e]; simp⟩
theorem clS_ok {s : St} {k q : Int} (h : clE s k q = 0) : Ok (clS s k q) := by
  rw [← (cl_free h).2]
  exact fS_ok (cl_free h).1
/-- Nothing is lost. -/
theorem clS_last {s : St} {k q : Int} (h : clE s k q = 0) (o i : Int) : (last (clS s k q) o i).1.2.2 = (last s o i).1.2.2 := by
  obtain ⟨_, _, _, _, _, _, _, hM, _⟩ := cl_parts h
  rw [← (cl_free h).2, fS_last (cl_free h).1]
  exact hM.got o i
theorem clS_free {s : St} {k q : Int} (h : clE s k q = 0) : ∃ i : Nat, k = i ∧ i < (clS s k q).1.length ∧ (clS s k q).1[i]? = some (0, []) := by
  obtain ⟨i, p, rfl, h4, hp, hf, h2, hM, hd⟩ := cl_parts h
  have e : clS s (i : Int) q = unS (movS (lL s (i : Int)) s) i := by unfold clS; rw [if_pos h]; simp
  have hi := (List.getElem?_eq_some_iff.1 hM.slot).1
  refine ⟨i, rfl, ?_, ?_⟩
  · rw [e]; unfold unS; simpa using hi
  · rw [e]; unfold unS; simp only; rw [List.getElem?_set_self hi]
theorem clS_no {s : St} {k q : Int} (h : clE s k q ≠ 0) : clS s k q = s0 := if_neg h

end Go.Proofs.Ytkpckadicjdieab
