/-
  Plain mathematics: what is made and taken away again leaves all as it was, but the next number; what a directory's names lead to; a file's two names.
  Plain mathematics: what is renamed is found by the new name, and by the old one no more; renamed back all is as it was, if nothing stood there.
-/
import Derived.Test.YtkcnephbaffmbaaGreatDoorP43
namespace Go.Proofs.YtkcnephbaffmbaaGreatDoor
open D (En nameOk inoOk Good Chk there fnd ins del aerr)
open F (Fl chk rdE rdO)
open P (serr sval)
theorem wlk_mono {l l' : List Nd} (h : ∀ n ∈ l, isD n = true → ∃ n' ∈ l', n'.1 = n.1 ∧ isD n' = true ∧ ∀ e ∈ en n, e ∈ en n') : ∀ {xs : List ByteArray} {i c : Int}, Wlk l i xs c → Wlk l' i xs c
  | [], _, _, hw => hw
  | _ :: _, _, _, ⟨n, hn, h1, h2, d, hd, hw⟩ => by
    obtain ⟨n', hn', e1, e2, e3⟩ := h n hn h2
    exact ⟨n', hn', e1.trans h1, e2, d, e3 _ hd, wlk_mono h hw⟩
theorem wlk_of {s : St} (hK : Wk s) {xs : List ByteArray} {n : Nd} (hn : n ∈ s.1) (h : Wlk s.1 1 xs n.1) : wlk s.1 1 xs = (n.1, 0) ∧ tgt s xs = n := by
  obtain ⟨h1, h2⟩ := (wlk_root hK).2 h
  refine ⟨Prod.ext h2 h1, ?_⟩
  unfold tgt
  rw [h2]; exact gt_of hK.up hn
theorem ch_back {l : List Nd} (hU : Ups l) {p : Nd} (hp : p ∈ l) (A : List En) : ch (ch l p.1 (wE A)) p.1 (wE (en p)) = l := by
  unfold ch
  rw [List.map_map]
  conv => rhs; rw [← List.map_id l]
  apply List.map_congr_left
  intro n hn
  simp only [Function.comp, id]
  by_cases h : n.1 = p.1
  · obtain rfl := ups_eq hU hn hp h
    rw [if_pos rfl]
    rw [if_pos (show (wE A n).1 = n.1 from rfl)]
    rfl
  · rw [if_neg h, if_neg h]
theorem made_walk {s : St} (h : Ok s) {xs : List ByteArray} (hl : xs.length ≤ 8) (he : mkE s xs = 0) (b : Bool) :
    wlk (mkN s (hold s xs) (lst xs) b).1 1 xs = (s.2, 0) ∧ tgt (mkN s (hold s xs) (lst xs) b) xs = newN s.2 b ∧ hold (mkN s (hold s xs) (lst xs) b) xs = wE (ins (en (hold s xs)) (lst xs, s.2)) (hold s xs) := by
  have hO := mk_ok h hl he b
  obtain ⟨h1, h2, h3, h4⟩ := mk_zero h he
  obtain ⟨v1, v2, v3, v4, v5, v6⟩ := vac_zero h.wk h1
  have hp' : wE (ins (en (hold s xs)) (lst xs, s.2)) (hold s xs) ∈ (mkN s (hold s xs) (lst xs) b).1 := List.mem_append_left _ ((mem_ch' h.wk.up v3).2 (.inr rfl))
  have hn' : newN s.2 b ∈ (mkN s (hold s xs) (lst xs) b).1 := List.mem_append_right _ (List.mem_singleton.2 rfl)
  have hw : Wlk (mkN s (hold s xs) (lst xs) b).1 1 (ahd xs) (wE (ins (en (hold s xs)) (lst xs, s.2)) (hold s xs)).1 := by
    refine wlk_mono (fun n hn hd => ?_) (hold_wlk h.wk v2).2
    by_cases hc : n.1 = (hold s xs).1
    · obtain rfl := ups_eq h.wk.up hn v3 hc
      exact ⟨_, hp', rfl, hd, fun e he => D.mem_ins.2 (.inr he)⟩
    · exact ⟨n, List.mem_append_left _ ((mem_ch' h.wk.up v3).2 (.inl ⟨hn, hc⟩)), rfl, hd, fun _ h => h⟩
  have hw2 : Wlk (mkN s (hold s xs) (lst xs) b).1 1 xs (newN s.2 b).1 := by
    have := (wlk_snoc (l := (mkN s (hold s xs) (lst xs) b).1) (xs := ahd xs) (x := lst xs) (i := 1) (c := (newN s.2 b).1)).2 ⟨_, hp', hw, v5, D.mem_ins.2 (.inl rfl)⟩
    rwa [← ahd_lst v1] at this
  obtain ⟨g1, g2⟩ := wlk_of hO.wk hn' hw2
  exact ⟨g1, g2, (wlk_of hO.wk hp' hw).2⟩
theorem made_gone {s : St} (h : Ok s) {xs : List ByteArray} (hl : xs.length ≤ 8) (he : mkE s xs = 0) (b : Bool) :
    dropN (mkN s (hold s xs) (lst xs) b) (hold (mkN s (hold s xs) (lst xs) b) xs) (lst xs) (tgt (mkN s (hold s xs) (lst xs) b) xs) = (s.1, s.2 + 1) := by
  obtain ⟨_, m2, m3⟩ := made_walk h hl he b
  obtain ⟨h1, h2, h3, h4⟩ := mk_zero h he
  obtain ⟨v1, v2, v3, v4, v5, v6⟩ := vac_zero h.wk h1
  rw [m2, m3]
  unfold dropN
  rw [if_pos (show lk (newN s.2 b) = 1 from rfl)]
  have e1 : del (en (wE (ins (en (hold s xs)) (lst xs, s.2)) (hold s xs))) (lst xs) = en (hold s xs) := D.ins_del' (e := (lst xs, s.2)) (h.wk.dirs _ v3 v5).1
  rw [e1]
  refine Prod.ext ?_ rfl
  show rm (ch (ch s.1 (hold s xs).1 (wE (ins (en (hold s xs)) (lst xs, s.2))) ++ [newN s.2 b]) (hold s xs).1 (wE (en (hold s xs)))) s.2 = s.1
  have e2 : ∀ (a c : List Nd) (i : Int) (f : Nd → Nd), ch (a ++ c) i f = ch a i f ++ ch c i f := fun a c i f => List.map_append
  have hlow := (h.wk.low _ v3).2
  rw [e2, ch_back h.wk.up v3]
  have e3 : ch [newN s.2 b] (hold s xs).1 (wE (en (hold s xs))) = [newN s.2 b] := by
    show [if s.2 = (hold s xs).1 then _ else newN s.2 b] = _
    rw [if_neg (by omega)]
  rw [e3]
  unfold rm
  rw [List.filter_append, List.filter_eq_self.2 (fun n hn => by have := (h.wk.low n hn).2; simp; omega)]
  simp [newN]
theorem made_file {s : St} (h : Ok s) {xs : List ByteArray} (hl : xs.length ≤ 8) (he : mkE s xs = 0) : filE (mkN s (hold s xs) (lst xs) false).1 xs = 0 := by
  obtain ⟨m1, m2, _⟩ := made_walk h hl he false
  unfold filE
  rw [if_pos (by rw [m1])]
  have : isD (tgt (mkN s (hold s xs) (lst xs) false) xs) = false := by rw [m2]; rfl
  unfold tgt at this
  rw [this]; rfl
theorem made_dir {s : St} (h : Ok s) {xs : List ByteArray} (hl : xs.length ≤ 8) (he : mkE s xs = 0) : rmE (mkN s (hold s xs) (lst xs) true) xs = 0 := by
  obtain ⟨m1, m2, _⟩ := made_walk h hl he true
  obtain ⟨h1, h2, h3, h4⟩ := mk_zero h he
  obtain ⟨v1, v2, v3, v4, v5, v6⟩ := vac_zero h.wk h1
  have hd : dirE (mkN s (hold s xs) (lst xs) true).1 xs = 0 := by
    unfold dirE
    rw [if_pos (by rw [m1])]
    have : isD (tgt (mkN s (hold s xs) (lst xs) true) xs) = true := by rw [m2]; rfl
    unfold tgt at this
    rw [this]; rfl
  unfold rmE
  rw [if_neg v1, if_neg (by rw [hd]; exact fun c => c rfl), m2]
  rfl
end Go.Proofs.YtkcnephbaffmbaaGreatDoor

namespace Go.Proofs.YtkcnephbaffmbaaGreatDoor
open D (En nameOk inoOk Good Chk there fnd ins del aerr)
open F (Fl chk)
structure Mv (t : St) (p q n : Nd) (x y : ByteArray) (xa ya : List ByteArray) : Prop where
  ok : Ok t
  hp : p ∈ t.1
  hq : q ∈ t.1
  hn : n ∈ t.1
  dp : isD p = true
  dq : isD q = true
  wp : Wlk t.1 1 xa p.1
  wq : Wlk t.1 1 ya q.1
  mem : (x, n.1) ∈ en p
  vac : there (qeN p x q) y = false
  nb : isD n = true → ∀ j, ¬ Way t.1 j n.1 q.1
  ne : ¬ (p.1 = q.1 ∧ x = y)
def mvd (p q : Nd) (x y : ByteArray) (i : Int) (m : Nd) : Nd := if m.1 = q.1 then wE (ins (qeN p x q) (y, i)) m else if m.1 = p.1 then wE (del (en p) x) m else m
theorem mvd_id (p q : Nd) (x y : ByteArray) (i : Int) (m : Nd) : (mvd p q x y i m).1 = m.1 ∧ isD (mvd p q x y i m) = isD m := by
  unfold mvd; split
  · exact ⟨rfl, rfl⟩
  · split <;> exact ⟨rfl, rfl⟩
theorem mov_map (t : St) (p q : Nd) (x y : ByteArray) (i : Int) : (movN t p x q y i).1 = t.1.map (mvd p q x y i) := by
  show ch (ch t.1 p.1 _) q.1 _ = _
  unfold ch
  rw [List.map_map]
  apply List.map_congr_left
  intro m _
  simp only [Function.comp]
  unfold mvd
  by_cases h1 : m.1 = p.1
  · rw [if_pos h1]
    by_cases h2 : m.1 = q.1
    · rw [if_pos h2, if_pos (show (wE (del (en p) x) m).1 = q.1 from h2)]; rfl
    · rw [if_neg h2, if_neg (show ¬ (wE (del (en p) x) m).1 = q.1 from h2)]
  · rw [if_neg h1]
theorem Mv.at {t : St} {p q n : Nd} {x y : ByteArray} {xa ya : List ByteArray} (_ : Mv t p q n x y xa ya) {m : Nd} (hm : m ∈ t.1) : mvd p q x y n.1 m ∈ (movN t p x q y n.1).1 := by
  rw [mov_map]; exact List.mem_map.2 ⟨m, hm, rfl⟩
theorem Mv.enp {t : St} {p q n : Nd} {x y : ByteArray} {xa ya : List ByteArray} (_ : Mv t p q n x y xa ya) : en (mvd p q x y n.1 p) = if p.1 = q.1 then ins (del (en p) x) (y, n.1) else del (en p) x := by
  unfold mvd
  split
  · rename_i e
    show ins (qeN p x q) (y, n.1) = _
    unfold qeN; rw [if_pos e.symm]
  · rw [if_pos rfl]; rfl
theorem Mv.enq {t : St} {p q n : Nd} {x y : ByteArray} {xa ya : List ByteArray} (_ : Mv t p q n x y xa ya) : en (mvd p q x y n.1 q) = ins (qeN p x q) (y, n.1) := by
  unfold mvd; rw [if_pos rfl]; rfl
theorem mem_dels {l : List En} (h : Chk l) {x z : ByteArray} {c d : Int} (hx : (x, c) ∈ l) (hz : (z, d) ∈ l) (hne : z ≠ x) : (z, d) ∈ del l x := by
  rcases List.mem_cons.1 (((D.del_perm h hx).mem_iff).1 hz) with k | k
  · exact absurd (Prod.ext_iff.1 k).1 hne
  · exact k
theorem Mv.walk {t : St} {p q n : Nd} {x y : ByteArray} {xa ya : List ByteArray} (M : Mv t p q n x y xa ya) : ∀ {zs : List ByteArray} {i c : Int}, Wlk t.1 i zs c → (∀ a b, zs = a ++ x :: b → ¬ Wlk t.1 i a p.1) → Wlk (movN t p x q y n.1).1 i zs c
  | [], _, _, h, _ => h
  | z :: r, i, c, ⟨m, hm, hi, hd, d, hzd, hr⟩, hno => by
    have hck := (M.ok.wk.dirs p M.hp M.dp).1
    have ih := M.walk hr fun a b e hw => hno (z :: a) b (by rw [e]; rfl) ⟨m, hm, hi, hd, d, hzd, hw⟩
    have hid := mvd_id p q x y n.1 m
    refine ⟨_, M.at hm, hid.1.trans hi, hid.2.trans hd, d, ?_, ih⟩
    have hpx : m.1 = p.1 → z ≠ x := fun e hz => hno [] r (by rw [hz]; rfl) (show i = p.1 by rw [← hi, e])
    by_cases h1 : m.1 = p.1
    · obtain rfl := ups_eq M.ok.wk.up hm M.hp h1
      rw [M.enp]
      split
      · exact D.mem_ins.2 (.inr (mem_dels hck M.mem hzd (hpx rfl)))
      · exact mem_dels hck M.mem hzd (hpx rfl)
    · unfold mvd
      split
      · rename_i h2
        obtain rfl := ups_eq M.ok.wk.up hm M.hq h2
        show (z, d) ∈ ins (qeN p x m) (y, n.1)
        unfold qeN; rw [if_neg h1]
        exact D.mem_ins.2 (.inr hzd)
      · try rw [if_neg h1]
        exact hzd
theorem Mv.old {t : St} {p q n : Nd} {x y : ByteArray} {xa ya : List ByteArray} (M : Mv t p q n x y xa ya) : Wlk (movN t p x q y n.1).1 1 xa p.1 := M.walk M.wp fun a b e hw => by
  have := congrArg List.length (M.ok.path M.hp M.dp hw M.wp)
  rw [e] at this
  simp at this
theorem Mv.new {t : St} {p q n : Nd} {x y : ByteArray} {xa ya : List ByteArray} (M : Mv t p q n x y xa ya) : Wlk (movN t p x q y n.1).1 1 ya q.1 := M.walk M.wq fun a b e hw => by
  have hW : Wlk t.1 1 (a ++ x :: b) q.1 := by rw [← e]; exact M.wq
  obtain ⟨d, h1, h2⟩ := wlk_append.1 hW
  obtain ⟨m, hm, hm1, hmd, d', hd', h3⟩ := h2
  have hck : ∀ n ∈ t.1, isD n = true → Chk (en n) := fun n hn hd => (M.ok.wk.dirs n hn hd).1
  have hpd := wlk_det M.ok.wk.up hck hw h1
  obtain rfl := ups_eq M.ok.wk.up hm M.hp (by rw [hm1, hpd])
  obtain rfl := D.name_one (hck _ hm hmd) hd' M.mem
  have hd : isD n = true := by
    cases b with
    | nil =>
      have e2 : n.1 = q.1 := h3
      rw [ups_eq M.ok.wk.up M.hn M.hq e2]; exact M.dq
    | cons z r =>
      obtain ⟨k, hk, hk1, hkd, _⟩ := h3
      rw [← ups_eq M.ok.wk.up hk M.hn hk1]; exact hkd
  exact M.nb hd _ (wlk_way M.ok.wk.up h3)
theorem Mv.found {t : St} {p q n : Nd} {x y : ByteArray} {xa ya : List ByteArray} (M : Mv t p q n x y xa ya) : Wlk (movN t p x q y n.1).1 1 (ya ++ [y]) n.1 := by
  have hid := mvd_id p q x y n.1 q
  refine wlk_snoc.2 ⟨_, M.at M.hq, by rw [hid.1]; exact M.new, hid.2.trans M.dq, ?_⟩
  rw [M.enq]; exact D.mem_ins.2 (.inl rfl)
theorem Mv.none {t : St} {p q n : Nd} {x y : ByteArray} {xa ya : List ByteArray} (M : Mv t p q n x y xa ya) : there (en (mvd p q x y n.1 p)) x = false := by
  have hck := (M.ok.wk.dirs p M.hp M.dp).1
  cases ht : there (en (mvd p q x y n.1 p)) x
  · rfl
  · exfalso
    obtain ⟨c, hc⟩ := D.there_mem.1 ht
    rw [M.enp] at hc
    split at hc
    · rename_i e
      rcases D.mem_ins.1 hc with k | k
      · exact M.ne ⟨e, (Prod.ext_iff.1 k).1⟩
      · exact D.del_none hck _ k rfl
    · exact D.del_none hck _ hc rfl
theorem Mv.gone {t : St} {p q n : Nd} {x y : ByteArray} {xa ya : List ByteArray} (M : Mv t p q n x y xa ya) (hO : Ok (movN t p x q y n.1)) : (wlk (movN t p x q y n.1).1 1 (xa ++ [x])).2 ≠ 0 := fun h0 => by
  have hid := mvd_id p q x y n.1 p
  obtain ⟨m, hm, hw, hd, hx⟩ := wlk_snoc.1 ((wlk_root hO.wk).1 ⟨h0, rfl⟩)
  have h1 := wlk_det hO.wk.up (fun n hn hd => (hO.wk.dirs n hn hd).1) hw M.old
  have h2 := ups_eq hO.wk.up hm (M.at M.hp) (by rw [hid.1, h1])
  rw [h2] at hx
  have := M.none
  rw [D.there_mem.2 ⟨_, hx⟩] at this
  cases this
theorem dpt_way {l : List Nd} : ∀ (k : Nat) (i : Int), ∃ x, Way l (dpt l k i) i x
  | 0, i => ⟨i, rfl⟩
  | k + 1, i => by
    have hg : ∀ (es : List En) (m : Nat), (∀ e ∈ es, e ∈ kid l i) → (∃ x, Way l m i x) → ∃ x, Way l (es.foldl (fun m e => max m (1 + dpt l k e.2)) m) i x := by
      intro es
      induction es with
      | nil => intro m _ h; exact h
      | cons e r ih =>
        intro m hs hm
        rw [List.foldl_cons]
        refine ih _ (fun f hf => hs f (List.mem_cons_of_mem _ hf)) ?_
        rcases Nat.le_total m (1 + dpt l k e.2) with c | c
        · rw [Nat.max_eq_right c]
          obtain ⟨x, hx⟩ := dpt_way (l := l) k e.2
          refine ⟨x, ?_⟩
          rw [Nat.add_comm]
          exact ⟨e, hs e (List.mem_cons_self ..), hx⟩
        · rw [Nat.max_eq_left c]; exact hm
    rw [dpt]
    exact hg _ 0 (fun _ h => h) ⟨i, rfl⟩
theorem way_join {l : List Nd} : ∀ {a b : Nat} {i j x : Int}, Way l a i j → Way l b j x → Way l (a + b) i x
  | 0, b, i, j, x, h, h2 => by
    have h' : i = j := h
    subst h'
    rw [Nat.zero_add]; exact h2
  | a + 1, b, i, j, x, ⟨e, he, h⟩, h2 => by
    rw [show a + 1 + b = (a + b) + 1 by omega]
    exact ⟨e, he, way_join h h2⟩
theorem deep_all {s : St} (h : Ok s) {k : Nat} {i : Int} (hw : Way s.1 k 1 i) : k + dpt s.1 8 i ≤ 8 := by
  have hB := (h.1.deep.1 h.2).1
  obtain ⟨x, hx⟩ := dpt_way (l := s.1) 8 i
  exact way_cut hB (way_join hw hx)
theorem ren_mv {s : St} (h : Ok s) {xs ys : List ByteArray} (he : renE s xs ys = 0) (hst : stdT s.1 ys ≠ (tgt s xs).1) :
    ∃ q n, n.1 = (tgt s xs).1 ∧ Mv (ren1 s ys) (hold (ren1 s ys) xs) q n (lst xs) (lst ys) (ahd xs) (ahd ys) ∧ renS s xs ys = movN (ren1 s ys) (hold (ren1 s ys) xs) (lst xs) q (lst ys) n.1 ∧ (ren1 s ys).2 = s.2 ∧ q.1 = (hold s ys).1 := by
  obtain ⟨c1, c2, q, hq, hq1, hq2, hw, c3, hS, hae, hkid⟩ := ren_move h he hst
  obtain ⟨hx0, hy0, hx, hs, hnb, hrest⟩ := ren_zero he
  obtain ⟨hcw, _, hlong⟩ := hrest hst
  obtain ⟨y1, y2, y3, y4, y5⟩ := std_zero h.wk hs
  obtain ⟨b1, b2, b3, b4, b5⟩ := c1.wk.stands hx0 (by rw [c2])
  obtain ⟨z1, z2, z3⟩ := c1.wk.lead (xs := xs) (by rw [c2])
  obtain ⟨cc1, cc2, cc3, cc4, cc5, -⟩ := ren_clear h hx0 hy0 hx hs hst hcw
  have hN1 : (tgt (ren1 s ys) xs).1 = (tgt s xs).1 := by rw [← z2, c2]
  obtain ⟨a1, a2, a3, a4, a5⟩ := aerr_zero hae
  refine ⟨q, tgt (ren1 s ys) xs, hN1, ⟨c1, b1, hq, z1, b3, hq2, (hold_wlk c1.wk (by rw [b2])).2, hw, b4, a4, fun hd j hj => ?_, fun ⟨e1, e2⟩ => ?_⟩, by rw [hS, hN1], c3, hq1⟩
  · rw [hN1, hq1] at hj
    have hj' := way_sub hkid hj
    by_cases hds : isD (tgt s xs) = true
    · exact not_below h hy0 hx y1 y4 (hnb hds) j hj'
    · cases j with
      | zero =>
        have e2 : (tgt s xs).1 = (hold s ys).1 := hj'
        rw [ups_eq h.wk.up (h.wk.lead hx).1 y2 e2] at hds
        exact hds y4
      | succ n =>
        obtain ⟨e, he', _⟩ := hj'
        rw [kid_of h.wk.up (h.wk.lead hx).1] at he'
        exact hds (h.wk.dir (h.wk.lead hx).1 he')
  · apply hst
    obtain ⟨w1, w2, w3, w4, w5⟩ := h.wk.stands hx0 hx
    have e3 : hold s xs = hold s ys := ups_eq h.wk.up w1 y2 (by rw [← cc4, e1, hq1])
    rw [y5]
    unfold entC
    rw [if_neg (by rw [y4]; decide), ← e3, ← e2, if_neg (by rw [w5]; decide)]
    exact D.fnd_mem (h.wk.dirs _ w1 w3).1 w4
theorem std_of_walk {s : St} (h : Ok s) {ys : List ByteArray} (hy0 : ys ≠ []) (hw : (wlk s.1 1 ys).2 = 0) : stdT s.1 ys = (wlk s.1 1 ys).1 ∧ stdE s.1 ys = 0 := by
  obtain ⟨w1, w2, w3, w4, w5⟩ := h.wk.stands hy0 hw
  have hE : stdE s.1 ys = 0 := by
    unfold stdE
    rw [w2, if_pos rfl, gt_of h.wk.up w1, if_pos w3]
  refine ⟨?_, hE⟩
  obtain ⟨y1, y2, y3, y4, y5⟩ := std_zero h.wk hE
  rw [y5]
  unfold entC
  rw [if_neg (by rw [y4]; decide), if_neg (by rw [w5]; decide)]
  rw [D.fnd_mem (h.wk.dirs _ w1 w3).1 w4, (h.wk.lead hw).2.1]
theorem walk_of_std {s : St} (h : Ok s) {ys : List ByteArray} (hy0 : ys ≠ []) (hE : stdE s.1 ys = 0) (hT : stdT s.1 ys ≠ 0) : (wlk s.1 1 ys).2 = 0 := by
  obtain ⟨y1, y2, y3, y4, y5⟩ := std_zero h.wk hE
  rw [y5] at hT
  unfold entC at hT
  rw [if_neg (by rw [y4]; decide)] at hT
  split at hT
  · exact absurd rfl hT
  rename_i ht
  obtain ⟨c, hc⟩ := D.there_mem.1 (by simpa using ht)
  have := wlk_snoc.2 ⟨_, y2, (hold_wlk h.wk y1).2, y4, hc⟩
  rw [← ahd_lst hy0] at this
  exact ((wlk_root h.wk).2 this).1
theorem ino_pos {s : St} (h : Ok s) {xs : List ByteArray} (hx : (wlk s.1 1 xs).2 = 0) : 1 ≤ (tgt s xs).1 ∧ (wlk s.1 1 xs).1 = (tgt s xs).1 := ⟨(h.wk.low _ (h.wk.lead hx).1).1, (h.wk.lead hx).2.1⟩
theorem there_same {s : St} (h : Ok s) {xs ys : List ByteArray} (he : renE s xs ys = 0) (hst : stdT s.1 ys = (tgt s xs).1) : renS s xs ys = s ∧ (wlk s.1 1 xs).2 = 0 ∧ wlk s.1 1 ys = wlk s.1 1 xs := by
  obtain ⟨hx0, hy0, hx, hs, -, -⟩ := ren_zero he
  obtain ⟨p1, p2⟩ := ino_pos h hx
  have hw := walk_of_std h hy0 hs (by omega)
  refine ⟨by unfold renS; rw [if_pos hst], hx, Prod.ext ?_ (by rw [hw, hx])⟩
  rw [← (std_of_walk h hy0 hw).1, hst, p2]
theorem there_moved {s : St} (h : Ok s) {xs ys : List ByteArray} (hl : ys.length ≤ 8) (he : renE s xs ys = 0) (hst : stdT s.1 ys ≠ (tgt s xs).1) :
    (wlk s.1 1 xs).2 = 0 ∧ Ok (renS s xs ys) ∧ wlk (renS s xs ys).1 1 ys = ((wlk s.1 1 xs).1, 0) ∧ (wlk (renS s xs ys).1 1 xs).2 ≠ 0 ∧ ((wlk s.1 1 ys).2 = 0 → (wlk s.1 1 ys).1 ≠ (wlk s.1 1 xs).1) ∧
    ((renS s xs ys).1.length = s.1.length ∨ (renS s xs ys).1.length + 1 = s.1.length) := by
  obtain ⟨hx0, hy0, hx, hs, -, hrest⟩ := ren_zero he
  obtain ⟨hcw, -, -⟩ := hrest hst
  obtain ⟨p1, p2⟩ := ino_pos h hx
  obtain ⟨q, n, hn, M, hS, hnx, hq1⟩ := ren_mv h he hst
  have hO := rename_ok h hl he
  have hO' := hO
  rw [hS] at hO'
  refine ⟨hx, hO, ?_, ?_, fun hy e => hst ?_, ?_⟩
  · have hf := M.found
    rw [← ahd_lst hy0, ← hS] at hf
    obtain ⟨g1, g2⟩ := (wlk_root hO.wk).2 hf
    rw [p2, ← hn]
    exact Prod.ext g2 g1
  · have := M.gone hO'
    rw [← ahd_lst hx0, ← hS] at this
    exact this
  · rw [(std_of_walk h hy0 hy).1, e, p2]
  · rw [hS, mov_map, List.length_map]
    unfold ren1
    split
    · exact .inl rfl
    · rename_i h0
      obtain ⟨w1, w2⟩ := cw_zero h.wk (hcw h0)
      obtain ⟨z1, z2, z3⟩ := h.wk.lead w1
      obtain ⟨q1, q2, q3, q4, q5⟩ := h.wk.stands hy0 w1
      unfold dropN
      split
      · right
        show (rm _ _).length + 1 = _
        have hmem : tgt s ys ∈ ch s.1 (hold s ys).1 (wE (del (en (hold s ys)) (lst ys))) := (mem_ch' h.wk.up q1).2 (.inl ⟨z1, fun e => by rw [← ups_eq h.wk.up z1 q1 e, w2] at q4; cases q4⟩)
        have hU := ups_ch (l := s.1) (i := (hold s ys).1) (f := wE (del (en (hold s ys)) (lst ys))) (fun _ => rfl) h.wk.up
        obtain ⟨k, hk⟩ := List.getElem?_of_mem hmem
        rw [← erase_rm hU hk, List.length_eraseIdx_of_lt (List.getElem?_eq_some_iff.1 hk).1, ch_length]
        have := (List.getElem?_eq_some_iff.1 hk).1
        rw [ch_length] at this
        omega
      · left
        show (ch (ch _ _ _) _ _).length = _
        rw [ch_length, ch_length]
theorem ch_set {l : List Nd} (hU : Ups l) {p : Nd} (hp : p ∈ l) (A B : List En) (hB : B = en p) : ch (ch l p.1 (wE A)) p.1 (wE B) = l := by rw [hB]; exact ch_back hU hp A
theorem there_back {s : St} (h : Ok s) {xs ys : List ByteArray} (hl : ys.length ≤ 8) (he : renE s xs ys = 0) (hy : (wlk s.1 1 ys).2 ≠ 0) :
    renE (renS s xs ys) ys xs = 0 ∧ renS (renS s xs ys) ys xs = s := by
  obtain ⟨hx0, hy0, hx, hs, hnb, hrest⟩ := ren_zero he
  obtain ⟨p1, p2⟩ := ino_pos h hx
  have hT : stdT s.1 ys = 0 := Classical.byContradiction fun c => hy (walk_of_std h hy0 hs c)
  have hst : stdT s.1 ys ≠ (tgt s xs).1 := by omega
  obtain ⟨hcw, hae, hlong⟩ := hrest hst
  have hr1 : ren1 s ys = s := by unfold ren1; rw [if_pos hT]
  obtain ⟨q, n, hn, M, hS, hnx, hq1⟩ := ren_mv h he hst
  have hnamed := ren_named h hx0 hy0 hx hs hnb hst hcw hae
  have hr3 : (renS s xs ys).1 = ren3 s xs ys := by unfold renS; rw [if_neg hst]
  obtain ⟨-, hO, hfw, -, -, -⟩ := there_moved h hl he hst
  rw [hr1] at M hS
  obtain ⟨S, hSS⟩ : ∃ S, S = renS s xs ys := ⟨_, rfl⟩
  rw [← hSS] at hS hO hfw hr3 ⊢
  have hid := mvd_id (hold s xs) q (lst xs) (lst ys) n.1
  have hmp : mvd (hold s xs) q (lst xs) (lst ys) n.1 (hold s xs) ∈ S.1 := by rw [hS]; exact M.at M.hp
  have hmq : mvd (hold s xs) q (lst xs) (lst ys) n.1 q ∈ S.1 := by rw [hS]; exact M.at M.hq
  have hmn : mvd (hold s xs) q (lst xs) (lst ys) n.1 n ∈ S.1 := by rw [hS]; exact M.at M.hn
  have hwx : Wlk S.1 1 (ahd xs) (mvd (hold s xs) q (lst xs) (lst ys) n.1 (hold s xs)).1 := by rw [(hid _).1, hS]; exact M.old
  have hwy : Wlk S.1 1 (ahd ys) (mvd (hold s xs) q (lst xs) (lst ys) n.1 q).1 := by rw [(hid _).1, hS]; exact M.new
  obtain ⟨gx1, gx2⟩ := wlk_of hO.wk hmp hwx
  obtain ⟨gy1, gy2⟩ := wlk_of hO.wk hmq hwy
  have hfy : Wlk S.1 1 ys (mvd (hold s xs) q (lst xs) (lst ys) n.1 n).1 := by
    have := M.found
    rw [← ahd_lst hy0, ← hS] at this
    rw [(hid _).1]; exact this
  obtain ⟨gn1, gn2⟩ := wlk_of hO.wk hmn hfy
  have hpx : hold S xs = mvd (hold s xs) q (lst xs) (lst ys) n.1 (hold s xs) := gx2
  have hpy : hold S ys = mvd (hold s xs) q (lst xs) (lst ys) n.1 q := gy2
  have htn : (tgt S ys).1 = (tgt s xs).1 := by rw [gn2, (hid _).1, hn]
  have hsE : stdE S.1 xs = 0 := by
    unfold stdE
    rw [gx1, if_pos rfl, gt_of hO.wk.up hmp, (hid _).2, if_pos M.dp]
  obtain ⟨y1, y2, y3, y4, y5⟩ := std_zero hO.wk hsE
  have hsT : stdT S.1 xs = 0 := by
    rw [y5, hpx]
    unfold entC
    rw [(hid _).2, if_neg (by rw [M.dp]; decide), if_pos M.none]
  have hnst : stdT S.1 xs ≠ (tgt S ys).1 := by rw [hsT, htn]; omega
  have hr1' : ren1 S xs = S := by unfold ren1; rw [if_pos hsT]
  have hckp := (h.wk.dirs _ M.hp M.dp).1
  have hckq : Chk (qeN (hold s xs) (lst xs) q) := by
    unfold qeN; split
    · exact D.chk_del hckp
    · exact (h.wk.dirs _ M.hq M.dq).1
  have hr2 : ren2 S ys xs = ch s.1 (hold s xs).1 (wE (del (en (hold s xs)) (lst xs))) := by
    unfold ren2
    rw [hr1', hpy, (hid _).1, M.enq, hS]
    show ch (ch (ch s.1 (hold s xs).1 _) q.1 (wE (ins (qeN (hold s xs) (lst xs) q) (lst ys, n.1)))) q.1 _ = _
    have hU := ups_ch (l := s.1) (i := (hold s xs).1) (f := wE (del (en (hold s xs)) (lst xs))) (fun _ => rfl) h.wk.up
    have hd : del (ins (qeN (hold s xs) (lst xs) q) (lst ys, n.1)) (lst ys) = qeN (hold s xs) (lst xs) q := D.ins_del' (e := (lst ys, n.1)) hckq
    rw [hd]
    by_cases e : q.1 = (hold s xs).1
    · have hm : wE (del (en (hold s xs)) (lst xs)) (hold s xs) ∈ ch s.1 (hold s xs).1 (wE (del (en (hold s xs)) (lst xs))) := (mem_ch' h.wk.up M.hp).2 (.inr rfl)
      have := ch_set hU hm (ins (qeN (hold s xs) (lst xs) q) (lst ys, n.1)) (qeN (hold s xs) (lst xs) q) (by unfold qeN; rw [if_pos e]; rfl)
      rw [show (wE (del (en (hold s xs)) (lst xs)) (hold s xs)).1 = q.1 from e.symm] at this
      exact this
    · have hm : q ∈ ch s.1 (hold s xs).1 (wE (del (en (hold s xs)) (lst xs))) := (mem_ch' h.wk.up M.hp).2 (.inl ⟨M.hq, e⟩)
      exact ch_set hU hm _ _ (by unfold qeN; rw [if_neg e])
  have hI : stdI S.1 xs = (hold s xs).1 := by rw [y3, hpx, (hid _).1]
  have hU := ups_ch (l := s.1) (i := (hold s xs).1) (f := wE (del (en (hold s xs)) (lst xs))) (fun _ => rfl) h.wk.up
  have hmd : wE (del (en (hold s xs)) (lst xs)) (hold s xs) ∈ ch s.1 (hold s xs).1 (wE (del (en (hold s xs)) (lst xs))) := (mem_ch' h.wk.up M.hp).2 (.inr rfl)
  have hgt : gt (ren2 S ys xs) (stdI S.1 xs) = wE (del (en (hold s xs)) (lst xs)) (hold s xs) := by
    rw [hr2, hI]
    exact gt_of hU hmd
  have hgood := hckp.2.1 _ M.mem
  have hlen : (del (en (hold s xs)) (lst xs)).length < 63 := by
    have := (D.del_perm hckp M.mem).length_eq
    rw [List.length_cons] at this
    have := hckp.1
    omega
  have hnt : there (del (en (hold s xs)) (lst xs)) (lst xs) = false := by
    cases ht : there (del (en (hold s xs)) (lst xs)) (lst xs)
    · rfl
    · obtain ⟨c, hc⟩ := D.there_mem.1 ht
      exact absurd rfl (D.del_none hckp _ hc)
  have hae' : aerr (en (gt (ren2 S ys xs) (stdI S.1 xs))) (lst xs, (tgt S ys).1) = 0 := by
    rw [hgt, htn, ← hn]
    exact aerr_ok (D.chk_del hckp) hgood.1 hgood.2 hnt hlen
  constructor
  · unfold renE
    rw [if_neg (fun c => c.elim hy0 hx0), if_neg (by rw [gn1]; exact fun c => c rfl), if_neg (by rw [hsE]; exact fun c => c rfl)]
    rw [if_neg ?_, if_neg hnst, if_neg (by rw [hsT]; exact fun c => c.1 rfl), if_neg (by rw [hae']; exact fun c => c rfl)]
    · rw [if_neg ?_]
      rw [htn, hr3, hnamed.2.2.2]
      have := deep_all h (wlk_way h.wk.up (h.wk.lead hx).2.2)
      omega
    · rintro ⟨-, hB⟩
      unfold isB at hB
      rw [Bool.and_eq_true, decide_eq_true_eq, decide_eq_true_eq] at hB
      have hw : Wlk s.1 1 (xs.take ys.length ++ xs.drop ys.length) (tgt s xs).1 := by rw [List.take_append_drop]; exact (h.wk.lead hx).2.2
      obtain ⟨d, h1, -⟩ := wlk_append.1 hw
      rw [← hB.2] at h1
      exact hy ((wlk_root h.wk).2 h1).1
  · unfold renS
    rw [if_neg hnst]
    refine Prod.ext ?_ ?_
    · show ren3 S ys xs = s.1
      unfold ren3
      rw [hgt, hr2, hI, htn, ← hn]
      refine ch_set h.wk.up M.hp _ _ ?_
      exact D.del_ins' hckp M.mem
    · show S.2 = s.2
      rw [hS]; rfl
end Go.Proofs.YtkcnephbaffmbaaGreatDoor
