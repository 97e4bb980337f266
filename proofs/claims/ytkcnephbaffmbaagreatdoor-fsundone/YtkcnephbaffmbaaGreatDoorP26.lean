/-
  Plain mathematics: nodes changed one by one: what stays, and how links are counted then.
  Plain mathematics: what is made, taken away, linked, moved and written in a file system that may be makes one that may be.
  Plain mathematics: walks along names, from the root on.
  Nodes and file systems, the program's and the document's, as data; how they lie in memory.
-/
import Derived.Test.YtkcnephbaffmbaaGreatDoorP25
namespace Go.Proofs.YtkcnephbaffmbaaGreatDoor
open D (En nameOk inoOk Good Chk there fnd ins del there_mem fnd_mem mem_ins mem_del chk_ins chk_del ins_perm del_perm ins_del' del_ins' name_one)
open F (Fl chk)
def ch (l : List Nd) (i : Int) (f : Nd → Nd) : List Nd := l.map fun n => if n.1 = i then f n else n
def wE (es : List En) (n : Nd) : Nd := (n.1, n.2.1, n.2.2.1, es, n.2.2.2.2)
def wL (k : Int) (n : Nd) : Nd := (n.1, n.2.1, k, n.2.2.2.1, n.2.2.2.2)
def wF (f : Fl) (n : Nd) : Nd := (n.1, n.2.1, n.2.2.1, n.2.2.2.1, f)
def rm (l : List Nd) (i : Int) : List Nd := l.filter fun n => decide (n.1 ≠ i)
theorem mem_ch {l : List Nd} {i : Int} {f : Nd → Nd} {n : Nd} : n ∈ ch l i f ↔ (n ∈ l ∧ n.1 ≠ i) ∨ ∃ m ∈ l, m.1 = i ∧ n = f m := by
  unfold ch
  rw [List.mem_map]
  constructor
  · rintro ⟨m, hm, rfl⟩
    by_cases h : m.1 = i
    · rw [if_pos h]; exact .inr ⟨m, hm, h, rfl⟩
    · rw [if_neg h]; exact .inl ⟨hm, h⟩
  · rintro (⟨hn, h⟩ | ⟨m, hm, h, rfl⟩)
    · exact ⟨n, hn, if_neg h⟩
    · exact ⟨m, hm, if_pos h⟩
theorem mem_rm {l : List Nd} {i : Int} {n : Nd} : n ∈ rm l i ↔ n ∈ l ∧ n.1 ≠ i := by simp [rm]
theorem ch_length (l : List Nd) (i : Int) (f : Nd → Nd) : (ch l i f).length = l.length := by simp [ch]
theorem ch_inos {l : List Nd} {i : Int} {f : Nd → Nd} (hf : ∀ n, (f n).1 = n.1) : (ch l i f).map (·.1) = l.map (·.1) := by
  unfold ch
  rw [List.map_map]
  apply List.map_congr_left
  intro n _
  simp only [Function.comp]
  split
  · exact hf n
  · rfl
theorem ups_map {l : List Nd} : Ups l ↔ (l.map (·.1)).Pairwise (· < ·) := by
  unfold Ups
  rw [List.pairwise_map]
theorem ups_ch {l : List Nd} {i : Int} {f : Nd → Nd} (hf : ∀ n, (f n).1 = n.1) (h : Ups l) : Ups (ch l i f) := by
  rw [ups_map] at h ⊢
  rw [ch_inos hf]; exact h
theorem ups_rm {l : List Nd} {i : Int} (h : Ups l) : Ups (rm l i) := List.Pairwise.sublist List.filter_sublist h
theorem mem_ch' {l : List Nd} (hU : Ups l) {p : Nd} (hp : p ∈ l) {f : Nd → Nd} {n : Nd} : n ∈ ch l p.1 f ↔ (n ∈ l ∧ n.1 ≠ p.1) ∨ n = f p := by
  rw [mem_ch]
  constructor
  · rintro (h | ⟨m, hm, h, rfl⟩)
    · exact .inl h
    · rw [ups_eq hU hm hp h]; exact .inr rfl
  · rintro (h | rfl)
    · exact .inl h
    · exact .inr ⟨p, hp, rfl, rfl⟩
def cP (es : List En) (i : Int) : Nat := es.countP fun e => e.2 == i
theorem cnt_cons (n : Nd) (l : List Nd) (i : Int) : cnt (n :: l) i = cP (en n) i + cnt l i := by simp [cnt, cP]
theorem cnt_append (a b : List Nd) (i : Int) : cnt (a ++ b) i = cnt a i + cnt b i := by simp [cnt]
theorem cnt_same {l : List Nd} {i : Int} {f : Nd → Nd} (hf : ∀ n, en (f n) = en n) (j : Int) : cnt (ch l i f) j = cnt l j := by
  unfold cnt ch
  rw [List.map_map]
  congr 1
  apply List.map_congr_left
  intro n _
  simp only [Function.comp]
  split
  · rw [hf]
  · rfl
theorem cnt_ch {l : List Nd} (hU : Ups l) {p : Nd} (hp : p ∈ l) (es : List En) (j : Int) : cnt (ch l p.1 (wE es)) j + cP (en p) j = cnt l j + cP es j := by
  induction l with
  | nil => cases hp
  | cons a r ih =>
    obtain ⟨h1, h2⟩ := List.pairwise_cons.1 hU
    have e : ch (a :: r) p.1 (wE es) = (if a.1 = p.1 then wE es a else a) :: ch r p.1 (wE es) := rfl
    rw [e, cnt_cons, cnt_cons]
    rcases List.mem_cons.1 hp with rfl | hp'
    · rw [if_pos rfl]
      have h3 : ch r p.1 (wE es) = r := by
        unfold ch
        conv => rhs; rw [← List.map_id r]
        apply List.map_congr_left
        intro n hn
        have := h1 n hn
        rw [if_neg (by omega)]
        rfl
      rw [h3]
      show cP es j + _ + _ = _
      omega
    · have := h1 p hp'
      rw [if_neg (by omega)]
      have := ih h2 hp'
      omega
theorem cnt_rm {l : List Nd} (hU : Ups l) {p : Nd} (hp : p ∈ l) (j : Int) : cnt (rm l p.1) j + cP (en p) j = cnt l j := by
  induction l with
  | nil => cases hp
  | cons a r ih =>
    obtain ⟨h1, h2⟩ := List.pairwise_cons.1 hU
    rw [cnt_cons]
    rcases List.mem_cons.1 hp with rfl | hp'
    · have h3 : rm (p :: r) p.1 = r := by
        unfold rm
        rw [List.filter_cons_of_neg (by simp), List.filter_eq_self]
        intro n hn
        have := h1 n hn
        simp; omega
      rw [h3]; omega
    · have := h1 p hp'
      have h3 : rm (a :: r) p.1 = a :: rm r p.1 := by
        unfold rm
        rw [List.filter_cons_of_pos (by simp; omega)]
      rw [h3, cnt_cons]
      have := ih h2 hp'
      omega
theorem cP_ins (l : List En) (e : En) (j : Int) : cP (ins l e) j = cP l j + if e.2 = j then 1 else 0 := by
  unfold cP
  rw [(ins_perm l e).countP_eq, List.countP_cons]
  simp
theorem cP_del {l : List En} (h : Chk l) {x : ByteArray} {c : Int} (hm : (x, c) ∈ l) (j : Int) : cP (del l x) j + (if c = j then 1 else 0) = cP l j := by
  unfold cP
  rw [(del_perm h hm).countP_eq, List.countP_cons]
  simp
theorem cP_nil (j : Int) : cP [] j = 0 := rfl
structure Wk (s : St) : Prop where
  nx : 2 ≤ s.2 ∧ s.2 ≤ 2147483647
  len : s.1.length ≤ 128
  up : Ups s.1
  low : ∀ n ∈ s.1, 1 ≤ n.1 ∧ n.1 < s.2
  top : ∃ n ∈ s.1, n.1 = 1 ∧ isD n = true
  dirs : ∀ n ∈ s.1, isD n = true → Chk (en n) ∧ fi n = (0, [])
  files : ∀ n ∈ s.1, isD n = false → en n = [] ∧ chk (fi n) = true
  names : ∀ n ∈ s.1, ∀ e ∈ en n, ∃ m ∈ s.1, m.1 = e.2
def Lk (l : List Nd) : Prop := ∀ n ∈ l, lk n = (cnt l n.1 : Int) ∧ (n.1 = 1 → lk n = 0) ∧ (n.1 ≠ 1 → isD n = true → lk n = 1) ∧ (n.1 ≠ 1 → isD n = false → 1 ≤ lk n ∧ lk n ≤ 16)
theorem Ok.wk {s : St} (h : Ok s) : Wk s := ⟨h.1.nx, h.1.len, h.1.up, h.1.low, h.1.top, h.1.dirs, h.1.files, h.1.names⟩
theorem Ok.lk {s : St} (h : Ok s) : Lk s.1 := fun n hn => ⟨h.1.links n hn, h.1.root n hn, h.1.one n hn, h.1.some n hn⟩
theorem Wk.ok {s : St} (h : Wk s) (hl : Lk s.1) (hd : Deep s.1) : Ok s := ⟨⟨h.nx, h.len, h.up, h.low, h.top, h.dirs, h.files, h.names, fun n hn => (hl n hn).1, fun n hn => (hl n hn).2.1, fun n hn => (hl n hn).2.2.1, fun n hn => (hl n hn).2.2.2⟩, hd⟩
theorem Wk.dir {s : St} (h : Wk s) {n : Nd} (hn : n ∈ s.1) {e : En} (he : e ∈ en n) : isD n = true := by
  cases hd : isD n
  · rw [(h.files n hn hd).1] at he; cases he
  · rfl
theorem Wk.turned {s : St} (h : Wk s) {p : Nd} (hp : p ∈ s.1) {f : Nd → Nd} (h1 : ∀ n, (f n).1 = n.1) (h2 : ∀ n, isD (f n) = isD n) (hd : isD p = true → Chk (en (f p)) ∧ fi (f p) = (0, [])) (hf : isD p = false → en (f p) = [] ∧ chk (fi (f p)) = true) (hn : ∀ e ∈ en (f p), ∃ m ∈ s.1, m.1 = e.2) : Wk (ch s.1 p.1 f, s.2) := by
  have there : ∀ m ∈ s.1, ∃ m' ∈ ch s.1 p.1 f, m'.1 = m.1 := fun m hm => by
    by_cases hc : m.1 = p.1
    · exact ⟨f p, (mem_ch' h.up hp).2 (.inr rfl), by rw [h1, hc]⟩
    · exact ⟨m, (mem_ch' h.up hp).2 (.inl ⟨hm, hc⟩), rfl⟩
  refine ⟨h.nx, by rw [ch_length]; exact h.len, ups_ch h1 h.up, fun n hn' => ?_, ?_, fun n hn' hk => ?_, fun n hn' hk => ?_, fun n hn' e he => ?_⟩
  · rcases (mem_ch' h.up hp).1 hn' with ⟨a, _⟩ | rfl
    · exact h.low n a
    · rw [h1]; exact h.low p hp
  · obtain ⟨n, a, b, c⟩ := h.top
    by_cases hc : n.1 = p.1
    · obtain rfl := ups_eq h.up a hp hc
      exact ⟨f n, (mem_ch' h.up hp).2 (.inr rfl), by rw [h1, b], by rw [h2, c]⟩
    · exact ⟨n, (mem_ch' h.up hp).2 (.inl ⟨a, hc⟩), b, c⟩
  · rcases (mem_ch' h.up hp).1 hn' with ⟨a, _⟩ | rfl
    · exact h.dirs n a hk
    · exact hd (by rw [← h2]; exact hk)
  · rcases (mem_ch' h.up hp).1 hn' with ⟨a, _⟩ | rfl
    · exact h.files n a hk
    · exact hf (by rw [← h2]; exact hk)
  · rcases (mem_ch' h.up hp).1 hn' with ⟨a, _⟩ | rfl
    · obtain ⟨m, hm, e'⟩ := h.names n a e he
      obtain ⟨m', hm', e''⟩ := there m hm
      exact ⟨m', hm', by rw [e'', e']⟩
    · obtain ⟨m, hm, e'⟩ := hn e he
      obtain ⟨m', hm', e''⟩ := there m hm
      exact ⟨m', hm', by rw [e'', e']⟩
theorem Wk.dele {s : St} (h : Wk s) {p : Nd} (hp : p ∈ s.1) (hd : isD p = true) (x : ByteArray) : Wk (ch s.1 p.1 (wE (del (en p) x)), s.2) :=
  h.turned hp (fun _ => rfl) (fun _ => rfl) (fun _ => ⟨chk_del (h.dirs p hp hd).1, (h.dirs p hp hd).2⟩) (fun c => by rw [hd] at c; cases c) (fun e he => h.names p hp e (mem_del (h.dirs p hp hd).1 he).1)
theorem Wk.inse {s : St} (h : Wk s) {p : Nd} (hp : p ∈ s.1) (hd : isD p = true) {e : En} (he : D.Good e) (ht : there (en p) e.1 = false) (hl : (en p).length < 63) (hm : ∃ m ∈ s.1, m.1 = e.2) : Wk (ch s.1 p.1 (wE (ins (en p) e)), s.2) :=
  h.turned hp (fun _ => rfl) (fun _ => rfl) (fun _ => ⟨chk_ins (h.dirs p hp hd).1 he ht hl, (h.dirs p hp hd).2⟩) (fun c => by rw [hd] at c; cases c) (fun e' he' => by
    rcases mem_ins.1 he' with rfl | he'
    · exact hm
    · exact h.names p hp e' he')
theorem Wk.link {s : St} (h : Wk s) {p : Nd} (hp : p ∈ s.1) (k : Int) : Wk (ch s.1 p.1 (wL k), s.2) :=
  h.turned hp (fun _ => rfl) (fun _ => rfl) (h.dirs p hp) (h.files p hp) (h.names p hp)
theorem Wk.file {s : St} (h : Wk s) {p : Nd} (hp : p ∈ s.1) (hd : isD p = false) {f : Fl} (hf : chk f = true) : Wk (ch s.1 p.1 (wF f), s.2) :=
  h.turned hp (fun _ => rfl) (fun _ => rfl) (fun c => by rw [hd] at c; cases c) (fun _ => ⟨(h.files p hp hd).1, hf⟩) (h.names p hp)
theorem Wk.gone {s : St} (h : Wk s) {i : Int} (hi : i ≠ 1) (hc : cnt s.1 i = 0) : Wk (rm s.1 i, s.2) := by
  refine ⟨h.nx, Nat.le_trans (List.length_filter_le ..) h.len, ups_rm h.up, fun n hn => h.low n (mem_rm.1 hn).1, ?_, fun n hn => h.dirs n (mem_rm.1 hn).1, fun n hn => h.files n (mem_rm.1 hn).1, fun n hn e he => ?_⟩
  · obtain ⟨n, a, b, c⟩ := h.top
    exact ⟨n, mem_rm.2 ⟨a, by rw [b]; exact fun c => hi c.symm⟩, b, c⟩
  · obtain ⟨m, hm, e'⟩ := h.names n (mem_rm.1 hn).1 e he
    exact ⟨m, mem_rm.2 ⟨hm, by rw [e']; exact cnt_zero hc (mem_rm.1 hn).1 he⟩, e'⟩
theorem Wk.more {s : St} (h : Wk s) (hl : s.1.length < 128) (hx : s.2 < 2147483647) (b : Bool) (k : Int) (hz : chk (0, []) = true) (hc0 : Chk []) : Wk (s.1 ++ [(s.2, b, k, [], (0, []))], s.2 + 1) := by
  have hn := h.nx
  refine ⟨by simp only; omega, by simp; omega, ?_, fun n hn => ?_, ?_, fun n hn hd => ?_, fun n hn hd => ?_, fun n hn e he => ?_⟩
  · exact List.pairwise_append.2 ⟨h.up, List.pairwise_singleton _ _, fun a ha c hc => by rw [List.mem_singleton.1 hc]; exact (h.low a ha).2⟩
  · rcases List.mem_append.1 hn with a | a
    · have := h.low n a; simp only; omega
    · rw [List.mem_singleton.1 a]; simp only; omega
  · obtain ⟨n, a, c⟩ := h.top
    exact ⟨n, List.mem_append_left _ a, c⟩
  · rcases List.mem_append.1 hn with a | a
    · exact h.dirs n a hd
    · rw [List.mem_singleton.1 a]; exact ⟨hc0, rfl⟩
  · rcases List.mem_append.1 hn with a | a
    · exact h.files n a hd
    · rw [List.mem_singleton.1 a]; exact ⟨rfl, hz⟩
  · rcases List.mem_append.1 hn with a | a
    · obtain ⟨m, hm, e'⟩ := h.names n a e he
      exact ⟨m, List.mem_append_left _ hm, e'⟩
    · rw [List.mem_singleton.1 a] at he; cases he
end Go.Proofs.YtkcnephbaffmbaaGreatDoor

namespace Go.Proofs.YtkcnephbaffmbaaGreatDoor
open D (En nameOk inoOk Good Chk there fnd ins del there_mem fnd_mem mem_ins mem_del chk_ins chk_del ins_perm del_perm ins_del' del_ins' name_one)
open F (Fl chk)
def mkN (s : St) (p : Nd) (x : ByteArray) (b : Bool) : St := (ch s.1 p.1 (wE (ins (en p) (x, s.2))) ++ [(s.2, b, 1, [], (0, []))], s.2 + 1)
def dropN (s : St) (p : Nd) (x : ByteArray) (n : Nd) : St := (if lk n = 1 then rm (ch s.1 p.1 (wE (del (en p) x))) n.1 else ch (ch s.1 p.1 (wE (del (en p) x))) n.1 (wL (lk n - 1)), s.2)
def lnkN (s : St) (p : Nd) (x : ByteArray) (n : Nd) : St := (ch (ch s.1 p.1 (wE (ins (en p) (x, n.1)))) n.1 (wL (lk n + 1)), s.2)
def filN (s : St) (n : Nd) (f : Fl) : St := (ch s.1 n.1 (wF f), s.2)
def qeN (p : Nd) (x : ByteArray) (q : Nd) : List En := if q.1 = p.1 then del (en p) x else en q
def movN (s : St) (p : Nd) (x : ByteArray) (q : Nd) (y : ByteArray) (i : Int) : St := (ch (ch s.1 p.1 (wE (del (en p) x))) q.1 (wE (ins (qeN p x q) (y, i))), s.2)
theorem cnt_none {l : List Nd} {j : Int} (h : ∀ n ∈ l, ∀ e ∈ en n, e.2 ≠ j) : cnt l j = 0 := by
  apply Classical.byContradiction
  intro c
  obtain ⟨m, hm, e, he, hx⟩ := cnt_some c
  exact h m hm e he hx
theorem way_depth {l : List Nd} {D : Int → Nat} (hU : Ups l) (hD : ∀ n ∈ l, isD n = true → ∀ e ∈ en n, D n.1 + 1 ≤ 8 ∧ ∀ m ∈ l, m.1 = e.2 → isD m = true → D m.1 = D n.1 + 1) (hdir : ∀ n ∈ l, ∀ e ∈ en n, isD n = true) :
    ∀ {k : Nat} {i : Int} {m : Nd}, Way l k i m.1 → m ∈ l → isD m = true → D m.1 = D i + k
  | 0, i, m, h, _, _ => by have h' : i = m.1 := h; rw [h']; rfl
  | k + 1, i, m, h, hm, hd => by
    obtain ⟨y, hy, e, he, hx⟩ := way_snoc.1 h
    obtain ⟨n, hn, rfl, hen, _⟩ := kid_mem he
    have h1 := way_depth hU hD hdir hy hn (hdir n hn e hen)
    have h2 := (hD n hn (hdir n hn e hen) e hen).2 m hm hx.symm hd
    omega
theorem way_dpt {l : List Nd} : ∀ {k f : Nat} {i x : Int}, Way l k i x → k ≤ f → k ≤ dpt l f i
  | 0, _, _, _, _, _ => Nat.zero_le _
  | k + 1, 0, _, _, _, h => by omega
  | k + 1, f + 1, i, x, ⟨e, he, hw⟩, h => by
    have h1 := way_dpt hw (by omega : k ≤ f)
    have h2 := ((foldmax_le (fun e : En => 1 + dpt l f e.2) (dpt l (f + 1) i) (kid l i) 0).1 (Nat.le_refl _)).2 e he
    omega
theorem Ok.named {s : St} (h : Ok s) {p : Nd} (hp : p ∈ s.1) {e : En} (he : e ∈ en p) : e.2 ≠ 1 := cnt_zero h.1.top_cnt hp he
theorem ok_make {s : St} (h : Ok s) {p : Nd} (hp : p ∈ s.1) (hd : isD p = true) {x : ByteArray} (hx : nameOk x = true) (ht : there (en p) x = false) (hl : (en p).length < 63) (h128 : s.1.length < 128) (hnx : s.2 < 2147483647) {k : Nat} (hw : Way s.1 k 1 p.1) (hk : k + 1 ≤ 8) (b : Bool) (hz : chk (0, []) = true) (hc0 : Chk []) : Ok (mkN s p x b) := by
  have hW := h.wk
  have hL := h.lk
  obtain ⟨hP, D, h0, hD⟩ := h
  have hn2 := hW.nx
  have hfree : ∀ n ∈ s.1, ∀ e ∈ en n, e.2 ≠ s.2 := fun n hn e he c => by
    obtain ⟨m, hm, e'⟩ := hW.names n hn e he
    have := (hW.low m hm).2
    omega
  have hc := cnt_none hfree
  have hDp := hP.level h0 hD hp hd hw
  obtain ⟨m1, hm1⟩ : ∃ m1 : St, m1 = (s.1 ++ [(s.2, b, 1, [], (0, []))], s.2 + 1) := ⟨_, rfl⟩
  have hW1 : Wk m1 := by rw [hm1]; exact hW.more h128 hnx b 1 hz hc0
  have hp1 : p ∈ m1.1 := by rw [hm1]; exact List.mem_append_left _ hp
  have hsame : (mkN s p x b) = (ch m1.1 p.1 (wE (ins (en p) (x, s.2))), m1.2) := by
    rw [hm1]
    unfold mkN ch
    rw [List.map_append]
    have : (s.2, b, (1 : Int), ([] : List En), ((0, []) : Fl)).1 ≠ p.1 := by
      have := (hW.low p hp).2
      simp only; omega
    simp [this]
  have hW2 := hW1.inse hp1 hd (e := (x, s.2)) ⟨hx, by simp [inoOk]; omega⟩ ht hl ⟨(s.2, b, 1, [], (0, [])), by rw [hm1]; exact List.mem_append_right _ (List.mem_singleton.2 rfl), rfl⟩
  rw [← hsame] at hW2
  have hcnt : ∀ j, cnt (mkN s p x b).1 j = cnt s.1 j + if s.2 = j then 1 else 0 := fun j => by
    show cnt (ch s.1 p.1 _ ++ [_]) j = _
    have h1 := cnt_ch hW.up hp (ins (en p) (x, s.2)) j
    rw [cP_ins] at h1
    rw [cnt_append, cnt_cons, cP_nil]
    simp only [cnt, List.map_nil, List.sum_nil] at h1 ⊢
    omega
  have hmem : ∀ n ∈ (mkN s p x b).1, (n ∈ s.1 ∧ n.1 ≠ p.1) ∨ n = wE (ins (en p) (x, s.2)) p ∨ n = (s.2, b, 1, [], (0, [])) := fun n hn => by
    rcases List.mem_append.1 (show n ∈ ch s.1 p.1 _ ++ [_] from hn) with a | a
    · rcases (mem_ch' hW.up hp).1 a with a | a
      · exact .inl a
      · exact .inr (.inl a)
    · exact .inr (.inr (List.mem_singleton.1 a))
  refine hW2.ok (fun n hn => ?_) ⟨fun i => if i = s.2 then k + 1 else D i, ?_, fun n hn hdn e he => ?_⟩
  · rw [hcnt]
    rcases hmem n hn with ⟨a, _⟩ | rfl | rfl
    · have := (hW.low n a).2
      rw [if_neg (by omega)]
      exact hL n a
    · have := (hW.low p hp).2
      have h9 : (if s.2 = (wE (ins (en p) (x, s.2)) p).1 then 1 else 0) = 0 := if_neg (show ¬ s.2 = p.1 by omega)
      rw [h9]
      exact hL p hp
    · rw [if_pos rfl, show cnt s.1 (s.2, b, (1 : Int), ([] : List En), ((0, []) : Fl)).1 = 0 from hc]
      refine ⟨rfl, fun c => ?_, fun _ _ => rfl, fun _ _ => ⟨show (1 : Int) ≤ 1 by decide, show (1 : Int) ≤ 16 by decide⟩⟩
      have c' : s.2 = 1 := c
      omega
  · show (if (1 : Int) = s.2 then k + 1 else D 1) = 0
    rw [if_neg (by omega)]; exact h0
  · have old : ∀ m ∈ s.1, isD m = true → ∀ e ∈ en m, (if m.1 = s.2 then k + 1 else D m.1) + 1 ≤ 8 ∧ ∀ c ∈ (mkN s p x b).1, c.1 = e.2 → isD c = true → (if c.1 = s.2 then k + 1 else D c.1) = (if m.1 = s.2 then k + 1 else D m.1) + 1 := fun m hm hdm e he => by
      have hlt := (hW.low m hm).2
      rw [if_neg (by omega)]
      refine ⟨(hD m hm hdm e he).1, fun c hc' hce hdc => ?_⟩
      have hne := hfree m hm e he
      rw [if_neg (by rw [hce]; exact hne)]
      rcases hmem c hc' with ⟨a, _⟩ | rfl | rfl
      · exact (hD m hm hdm e he).2 c a hce hdc
      · exact (hD m hm hdm e he).2 p hp hce hdc
      · exact absurd hce.symm hne
    rcases hmem n hn with ⟨a, _⟩ | rfl | rfl
    · exact old n a hdn e he
    · rcases mem_ins.1 he with rfl | he
      · have := (hW.low p hp).2
        have h9 : (if p.1 = s.2 then k + 1 else D p.1) = k := by rw [if_neg (by omega), hDp]
        refine ⟨?_, fun c hc' hce hdc => ?_⟩
        · show (if p.1 = s.2 then k + 1 else D p.1) + 1 ≤ 8
          rw [h9]; exact hk
        · show (if c.1 = s.2 then k + 1 else D c.1) = (if p.1 = s.2 then k + 1 else D p.1) + 1
          rw [h9, if_pos hce]
      · exact old p hp hd e he
    · cases he
theorem ok_drop {s : St} (h : Ok s) {p n : Nd} (hp : p ∈ s.1) (hn : n ∈ s.1) {x : ByteArray} (hx : (x, n.1) ∈ en p) (he0 : en n = []) : Ok (dropN s p x n) := by
  have hW := h.wk
  have hL := h.lk
  have hd := hW.dir hp hx
  have hn1 := h.named hp hx
  simp only at hn1
  obtain ⟨hP, D, h0, hD⟩ := h
  have hC := (hW.dirs p hp hd).1
  have hnp : n.1 ≠ p.1 := fun c => by
    rw [ups_eq hW.up hn hp c] at he0
    rw [he0] at hx; cases hx
  have hW1 := hW.dele hp hd x
  have hcnt : ∀ j, cnt (ch s.1 p.1 (wE (del (en p) x))) j + (if n.1 = j then 1 else 0) = cnt s.1 j := fun j => by
    have h1 := cnt_ch hW.up hp (del (en p) x) j
    have h2 := cP_del hC hx j
    omega
  have hn' : n ∈ ch s.1 p.1 (wE (del (en p) x)) := (mem_ch' hW.up hp).2 (.inl ⟨hn, hnp⟩)
  have hself := hcnt n.1
  rw [if_pos rfl] at hself
  have hdeep : ∀ l2 : List Nd, (∀ m ∈ l2, ∃ m0 ∈ s.1, m0.1 = m.1 ∧ isD m0 = isD m ∧ ∀ e ∈ en m, e ∈ en m0) → Deep l2 := fun l2 hsub => ⟨D, h0, fun m hm hdm e he => by
    obtain ⟨m0, hm0, e1, e2, e3⟩ := hsub m hm
    obtain ⟨a, b⟩ := hD m0 hm0 (by rw [e2]; exact hdm) e (e3 e he)
    rw [e1] at a b
    refine ⟨a, fun c hc hce hdc => ?_⟩
    obtain ⟨c0, hc0, f1, f2, _⟩ := hsub c hc
    rw [← f1]
    exact b c0 hc0 (by rw [f1]; exact hce) (by rw [f2]; exact hdc)⟩
  have hsub1 : ∀ m ∈ ch s.1 p.1 (wE (del (en p) x)), ∃ m0 ∈ s.1, m0.1 = m.1 ∧ isD m0 = isD m ∧ ∀ e ∈ en m, e ∈ en m0 := fun m hm => by
    rcases (mem_ch' hW.up hp).1 hm with ⟨a, _⟩ | rfl
    · exact ⟨m, a, rfl, rfl, fun _ h => h⟩
    · exact ⟨p, hp, rfl, rfl, fun e he => (mem_del hC he).1⟩
  have hlk1 : ∀ m ∈ ch s.1 p.1 (wE (del (en p) x)), m.1 ≠ n.1 → lk m = (cnt (ch s.1 p.1 (wE (del (en p) x))) m.1 : Int) ∧ (m.1 = 1 → lk m = 0) ∧ (m.1 ≠ 1 → isD m = true → lk m = 1) ∧ (m.1 ≠ 1 → isD m = false → 1 ≤ lk m ∧ lk m ≤ 16) := fun m hm hne => by
    have h3 := hcnt m.1
    rw [if_neg (fun c => hne c.symm)] at h3
    rcases (mem_ch' hW.up hp).1 hm with ⟨a, _⟩ | rfl
    · have := hL m a
      rw [show cnt (ch s.1 p.1 (wE (del (en p) x))) m.1 = cnt s.1 m.1 by omega]
      exact this
    · have := hL p hp
      have h3' : cnt (ch s.1 p.1 (wE (del (en p) x))) p.1 + 0 = cnt s.1 p.1 := h3
      show lk p = (cnt (ch s.1 p.1 (wE (del (en p) x))) p.1 : Int) ∧ _
      rw [show cnt (ch s.1 p.1 (wE (del (en p) x))) p.1 = cnt s.1 p.1 by omega]
      exact this
  obtain ⟨k1, _, k3, k4⟩ := hL n hn
  unfold dropN
  by_cases hone : lk n = 1
  · rw [if_pos hone]
    have hz : cnt (ch s.1 p.1 (wE (del (en p) x))) n.1 = 0 := by omega
    have hcr : ∀ j, cnt (rm (ch s.1 p.1 (wE (del (en p) x))) n.1) j = cnt (ch s.1 p.1 (wE (del (en p) x))) j := fun j => by
      have := cnt_rm hW1.up hn' j
      rw [he0, cP_nil] at this
      omega
    refine (hW1.gone hn1 hz).ok (fun m hm => ?_) (hdeep _ fun m hm => hsub1 m (mem_rm.1 hm).1)
    have := hlk1 m (mem_rm.1 hm).1 (mem_rm.1 hm).2
    simp only [hcr]
    exact this
  · rw [if_neg hone]
    have hnd : isD n = false := by
      cases c : isD n
      · rfl
      · exact absurd (k3 hn1 c) hone
    have hcs : ∀ j, cnt (ch (ch s.1 p.1 (wE (del (en p) x))) n.1 (wL (lk n - 1))) j = cnt (ch s.1 p.1 (wE (del (en p) x))) j := fun j => cnt_same (f := wL (lk n - 1)) (fun _ => rfl) j
    refine (hW1.link hn' (lk n - 1)).ok (fun m hm => ?_) (hdeep _ fun m hm => ?_)
    · simp only [hcs]
      rcases (mem_ch' hW1.up hn').1 hm with ⟨a, b⟩ | rfl
      · exact hlk1 m a b
      · refine ⟨?_, fun c => absurd c hn1, fun _ c => ?_, fun a _ => ?_⟩
        · show lk n - 1 = (cnt _ n.1 : Int)
          omega
        · have c' : isD n = true := c
          rw [hnd] at c'; cases c'
        · have := k4 hn1 hnd
          show 1 ≤ lk n - 1 ∧ lk n - 1 ≤ 16
          omega
    · rcases (mem_ch' hW1.up hn').1 hm with ⟨a, _⟩ | rfl
      · exact hsub1 m a
      · exact ⟨n, hn, rfl, rfl, fun _ h => h⟩
theorem ok_link {s : St} (h : Ok s) {p n : Nd} (hp : p ∈ s.1) (hd : isD p = true) (hn : n ∈ s.1) (hf : isD n = false) {x : ByteArray} (hx : nameOk x = true) (ht : there (en p) x = false) (hl : (en p).length < 63) (h16 : lk n < 16) {k : Nat} (hw : Way s.1 k 1 p.1) (hk : k + 1 ≤ 8) : Ok (lnkN s p x n) := by
  have hW := h.wk
  have hL := h.lk
  obtain ⟨hP, D, h0, hD⟩ := h
  have hDp := hP.level h0 hD hp hd hw
  have hnp : n.1 ≠ p.1 := fun c => by
    rw [ups_eq hW.up hn hp c, hd] at hf; cases hf
  have hb := hW.low n hn
  have hnx := hW.nx
  have hW1 := hW.inse hp hd (e := (x, n.1)) ⟨hx, by simp [inoOk]; omega⟩ ht hl ⟨n, hn, rfl⟩
  have hn' : n ∈ ch s.1 p.1 (wE (ins (en p) (x, n.1))) := (mem_ch' hW.up hp).2 (.inl ⟨hn, hnp⟩)
  have hcnt : ∀ j, cnt (lnkN s p x n).1 j = cnt s.1 j + (if n.1 = j then 1 else 0) := fun j => by
    show cnt (ch (ch _ _ _) _ _) j = _
    rw [cnt_same (f := wL (lk n + 1)) (fun _ => rfl)]
    have h1 := cnt_ch hW.up hp (ins (en p) (x, n.1)) j
    rw [cP_ins] at h1
    simp only at h1
    omega
  have hmem : ∀ m ∈ (lnkN s p x n).1, ∃ m0 ∈ s.1, m0.1 = m.1 ∧ isD m0 = isD m ∧ (∀ e ∈ en m, e ∈ en m0 ∨ (m0 = p ∧ e = (x, n.1))) ∧ lk m = lk m0 + if n.1 = m0.1 then 1 else 0 := fun m hm => by
    rcases (mem_ch' hW1.up hn').1 hm with ⟨a, hne⟩ | rfl
    · rcases (mem_ch' hW.up hp).1 a with ⟨a, _⟩ | rfl
      · exact ⟨m, a, rfl, rfl, fun _ h => .inl h, by rw [if_neg (fun c => hne c.symm)]; omega⟩
      · refine ⟨p, hp, rfl, rfl, fun e he => ?_, ?_⟩
        · rcases mem_ins.1 he with rfl | he
          · exact .inr ⟨rfl, rfl⟩
          · exact .inl he
        · rw [if_neg hnp]; show lk p = _; omega
    · exact ⟨n, hn, rfl, rfl, fun _ h => .inl h, by rw [if_pos rfl]; rfl⟩
  refine (hW1.link hn' (lk n + 1)).ok (fun m hm => ?_) ⟨D, h0, fun m hm hdm e he => ?_⟩
  · obtain ⟨m0, hm0, e1, e2, _, e4⟩ := hmem m hm
    obtain ⟨k1, k2, k3, k4⟩ := hL m0 hm0
    have h5 := hcnt m.1
    have h6 : cnt (ch (ch s.1 p.1 (wE (ins (en p) (x, n.1)))) n.1 (wL (lk n + 1))) m.1 = cnt (lnkN s p x n).1 m.1 := rfl
    simp only [h6, h5]
    rw [← e1, ← e2, e4]
    by_cases hc : n.1 = m0.1
    · obtain rfl := ups_eq hW.up hn hm0 hc
      simp only [if_true]
      refine ⟨by omega, fun c => ?_, fun _ c => ?_, fun a b => ?_⟩
      · obtain ⟨t, ht', t1, t2⟩ := hW.top
        rw [ups_eq hW.up hn ht' (by rw [c, t1]), t2] at hf; cases hf
      · rw [hf] at c; cases c
      · have := k4 a b; omega
    · simp only [if_neg hc]
      exact ⟨by omega, fun c => by rw [k2 c]; rfl, fun a b => by rw [k3 a b]; rfl, fun a b => by have := k4 a b; omega⟩
  · obtain ⟨m0, hm0, e1, e2, e3, _⟩ := hmem m hm
    have hdm0 : isD m0 = true := by rw [e2]; exact hdm
    rw [← e1]
    rcases e3 e he with h' | ⟨rfl, rfl⟩
    · obtain ⟨a, b⟩ := hD m0 hm0 hdm0 e h'
      refine ⟨a, fun c hc hce hdc => ?_⟩
      obtain ⟨c0, hc0, f1, f2, _⟩ := hmem c hc
      rw [← f1]
      exact b c0 hc0 (by rw [f1]; exact hce) (by rw [f2]; exact hdc)
    · refine ⟨by omega, fun c hc hce hdc => ?_⟩
      obtain ⟨c0, hc0, f1, f2, _⟩ := hmem c hc
      rw [ups_eq hW.up hc0 hn (by rw [f1]; exact hce), hf] at f2
      rw [← f2] at hdc; cases hdc
theorem ok_file {s : St} (h : Ok s) {n : Nd} (hn : n ∈ s.1) (hf : isD n = false) {f : Fl} (hc : chk f = true) : Ok (filN s n f) := by
  have hW := h.wk
  have hL := h.lk
  obtain ⟨hP, D, h0, hD⟩ := h
  have hmem : ∀ m ∈ (filN s n f).1, ∃ m0 ∈ s.1, m0.1 = m.1 ∧ isD m0 = isD m ∧ en m0 = en m ∧ lk m0 = lk m := fun m hm => by
    rcases (mem_ch' hW.up hn).1 hm with ⟨a, _⟩ | rfl
    · exact ⟨m, a, rfl, rfl, rfl, rfl⟩
    · exact ⟨n, hn, rfl, rfl, rfl, rfl⟩
  refine (hW.file hn hf hc).ok (fun m hm => ?_) ⟨D, h0, fun m hm hdm e he => ?_⟩
  · obtain ⟨m0, hm0, e1, e2, _, e4⟩ := hmem m hm
    have h6 : cnt (ch s.1 n.1 (wF f)) m.1 = cnt s.1 m.1 := cnt_same (f := wF f) (fun _ => rfl) _
    simp only [h6]
    rw [← e1, ← e2, ← e4]
    exact hL m0 hm0
  · obtain ⟨m0, hm0, e1, e2, e3, _⟩ := hmem m hm
    obtain ⟨a, b⟩ := hD m0 hm0 (by rw [e2]; exact hdm) e (by rw [e3]; exact he)
    rw [← e1]
    refine ⟨a, fun c hc hce hdc => ?_⟩
    obtain ⟨c0, hc0, f1, f2, _⟩ := hmem c hc
    rw [← f1]
    exact b c0 hc0 (by rw [f1]; exact hce) (by rw [f2]; exact hdc)
theorem ok_move {s : St} (h : Ok s) {p q n : Nd} (hp : p ∈ s.1) (hq : q ∈ s.1) (hdq : isD q = true) (hn : n ∈ s.1) {x y : ByteArray} (hx : (x, n.1) ∈ en p) (hy : nameOk y = true) (ht : there (qeN p x q) y = false) (hl : (qeN p x q).length < 63) {k : Nat} (hw : Way s.1 k 1 q.1) (hk : k + 1 ≤ 8)
    (hin : isD n = true → ∀ j, ¬ Way s.1 j n.1 q.1) (hlong : isD n = true → k + 1 + dpt s.1 8 n.1 ≤ 8) : Ok (movN s p x q y n.1) := by
  have h' := h
  have hW := h.wk
  have hL := h.lk
  have hd := hW.dir hp hx
  have hn1 := h.named hp hx
  simp only at hn1
  obtain ⟨hP, D, h0, hD⟩ := h
  have hC := (hW.dirs p hp hd).1
  have hDq := hP.level h0 hD hq hdq hw
  have hb := hW.low n hn
  have hnx := hW.nx
  have hW1 := hW.dele hp hd x
  obtain ⟨q', hq', hq1, hqd, hqe⟩ : ∃ q' ∈ ch s.1 p.1 (wE (del (en p) x)), q'.1 = q.1 ∧ isD q' = true ∧ en q' = qeN p x q := by
    by_cases hc : q.1 = p.1
    · exact ⟨wE (del (en p) x) p, (mem_ch' hW.up hp).2 (.inr rfl), hc.symm, hd, by unfold qeN; rw [if_pos hc]; rfl⟩
    · exact ⟨q, (mem_ch' hW.up hp).2 (.inl ⟨hq, hc⟩), rfl, hdq, by unfold qeN; rw [if_neg hc]⟩
  obtain ⟨n', hn', hn'1⟩ : ∃ n' ∈ ch s.1 p.1 (wE (del (en p) x)), n'.1 = n.1 := by
    by_cases hc : n.1 = p.1
    · exact ⟨wE (del (en p) x) p, (mem_ch' hW.up hp).2 (.inr rfl), hc.symm⟩
    · exact ⟨n, (mem_ch' hW.up hp).2 (.inl ⟨hn, hc⟩), rfl⟩
  have hW2 := hW1.inse hq' hqd (e := (y, n.1)) ⟨hy, by simp [inoOk]; omega⟩ (by rw [hqe]; exact ht) (by rw [hqe]; exact hl) ⟨n', hn', hn'1⟩
  have hres : (movN s p x q y n.1).1 = ch (ch s.1 p.1 (wE (del (en p) x))) q'.1 (wE (ins (en q') (y, n.1))) := by rw [hq1, hqe]; rfl
  have hcnt : ∀ j, cnt (movN s p x q y n.1).1 j = cnt s.1 j := fun j => by
    rw [hres]
    have h1 := cnt_ch hW1.up hq' (ins (en q') (y, n.1)) j
    rw [cP_ins] at h1
    have h2 := cnt_ch hW.up hp (del (en p) x) j
    have h3 := cP_del hC hx j
    simp only at h1
    omega
  have hmem : ∀ m ∈ (movN s p x q y n.1).1, ∃ m0 ∈ s.1, m0.1 = m.1 ∧ isD m0 = isD m ∧ lk m0 = lk m ∧ ∀ e ∈ en m, (e ∈ en m0 ∧ (m0 = p → e.1 ≠ x)) ∨ (m0 = q ∧ e = (y, n.1)) := fun m hm => by
    rw [hres] at hm
    rcases (mem_ch' hW1.up hq').1 hm with ⟨a, hne⟩ | rfl
    · rcases (mem_ch' hW.up hp).1 a with ⟨a, hne2⟩ | rfl
      · exact ⟨m, a, rfl, rfl, rfl, fun e he => .inl ⟨he, fun c => absurd (by rw [c]) hne2⟩⟩
      · exact ⟨p, hp, rfl, rfl, rfl, fun e he => .inl ⟨(mem_del hC he).1, fun _ => (mem_del hC he).2⟩⟩
    · rcases (mem_ch' hW.up hp).1 hq' with ⟨a, hne2⟩ | c
      · refine ⟨q', a, rfl, rfl, rfl, fun e he => ?_⟩
        rcases mem_ins.1 he with rfl | he
        · exact .inr ⟨ups_eq hW.up a hq hq1, rfl⟩
        · exact .inl ⟨he, fun c => absurd (by rw [c]) hne2⟩
      · refine ⟨p, hp, by rw [c]; rfl, by rw [c]; rfl, by rw [c]; rfl, fun e he => ?_⟩
        rcases mem_ins.1 he with rfl | he
        · refine .inr ⟨ups_eq hW.up hp hq ?_, rfl⟩
          rw [← hq1, c]; rfl
        · rw [c] at he
          exact .inl ⟨(mem_del hC he).1, fun _ => (mem_del hC he).2⟩
  have hWk : Wk (movN s p x q y n.1) := by
    have : movN s p x q y n.1 = (ch (ch s.1 p.1 (wE (del (en p) x))) q'.1 (wE (ins (en q') (y, n.1))), s.2) := Prod.ext hres rfl
    rw [this]; exact hW2
  refine hWk.ok (fun m hm => ?_) ?_
  · obtain ⟨m0, hm0, e1, e2, e3, _⟩ := hmem m hm
    rw [hcnt, ← e1, ← e2, ← e3]
    exact hL m0 hm0
  cases hnd : isD n
  · refine ⟨D, h0, fun m hm hdm e he => ?_⟩
    obtain ⟨m0, hm0, e1, e2, _, e4⟩ := hmem m hm
    rw [← e1]
    rcases e4 e he with ⟨a, _⟩ | ⟨rfl, rfl⟩
    · obtain ⟨b1, b2⟩ := hD m0 hm0 (by rw [e2]; exact hdm) e a
      refine ⟨b1, fun c hc hce hdc => ?_⟩
      obtain ⟨c0, hc0, f1, f2, _⟩ := hmem c hc
      rw [← f1]
      exact b2 c0 hc0 (by rw [f1]; exact hce) (by rw [f2]; exact hdc)
    · refine ⟨by omega, fun c hc hce hdc => ?_⟩
      obtain ⟨c0, hc0, f1, f2, _⟩ := hmem c hc
      rw [ups_eq hW.up hc0 hn (by rw [f1]; exact hce), hnd] at f2
      rw [← f2] at hdc; cases hdc
  · have hin' := hin hnd
    have hlong' := hlong hnd
    have hdir : ∀ m ∈ s.1, ∀ e ∈ en m, isD m = true := fun m hm e he => hW.dir hm he
    have hdep : ∀ {j : Nat} {m : Nd}, Way s.1 j n.1 m.1 → m ∈ s.1 → isD m = true → D m.1 = D n.1 + j := fun hj hm hdm => way_depth hW.up hD hdir hj hm hdm
    have hone : cnt s.1 n.1 = 1 := hP.dir_cnt hn hnd hn1
    have hB8 := (hP.deep.1 h'.2).1
    obtain ⟨D', hD'⟩ : ∃ D' : Int → Nat, ∀ i, ((∃ j, Way s.1 j n.1 i) → D' i = D i + k + 1 - D n.1) ∧ (¬ (∃ j, Way s.1 j n.1 i) → D' i = D i) := by
      have : ∀ i : Int, ∃ d : Nat, ((∃ j, Way s.1 j n.1 i) → d = D i + k + 1 - D n.1) ∧ (¬ (∃ j, Way s.1 j n.1 i) → d = D i) := fun i => by
        by_cases c : ∃ j, Way s.1 j n.1 i
        · exact ⟨_, fun _ => rfl, fun c' => absurd c c'⟩
        · exact ⟨_, fun c' => absurd c' c, fun _ => rfl⟩
      exact ⟨fun i => (this i).choose, fun i => (this i).choose_spec⟩
    have htop : ¬ ∃ j, Way s.1 j n.1 1 := fun ⟨j, hj⟩ => by
      cases j with
      | zero => exact hn1 hj
      | succ j =>
        obtain ⟨z, _, e, he, hz⟩ := way_snoc.1 hj
        obtain ⟨m, hm, _, hem, _⟩ := kid_mem he
        exact cnt_zero hP.top_cnt hm hem hz
    have hqn : ¬ ∃ j, Way s.1 j n.1 q.1 := fun ⟨j, hj⟩ => hin' j hj
    refine ⟨D', by rw [(hD' 1).2 htop]; exact h0, fun m hm hdm e he => ?_⟩
    obtain ⟨m0, hm0, e1, e2, _, e4⟩ := hmem m hm
    have hdm0 : isD m0 = true := by rw [e2]; exact hdm
    rw [← e1]
    rcases e4 e he with ⟨a, hax⟩ | ⟨rfl, rfl⟩
    · obtain ⟨b1, b2⟩ := hD m0 hm0 hdm0 e a
      by_cases hs : ∃ j, Way s.1 j n.1 m0.1
      · obtain ⟨j, hj⟩ := hs
        have h3 := hdep hj hm0 hdm0
        rw [(hD' m0.1).1 ⟨j, hj⟩, h3]
        have hj1 : Way s.1 (j + 1) n.1 e.2 := way_snoc.2 ⟨m0.1, hj, e, by rw [kid_of hW.up hm0]; exact a, rfl⟩
        have hBn : j + 1 ≤ 8 := by
          have hDn : Way s.1 (D n.1) 1 n.1 := hP.reached h0 hD _ hn hnd rfl
          omega
        have h5 := way_dpt hj1 hBn
        refine ⟨by omega, fun c hc hce hdc => ?_⟩
        obtain ⟨c0, hc0, f1, f2, _⟩ := hmem c hc
        have h6 := b2 c0 hc0 (by rw [f1]; exact hce) (by rw [f2]; exact hdc)
        rw [← f1, (hD' c0.1).1 ⟨j + 1, by rw [f1, hce]; exact hj1⟩]
        omega
      · rw [(hD' m0.1).2 hs]
        refine ⟨b1, fun c hc hce hdc => ?_⟩
        obtain ⟨c0, hc0, f1, f2, _⟩ := hmem c hc
        have hdc0 : isD c0 = true := by rw [f2]; exact hdc
        have hce0 : c0.1 = e.2 := by rw [f1]; exact hce
        have h6 := b2 c0 hc0 hce0 hdc0
        rw [← f1, (hD' c0.1).2 ?_]
        · exact h6
        · rintro ⟨j, hj⟩
          cases j with
          | zero =>
            have hj' : n.1 = c0.1 := hj
            obtain ⟨g1, g2⟩ := one_link hone hm0 hp a hx (by rw [← hce0, ← hj']) rfl hW.up
            exact hax g1 (by rw [g2])
          | succ j =>
            obtain ⟨z, hz, f, hf, hzf⟩ := way_snoc.1 hj
            obtain ⟨m1, hm1, rfl, hfm, _⟩ := kid_mem hf
            have hc1 : c0.1 ≠ 1 := fun c => by
              rw [c] at hj
              exact htop ⟨_, hj⟩
            obtain ⟨g1, _⟩ := one_link (hP.dir_cnt hc0 hdc0 hc1) hm0 hm1 a hfm hce0.symm hzf hW.up
            rw [g1] at hs
            exact hs ⟨j, hz⟩
    · rw [(hD' m0.1).2 hqn]
      refine ⟨by omega, fun c hc hce hdc => ?_⟩
      have hce' : c.1 = n.1 := hce
      rw [hce', (hD' n.1).1 ⟨0, rfl⟩]
      omega
end Go.Proofs.YtkcnephbaffmbaaGreatDoor

namespace Go.Proofs.YtkcnephbaffmbaaGreatDoor
open D (En nameOk inoOk Good Chk there fnd ins del there_mem fnd_mem mem_ins mem_del chk_ins chk_del ins_perm del_perm ins_del' del_ins' name_one)
open F (Fl chk)
def nd0 : Nd := (0, false, 0, [], (0, []))
def gt (l : List Nd) (i : Int) : Nd := (fd l i).getD nd0
theorem gt_of {l : List Nd} (hU : Ups l) {n : Nd} (h : n ∈ l) : gt l n.1 = n := by unfold gt; rw [fd_of hU h]; rfl
def wlk (l : List Nd) : Int → List ByteArray → Int × Int
  | i, [] => (i, 0)
  | i, x :: r => if isD (gt l i) = false then (0, 103) else if there (en (gt l i)) x = false then (0, 101) else wlk l (fnd (en (gt l i)) x) r
def Wlk (l : List Nd) : Int → List ByteArray → Int → Prop
  | i, [], c => i = c
  | i, x :: r, c => ∃ n ∈ l, n.1 = i ∧ isD n = true ∧ ∃ d, (x, d) ∈ en n ∧ Wlk l d r c
theorem Wlk.there {s : St} (hW : Wk s) : ∀ {xs : List ByteArray} {n : Nd} {c : Int}, n ∈ s.1 → Wlk s.1 n.1 xs c → ∃ m ∈ s.1, m.1 = c
  | [], n, c, hn, h => ⟨n, hn, h⟩
  | x :: r, n, c, hn, ⟨m, hm, _, _, d, hd, h⟩ => by
    obtain ⟨k, hk, e⟩ := hW.names m hm _ hd
    exact Wlk.there hW hk (by rw [e]; exact h)
theorem wlk_iff {s : St} (hW : Wk s) : ∀ {xs : List ByteArray} {n : Nd} {c : Int}, n ∈ s.1 → ((wlk s.1 n.1 xs).2 = 0 ∧ (wlk s.1 n.1 xs).1 = c ↔ Wlk s.1 n.1 xs c)
  | [], n, c, hn => by simp [wlk, Wlk]
  | x :: r, n, c, hn => by
    rw [wlk, gt_of hW.up hn]
    constructor
    · intro h
      cases hd : isD n
      · rw [if_pos hd] at h
        exact absurd h.1 (by decide)
      · rw [if_neg (by rw [hd]; decide)] at h
        cases ht : D.there (en n) x
        · rw [if_pos ht] at h
          exact absurd h.1 (by decide)
        · rw [if_neg (by rw [ht]; decide)] at h
          obtain ⟨d, hm⟩ := there_mem.1 ht
          rw [fnd_mem (hW.dirs n hn hd).1 hm] at h
          obtain ⟨k, hk, e⟩ := hW.names n hn _ hm
          simp only at e
          rw [← e] at h hm
          exact ⟨n, hn, rfl, hd, k.1, hm, (wlk_iff hW hk).1 h⟩
    · rintro ⟨m, hm, e, hd, d, hx, h⟩
      obtain rfl := ups_eq hW.up hm hn e
      rw [if_neg (by rw [hd]; decide), if_neg (by rw [there_mem.2 ⟨d, hx⟩]; decide), fnd_mem (hW.dirs m hm hd).1 hx]
      obtain ⟨k, hk, e⟩ := hW.names m hm _ hx
      simp only at e
      rw [← e] at h ⊢
      exact (wlk_iff hW hk).2 h
theorem wlk_root {s : St} (hW : Wk s) {xs : List ByteArray} {c : Int} : ((wlk s.1 1 xs).2 = 0 ∧ (wlk s.1 1 xs).1 = c) ↔ Wlk s.1 1 xs c := by
  obtain ⟨t, ht, e, _⟩ := hW.top
  have := wlk_iff hW (xs := xs) (c := c) ht
  rwa [e] at this
theorem wlk_in {s : St} (hW : Wk s) {xs : List ByteArray} (h : (wlk s.1 1 xs).2 = 0) : ∃ n ∈ s.1, n.1 = (wlk s.1 1 xs).1 ∧ gt s.1 (wlk s.1 1 xs).1 = n ∧ Wlk s.1 1 xs n.1 := by
  have h1 := (wlk_root hW).1 ⟨h, rfl⟩
  obtain ⟨t, ht, e, _⟩ := hW.top
  obtain ⟨n, hn, e'⟩ := Wlk.there hW ht (by rw [e]; exact h1)
  exact ⟨n, hn, e', by rw [← e']; exact gt_of hW.up hn, by rw [e']; exact h1⟩
theorem wlk_append {l : List Nd} : ∀ {xs ys : List ByteArray} {i c : Int}, Wlk l i (xs ++ ys) c ↔ ∃ d, Wlk l i xs d ∧ Wlk l d ys c
  | [], ys, i, c => by
    constructor
    · intro h; exact ⟨i, rfl, h⟩
    · rintro ⟨d, h, k⟩
      have h' : i = d := h
      rw [h']; exact k
  | x :: r, ys, i, c => by
    constructor
    · rintro ⟨n, hn, e, hd, d, hx, h⟩
      obtain ⟨d', h1, h2⟩ := wlk_append.1 h
      exact ⟨d', ⟨n, hn, e, hd, d, hx, h1⟩, h2⟩
    · rintro ⟨d', ⟨n, hn, e, hd, d, hx, h1⟩, h2⟩
      exact ⟨n, hn, e, hd, d, hx, wlk_append.2 ⟨d', h1, h2⟩⟩
theorem wlk_snoc {l : List Nd} {xs : List ByteArray} {x : ByteArray} {i c : Int} : Wlk l i (xs ++ [x]) c ↔ ∃ n ∈ l, Wlk l i xs n.1 ∧ isD n = true ∧ (x, c) ∈ en n := by
  rw [wlk_append]
  constructor
  · rintro ⟨d, h, n, hn, e, hd, d', hx, h'⟩
    have h'' : d' = c := h'
    subst h''
    exact ⟨n, hn, by rw [e]; exact h, hd, hx⟩
  · rintro ⟨n, hn, h, hd, hx⟩
    exact ⟨n.1, h, n, hn, rfl, hd, c, hx, rfl⟩
theorem wlk_det {l : List Nd} (hW : Ups l) (hC : ∀ n ∈ l, isD n = true → Chk (en n)) : ∀ {xs : List ByteArray} {i a b : Int}, Wlk l i xs a → Wlk l i xs b → a = b
  | [], i, a, b, ha, hb => by
    have ha' : i = a := ha
    have hb' : i = b := hb
    rw [← ha', hb']
  | x :: r, i, a, b, ⟨n, hn, e, hd, d, hx, h⟩, ⟨m, hm, e', _, d', hx', h'⟩ => by
    obtain rfl := ups_eq hW hn hm (by rw [e, e'])
    obtain rfl := name_one (hC n hn hd) hx hx'
    exact wlk_det hW hC h h'
theorem wlk_way {l : List Nd} (hU : Ups l) : ∀ {xs : List ByteArray} {i c : Int}, Wlk l i xs c → Way l xs.length i c
  | [], _, _, h => h
  | x :: r, i, c, ⟨n, hn, e, _, d, hx, h⟩ => ⟨(x, d), by rw [← e, kid_of hU hn]; exact hx, wlk_way hU h⟩
theorem way_wlk {s : St} (hW : Wk s) : ∀ {k : Nat} {i c : Int}, Way s.1 k i c → ∃ xs : List ByteArray, xs.length = k ∧ Wlk s.1 i xs c
  | 0, _, _, h => ⟨[], rfl, h⟩
  | k + 1, i, c, ⟨e, he, h⟩ => by
    obtain ⟨xs, hl, hx⟩ := way_wlk hW h
    obtain ⟨n, hn, e1, hen, _⟩ := kid_mem he
    exact ⟨e.1 :: xs, by simp [hl], n, hn, e1, hW.dir hn hen, e.2, hen, hx⟩
theorem Ok.path_one {s : St} (h : Ok s) : ∀ {k : Nat} {xs ys : List ByteArray} {n : Nd}, xs.length ≤ k → n ∈ s.1 → isD n = true → Wlk s.1 1 xs n.1 → Wlk s.1 1 ys n.1 → xs = ys := by
  intro k
  induction k with
  | zero =>
    intro xs ys n hk hn hd hx hy
    have h0 : xs = [] := List.eq_nil_of_length_eq_zero (by omega)
    subst h0
    have e : (1 : Int) = n.1 := hx
    have h1 := h.1.way_one hn hd (wlk_way h.1.up hx) (wlk_way h.1.up hy)
    exact (List.eq_nil_of_length_eq_zero (by simpa using h1.symm)).symm
  | succ k ih =>
    intro xs ys n hk hn hd hx hy
    have h1 := h.1.way_one hn hd (wlk_way h.1.up hx) (wlk_way h.1.up hy)
    rcases List.eq_nil_or_concat xs with rfl | ⟨xs', x, rfl⟩
    · exact (List.eq_nil_of_length_eq_zero (by simpa using h1.symm)).symm
    · rcases List.eq_nil_or_concat ys with rfl | ⟨ys', y, rfl⟩
      · simp at h1
      · simp only [List.concat_eq_append] at hx hy hk h1 ⊢
        obtain ⟨p, hp, hpx, hpd, hpe⟩ := wlk_snoc.1 hx
        obtain ⟨q, hq, hqy, hqd, hqe⟩ := wlk_snoc.1 hy
        have hn1 : n.1 ≠ 1 := h.named hp hpe
        obtain ⟨rfl, e⟩ := one_link (h.1.dir_cnt hn hd hn1) hp hq hpe hqe rfl rfl h.1.up
        obtain ⟨rfl, _⟩ := Prod.mk.inj e
        rw [ih (by simp at hk; omega) hp hpd hpx hqy]
theorem Ok.path {s : St} (h : Ok s) {xs ys : List ByteArray} {n : Nd} (hn : n ∈ s.1) (hd : isD n = true) (hx : Wlk s.1 1 xs n.1) (hy : Wlk s.1 1 ys n.1) : xs = ys := h.path_one (Nat.le_refl _) hn hd hx hy
end Go.Proofs.YtkcnephbaffmbaaGreatDoor

namespace Go.Proofs.YtkcnephbaffmbaaGreatDoor
open Go.RowKit
open D (En ArgE EOks)
open F (Fl Bk flN flR bksN bksR)
theorem Tryz.info86 : (Tryz.prog.info? 86).map (fun i => (i.zero, i.size, i.bytes)) = some (some (.agg #[.int .i64 0, .bool false, .int .i64 0, .slice none 0 0, .int .i64 0, .slice none 0 0]), 6, 80) := by kernel_rfl
theorem Tryz.info78 : (Tryz.prog.info? 78).map (fun i => (i.zero, i.size, i.bytes)) = some (some (.agg #[.int .i64 0, .bool false, .int .i64 0, .slice none 0 0, .int .i64 0, .slice none 0 0]), 6, 80) := by kernel_rfl
def boolS : Shape Bool := (boolL 4 Tryz.underlying4 (by kernel_rfl)).shape
theorem cells79 : Tryz.prog.cellsOf 79 = 1 := by kernel_rfl
def ensN : Shape (List En) := D.enN.list 79 Tryz.underlying79 cells79
def ndN : Shape Nd := (i64S.and (boolS.and (i64S.and (ensN.and flN.only)))).struct 86 ⟨_, Tryz.underlying86, rfl, rfl⟩ (by kernel_rfl)
def ndR : Shape Nd := (i64S.and (boolS.and (i64S.and (D.ensR.and flR.only)))).struct 78 ⟨_, Tryz.underlying78, rfl, rfl⟩ (by kernel_rfl)
theorem cells25 : Tryz.prog.cellsOf 25 = 1 := by kernel_rfl
theorem cells22 : Tryz.prog.cellsOf 22 = 1 := by kernel_rfl
def ndsN : Shape (List Nd) := ndN.list 25 Tryz.underlying25 cells25
def ndsR : Shape (List Nd) := ndR.list 22 Tryz.underlying22 cells22
def stR : Shape St := (ndsR.and i64S.only).struct 24 ⟨_, Tryz.underlying24, rfl, rfl⟩ (by kernel_rfl)
theorem en_mk {n : Nat} {w : World} {p : En} (h : D.EOk p) : D.enF.lies n w (D.ev p) p := ⟨[_], [_], rfl, ⟨rfl, h.1⟩, ⟨rfl, h.2.wf⟩⟩
theorem each_mk {n : Nat} {w : World} : ∀ {l : List En}, EOks l → Each (D.enF.lies n w) (l.map D.ev) l
  | [], _ => trivial
  | p :: _, h => ⟨en_mk (h p (List.mem_cons_self ..)), each_mk fun q hq => h q (List.mem_cons_of_mem _ hq)⟩
theorem ens_of {n : Nat} {w : World} {v : Value} {l : List En} (h : ensN.lies n w [v] l) : ArgE n w v l := by
  obtain ⟨v', vss, hv, hC, hE⟩ := h
  obtain rfl : v = v' := by simpa using hv
  obtain ⟨rfl, ho⟩ := D.each_ev hE
  exact ⟨hC, ho⟩
theorem ens_mk {n : Nat} {w : World} {v : Value} {l : List En} (h : ArgE n w v l) : ensN.lies n w [v] l := ⟨v, l.map D.ev, rfl, h.1, each_mk h.2⟩
theorem ensR_mk {n : Nat} {w : World} {v : Value} {l : List En} (h : ArgE n w v l) : D.ensR.lies n w [v] l := ⟨v, l.map D.ev, rfl, h.1, each_mk h.2⟩
def nv (p : Nd) (e b : Value) : List Value := [.int .i64 p.1, .bool p.2.1, .int .i64 p.2.2.1, e, .int .i64 p.2.2.2.2.1, b]
def NOk (p : Nd) : Prop := I64 p.1 ∧ I64 (lk p) ∧ I64 (fi p).1
def LN (n : Nat) (w : World) (p : Nd) (e b : Value) : Prop := ArgE n w e (en p) ∧ bksN.lies n w [b] (fi p).2 ∧ NOk p
def LR (n : Nat) (w : World) (p : Nd) (e b : Value) : Prop := ArgE n w e (en p) ∧ bksR.lies n w [b] (fi p).2 ∧ NOk p
set_option maxRecDepth 100000 in
theorem nd_viewN {n : Nat} {w : World} {us : List Value} {p : Nd} (h : ndN.lies n w us p) : ∃ e b, us = nv p e b ∧ LN n w p e b := by
  obtain ⟨u1, r1, rfl, ⟨rfl, h1⟩, u2, r2, rfl, ⟨rfl, _⟩, u3, r3, rfl, ⟨rfl, h3⟩, u4, r4, rfl, h4, h5⟩ := h
  obtain ⟨a, cap, rfl, hb, h6, _⟩ := F.fl_viewN h5
  have h4' := h4
  obtain ⟨v, _, rfl, _⟩ := h4
  exact ⟨_, _, rfl, ens_of h4', hb, bounds_i64 h1, bounds_i64 h3, h6⟩
set_option maxRecDepth 100000 in
theorem nd_viewR {n : Nat} {w : World} {us : List Value} {p : Nd} (h : ndR.lies n w us p) : ∃ e b, us = nv p e b ∧ LR n w p e b := by
  obtain ⟨u1, r1, rfl, ⟨rfl, h1⟩, u2, r2, rfl, ⟨rfl, _⟩, u3, r3, rfl, ⟨rfl, h3⟩, u4, r4, rfl, h4, h5⟩ := h
  obtain ⟨a, cap, rfl, hb, h6, _⟩ := F.fl_viewR h5
  have h4' := h4
  obtain ⟨v, _, rfl, _⟩ := h4
  exact ⟨_, _, rfl, D.args_of h4', hb, bounds_i64 h1, bounds_i64 h3, h6⟩
theorem nd_mkN {n : Nat} {w : World} {p : Nd} {e b : Value} (h : LN n w p e b) : ndN.lies n w (nv p e b) p :=
  ⟨[_], _, rfl, ⟨rfl, h.2.2.1.wf⟩, [_], _, rfl, ⟨rfl, trivial⟩, [_], _, rfl, ⟨rfl, h.2.2.2.1.wf⟩, [e], _, rfl, ens_mk h.1, F.fl_mkN h.2.1 h.2.2.2.2⟩
theorem nd_mkR {n : Nat} {w : World} {p : Nd} {e b : Value} (h : LR n w p e b) : ndR.lies n w (nv p e b) p :=
  ⟨[_], _, rfl, ⟨rfl, h.2.2.1.wf⟩, [_], _, rfl, ⟨rfl, trivial⟩, [_], _, rfl, ⟨rfl, h.2.2.2.1.wf⟩, [e], _, rfl, ensR_mk h.1, F.fl_mkR h.2.1 h.2.2.2.2⟩
theorem LN.keep {n : Nat} {w w' : World} {p : Nd} {e b : Value} (h : LN n w p e b) (hs : Same n w w') : LN n w' p e b := ⟨h.1.keep hs, bksN.keep h.2.1 hs, h.2.2⟩
theorem LN.below {n : Nat} {w w' : World} {p : Nd} {e b : Value} (h : LN n w p e b) (hb : Below w.heap.size w w') : LN n w' p e b := h.keep (.of_below hb)
theorem LN.weaken {n m : Nat} {w : World} {p : Nd} {e b : Value} (h : LN n w p e b) (hm : m ≤ n) : LN m w p e b := ⟨h.1.weaken hm, bksN.weaken h.2.1 hm, h.2.2⟩
theorem LR.keep {n : Nat} {w w' : World} {p : Nd} {e b : Value} (h : LR n w p e b) (hs : Same n w w') : LR n w' p e b := ⟨h.1.keep hs, bksR.keep h.2.1 hs, h.2.2⟩
theorem LR.below {n : Nat} {w w' : World} {p : Nd} {e b : Value} (h : LR n w p e b) (hb : Below w.heap.size w w') : LR n w' p e b := h.keep (.of_below hb)
theorem LN.file {n : Nat} {w : World} {p : Nd} {e b : Value} (h : LN n w p e b) : flN.lies n w [.int .i64 (fi p).1, b] (fi p) := F.fl_mkN h.2.1 h.2.2.2.2
theorem LR.file {n : Nat} {w : World} {p : Nd} {e b : Value} (h : LR n w p e b) : flR.lies n w [.int .i64 (fi p).1, b] (fi p) := F.fl_mkR h.2.1 h.2.2.2.2
theorem st_viewR {n : Nat} {w : World} {us : List Value} {s : St} (h : stR.lies n w us s) : ∃ a cap, us = [.slice a s.1.length cap, .int .i64 s.2] ∧ ndsR.lies n w [.slice a s.1.length cap] s.1 ∧ I64 s.2 ∧ s.1.length ≤ maxLen := by
  obtain ⟨u1, u2, rfl, h1, ⟨rfl, h2⟩⟩ := h
  obtain ⟨a, cap, rfl, _, hm, _⟩ := Shape.list_len (S := ndR) (ht := Tryz.underlying22) (hc := cells22) h1
  exact ⟨a, cap, rfl, h1, bounds_i64 h2, hm⟩
theorem nds_atN {n : Nat} {w : World} {v : Value} {l : List Nd} (h : ndsN.lies n w [v] l) (i : Nat) (p : Nd) (hp : l[i]? = some p) :
    ∃ b o e f, (∀ W, (Instr.indexAt 25 v (.int .i64 i)).run Tryz.prog W = .ok (.pointer (some ⟨b, o, none⟩)) W) ∧ n ≤ b ∧ (∀ (j : Nat) u, (nv p e f)[j]? = some u → w.cell? ⟨b, o + j, none⟩ = some u) ∧ LN n w p e f := by
  obtain ⟨i0, hi0, _, hz, _⟩ := info_parts Tryz.info86
  obtain ⟨b, o, us, hix, hb, hc, hl⟩ := Shape.list_at (S := ndN) (ht := Tryz.underlying25) (hc := cells25) h (by decide) hi0 hz i p hp
  obtain ⟨e, f, rfl, hL⟩ := nd_viewN hl
  exact ⟨b, o, e, f, hix, hb, hc, hL⟩
theorem nds_atR {n : Nat} {w : World} {v : Value} {l : List Nd} (h : ndsR.lies n w [v] l) (i : Nat) (p : Nd) (hp : l[i]? = some p) :
    ∃ b o e f, (∀ W, (Instr.indexAt 22 v (.int .i64 i)).run Tryz.prog W = .ok (.pointer (some ⟨b, o, none⟩)) W) ∧ n ≤ b ∧ (∀ (j : Nat) u, (nv p e f)[j]? = some u → w.cell? ⟨b, o + j, none⟩ = some u) ∧ LR n w p e f := by
  obtain ⟨i0, hi0, _, hz, _⟩ := info_parts Tryz.info78
  obtain ⟨b, o, us, hix, hb, hc, hl⟩ := Shape.list_at (S := ndR) (ht := Tryz.underlying22) (hc := cells22) h (by decide) hi0 hz i p hp
  obtain ⟨e, f, rfl, hL⟩ := nd_viewR hl
  exact ⟨b, o, e, f, hix, hb, hc, hL⟩
theorem nv_cells {w : World} {p : Nd} {e f : Value} {b o : Nat} (h : ∀ (j : Nat) u, (nv p e f)[j]? = some u → w.cell? ⟨b, o + j, none⟩ = some u) :
    w.cell? ⟨b, o, none⟩ = some (.int .i64 p.1) ∧ w.cell? ⟨b, o + 1, none⟩ = some (.bool (isD p)) ∧ w.cell? ⟨b, o + 2, none⟩ = some (.int .i64 (lk p)) ∧ w.cell? ⟨b, o + 3, none⟩ = some e ∧ w.cell? ⟨b, o + 4, none⟩ = some (.int .i64 (fi p).1) ∧ w.cell? ⟨b, o + 5, none⟩ = some f :=
  ⟨h 0 _ rfl, h 1 _ rfl, h 2 _ rfl, h 3 _ rfl, h 4 _ rfl, h 5 _ rfl⟩
end Go.Proofs.YtkcnephbaffmbaaGreatDoor
