/-
  What dir.Add answers, for every entries and every entry.
  What dir.Remove answers, for every entries and every name.
  Plain mathematics: an entry that is added and removed again, removed and added again; entries added in any order.
  Plain mathematics of entries: what is there, what is added and what is taken away, by membership.
  Plain mathematics of file systems: nodes and states as data, ways from node to node, and which states may be.
  Plain mathematics: nodes changed one by one: what stays, and how links are counted then.
  Plain mathematics: what is made, taken away, linked, moved and written in a file system that may be makes one that may be.
  Plain mathematics: walks along names, from the root on.
  Nodes and file systems, the program's and the document's, as data; how they lie in memory.
  Where the node of a number stands among nodes in order: the comparison, the library's search by it, fs.place and fs.node.
  What the program tells of nodes one by one: their numbers, what their kind may have, how many links they may have.
  What the program tells of each node's kind: directories and files that may be, and how many links each may have.
-/
import Derived.Test.YtopcefhncildnaaGreatDoorZ15
import Derived.Test.YtopcefhncildnaaGreatDoorZ29
set_option maxRecDepth 100000
set_option maxHeartbeats 4000000
namespace Go.Proofs.YtopcefhncildnaaGreatDoor.D
open Go.RowKit
def ins (l : List En) (e : En) : List En := l.take (pos l e.1) ++ e :: l.drop (pos l e.1)
def aerr (l : List En) (e : En) : Int := if Chk l then (if nameOk e.1 = true then (if inoOk e.2 = true then (if there l e.1 = true then 102 else if l.length = 63 then 51 else 0) else 4) else 106) else 9
def aval (l : List En) (e : En) : List En := if aerr l e = 0 then ins l e else []
theorem ArgE.len {n : Nat} {w : World} {v : Value} {l : List En} (h : ArgE n w v l) (W : World) : (Builtin.len_ #[42] 3 #[v]).run Tryz.prog W = .ok (.int .i64 l.length) W := by
 obtain ⟨a, c, rfl, _⟩ := h.shape
 exact run_len Tryz.underlying42 a l.length c W
end Go.Proofs.YtopcefhncildnaaGreatDoor.D
namespace Go.Proofs.YtopcefhncildnaaGreatDoor
open Go.RowKit
open D
theorem Cells.box {w : World} {g : Nat} {t : TypeId} {cs : Array Value} (h : Box w g t cs) {n0 size n : Nat} (hs : cs.size = n * size) (hn : n ≤ maxLen) (hg : n0 ≤ g) : Cells n0 w size (.slice (some ⟨g, 0, none⟩) n n) n cs.toList := by
 refine ⟨by simpa using hs, .inr ⟨⟨g, 0, none⟩, n, rfl, Nat.le_refl _, hn, hg, fun i u hu => ?_⟩⟩
 rw [add_plain, Nat.zero_add]
 exact h.cell i (by simpa using hu)
end Go.Proofs.YtopcefhncildnaaGreatDoor
namespace Go.Proofs.YtopcefhncildnaaGreatDoor.D
open Go.RowKit
theorem ArgE.box {w : World} {g : Nat} {t : TypeId} {p : En} (h : Box w g t #[.string p.1, .int .i64 p.2]) {n0 : Nat} (hp : EOk p) (hg : n0 ≤ g) : ArgE n0 w (.slice (some ⟨g, 0, none⟩) 1 1) [p] :=
 ⟨Cells.box h (by rfl) (by unfold maxLen; omega) hg, fun q hq => by rw [List.mem_singleton.1 hq]; exact hp⟩
end Go.Proofs.YtopcefhncildnaaGreatDoor.D
namespace Go.Proofs.YtopcefhncildnaaGreatDoor.D
open Go.RowKit
def del (l : List En) (x : ByteArray) : List En := l.take (pos l x) ++ l.drop (pos l x + 1)
end Go.Proofs.YtopcefhncildnaaGreatDoor.D
namespace Go.Proofs.YtopcefhncildnaaGreatDoor.D
theorem ahead_lt {l : List En} (hU : Up l) (x : ByteArray) : ∀ p ∈ l.take (pos l x), ltB p.1 x = true := fun p hp => by
 obtain ⟨i, hi⟩ := List.getElem?_of_mem hp
 rw [List.getElem?_take] at hi
 split at hi
 · exact (pos_at hU x hi).2 (by assumption)
 · cases hi
theorem behind_ge {l : List En} (hU : Up l) (x : ByteArray) (k : Nat) (hk : pos l x ≤ k) : ∀ p ∈ l.drop k, ltB p.1 x = false := fun p hp => by
 obtain ⟨i, hi⟩ := List.getElem?_of_mem hp
 rw [List.getElem?_drop] at hi
 rw [Bool.eq_false_iff]
 intro hc
 have := (pos_at hU x hi).1 hc
 omega
theorem behind_gt {l : List En} (hU : Up l) {x : ByteArray} (k : Nat) (hk : pos l x ≤ k) (hn : ∀ p ∈ l.drop k, p.1 ≠ x) : ∀ p ∈ l.drop k, ltB x p.1 = true := fun p hp => ltB_tri _ _ (hn p hp) (behind_ge hU x k hk p hp)
theorem there_ne {l : List En} {x : ByteArray} (h : there l x = false) : ∀ p ∈ l, p.1 ≠ x := fun p hp he => by
 unfold there at h
 rw [List.any_eq_false] at h
 exact h p hp (by simpa using he)
theorem aerr_zero {l : List En} {e : En} (h : aerr l e = 0) : Chk l ∧ Good e ∧ there l e.1 = false ∧ l.length < 63 := by
 unfold aerr at h
 by_cases h1 : Chk l
 · rw [if_pos h1] at h
   by_cases h2 : nameOk e.1 = true
   · rw [if_pos h2] at h
     by_cases h3 : inoOk e.2 = true
     · rw [if_pos h3] at h
       cases h4 : there l e.1
       · rw [h4, if_neg (by decide)] at h
         by_cases h5 : l.length = 63
         · rw [if_pos h5] at h; cases h
         · exact ⟨h1, ⟨h2, h3⟩, rfl, by have := h1.1; omega⟩
       · rw [h4, if_pos rfl] at h; cases h
     · rw [if_neg h3] at h; cases h
   · rw [if_neg h2] at h; cases h
 · rw [if_neg h1] at h; cases h
theorem aerr_mk {l : List En} {e : En} (h1 : Chk l) (h2 : Good e) (h3 : there l e.1 = false) (h4 : l.length < 63) : aerr l e = 0 := by
 unfold aerr
 rw [if_pos h1, if_pos h2.1, if_pos h2.2, h3, if_neg (by decide), if_neg (by omega)]
theorem ins_fine {l : List En} {e : En} (h : Fine l) (he : Good e) (hn : there l e.1 = false) : Fine (ins l e) := by
 have hne := there_ne hn
 refine ⟨fun p hp => ?_, ?_⟩
 · unfold ins at hp
   rcases List.mem_append.1 hp with hp | hp
   · exact h.1 p (List.mem_of_mem_take hp)
   · rcases List.mem_cons.1 hp with rfl | hp
     · exact he
     · exact h.1 p (List.mem_of_mem_drop hp)
 · have h1 := ahead_lt h.2 e.1
   have h2 := behind_gt h.2 (pos l e.1) (Nat.le_refl _) (fun p hp => hne p (List.mem_of_mem_drop hp))
   unfold ins
   refine List.pairwise_append.2 ⟨h.2.sublist (List.take_sublist ..), List.pairwise_cons.2 ⟨h2, h.2.sublist (List.drop_sublist ..)⟩, fun a ha b hb => ?_⟩
   rcases List.mem_cons.1 hb with rfl | hb
   · exact h1 a ha
   · exact ltB_trans (h1 a ha) (h2 b hb)
theorem ins_length (l : List En) (e : En) : (ins l e).length = l.length + 1 := by
 have := pos_le l e.1
 simp [ins]
 omega
theorem ins_perm (l : List En) (e : En) : (ins l e).Perm (e :: l) := by
 unfold ins
 refine List.perm_middle.trans ?_
 rw [List.take_append_drop]
def gone (l : List En) (k : Nat) : List En := (l.set k (l.getD (l.length - 1) (⟨#[]⟩, 0))).take (l.length - 1)
theorem gone_perm {l : List En} {k : Nat} {p : En} (h : l[k]? = some p) : l.Perm (p :: gone l k) := by
 obtain ⟨hlt, hp⟩ := List.getElem?_eq_some_iff.1 h
 rcases List.eq_nil_or_concat l with rfl | ⟨m, q, rfl⟩
 · simp at hlt
 · simp only [List.concat_eq_append] at h hlt hp ⊢
   unfold gone
   simp only [List.length_append, List.length_cons, List.length_nil, Nat.zero_add, Nat.add_sub_cancel]
   by_cases hk : k < m.length
   · rw [List.set_append_left _ _ hk, List.take_left' (by simp)]
     have hq : (m ++ [q]).getD m.length (⟨#[]⟩, 0) = q := by simp [List.getD]
     rw [hq]
     have hpk : m[k]? = some p := by rw [List.getElem?_append_left hk] at h; exact h
     have h1 : m = m.take k ++ p :: m.drop (k + 1) := by (
 have h2 := List.take_append_drop k m
 rw [List.drop_eq_getElem_cons hk, (List.getElem?_eq_some_iff.1 hpk).2] at h2
 exact h2.symm)
     have h2 : m.set k q = m.take k ++ q :: m.drop (k + 1) := by
       rw [List.set_eq_take_append_cons_drop, if_pos hk]
     rw [h2]
     have h3 : (m ++ [q]).Perm (q :: m) := List.perm_append_comm
     refine h3.trans ?_
     have h4 : (q :: m).Perm (q :: (p :: (m.take k ++ m.drop (k + 1)))) := by (
 refine List.Perm.cons q ?_
 have h5 : (m.take k ++ p :: m.drop (k + 1)).Perm (p :: (m.take k ++ m.drop (k + 1))) := List.perm_middle
 rw [← h1] at h5
 exact h5)
     refine h4.trans ((List.Perm.swap p q _).trans (List.Perm.cons p ?_))
     exact List.perm_middle.symm
   · have hkm : k = m.length := by simp at hlt; omega
     subst hkm
     have hpq : q = p := by (
 rw [List.getElem?_append_right (Nat.le_refl _)] at h
 simpa using h)
     subst hpq
     rw [List.set_append_right _ _ (Nat.le_refl _), List.take_left' rfl]
     exact List.perm_append_comm
def Sorts (l own left : List En) : Prop := Fine own ∧ (own ++ left).Perm l
theorem Sorts.step {l own left : List En} (hC : Chk l) (h : Sorts l own left) {k : Nat} {p : En} (hp : left[k]? = some p) : aerr own p = 0 ∧ Sorts l (aval own p) (gone left k) := by
 obtain ⟨hF, hP⟩ := h
 have hpm : p ∈ left := List.mem_of_getElem? hp
 have hpl : p ∈ l := hP.subset (List.mem_append_right _ hpm)
 have hlen := hP.length_eq
 rw [List.length_append] at hlen
 have hpos : 0 < left.length := List.length_pos_of_mem hpm
 have hnd : (own ++ left).Pairwise fun a b => a.1 ≠ b.1 := by (
 have h1 : l.Pairwise fun a b => a.1 ≠ b.1 := hC.2.2.imp fun {a b} hab he => by
   rw [he, ltB_irrefl] at hab
   cases hab
 exact h1.perm hP.symm (fun h => Ne.symm h))
 have hnt : there own p.1 = false := by (
 rw [Bool.eq_false_iff]
 intro hc
 unfold there at hc
 rw [List.any_eq_true] at hc
 obtain ⟨q, hq, hqe⟩ := hc
 exact (List.pairwise_append.1 hnd).2.2 q hq p hpm (by simpa using hqe))
 have hae : aerr own p = 0 := aerr_mk ⟨by have := hC.1; omega, hF⟩ (hC.2.1 p hpl) hnt (by have := hC.1; omega)
 refine ⟨hae, ?_⟩
 have hav : aval own p = ins own p := if_pos hae
 rw [hav]
 refine ⟨ins_fine hF (hC.2.1 p hpl) hnt, ?_⟩
 refine List.Perm.trans ?_ hP
 have h1 : (ins own p ++ gone left k).Perm (p :: own ++ gone left k) := (ins_perm own p).append_right _
 have h2 : (own ++ left).Perm (own ++ p :: gone left k) := (gone_perm hp).append_left own
 exact h1.trans (List.Perm.trans List.perm_middle.symm h2.symm)
theorem Sorts.done {l own : List En} (hC : Chk l) (h : Sorts l own []) : own = l := by
 obtain ⟨hF, hP⟩ := h
 rw [List.append_nil] at hP
 exact hP.eq_of_pairwise (le := fun p q : En => ltB p.1 q.1 = true) (fun a b _ _ h1 h2 => by rw [ltB_asymm h1] at h2; cases h2) hF.2 hC.2.2
end Go.Proofs.YtopcefhncildnaaGreatDoor.D
namespace Go.Proofs.YtopcefhncildnaaGreatDoor.D
theorem there_mem {l : List En} {x : ByteArray} : there l x = true ↔ ∃ c, (x, c) ∈ l := by
 unfold there
 rw [List.any_eq_true]
 constructor
 · rintro ⟨p, hp, he⟩
   have e : p.1 = x := by simpa using he
   exact ⟨p.2, by rw [← e]; exact hp⟩
 · rintro ⟨c, hc⟩
   exact ⟨(x, c), hc, by simp⟩
theorem fnd_mem {l : List En} (h : Chk l) {x : ByteArray} {c : Int} (hm : (x, c) ∈ l) : fnd l x = c := by
 obtain ⟨i, hi⟩ := List.getElem?_of_mem hm
 obtain rfl := there_pos h.2.2 hi rfl
 exact fnd_pos h.2.2 hi rfl
theorem mem_ins {l : List En} {e p : En} : p ∈ ins l e ↔ p = e ∨ p ∈ l := by
 rw [(ins_perm l e).mem_iff, List.mem_cons]
theorem chk_ins {l : List En} {e : En} (h : Chk l) (he : Good e) (ht : there l e.1 = false) (hl : l.length < 63) : Chk (ins l e) := ⟨by rw [ins_length]; omega, ins_fine h.2 he ht⟩
theorem chk_del {l : List En} {x : ByteArray} (h : Chk l) : Chk (del l x) := by
 have hsub : (del l x).Sublist l := by (
 have h1 : (l.take (pos l x) ++ l.drop (pos l x + 1)).Sublist (l.take (pos l x) ++ l.drop (pos l x)) := List.Sublist.append (List.Sublist.refl _) (by rw [← List.drop_drop]; exact List.drop_sublist ..)
 rw [List.take_append_drop] at h1
 exact h1)
 exact ⟨Nat.le_trans hsub.length_le h.1, fun q hq => h.2.1 q (hsub.subset hq), h.2.2.sublist hsub⟩
theorem del_perm {l : List En} (h : Chk l) {x : ByteArray} {c : Int} (hm : (x, c) ∈ l) : l.Perm ((x, c) :: del l x) := by
 obtain ⟨i, hi⟩ := List.getElem?_of_mem hm
 obtain rfl := there_pos h.2.2 hi rfl
 have hlt := (List.getElem?_eq_some_iff.1 hi).1
 have h1 : l = l.take (pos l x) ++ (x, c) :: l.drop (pos l x + 1) := by (
 have h2 := List.take_append_drop (pos l x) l
 rw [List.drop_eq_getElem_cons hlt, (List.getElem?_eq_some_iff.1 hi).2] at h2
 exact h2.symm)
 unfold del
 have h3 : (l.take (pos l x) ++ (x, c) :: l.drop (pos l x + 1)).Perm ((x, c) :: (l.take (pos l x) ++ l.drop (pos l x + 1))) := List.perm_middle
 rw [← h1] at h3
 exact h3
theorem del_none {l : List En} (h : Chk l) {x : ByteArray} : ∀ p ∈ del l x, p.1 ≠ x := fun p hp => by
 unfold del at hp
 intro e
 rcases List.mem_append.1 hp with hp | hp
 · have := ahead_lt h.2.2 x p hp
   rw [e, ltB_irrefl] at this
   cases this
 · obtain ⟨i, hi⟩ := List.getElem?_of_mem hp
   rw [List.getElem?_drop] at hi
   have := there_pos h.2.2 hi e
   omega
theorem mem_del {l : List En} (h : Chk l) {x : ByteArray} {p : En} (hp : p ∈ del l x) : p ∈ l ∧ p.1 ≠ x := by
 refine ⟨?_, del_none h p hp⟩
 unfold del at hp
 rcases List.mem_append.1 hp with hp | hp
 · exact List.mem_of_mem_take hp
 · exact List.mem_of_mem_drop hp
end Go.Proofs.YtopcefhncildnaaGreatDoor.D
namespace Go.Proofs.YtopcefhncildnaaGreatDoor
open D (En nameOk inoOk Good Chk there fnd ins del there_mem fnd_mem mem_ins mem_del chk_ins chk_del ins_perm del_perm)
open F (Fl chk)
abbrev Nd := Int × Bool × Int × List En × Fl
abbrev St := List Nd × Int
abbrev isD (n : Nd) : Bool := n.2.1
abbrev lk (n : Nd) : Int := n.2.2.1
abbrev en (n : Nd) : List En := n.2.2.2.1
abbrev fi (n : Nd) : Fl := n.2.2.2.2
def Ups (l : List Nd) : Prop := l.Pairwise fun a b => a.1 < b.1
def fd (l : List Nd) (i : Int) : Option Nd := l.find? fun n => n.1 == i
def kid (l : List Nd) (i : Int) : List En := match fd l i with | some n => en n | none => []
def cnt (l : List Nd) (i : Int) : Nat := (l.map fun n => (en n).countP fun e => e.2 == i).sum
theorem ups_eq {l : List Nd} (h : Ups l) {a b : Nd} (ha : a ∈ l) (hb : b ∈ l) (e : a.1 = b.1) : a = b := by
 induction l with
 | nil => cases ha
 | cons c r ih => (
 obtain ⟨h1, h2⟩ := List.pairwise_cons.1 h
 rcases List.mem_cons.1 ha with ea | ka <;> rcases List.mem_cons.1 hb with eb | kb
 · rw [ea, eb]
 · have := h1 b kb; rw [← ea] at this; omega
 · have := h1 a ka; rw [← eb] at this; omega
 · exact ih h2 ka kb)
theorem fd_mem {l : List Nd} {i : Int} {n : Nd} (h : fd l i = some n) : n ∈ l ∧ n.1 = i := by
 unfold fd at h
 exact ⟨List.mem_of_find?_eq_some h, by have := List.find?_some h; simpa using this⟩
theorem fd_of {l : List Nd} (hU : Ups l) {n : Nd} (h : n ∈ l) : fd l n.1 = some n := by
 cases hf : fd l n.1 with
 | none => (
 unfold fd at hf
 rw [List.find?_eq_none] at hf
 exact ((hf n h) (by simp)).elim)
 | some m =>
   obtain ⟨h1, h2⟩ := fd_mem hf
   rw [ups_eq hU h1 h h2]
theorem kid_of {l : List Nd} (hU : Ups l) {n : Nd} (h : n ∈ l) : kid l n.1 = en n := by unfold kid; rw [fd_of hU h]
theorem kid_mem {l : List Nd} {i : Int} {e : En} (h : e ∈ kid l i) : ∃ n ∈ l, n.1 = i ∧ e ∈ en n ∧ kid l i = en n := by
 unfold kid at h ⊢
 cases hf : fd l i with
 | none => rw [hf] at h; cases h
 | some n => (
 rw [hf] at h
 obtain ⟨h1, h2⟩ := fd_mem hf
 exact ⟨n, h1, h2, h, rfl⟩)
def Way (l : List Nd) : Nat → Int → Int → Prop
 | 0, i, x => i = x
 | k + 1, i, x => ∃ e ∈ kid l i, Way l k e.2 x
theorem way_snoc {l : List Nd} : ∀ {k : Nat} {i x : Int}, Way l (k + 1) i x ↔ ∃ y, Way l k i y ∧ ∃ e ∈ kid l y, e.2 = x
 | 0, i, x => by (
 constructor
 · rintro ⟨e, he, h⟩
   exact ⟨i, rfl, e, he, h⟩
 · rintro ⟨y, h, e, he, hx⟩
   have h' : i = y := h
   subst h'
   exact ⟨e, he, hx⟩)
 | k + 1, i, x => by (
 constructor
 · rintro ⟨e, he, h⟩
   obtain ⟨y, hy, f, hf, hx⟩ := way_snoc.1 h
   exact ⟨y, ⟨e, he, hy⟩, f, hf, hx⟩
 · rintro ⟨y, ⟨e, he, hy⟩, f, hf, hx⟩
   exact ⟨e, he, way_snoc.2 ⟨y, hy, f, hf, hx⟩⟩)
def dpt (l : List Nd) : Nat → Int → Nat
 | 0, _ => 0
 | k + 1, i => (kid l i).foldl (fun m e => max m (1 + dpt l k e.2)) 0
def Bd (l : List Nd) : Nat → Int → Prop
 | 0, i => kid l i = []
 | k + 1, i => ∀ e ∈ kid l i, Bd l k e.2
def vis (l : List Nd) : Nat → Int → List Int
 | 0, i => [i]
 | k + 1, i => i :: (kid l i).flatMap fun e => vis l k e.2
theorem foldmax_le {α : Type} (g : α → Nat) (c : Nat) : ∀ (l : List α) (m : Nat), l.foldl (fun m e => max m (g e)) m ≤ c ↔ m ≤ c ∧ ∀ e ∈ l, g e ≤ c
 | [], m => by simp
 | a :: r, m => by
   rw [List.foldl_cons, foldmax_le g c r, Nat.max_le]
   simp only [List.mem_cons, forall_eq_or_imp, and_assoc]
theorem foldmax_congr {α : Type} {g h : α → Nat} : ∀ {l : List α} {m : Nat}, (∀ e ∈ l, g e = h e) → l.foldl (fun m e => max m (g e)) m = l.foldl (fun m e => max m (h e)) m
 | [], _, _ => rfl
 | a :: r, m, hh => by
   rw [List.foldl_cons, List.foldl_cons, hh a (List.mem_cons_self ..)]
   exact foldmax_congr fun e he => hh e (List.mem_cons_of_mem _ he)
theorem dpt_le {l : List Nd} : ∀ (k : Nat) (i : Int), dpt l k i ≤ k
 | 0, _ => Nat.le_refl _
 | k + 1, i => by
   rw [dpt, foldmax_le]
   exact ⟨Nat.zero_le _, fun e _ => by have := dpt_le (l := l) k e.2; omega⟩
theorem bd_iff {l : List Nd} : ∀ (k : Nat) (i : Int), Bd l k i ↔ dpt l (k + 1) i ≤ k
 | 0, i => by (
 rw [dpt, foldmax_le]
 constructor
 · intro h
   have h' : kid l i = [] := h
   rw [h']
   exact ⟨Nat.le_refl _, fun e he => by cases he⟩
 · intro ⟨_, h⟩
   show kid l i = []
   cases hk : kid l i with
   | nil => rfl
   | cons e r => have := h e (by rw [hk]; exact List.mem_cons_self ..); omega)
 | k + 1, i => by (
 rw [dpt, foldmax_le]
 constructor
 · intro h
   exact ⟨Nat.zero_le _, fun e he => by have := (bd_iff k e.2).1 (h e he); omega⟩
 · intro ⟨_, h⟩ e he
   exact (bd_iff k e.2).2 (by have := h e he; omega))
theorem bd_more {l : List Nd} : ∀ {k : Nat} {i : Int}, Bd l k i → Bd l (k + 1) i
 | 0, i, h => fun e he => by
   have h' : kid l i = [] := h
   rw [h'] at he; cases he
 | _ + 1, _, h => fun e he => bd_more (h e he)
theorem bd_le {l : List Nd} {k j : Nat} {i : Int} (h : Bd l k i) (hj : k ≤ j) : Bd l j i := by
 induction hj with
 | refl => exact h
 | step _ ih => exact bd_more ih
theorem dpt_same {l : List Nd} : ∀ {k : Nat} {i : Int}, Bd l k i → ∀ {j : Nat}, k ≤ j → dpt l j i = dpt l k i
 | 0, i, h, j, _ => by (
 have h' : kid l i = [] := h
 cases j with
 | zero => rfl
 | succ j => simp [dpt, h'])
 | k + 1, i, h, j, hj => by (
 cases j with
 | zero => omega
 | succ j =>
   rw [dpt, dpt]
   exact foldmax_congr fun e he => by rw [dpt_same (h e he) (by omega : k ≤ j)])
theorem dpt_mono {l : List Nd} : ∀ {k j : Nat} {i : Int}, k ≤ j → dpt l k i ≤ dpt l j i
 | 0, _, _, _ => Nat.zero_le _
 | k + 1, 0, _, h => by omega
 | k + 1, j + 1, i, h => by (
 rw [dpt, foldmax_le]
 refine ⟨Nat.zero_le _, fun e he => ?_⟩
 have h1 := dpt_mono (l := l) (i := e.2) (by omega : k ≤ j)
 have h2 := ((foldmax_le (fun e : En => 1 + dpt l j e.2) (dpt l (j + 1) i) (kid l i) 0).1 (Nat.le_refl _)).2 e he
 omega)
theorem bd_way {l : List Nd} : ∀ {k : Nat} {i : Int}, Bd l k i ↔ ∀ x, ¬ Way l (k + 1) i x
 | 0, i => by (
 constructor
 · intro h x ⟨e, he, _⟩
   have h' : kid l i = [] := h
   rw [h'] at he; cases he
 · intro h
   show kid l i = []
   cases hk : kid l i with
   | nil => rfl
   | cons e r => exact absurd ⟨e, by rw [hk]; exact List.mem_cons_self .., rfl⟩ (h e.2))
 | k + 1, i => by (
 constructor
 · intro h x ⟨e, he, hw⟩
   exact bd_way.1 (h e he) x hw
 · intro h e he
   exact bd_way.2 fun x hx => h x ⟨e, he, hx⟩)
theorem vis_way {l : List Nd} : ∀ {k : Nat} {i x : Int}, x ∈ vis l k i ↔ ∃ j ≤ k, Way l j i x
 | 0, i, x => by (
 simp only [vis, List.mem_singleton]
 constructor
 · rintro rfl; exact ⟨0, Nat.le_refl _, rfl⟩
 · rintro ⟨j, hj, h⟩
   obtain rfl : j = 0 := by omega
   have h' : i = x := h
   exact h'.symm)
 | k + 1, i, x => by (
 simp only [vis, List.mem_cons, List.mem_flatMap]
 constructor
 · rintro (rfl | ⟨e, he, h⟩)
   · exact ⟨0, Nat.zero_le _, rfl⟩
   · obtain ⟨j, hj, hw⟩ := vis_way.1 h
     exact ⟨j + 1, by omega, e, he, hw⟩
 · rintro ⟨j, hj, h⟩
   cases j with
   | zero => have h' : i = x := h; exact .inl h'.symm
   | succ j => (
 obtain ⟨e, he, hw⟩ := h
 exact .inr ⟨e, he, vis_way.2 ⟨j, by omega, hw⟩⟩))
theorem way_cut {l : List Nd} {k : Nat} {i : Int} (h : Bd l k i) : ∀ {j : Nat} {x : Int}, Way l j i x → j ≤ k := by
 intro j x hw
 rcases Nat.lt_or_ge k j with c | c
 · have h1 := bd_le h (by omega : k ≤ j - 1)
   have h2 := bd_way.1 h1 x
   rw [show j - 1 + 1 = j by omega] at h2
   exact absurd hw h2
 · exact c
theorem vis_same {l : List Nd} {k : Nat} {i : Int} (h : Bd l k i) {j : Nat} (hj : k ≤ j) {x : Int} : x ∈ vis l j i ↔ x ∈ vis l k i := by
 rw [vis_way, vis_way]
 constructor
 · rintro ⟨a, _, hw⟩; exact ⟨a, way_cut h hw, hw⟩
 · rintro ⟨a, ha, hw⟩; exact ⟨a, by omega, hw⟩
theorem cnt_one {l : List Nd} {n : Nd} {e : En} (hn : n ∈ l) (he : e ∈ en n) : 1 ≤ cnt l e.2 := by
 induction l with
 | nil => cases hn
 | cons a r ih => (
 simp only [cnt, List.map_cons, List.sum_cons]
 rcases List.mem_cons.1 hn with rfl | hn
 · have : 0 < (en n).countP fun x => x.2 == e.2 := List.countP_pos_iff.2 ⟨e, he, by simp⟩
   omega
 · have := ih hn
   simp only [cnt] at this
   omega)
theorem cnt_two {l : List Nd} {n m : Nd} {e f : En} (hn : n ∈ l) (hm : m ∈ l) (hne : n.1 ≠ m.1) (he : e ∈ en n) (hf : f ∈ en m) (hef : f.2 = e.2) : 2 ≤ cnt l e.2 := by
 induction l with
 | nil => cases hn
 | cons a r ih => (
 simp only [cnt, List.map_cons, List.sum_cons]
 rcases List.mem_cons.1 hn with ea | ka <;> rcases List.mem_cons.1 hm with eb | kb
 · exact absurd (by rw [ea, eb]) hne
 · have h1 : 0 < (en n).countP fun x => x.2 == e.2 := List.countP_pos_iff.2 ⟨e, he, by simp⟩
   have h2 := cnt_one kb hf
   rw [hef] at h2
   simp only [cnt] at h2
   rw [← ea]
   omega
 · have h1 : 0 < (en m).countP fun x => x.2 == e.2 := List.countP_pos_iff.2 ⟨f, hf, by simp [hef]⟩
   have h2 := cnt_one ka he
   simp only [cnt] at h2
   rw [← eb]
   omega
 · have := ih ka kb
   simp only [cnt] at this
   omega)
theorem count_two {es : List En} {e f : En} (he : e ∈ es) (hf : f ∈ es) (hne : e ≠ f) (hef : f.2 = e.2) : 2 ≤ es.countP fun x => x.2 == e.2 := by
 induction es with
 | nil => cases he
 | cons a r ih => (
 rw [List.countP_cons]
 rcases List.mem_cons.1 he with ea | ka <;> rcases List.mem_cons.1 hf with eb | kb
 · exact absurd (by rw [ea, eb]) hne
 · have : 0 < r.countP fun x => x.2 == e.2 := List.countP_pos_iff.2 ⟨f, kb, by simp [hef]⟩
   rw [← ea, if_pos (by simp)]; omega
 · have : 0 < r.countP fun x => x.2 == e.2 := List.countP_pos_iff.2 ⟨e, ka, by simp⟩
   rw [← eb, if_pos (by simp [hef])]; omega
 · have := ih ka kb; omega)
theorem cnt_ge {l : List Nd} {n : Nd} (hn : n ∈ l) (i : Int) : ((en n).countP fun x => x.2 == i) ≤ cnt l i := by
 induction l with
 | nil => cases hn
 | cons a r ih => (
 simp only [cnt, List.map_cons, List.sum_cons]
 rcases List.mem_cons.1 hn with rfl | hn
 · omega
 · have := ih hn
   simp only [cnt] at this
   omega)
theorem cnt_zero {l : List Nd} {i : Int} (h : cnt l i = 0) {n : Nd} (hn : n ∈ l) {e : En} (he : e ∈ en n) : e.2 ≠ i := fun c => by
 subst c
 have := cnt_one hn he
 omega
theorem one_link {l : List Nd} {i : Int} (h : cnt l i = 1) {n m : Nd} (hn : n ∈ l) (hm : m ∈ l) {e f : En} (he : e ∈ en n) (hf : f ∈ en m) (h1 : e.2 = i) (h2 : f.2 = i) (hU : Ups l) : n = m ∧ e = f := by
 subst h1
 have hnm : n.1 = m.1 := Decidable.byContradiction fun c => by
   have := cnt_two hn hm c he hf h2
   omega
 obtain rfl := ups_eq hU hn hm hnm
 refine ⟨rfl, Decidable.byContradiction fun c => ?_⟩
 have h3 := count_two he hf c h2
 have h4 := cnt_ge hn e.2
 omega
structure Pre (s : St) : Prop where
 nx : 2 ≤ s.2 ∧ s.2 ≤ 2147483647
 len : s.1.length ≤ 128
 up : Ups s.1
 low : ∀ n ∈ s.1, 1 ≤ n.1 ∧ n.1 < s.2
 top : ∃ n ∈ s.1, n.1 = 1 ∧ isD n = true
 dirs : ∀ n ∈ s.1, isD n = true → Chk (en n) ∧ fi n = (0, [])
 files : ∀ n ∈ s.1, isD n = false → en n = [] ∧ chk (fi n) = true
 names : ∀ n ∈ s.1, ∀ e ∈ en n, ∃ m ∈ s.1, m.1 = e.2
 links : ∀ n ∈ s.1, lk n = (cnt s.1 n.1 : Int)
 root : ∀ n ∈ s.1, n.1 = 1 → lk n = 0
 one : ∀ n ∈ s.1, n.1 ≠ 1 → isD n = true → lk n = 1
 some : ∀ n ∈ s.1, n.1 ≠ 1 → isD n = false → 1 ≤ lk n ∧ lk n ≤ 16
def Deep (l : List Nd) : Prop := ∃ D : Int → Nat, D 1 = 0 ∧ ∀ n ∈ l, isD n = true → ∀ e ∈ en n, D n.1 + 1 ≤ 8 ∧ ∀ m ∈ l, m.1 = e.2 → isD m = true → D m.1 = D n.1 + 1
def Ok (s : St) : Prop := Pre s ∧ Deep s.1
theorem Pre.dir {s : St} (h : Pre s) {n : Nd} (hn : n ∈ s.1) {e : En} (he : e ∈ en n) : isD n = true := by
 cases hd : isD n
 · rw [(h.files n hn hd).1] at he; cases he
 · rfl
theorem Pre.top_cnt {s : St} (h : Pre s) : cnt s.1 1 = 0 := by
 obtain ⟨n, hn, h1, _⟩ := h.top
 have h2 := h.links n hn
 rw [h.root n hn h1, h1] at h2
 omega
theorem Pre.dir_cnt {s : St} (h : Pre s) {n : Nd} (hn : n ∈ s.1) (hd : isD n = true) (h1 : n.1 ≠ 1) : cnt s.1 n.1 = 1 := by
 have h2 := h.links n hn
 rw [h.one n hn h1 hd] at h2
 omega
theorem Pre.way_one {s : St} (h : Pre s) : ∀ {a b : Nat} {n : Nd}, n ∈ s.1 → isD n = true → Way s.1 a 1 n.1 → Way s.1 b 1 n.1 → a = b
 | 0, 0, _, _, _, _, _ => rfl
 | 0, b + 1, n, hn, hd, ha, hb => by (
 have ha' : 1 = n.1 := ha
 obtain ⟨y, hy, e, he, hx⟩ := way_snoc.1 hb
 obtain ⟨m, hm, _, hem, _⟩ := kid_mem he
 exact absurd (hx.trans ha'.symm) (cnt_zero h.top_cnt hm hem))
 | a + 1, 0, n, hn, hd, ha, hb => by (
 have hb' : 1 = n.1 := hb
 obtain ⟨y, hy, e, he, hx⟩ := way_snoc.1 ha
 obtain ⟨m, hm, _, hem, _⟩ := kid_mem he
 exact absurd (hx.trans hb'.symm) (cnt_zero h.top_cnt hm hem))
 | a + 1, b + 1, n, hn, hd, ha, hb => by (
 obtain ⟨y, hy, e, he, hx⟩ := way_snoc.1 ha
 obtain ⟨z, hz, f, hf, hx'⟩ := way_snoc.1 hb
 obtain ⟨m, hm, rfl, hem, _⟩ := kid_mem he
 obtain ⟨k, hk, rfl, hfk, _⟩ := kid_mem hf
 have h1 : n.1 ≠ 1 := fun c => cnt_zero h.top_cnt hm hem (by rw [hx, c])
 obtain ⟨rfl, _⟩ := one_link (h.dir_cnt hn hd h1) hm hk hem hfk hx hx' h.up
 rw [h.way_one hm (h.dir hm hem) hy hz])
theorem nodup_le : ∀ {l m : List Int}, l.Nodup → (∀ x ∈ l, x ∈ m) → l.length ≤ m.length
 | [], _, _, _ => Nat.zero_le _
 | a :: r, m, h, hs => by (
 obtain ⟨h1, h2⟩ := List.nodup_cons.1 h
 have hm : a ∈ m := hs a (List.mem_cons_self ..)
 have h3 := nodup_le (l := r) (m := m.erase a) h2 fun x hx => (List.mem_erase_of_ne fun c => h1 (by rw [← c]; exact hx)).2 (hs x (List.mem_cons_of_mem _ hx))
 rw [List.length_erase_of_mem hm] at h3
 have := List.length_pos_of_mem hm
 rw [List.length_cons]
 omega)
theorem way_nodes {l : List Nd} : ∀ {k : Nat} {x : Int}, Way l k 1 x → ∃ ys : List Int, ys.length = k ∧ ∀ (j : Nat) y, ys[j]? = some y → Way l j 1 y ∧ ∃ n ∈ l, n.1 = y ∧ ∃ e, e ∈ en n
 | 0, _, _ => ⟨[], rfl, fun j y h => by simp at h⟩
 | k + 1, x, h => by (
 obtain ⟨y, hy, e, he, _⟩ := way_snoc.1 h
 obtain ⟨ys, hl, hys⟩ := way_nodes hy
 obtain ⟨n, hn, h1, hen, _⟩ := kid_mem he
 refine ⟨ys ++ [y], by simp [hl], fun j z hz => ?_⟩
 by_cases hj : j < ys.length
 · rw [List.getElem?_append_left hj] at hz
   exact hys j z hz
 · rw [List.getElem?_append_right (by omega)] at hz
   have h0 : j - ys.length = 0 := by (
 have := (List.getElem?_eq_some_iff.1 hz).1
 simp at this
 omega)
   rw [h0] at hz
   obtain rfl : y = z := by simpa using hz
   have : j = k := by omega
   subst this
   exact ⟨hy, n, hn, h1, e, hen⟩)
theorem Pre.ends {s : St} (h : Pre s) : Bd s.1 128 1 := bd_way.2 fun x hw => by
 obtain ⟨ys, hl, hys⟩ := way_nodes hw
 have hnd : ys.Nodup := by (
 rw [List.nodup_iff_pairwise_ne, List.pairwise_iff_getElem]
 intro i j hi hj hij c
 obtain ⟨w1, n, hn, e1, e, he⟩ := hys i _ (List.getElem?_eq_getElem hi)
 obtain ⟨w2, _⟩ := hys j _ (List.getElem?_eq_getElem hj)
 rw [← c] at w2
 rw [← e1] at w1 w2
 have := h.way_one hn (h.dir hn he) w1 w2
 omega)
 have h1 := nodup_le (m := s.1.map (·.1)) hnd fun y hy => by (
 obtain ⟨j, hj⟩ := List.getElem?_of_mem hy
 obtain ⟨_, n, hn, e1, _⟩ := hys j y hj
 exact List.mem_map.2 ⟨n, hn, e1⟩)
 rw [List.length_map, hl] at h1
 have := h.len
 omega
theorem cnt_some {l : List Nd} {i : Int} (h : cnt l i ≠ 0) : ∃ m ∈ l, ∃ e ∈ en m, e.2 = i := by
 apply Classical.byContradiction
 intro c
 refine h ?_
 clear h
 induction l with
 | nil => rfl
 | cons a r ih => (
 simp only [cnt, List.map_cons, List.sum_cons]
 have h1 : ((en a).countP fun e => e.2 == i) = 0 := List.countP_eq_zero.2 fun e he hx => c ⟨a, List.mem_cons_self .., e, he, by simpa using hx⟩
 have h2 := ih fun ⟨m, hm, e, he, hx⟩ => c ⟨m, List.mem_cons_of_mem _ hm, e, he, hx⟩
 simp only [cnt] at h2
 omega)
theorem Pre.level {s : St} (h : Pre s) {D : Int → Nat} (h0 : D 1 = 0) (hD : ∀ n ∈ s.1, isD n = true → ∀ e ∈ en n, D n.1 + 1 ≤ 8 ∧ ∀ m ∈ s.1, m.1 = e.2 → isD m = true → D m.1 = D n.1 + 1) : ∀ {k : Nat} {n : Nd}, n ∈ s.1 → isD n = true → Way s.1 k 1 n.1 → D n.1 = k
 | 0, n, hn, hd, hw => by
   have hw' : 1 = n.1 := hw
   rw [← hw', h0]
 | k + 1, n, hn, hd, hw => by (
 obtain ⟨y, hy, e, he, hx⟩ := way_snoc.1 hw
 obtain ⟨m, hm, rfl, hem, _⟩ := kid_mem he
 have h1 := h.level h0 hD hm (h.dir hm hem) hy
 have h2 := (hD m hm (h.dir hm hem) e hem).2 n hn hx.symm hd
 omega)
theorem Pre.reached {s : St} (h : Pre s) {D : Int → Nat} (h0 : D 1 = 0) (hD : ∀ n ∈ s.1, isD n = true → ∀ e ∈ en n, D n.1 + 1 ≤ 8 ∧ ∀ m ∈ s.1, m.1 = e.2 → isD m = true → D m.1 = D n.1 + 1) : ∀ (k : Nat) {n : Nd}, n ∈ s.1 → isD n = true → D n.1 = k → Way s.1 k 1 n.1 := by
 intro k
 induction k with
 | zero => (
 intro n hn hd hk
 by_cases h1 : n.1 = 1
 · exact h1.symm
 · obtain ⟨m, hm, e, he, hx⟩ := cnt_some (by rw [h.dir_cnt hn hd h1]; omega)
   have := (hD m hm (h.dir hm he) e he).2 n hn hx.symm hd
   omega)
 | succ k ih => (
 intro n hn hd hk
 have h1 : n.1 ≠ 1 := fun c => by rw [c, h0] at hk; omega
 obtain ⟨m, hm, e, he, hx⟩ := cnt_some (by rw [h.dir_cnt hn hd h1]; omega)
 have h2 := (hD m hm (h.dir hm he) e he).2 n hn hx.symm hd
 exact way_snoc.2 ⟨m.1, ih hm (h.dir hm he) (by omega), e, by rw [kid_of h.up hm]; exact he, hx⟩)
theorem Pre.deep {s : St} (h : Pre s) : Deep s.1 ↔ Bd s.1 8 1 ∧ ∀ n ∈ s.1, n.1 ∈ vis s.1 8 1 := by
 constructor
 · rintro ⟨D, h0, hD⟩
   have hB : Bd s.1 8 1 := bd_way.2 fun x hw => by (
 obtain ⟨y, hy, e, he, hx⟩ := way_snoc.1 hw
 obtain ⟨m, hm, rfl, hem, _⟩ := kid_mem he
 have h1 := h.level h0 hD hm (h.dir hm hem) hy
 have h2 := (hD m hm (h.dir hm hem) e hem).1
 omega)
   refine ⟨hB, fun n hn => ?_⟩
   have hw : ∃ k, Way s.1 k 1 n.1 := by (
 cases hd : isD n
 · have h1 : n.1 ≠ 1 := fun c => by
     obtain ⟨m, hm, e1, hdm⟩ := h.top
     rw [ups_eq h.up hn hm (by rw [c, e1]), hdm] at hd
     cases hd
   have h2 := (h.some n hn h1 hd).1
   rw [h.links n hn] at h2
   obtain ⟨m, hm, e, he, hx⟩ := cnt_some (l := s.1) (i := n.1) (by omega)
   exact ⟨_, way_snoc.2 ⟨m.1, h.reached h0 hD _ hm (h.dir hm he) rfl, e, by rw [kid_of h.up hm]; exact he, hx⟩⟩
 · exact ⟨_, h.reached h0 hD _ hn hd rfl⟩)
   obtain ⟨k, hk⟩ := hw
   exact vis_way.2 ⟨k, way_cut hB hk, hk⟩
 · rintro ⟨hB, hv⟩
   have hc : ∀ i : Int, ∃ d : Nat, ∀ n ∈ s.1, n.1 = i → Way s.1 d 1 i := fun i => by (
 by_cases hi : ∃ n ∈ s.1, n.1 = i
 · obtain ⟨n, hn, rfl⟩ := hi
   obtain ⟨d, _, hw⟩ := vis_way.1 (hv n hn)
   exact ⟨d, fun _ _ _ => hw⟩
 · exact ⟨0, fun n hn e => absurd ⟨n, hn, e⟩ hi⟩)
   refine ⟨fun i => (hc i).choose, ?_, fun n hn hd e he => ?_⟩
   · obtain ⟨n, hn, h1, hd⟩ := h.top
     have hw := (hc 1).choose_spec n hn h1
     have h2 : Way s.1 0 1 n.1 := h1.symm
     exact h.way_one hn hd (by rw [h1]; exact hw) h2
   · have hw := (hc n.1).choose_spec n hn rfl
     have hw2 : Way s.1 ((hc n.1).choose + 1) 1 e.2 := way_snoc.2 ⟨n.1, hw, e, by rw [kid_of h.up hn]; exact he, rfl⟩
     refine ⟨way_cut hB hw2, fun m hm hx hdm => ?_⟩
     have hw3 := (hc m.1).choose_spec m hm rfl
     rw [← hx] at hw2
     exact h.way_one hm hdm hw3 hw2
end Go.Proofs.YtopcefhncildnaaGreatDoor
namespace Go.Proofs.YtopcefhncildnaaGreatDoor
open D (En nameOk inoOk Good Chk there fnd ins del there_mem fnd_mem mem_ins mem_del chk_ins chk_del ins_perm del_perm)
open F (Fl chk)
def ch (l : List Nd) (i : Int) (f : Nd → Nd) : List Nd := l.map fun n => if n.1 = i then f n else n
def wE (es : List En) (n : Nd) : Nd := (n.1, n.2.1, n.2.2.1, es, n.2.2.2.2)
def wL (k : Int) (n : Nd) : Nd := (n.1, n.2.1, k, n.2.2.2.1, n.2.2.2.2)
def wF (f : Fl) (n : Nd) : Nd := (n.1, n.2.1, n.2.2.1, n.2.2.2.1, f)
def rm (l : List Nd) (i : Int) : List Nd := l.filter fun n => decide (n.1 ≠ i)
theorem mem_ch {l : List Nd} {i : Int} {f : Nd → Nd} {n : Nd} : n ∈ ch l i f ↔ (n ∈ l ∧ n.1 ≠ i) ∨ ∃ m ∈ l, m.1 = i ∧ n = f m := by
 unfold ch
 rw [List.mem_map]
 constructor
 · rintro ⟨m, hm, rfl⟩
   by_cases h : m.1 = i
   · rw [if_pos h]; exact .inr ⟨m, hm, h, rfl⟩
   · rw [if_neg h]; exact .inl ⟨hm, h⟩
 · rintro (⟨hn, h⟩ | ⟨m, hm, h, rfl⟩)
   · exact ⟨n, hn, if_neg h⟩
   · exact ⟨m, hm, if_pos h⟩
theorem mem_rm {l : List Nd} {i : Int} {n : Nd} : n ∈ rm l i ↔ n ∈ l ∧ n.1 ≠ i := by simp [rm]
theorem ch_length (l : List Nd) (i : Int) (f : Nd → Nd) : (ch l i f).length = l.length := by simp [ch]
theorem ch_inos {l : List Nd} {i : Int} {f : Nd → Nd} (hf : ∀ n, (f n).1 = n.1) : (ch l i f).map (·.1) = l.map (·.1) := by
 unfold ch
 rw [List.map_map]
 apply List.map_congr_left
 intro n _
 simp only [Function.comp]
 split
 · exact hf n
 · rfl
theorem ups_map {l : List Nd} : Ups l ↔ (l.map (·.1)).Pairwise (· < ·) := by
 unfold Ups
 rw [List.pairwise_map]
theorem ups_ch {l : List Nd} {i : Int} {f : Nd → Nd} (hf : ∀ n, (f n).1 = n.1) (h : Ups l) : Ups (ch l i f) := by
 rw [ups_map] at h ⊢
 rw [ch_inos hf]; exact h
theorem ups_rm {l : List Nd} {i : Int} (h : Ups l) : Ups (rm l i) := List.Pairwise.sublist List.filter_sublist h
theorem mem_ch' {l : List Nd} (hU : Ups l) {p : Nd} (hp : p ∈ l) {f : Nd → Nd} {n : Nd} : n ∈ ch l p.1 f ↔ (n ∈ l ∧ n.1 ≠ p.1) ∨ n = f p := by
 rw [mem_ch]
 constructor
 · rintro (h | ⟨m, hm, h, rfl⟩)
   · exact .inl h
   · rw [ups_eq hU hm hp h]; exact .inr rfl
 · rintro (h | rfl)
   · exact .inl h
   · exact .inr ⟨p, hp, rfl, rfl⟩
def cP (es : List En) (i : Int) : Nat := es.countP fun e => e.2 == i
theorem cnt_cons (n : Nd) (l : List Nd) (i : Int) : cnt (n :: l) i = cP (en n) i + cnt l i := by simp [cnt, cP]
theorem cnt_append (a b : List Nd) (i : Int) : cnt (a ++ b) i = cnt a i + cnt b i := by simp [cnt]
theorem cnt_same {l : List Nd} {i : Int} {f : Nd → Nd} (hf : ∀ n, en (f n) = en n) (j : Int) : cnt (ch l i f) j = cnt l j := by
 unfold cnt ch
 rw [List.map_map]
 congr 1
 apply List.map_congr_left
 intro n _
 simp only [Function.comp]
 split
 · rw [hf]
 · rfl
theorem cnt_ch {l : List Nd} (hU : Ups l) {p : Nd} (hp : p ∈ l) (es : List En) (j : Int) : cnt (ch l p.1 (wE es)) j + cP (en p) j = cnt l j + cP es j := by
 induction l with
 | nil => cases hp
 | cons a r ih => (
 obtain ⟨h1, h2⟩ := List.pairwise_cons.1 hU
 have e : ch (a :: r) p.1 (wE es) = (if a.1 = p.1 then wE es a else a) :: ch r p.1 (wE es) := rfl
 rw [e, cnt_cons, cnt_cons]
 rcases List.mem_cons.1 hp with rfl | hp'
 · rw [if_pos rfl]
   have h3 : ch r p.1 (wE es) = r := by (
 unfold ch
 conv => rhs; rw [← List.map_id r]
 apply List.map_congr_left
 intro n hn
 have := h1 n hn
 rw [if_neg (by omega)]
 rfl)
   rw [h3]
   show cP es j + _ + _ = _
   omega
 · have := h1 p hp'
   rw [if_neg (by omega)]
   have := ih h2 hp'
   omega)
theorem cnt_rm {l : List Nd} (hU : Ups l) {p : Nd} (hp : p ∈ l) (j : Int) : cnt (rm l p.1) j + cP (en p) j = cnt l j := by
 induction l with
 | nil => cases hp
 | cons a r ih => (
 obtain ⟨h1, h2⟩ := List.pairwise_cons.1 hU
 rw [cnt_cons]
 rcases List.mem_cons.1 hp with rfl | hp'
 · have h3 : rm (p :: r) p.1 = r := by
     unfold rm
     rw [List.filter_cons_of_neg (by simp), List.filter_eq_self]
     intro n hn
     have := h1 n hn
     simp; omega
   rw [h3]; omega
 · have := h1 p hp'
   have h3 : rm (a :: r) p.1 = a :: rm r p.1 := by (
 unfold rm
 rw [List.filter_cons_of_pos (by simp; omega)])
   rw [h3, cnt_cons]
   have := ih h2 hp'
   omega)
theorem cP_ins (l : List En) (e : En) (j : Int) : cP (ins l e) j = cP l j + if e.2 = j then 1 else 0 := by
 unfold cP
 rw [(ins_perm l e).countP_eq, List.countP_cons]
 simp
theorem cP_del {l : List En} (h : Chk l) {x : ByteArray} {c : Int} (hm : (x, c) ∈ l) (j : Int) : cP (del l x) j + (if c = j then 1 else 0) = cP l j := by
 unfold cP
 rw [(del_perm h hm).countP_eq, List.countP_cons]
 simp
theorem cP_nil (j : Int) : cP [] j = 0 := rfl
structure Wk (s : St) : Prop where
 nx : 2 ≤ s.2 ∧ s.2 ≤ 2147483647
 len : s.1.length ≤ 128
 up : Ups s.1
 low : ∀ n ∈ s.1, 1 ≤ n.1 ∧ n.1 < s.2
 top : ∃ n ∈ s.1, n.1 = 1 ∧ isD n = true
 dirs : ∀ n ∈ s.1, isD n = true → Chk (en n) ∧ fi n = (0, [])
 files : ∀ n ∈ s.1, isD n = false → en n = [] ∧ chk (fi n) = true
 names : ∀ n ∈ s.1, ∀ e ∈ en n, ∃ m ∈ s.1, m.1 = e.2
def Lk (l : List Nd) : Prop := ∀ n ∈ l, lk n = (cnt l n.1 : Int) ∧ (n.1 = 1 → lk n = 0) ∧ (n.1 ≠ 1 → isD n = true → lk n = 1) ∧ (n.1 ≠ 1 → isD n = false → 1 ≤ lk n ∧ lk n ≤ 16)
theorem Ok.wk {s : St} (h : Ok s) : Wk s := ⟨h.1.nx, h.1.len, h.1.up, h.1.low, h.1.top, h.1.dirs, h.1.files, h.1.names⟩
theorem Ok.lk {s : St} (h : Ok s) : Lk s.1 := fun n hn => ⟨h.1.links n hn, h.1.root n hn, h.1.one n hn, h.1.some n hn⟩
theorem Wk.ok {s : St} (h : Wk s) (hl : Lk s.1) (hd : Deep s.1) : Ok s := ⟨⟨h.nx, h.len, h.up, h.low, h.top, h.dirs, h.files, h.names, fun n hn => (hl n hn).1, fun n hn => (hl n hn).2.1, fun n hn => (hl n hn).2.2.1, fun n hn => (hl n hn).2.2.2⟩, hd⟩
theorem Wk.dir {s : St} (h : Wk s) {n : Nd} (hn : n ∈ s.1) {e : En} (he : e ∈ en n) : isD n = true := by
 cases hd : isD n
 · rw [(h.files n hn hd).1] at he; cases he
 · rfl
theorem Wk.turned {s : St} (h : Wk s) {p : Nd} (hp : p ∈ s.1) {f : Nd → Nd} (h1 : ∀ n, (f n).1 = n.1) (h2 : ∀ n, isD (f n) = isD n) (hd : isD p = true → Chk (en (f p)) ∧ fi (f p) = (0, [])) (hf : isD p = false → en (f p) = [] ∧ chk (fi (f p)) = true) (hn : ∀ e ∈ en (f p), ∃ m ∈ s.1, m.1 = e.2) : Wk (ch s.1 p.1 f, s.2) := by
 have there : ∀ m ∈ s.1, ∃ m' ∈ ch s.1 p.1 f, m'.1 = m.1 := fun m hm => by (
 by_cases hc : m.1 = p.1
 · exact ⟨f p, (mem_ch' h.up hp).2 (.inr rfl), by rw [h1, hc]⟩
 · exact ⟨m, (mem_ch' h.up hp).2 (.inl ⟨hm, hc⟩), rfl⟩)
 refine ⟨h.nx, by rw [ch_length]; exact h.len, ups_ch h1 h.up, fun n hn' => ?_, ?_, fun n hn' hk => ?_, fun n hn' hk => ?_, fun n hn' e he => ?_⟩
 · rcases (mem_ch' h.up hp).1 hn' with ⟨a, _⟩ | rfl
   · exact h.low n a
   · rw [h1]; exact h.low p hp
 · obtain ⟨n, a, b, c⟩ := h.top
   by_cases hc : n.1 = p.1
   · obtain rfl := ups_eq h.up a hp hc
     exact ⟨f n, (mem_ch' h.up hp).2 (.inr rfl), by rw [h1, b], by rw [h2, c]⟩
   · exact ⟨n, (mem_ch' h.up hp).2 (.inl ⟨a, hc⟩), b, c⟩
 · rcases (mem_ch' h.up hp).1 hn' with ⟨a, _⟩ | rfl
   · exact h.dirs n a hk
   · exact hd (by rw [← h2]; exact hk)
 · rcases (mem_ch' h.up hp).1 hn' with ⟨a, _⟩ | rfl
   · exact h.files n a hk
   · exact hf (by rw [← h2]; exact hk)
 · rcases (mem_ch' h.up hp).1 hn' with ⟨a, _⟩ | rfl
   · obtain ⟨m, hm, e'⟩ := h.names n a e he
     obtain ⟨m', hm', e''⟩ := there m hm
     exact ⟨m', hm', by rw [e'', e']⟩
   · obtain ⟨m, hm, e'⟩ := hn e he
     obtain ⟨m', hm', e''⟩ := there m hm
     exact ⟨m', hm', by rw [e'', e']⟩
theorem Wk.dele {s : St} (h : Wk s) {p : Nd} (hp : p ∈ s.1) (hd : isD p = true) (x : ByteArray) : Wk (ch s.1 p.1 (wE (del (en p) x)), s.2) :=
 h.turned hp (fun _ => rfl) (fun _ => rfl) (fun _ => ⟨chk_del (h.dirs p hp hd).1, (h.dirs p hp hd).2⟩) (fun c => by rw [hd] at c; cases c) (fun e he => h.names p hp e (mem_del (h.dirs p hp hd).1 he).1)
theorem Wk.inse {s : St} (h : Wk s) {p : Nd} (hp : p ∈ s.1) (hd : isD p = true) {e : En} (he : D.Good e) (ht : there (en p) e.1 = false) (hl : (en p).length < 63) (hm : ∃ m ∈ s.1, m.1 = e.2) : Wk (ch s.1 p.1 (wE (ins (en p) e)), s.2) :=
 h.turned hp (fun _ => rfl) (fun _ => rfl) (fun _ => ⟨chk_ins (h.dirs p hp hd).1 he ht hl, (h.dirs p hp hd).2⟩) (fun c => by rw [hd] at c; cases c) (fun e' he' => by
   rcases mem_ins.1 he' with rfl | he'
   · exact hm
   · exact h.names p hp e' he')
theorem Wk.link {s : St} (h : Wk s) {p : Nd} (hp : p ∈ s.1) (k : Int) : Wk (ch s.1 p.1 (wL k), s.2) :=
 h.turned hp (fun _ => rfl) (fun _ => rfl) (h.dirs p hp) (h.files p hp) (h.names p hp)
theorem Wk.file {s : St} (h : Wk s) {p : Nd} (hp : p ∈ s.1) (hd : isD p = false) {f : Fl} (hf : chk f = true) : Wk (ch s.1 p.1 (wF f), s.2) :=
 h.turned hp (fun _ => rfl) (fun _ => rfl) (fun c => by rw [hd] at c; cases c) (fun _ => ⟨(h.files p hp hd).1, hf⟩) (h.names p hp)
theorem Wk.gone {s : St} (h : Wk s) {i : Int} (hi : i ≠ 1) (hc : cnt s.1 i = 0) : Wk (rm s.1 i, s.2) := by
 refine ⟨h.nx, Nat.le_trans (List.length_filter_le ..) h.len, ups_rm h.up, fun n hn => h.low n (mem_rm.1 hn).1, ?_, fun n hn => h.dirs n (mem_rm.1 hn).1, fun n hn => h.files n (mem_rm.1 hn).1, fun n hn e he => ?_⟩
 · obtain ⟨n, a, b, c⟩ := h.top
   exact ⟨n, mem_rm.2 ⟨a, by rw [b]; exact fun c => hi c.symm⟩, b, c⟩
 · obtain ⟨m, hm, e'⟩ := h.names n (mem_rm.1 hn).1 e he
   exact ⟨m, mem_rm.2 ⟨hm, by rw [e']; exact cnt_zero hc (mem_rm.1 hn).1 he⟩, e'⟩
theorem Wk.more {s : St} (h : Wk s) (hl : s.1.length < 128) (hx : s.2 < 2147483647) (b : Bool) (k : Int) (hz : chk (0, []) = true) (hc0 : Chk []) : Wk (s.1 ++ [(s.2, b, k, [], (0, []))], s.2 + 1) := by
 have hn := h.nx
 refine ⟨by simp only; omega, by simp; omega, ?_, fun n hn => ?_, ?_, fun n hn hd => ?_, fun n hn hd => ?_, fun n hn e he => ?_⟩
 · exact List.pairwise_append.2 ⟨h.up, List.pairwise_singleton _ _, fun a ha c hc => by rw [List.mem_singleton.1 hc]; exact (h.low a ha).2⟩
 · rcases List.mem_append.1 hn with a | a
   · have := h.low n a; simp only; omega
   · rw [List.mem_singleton.1 a]; simp only; omega
 · obtain ⟨n, a, c⟩ := h.top
   exact ⟨n, List.mem_append_left _ a, c⟩
 · rcases List.mem_append.1 hn with a | a
   · exact h.dirs n a hd
   · rw [List.mem_singleton.1 a]; exact ⟨hc0, rfl⟩
 · rcases List.mem_append.1 hn with a | a
   · exact h.files n a hd
   · rw [List.mem_singleton.1 a]; exact ⟨rfl, hz⟩
 · rcases List.mem_append.1 hn with a | a
   · obtain ⟨m, hm, e'⟩ := h.names n a e he
     exact ⟨m, List.mem_append_left _ hm, e'⟩
   · rw [List.mem_singleton.1 a] at he; cases he
end Go.Proofs.YtopcefhncildnaaGreatDoor
namespace Go.Proofs.YtopcefhncildnaaGreatDoor
open D (En nameOk inoOk Good Chk there fnd ins del there_mem fnd_mem mem_ins mem_del chk_ins chk_del ins_perm del_perm)
open F (Fl chk)
def mkN (s : St) (p : Nd) (x : ByteArray) (b : Bool) : St := (ch s.1 p.1 (wE (ins (en p) (x, s.2))) ++ [(s.2, b, 1, [], (0, []))], s.2 + 1)
def dropN (s : St) (p : Nd) (x : ByteArray) (n : Nd) : St := (if lk n = 1 then rm (ch s.1 p.1 (wE (del (en p) x))) n.1 else ch (ch s.1 p.1 (wE (del (en p) x))) n.1 (wL (lk n - 1)), s.2)
def lnkN (s : St) (p : Nd) (x : ByteArray) (n : Nd) : St := (ch (ch s.1 p.1 (wE (ins (en p) (x, n.1)))) n.1 (wL (lk n + 1)), s.2)
def filN (s : St) (n : Nd) (f : Fl) : St := (ch s.1 n.1 (wF f), s.2)
def qeN (p : Nd) (x : ByteArray) (q : Nd) : List En := if q.1 = p.1 then del (en p) x else en q
def movN (s : St) (p : Nd) (x : ByteArray) (q : Nd) (y : ByteArray) (i : Int) : St := (ch (ch s.1 p.1 (wE (del (en p) x))) q.1 (wE (ins (qeN p x q) (y, i))), s.2)
theorem cnt_none {l : List Nd} {j : Int} (h : ∀ n ∈ l, ∀ e ∈ en n, e.2 ≠ j) : cnt l j = 0 := by
 apply Classical.byContradiction
 intro c
 obtain ⟨m, hm, e, he, hx⟩ := cnt_some c
 exact h m hm e he hx
theorem way_depth {l : List Nd} {D : Int → Nat} (hU : Ups l) (hD : ∀ n ∈ l, isD n = true → ∀ e ∈ en n, D n.1 + 1 ≤ 8 ∧ ∀ m ∈ l, m.1 = e.2 → isD m = true → D m.1 = D n.1 + 1) (hdir : ∀ n ∈ l, ∀ e ∈ en n, isD n = true) :
   ∀ {k : Nat} {i : Int} {m : Nd}, Way l k i m.1 → m ∈ l → isD m = true → D m.1 = D i + k
 | 0, i, m, h, _, _ => by have h' : i = m.1 := h; rw [h']; rfl
 | k + 1, i, m, h, hm, hd => by (
 obtain ⟨y, hy, e, he, hx⟩ := way_snoc.1 h
 obtain ⟨n, hn, rfl, hen, _⟩ := kid_mem he
 have h1 := way_depth hU hD hdir hy hn (hdir n hn e hen)
 have h2 := (hD n hn (hdir n hn e hen) e hen).2 m hm hx.symm hd
 omega)
theorem way_dpt {l : List Nd} : ∀ {k f : Nat} {i x : Int}, Way l k i x → k ≤ f → k ≤ dpt l f i
 | 0, _, _, _, _, _ => Nat.zero_le _
 | k + 1, 0, _, _, _, h => by omega
 | k + 1, f + 1, i, x, ⟨e, he, hw⟩, h => by (
 have h1 := way_dpt hw (by omega : k ≤ f)
 have h2 := ((foldmax_le (fun e : En => 1 + dpt l f e.2) (dpt l (f + 1) i) (kid l i) 0).1 (Nat.le_refl _)).2 e he
 omega)
theorem Ok.named {s : St} (h : Ok s) {p : Nd} (hp : p ∈ s.1) {e : En} (he : e ∈ en p) : e.2 ≠ 1 := cnt_zero h.1.top_cnt hp he
theorem ok_make {s : St} (h : Ok s) {p : Nd} (hp : p ∈ s.1) (hd : isD p = true) {x : ByteArray} (hx : nameOk x = true) (ht : there (en p) x = false) (hl : (en p).length < 63) (h128 : s.1.length < 128) (hnx : s.2 < 2147483647) {k : Nat} (hw : Way s.1 k 1 p.1) (hk : k + 1 ≤ 8) (b : Bool) (hz : chk (0, []) = true) (hc0 : Chk []) : Ok (mkN s p x b) := by
 have hW := h.wk
 have hL := h.lk
 obtain ⟨hP, D, h0, hD⟩ := h
 have hn2 := hW.nx
 have hfree : ∀ n ∈ s.1, ∀ e ∈ en n, e.2 ≠ s.2 := fun n hn e he c => by (
 obtain ⟨m, hm, e'⟩ := hW.names n hn e he
 have := (hW.low m hm).2
 omega)
 have hc := cnt_none hfree
 have hDp := hP.level h0 hD hp hd hw
 obtain ⟨m1, hm1⟩ : ∃ m1 : St, m1 = (s.1 ++ [(s.2, b, 1, [], (0, []))], s.2 + 1) := ⟨_, rfl⟩
 have hW1 : Wk m1 := by rw [hm1]; exact hW.more h128 hnx b 1 hz hc0
 have hp1 : p ∈ m1.1 := by rw [hm1]; exact List.mem_append_left _ hp
 have hsame : (mkN s p x b) = (ch m1.1 p.1 (wE (ins (en p) (x, s.2))), m1.2) := by (
 rw [hm1]
 unfold mkN ch
 rw [List.map_append]
 have : (s.2, b, (1 : Int), ([] : List En), ((0, []) : Fl)).1 ≠ p.1 := by
   have := (hW.low p hp).2
   simp only; omega
 simp [this])
 have hW2 := hW1.inse hp1 hd (e := (x, s.2)) ⟨hx, by simp [inoOk]; omega⟩ ht hl ⟨(s.2, b, 1, [], (0, [])), by rw [hm1]; exact List.mem_append_right _ (List.mem_singleton.2 rfl), rfl⟩
 rw [← hsame] at hW2
 have hcnt : ∀ j, cnt (mkN s p x b).1 j = cnt s.1 j + if s.2 = j then 1 else 0 := fun j => by (
 show cnt (ch s.1 p.1 _ ++ [_]) j = _
 have h1 := cnt_ch hW.up hp (ins (en p) (x, s.2)) j
 rw [cP_ins] at h1
 rw [cnt_append, cnt_cons, cP_nil]
 simp only [cnt, List.map_nil, List.sum_nil] at h1 ⊢
 omega)
 have hmem : ∀ n ∈ (mkN s p x b).1, (n ∈ s.1 ∧ n.1 ≠ p.1) ∨ n = wE (ins (en p) (x, s.2)) p ∨ n = (s.2, b, 1, [], (0, [])) := fun n hn => by (
 rcases List.mem_append.1 (show n ∈ ch s.1 p.1 _ ++ [_] from hn) with a | a
 · rcases (mem_ch' hW.up hp).1 a with a | a
   · exact .inl a
   · exact .inr (.inl a)
 · exact .inr (.inr (List.mem_singleton.1 a)))
 refine hW2.ok (fun n hn => ?_) ⟨fun i => if i = s.2 then k + 1 else D i, ?_, fun n hn hdn e he => ?_⟩
 · rw [hcnt]
   rcases hmem n hn with ⟨a, _⟩ | rfl | rfl
   · have := (hW.low n a).2
     rw [if_neg (by omega)]
     exact hL n a
   · have := (hW.low p hp).2
     have h9 : (if s.2 = (wE (ins (en p) (x, s.2)) p).1 then 1 else 0) = 0 := if_neg (show ¬ s.2 = p.1 by omega)
     rw [h9]
     exact hL p hp
   · rw [if_pos rfl, show cnt s.1 (s.2, b, (1 : Int), ([] : List En), ((0, []) : Fl)).1 = 0 from hc]
     refine ⟨rfl, fun c => ?_, fun _ _ => rfl, fun _ _ => ⟨show (1 : Int) ≤ 1 by decide, show (1 : Int) ≤ 16 by decide⟩⟩
     have c' : s.2 = 1 := c
     omega
 · show (if (1 : Int) = s.2 then k + 1 else D 1) = 0
   rw [if_neg (by omega)]; exact h0
 · have old : ∀ m ∈ s.1, isD m = true → ∀ e ∈ en m, (if m.1 = s.2 then k + 1 else D m.1) + 1 ≤ 8 ∧ ∀ c ∈ (mkN s p x b).1, c.1 = e.2 → isD c = true → (if c.1 = s.2 then k + 1 else D c.1) = (if m.1 = s.2 then k + 1 else D m.1) + 1 := fun m hm hdm e he => by
     have hlt := (hW.low m hm).2
     rw [if_neg (by omega)]
     refine ⟨(hD m hm hdm e he).1, fun c hc' hce hdc => ?_⟩
     have hne := hfree m hm e he
     rw [if_neg (by rw [hce]; exact hne)]
     rcases hmem c hc' with ⟨a, _⟩ | rfl | rfl
     · exact (hD m hm hdm e he).2 c a hce hdc
     · exact (hD m hm hdm e he).2 p hp hce hdc
     · exact absurd hce.symm hne
   rcases hmem n hn with ⟨a, _⟩ | rfl | rfl
   · exact old n a hdn e he
   · rcases mem_ins.1 he with rfl | he
     · have := (hW.low p hp).2
       have h9 : (if p.1 = s.2 then k + 1 else D p.1) = k := by rw [if_neg (by omega), hDp]
       refine ⟨?_, fun c hc' hce hdc => ?_⟩
       · show (if p.1 = s.2 then k + 1 else D p.1) + 1 ≤ 8
         rw [h9]; exact hk
       · show (if c.1 = s.2 then k + 1 else D c.1) = (if p.1 = s.2 then k + 1 else D p.1) + 1
         rw [h9, if_pos hce]
     · exact old p hp hd e he
   · cases he
theorem ok_drop {s : St} (h : Ok s) {p n : Nd} (hp : p ∈ s.1) (hn : n ∈ s.1) {x : ByteArray} (hx : (x, n.1) ∈ en p) (he0 : en n = []) : Ok (dropN s p x n) := by
 have hW := h.wk
 have hL := h.lk
 have hd := hW.dir hp hx
 have hn1 := h.named hp hx
 simp only at hn1
 obtain ⟨hP, D, h0, hD⟩ := h
 have hC := (hW.dirs p hp hd).1
 have hnp : n.1 ≠ p.1 := fun c => by
   rw [ups_eq hW.up hn hp c] at he0
   rw [he0] at hx; cases hx
 have hW1 := hW.dele hp hd x
 have hcnt : ∀ j, cnt (ch s.1 p.1 (wE (del (en p) x))) j + (if n.1 = j then 1 else 0) = cnt s.1 j := fun j => by (
 have h1 := cnt_ch hW.up hp (del (en p) x) j
 have h2 := cP_del hC hx j
 omega)
 have hn' : n ∈ ch s.1 p.1 (wE (del (en p) x)) := (mem_ch' hW.up hp).2 (.inl ⟨hn, hnp⟩)
 have hself := hcnt n.1
 rw [if_pos rfl] at hself
 have hdeep : ∀ l2 : List Nd, (∀ m ∈ l2, ∃ m0 ∈ s.1, m0.1 = m.1 ∧ isD m0 = isD m ∧ ∀ e ∈ en m, e ∈ en m0) → Deep l2 := fun l2 hsub => ⟨D, h0, fun m hm hdm e he => by
   obtain ⟨m0, hm0, e1, e2, e3⟩ := hsub m hm
   obtain ⟨a, b⟩ := hD m0 hm0 (by rw [e2]; exact hdm) e (e3 e he)
   rw [e1] at a b
   refine ⟨a, fun c hc hce hdc => ?_⟩
   obtain ⟨c0, hc0, f1, f2, _⟩ := hsub c hc
   rw [← f1]
   exact b c0 hc0 (by rw [f1]; exact hce) (by rw [f2]; exact hdc)⟩
 have hsub1 : ∀ m ∈ ch s.1 p.1 (wE (del (en p) x)), ∃ m0 ∈ s.1, m0.1 = m.1 ∧ isD m0 = isD m ∧ ∀ e ∈ en m, e ∈ en m0 := fun m hm => by (
 rcases (mem_ch' hW.up hp).1 hm with ⟨a, _⟩ | rfl
 · exact ⟨m, a, rfl, rfl, fun _ h => h⟩
 · exact ⟨p, hp, rfl, rfl, fun e he => (mem_del hC he).1⟩)
 have hlk1 : ∀ m ∈ ch s.1 p.1 (wE (del (en p) x)), m.1 ≠ n.1 → lk m = (cnt (ch s.1 p.1 (wE (del (en p) x))) m.1 : Int) ∧ (m.1 = 1 → lk m = 0) ∧ (m.1 ≠ 1 → isD m = true → lk m = 1) ∧ (m.1 ≠ 1 → isD m = false → 1 ≤ lk m ∧ lk m ≤ 16) := fun m hm hne => by (
 have h3 := hcnt m.1
 rw [if_neg (fun c => hne c.symm)] at h3
 rcases (mem_ch' hW.up hp).1 hm with ⟨a, _⟩ | rfl
 · have := hL m a
   rw [show cnt (ch s.1 p.1 (wE (del (en p) x))) m.1 = cnt s.1 m.1 by omega]
   exact this
 · have := hL p hp
   have h3' : cnt (ch s.1 p.1 (wE (del (en p) x))) p.1 + 0 = cnt s.1 p.1 := h3
   show lk p = (cnt (ch s.1 p.1 (wE (del (en p) x))) p.1 : Int) ∧ _
   rw [show cnt (ch s.1 p.1 (wE (del (en p) x))) p.1 = cnt s.1 p.1 by omega]
   exact this)
 obtain ⟨k1, _, k3, k4⟩ := hL n hn
 unfold dropN
 by_cases hone : lk n = 1
 · rw [if_pos hone]
   have hz : cnt (ch s.1 p.1 (wE (del (en p) x))) n.1 = 0 := by omega
   have hcr : ∀ j, cnt (rm (ch s.1 p.1 (wE (del (en p) x))) n.1) j = cnt (ch s.1 p.1 (wE (del (en p) x))) j := fun j => by (
 have := cnt_rm hW1.up hn' j
 rw [he0, cP_nil] at this
 omega)
   refine (hW1.gone hn1 hz).ok (fun m hm => ?_) (hdeep _ fun m hm => hsub1 m (mem_rm.1 hm).1)
   have := hlk1 m (mem_rm.1 hm).1 (mem_rm.1 hm).2
   simp only [hcr]
   exact this
 · rw [if_neg hone]
   have hnd : isD n = false := by (
 cases c : isD n
 · rfl
 · exact absurd (k3 hn1 c) hone)
   have hcs : ∀ j, cnt (ch (ch s.1 p.1 (wE (del (en p) x))) n.1 (wL (lk n - 1))) j = cnt (ch s.1 p.1 (wE (del (en p) x))) j := fun j => cnt_same (f := wL (lk n - 1)) (fun _ => rfl) j
   refine (hW1.link hn' (lk n - 1)).ok (fun m hm => ?_) (hdeep _ fun m hm => ?_)
   · simp only [hcs]
     rcases (mem_ch' hW1.up hn').1 hm with ⟨a, b⟩ | rfl
     · exact hlk1 m a b
     · refine ⟨?_, fun c => absurd c hn1, fun _ c => ?_, fun a _ => ?_⟩
       · show lk n - 1 = (cnt _ n.1 : Int)
         omega
       · have c' : isD n = true := c
         rw [hnd] at c'; cases c'
       · have := k4 hn1 hnd
         show 1 ≤ lk n - 1 ∧ lk n - 1 ≤ 16
         omega
   · rcases (mem_ch' hW1.up hn').1 hm with ⟨a, _⟩ | rfl
     · exact hsub1 m a
     · exact ⟨n, hn, rfl, rfl, fun _ h => h⟩
theorem ok_link {s : St} (h : Ok s) {p n : Nd} (hp : p ∈ s.1) (hd : isD p = true) (hn : n ∈ s.1) (hf : isD n = false) {x : ByteArray} (hx : nameOk x = true) (ht : there (en p) x = false) (hl : (en p).length < 63) (h16 : lk n < 16) {k : Nat} (hw : Way s.1 k 1 p.1) (hk : k + 1 ≤ 8) : Ok (lnkN s p x n) := by
 have hW := h.wk
 have hL := h.lk
 obtain ⟨hP, D, h0, hD⟩ := h
 have hDp := hP.level h0 hD hp hd hw
 have hnp : n.1 ≠ p.1 := fun c => by
   rw [ups_eq hW.up hn hp c, hd] at hf; cases hf
 have hb := hW.low n hn
 have hnx := hW.nx
 have hW1 := hW.inse hp hd (e := (x, n.1)) ⟨hx, by simp [inoOk]; omega⟩ ht hl ⟨n, hn, rfl⟩
 have hn' : n ∈ ch s.1 p.1 (wE (ins (en p) (x, n.1))) := (mem_ch' hW.up hp).2 (.inl ⟨hn, hnp⟩)
 have hcnt : ∀ j, cnt (lnkN s p x n).1 j = cnt s.1 j + (if n.1 = j then 1 else 0) := fun j => by (
 show cnt (ch (ch _ _ _) _ _) j = _
 rw [cnt_same (f := wL (lk n + 1)) (fun _ => rfl)]
 have h1 := cnt_ch hW.up hp (ins (en p) (x, n.1)) j
 rw [cP_ins] at h1
 simp only at h1
 omega)
 have hmem : ∀ m ∈ (lnkN s p x n).1, ∃ m0 ∈ s.1, m0.1 = m.1 ∧ isD m0 = isD m ∧ (∀ e ∈ en m, e ∈ en m0 ∨ (m0 = p ∧ e = (x, n.1))) ∧ lk m = lk m0 + if n.1 = m0.1 then 1 else 0 := fun m hm => by (
 rcases (mem_ch' hW1.up hn').1 hm with ⟨a, hne⟩ | rfl
 · rcases (mem_ch' hW.up hp).1 a with ⟨a, _⟩ | rfl
   · exact ⟨m, a, rfl, rfl, fun _ h => .inl h, by rw [if_neg (fun c => hne c.symm)]; omega⟩
   · refine ⟨p, hp, rfl, rfl, fun e he => ?_, ?_⟩
     · rcases mem_ins.1 he with rfl | he
       · exact .inr ⟨rfl, rfl⟩
       · exact .inl he
     · rw [if_neg hnp]; show lk p = _; omega
 · exact ⟨n, hn, rfl, rfl, fun _ h => .inl h, by rw [if_pos rfl]; rfl⟩)
 refine (hW1.link hn' (lk n + 1)).ok (fun m hm => ?_) ⟨D, h0, fun m hm hdm e he => ?_⟩
 · obtain ⟨m0, hm0, e1, e2, _, e4⟩ := hmem m hm
   obtain ⟨k1, k2, k3, k4⟩ := hL m0 hm0
   have h5 := hcnt m.1
   have h6 : cnt (ch (ch s.1 p.1 (wE (ins (en p) (x, n.1)))) n.1 (wL (lk n + 1))) m.1 = cnt (lnkN s p x n).1 m.1 := rfl
   simp only [h6, h5]
   rw [← e1, ← e2, e4]
   by_cases hc : n.1 = m0.1
   · obtain rfl := ups_eq hW.up hn hm0 hc
     simp only [if_true]
     refine ⟨by omega, fun c => ?_, fun _ c => ?_, fun a b => ?_⟩
     · obtain ⟨t, ht', t1, t2⟩ := hW.top
       rw [ups_eq hW.up hn ht' (by rw [c, t1]), t2] at hf; cases hf
     · rw [hf] at c; cases c
     · have := k4 a b; omega
   · simp only [if_neg hc]
     exact ⟨by omega, fun c => by rw [k2 c]; rfl, fun a b => by rw [k3 a b]; rfl, fun a b => by have := k4 a b; omega⟩
 · obtain ⟨m0, hm0, e1, e2, e3, _⟩ := hmem m hm
   have hdm0 : isD m0 = true := by rw [e2]; exact hdm
   rw [← e1]
   rcases e3 e he with h' | ⟨rfl, rfl⟩
   · obtain ⟨a, b⟩ := hD m0 hm0 hdm0 e h'
     refine ⟨a, fun c hc hce hdc => ?_⟩
     obtain ⟨c0, hc0, f1, f2, _⟩ := hmem c hc
     rw [← f1]
     exact b c0 hc0 (by rw [f1]; exact hce) (by rw [f2]; exact hdc)
   · refine ⟨by omega, fun c hc hce hdc => ?_⟩
     obtain ⟨c0, hc0, f1, f2, _⟩ := hmem c hc
     rw [ups_eq hW.up hc0 hn (by rw [f1]; exact hce), hf] at f2
     rw [← f2] at hdc; cases hdc
theorem ok_file {s : St} (h : Ok s) {n : Nd} (hn : n ∈ s.1) (hf : isD n = false) {f : Fl} (hc : chk f = true) : Ok (filN s n f) := by
 have hW := h.wk
 have hL := h.lk
 obtain ⟨hP, D, h0, hD⟩ := h
 have hmem : ∀ m ∈ (filN s n f).1, ∃ m0 ∈ s.1, m0.1 = m.1 ∧ isD m0 = isD m ∧ en m0 = en m ∧ lk m0 = lk m := fun m hm => by (
 rcases (mem_ch' hW.up hn).1 hm with ⟨a, _⟩ | rfl
 · exact ⟨m, a, rfl, rfl, rfl, rfl⟩
 · exact ⟨n, hn, rfl, rfl, rfl, rfl⟩)
 refine (hW.file hn hf hc).ok (fun m hm => ?_) ⟨D, h0, fun m hm hdm e he => ?_⟩
 · obtain ⟨m0, hm0, e1, e2, _, e4⟩ := hmem m hm
   have h6 : cnt (ch s.1 n.1 (wF f)) m.1 = cnt s.1 m.1 := cnt_same (f := wF f) (fun _ => rfl) _
   simp only [h6]
   rw [← e1, ← e2, ← e4]
   exact hL m0 hm0
 · obtain ⟨m0, hm0, e1, e2, e3, _⟩ := hmem m hm
   obtain ⟨a, b⟩ := hD m0 hm0 (by rw [e2]; exact hdm) e (by rw [e3]; exact he)
   rw [← e1]
   refine ⟨a, fun c hc hce hdc => ?_⟩
   obtain ⟨c0, hc0, f1, f2, _⟩ := hmem c hc
   rw [← f1]
   exact b c0 hc0 (by rw [f1]; exact hce) (by rw [f2]; exact hdc)
theorem ok_move {s : St} (h : Ok s) {p q n : Nd} (hp : p ∈ s.1) (hq : q ∈ s.1) (hdq : isD q = true) (hn : n ∈ s.1) {x y : ByteArray} (hx : (x, n.1) ∈ en p) (hy : nameOk y = true) (ht : there (qeN p x q) y = false) (hl : (qeN p x q).length < 63) {k : Nat} (hw : Way s.1 k 1 q.1) (hk : k + 1 ≤ 8)
   (hin : isD n = true → ∀ j, ¬ Way s.1 j n.1 q.1) (hlong : isD n = true → k + 1 + dpt s.1 8 n.1 ≤ 8) : Ok (movN s p x q y n.1) := by
 have h' := h
 have hW := h.wk
 have hL := h.lk
 have hd := hW.dir hp hx
 have hn1 := h.named hp hx
 simp only at hn1
 obtain ⟨hP, D, h0, hD⟩ := h
 have hC := (hW.dirs p hp hd).1
 have hDq := hP.level h0 hD hq hdq hw
 have hb := hW.low n hn
 have hnx := hW.nx
 have hW1 := hW.dele hp hd x
 obtain ⟨q', hq', hq1, hqd, hqe⟩ : ∃ q' ∈ ch s.1 p.1 (wE (del (en p) x)), q'.1 = q.1 ∧ isD q' = true ∧ en q' = qeN p x q := by (
 by_cases hc : q.1 = p.1
 · exact ⟨wE (del (en p) x) p, (mem_ch' hW.up hp).2 (.inr rfl), hc.symm, hd, by unfold qeN; rw [if_pos hc]; rfl⟩
 · exact ⟨q, (mem_ch' hW.up hp).2 (.inl ⟨hq, hc⟩), rfl, hdq, by unfold qeN; rw [if_neg hc]⟩)
 obtain ⟨n', hn', hn'1⟩ : ∃ n' ∈ ch s.1 p.1 (wE (del (en p) x)), n'.1 = n.1 := by (
 by_cases hc : n.1 = p.1
 · exact ⟨wE (del (en p) x) p, (mem_ch' hW.up hp).2 (.inr rfl), hc.symm⟩
 · exact ⟨n, (mem_ch' hW.up hp).2 (.inl ⟨hn, hc⟩), rfl⟩)
 have hW2 := hW1.inse hq' hqd (e := (y, n.1)) ⟨hy, by simp [inoOk]; omega⟩ (by rw [hqe]; exact ht) (by rw [hqe]; exact hl) ⟨n', hn', hn'1⟩
 have hres : (movN s p x q y n.1).1 = ch (ch s.1 p.1 (wE (del (en p) x))) q'.1 (wE (ins (en q') (y, n.1))) := by rw [hq1, hqe]; rfl
 have hcnt : ∀ j, cnt (movN s p x q y n.1).1 j = cnt s.1 j := fun j => by (
 rw [hres]
 have h1 := cnt_ch hW1.up hq' (ins (en q') (y, n.1)) j
 rw [cP_ins] at h1
 have h2 := cnt_ch hW.up hp (del (en p) x) j
 have h3 := cP_del hC hx j
 simp only at h1
 omega)
 have hmem : ∀ m ∈ (movN s p x q y n.1).1, ∃ m0 ∈ s.1, m0.1 = m.1 ∧ isD m0 = isD m ∧ lk m0 = lk m ∧ ∀ e ∈ en m, (e ∈ en m0 ∧ (m0 = p → e.1 ≠ x)) ∨ (m0 = q ∧ e = (y, n.1)) := fun m hm => by (
 rw [hres] at hm
 rcases (mem_ch' hW1.up hq').1 hm with ⟨a, hne⟩ | rfl
 · rcases (mem_ch' hW.up hp).1 a with ⟨a, hne2⟩ | rfl
   · exact ⟨m, a, rfl, rfl, rfl, fun e he => .inl ⟨he, fun c => absurd (by rw [c]) hne2⟩⟩
   · exact ⟨p, hp, rfl, rfl, rfl, fun e he => .inl ⟨(mem_del hC he).1, fun _ => (mem_del hC he).2⟩⟩
 · rcases (mem_ch' hW.up hp).1 hq' with ⟨a, hne2⟩ | c
   · refine ⟨q', a, rfl, rfl, rfl, fun e he => ?_⟩
     rcases mem_ins.1 he with rfl | he
     · exact .inr ⟨ups_eq hW.up a hq hq1, rfl⟩
     · exact .inl ⟨he, fun c => absurd (by rw [c]) hne2⟩
   · refine ⟨p, hp, by rw [c]; rfl, by rw [c]; rfl, by rw [c]; rfl, fun e he => ?_⟩
     rcases mem_ins.1 he with rfl | he
     · refine .inr ⟨ups_eq hW.up hp hq ?_, rfl⟩
       rw [← hq1, c]; rfl
     · rw [c] at he
       exact .inl ⟨(mem_del hC he).1, fun _ => (mem_del hC he).2⟩)
 have hWk : Wk (movN s p x q y n.1) := by
   have : movN s p x q y n.1 = (ch (ch s.1 p.1 (wE (del (en p) x))) q'.1 (wE (ins (en q') (y, n.1))), s.2) := Prod.ext hres rfl
   rw [this]; exact hW2
 refine hWk.ok (fun m hm => ?_) ?_
 · obtain ⟨m0, hm0, e1, e2, e3, _⟩ := hmem m hm
   rw [hcnt, ← e1, ← e2, ← e3]
   exact hL m0 hm0
 cases hnd : isD n
 · refine ⟨D, h0, fun m hm hdm e he => ?_⟩
   obtain ⟨m0, hm0, e1, e2, _, e4⟩ := hmem m hm
   rw [← e1]
   rcases e4 e he with ⟨a, _⟩ | ⟨rfl, rfl⟩
   · obtain ⟨b1, b2⟩ := hD m0 hm0 (by rw [e2]; exact hdm) e a
     refine ⟨b1, fun c hc hce hdc => ?_⟩
     obtain ⟨c0, hc0, f1, f2, _⟩ := hmem c hc
     rw [← f1]
     exact b2 c0 hc0 (by rw [f1]; exact hce) (by rw [f2]; exact hdc)
   · refine ⟨by omega, fun c hc hce hdc => ?_⟩
     obtain ⟨c0, hc0, f1, f2, _⟩ := hmem c hc
     rw [ups_eq hW.up hc0 hn (by rw [f1]; exact hce), hnd] at f2
     rw [← f2] at hdc; cases hdc
 · have hin' := hin hnd
   have hlong' := hlong hnd
   have hdir : ∀ m ∈ s.1, ∀ e ∈ en m, isD m = true := fun m hm e he => hW.dir hm he
   have hdep : ∀ {j : Nat} {m : Nd}, Way s.1 j n.1 m.1 → m ∈ s.1 → isD m = true → D m.1 = D n.1 + j := fun hj hm hdm => way_depth hW.up hD hdir hj hm hdm
   have hone : cnt s.1 n.1 = 1 := hP.dir_cnt hn hnd hn1
   have hB8 := (hP.deep.1 h'.2).1
   obtain ⟨D', hD'⟩ : ∃ D' : Int → Nat, ∀ i, ((∃ j, Way s.1 j n.1 i) → D' i = D i + k + 1 - D n.1) ∧ (¬ (∃ j, Way s.1 j n.1 i) → D' i = D i) := by (
 have : ∀ i : Int, ∃ d : Nat, ((∃ j, Way s.1 j n.1 i) → d = D i + k + 1 - D n.1) ∧ (¬ (∃ j, Way s.1 j n.1 i) → d = D i) := fun i => by (
 by_cases c : ∃ j, Way s.1 j n.1 i
 · exact ⟨_, fun _ => rfl, fun c' => absurd c c'⟩
 · exact ⟨_, fun c' => absurd c' c, fun _ => rfl⟩)
 exact ⟨fun i => (this i).choose, fun i => (this i).choose_spec⟩)
   have htop : ¬ ∃ j, Way s.1 j n.1 1 := fun ⟨j, hj⟩ => by (
 cases j with
 | zero => exact hn1 hj
 | succ j => (
 obtain ⟨z, _, e, he, hz⟩ := way_snoc.1 hj
 obtain ⟨m, hm, _, hem, _⟩ := kid_mem he
 exact cnt_zero hP.top_cnt hm hem hz))
   have hqn : ¬ ∃ j, Way s.1 j n.1 q.1 := fun ⟨j, hj⟩ => hin' j hj
   refine ⟨D', by rw [(hD' 1).2 htop]; exact h0, fun m hm hdm e he => ?_⟩
   obtain ⟨m0, hm0, e1, e2, _, e4⟩ := hmem m hm
   have hdm0 : isD m0 = true := by rw [e2]; exact hdm
   rw [← e1]
   rcases e4 e he with ⟨a, hax⟩ | ⟨rfl, rfl⟩
   · obtain ⟨b1, b2⟩ := hD m0 hm0 hdm0 e a
     by_cases hs : ∃ j, Way s.1 j n.1 m0.1
     · obtain ⟨j, hj⟩ := hs
       have h3 := hdep hj hm0 hdm0
       rw [(hD' m0.1).1 ⟨j, hj⟩, h3]
       have hj1 : Way s.1 (j + 1) n.1 e.2 := way_snoc.2 ⟨m0.1, hj, e, by rw [kid_of hW.up hm0]; exact a, rfl⟩
       have hBn : j + 1 ≤ 8 := by (
 have hDn : Way s.1 (D n.1) 1 n.1 := hP.reached h0 hD _ hn hnd rfl
 omega)
       have h5 := way_dpt hj1 hBn
       refine ⟨by omega, fun c hc hce hdc => ?_⟩
       obtain ⟨c0, hc0, f1, f2, _⟩ := hmem c hc
       have h6 := b2 c0 hc0 (by rw [f1]; exact hce) (by rw [f2]; exact hdc)
       rw [← f1, (hD' c0.1).1 ⟨j + 1, by rw [f1, hce]; exact hj1⟩]
       omega
     · rw [(hD' m0.1).2 hs]
       refine ⟨b1, fun c hc hce hdc => ?_⟩
       obtain ⟨c0, hc0, f1, f2, _⟩ := hmem c hc
       have hdc0 : isD c0 = true := by rw [f2]; exact hdc
       have hce0 : c0.1 = e.2 := by rw [f1]; exact hce
       have h6 := b2 c0 hc0 hce0 hdc0
       rw [← f1, (hD' c0.1).2 ?_]
       · exact h6
       · rintro ⟨j, hj⟩
         cases j with
         | zero => (
 have hj' : n.1 = c0.1 := hj
 obtain ⟨g1, g2⟩ := one_link hone hm0 hp a hx (by rw [← hce0, ← hj']) rfl hW.up
 exact hax g1 (by rw [g2]))
         | succ j => (
 obtain ⟨z, hz, f, hf, hzf⟩ := way_snoc.1 hj
 obtain ⟨m1, hm1, rfl, hfm, _⟩ := kid_mem hf
 have hc1 : c0.1 ≠ 1 := fun c => by
   rw [c] at hj
   exact htop ⟨_, hj⟩
 obtain ⟨g1, _⟩ := one_link (hP.dir_cnt hc0 hdc0 hc1) hm0 hm1 a hfm hce0.symm hzf hW.up
 rw [g1] at hs
 exact hs ⟨j, hz⟩)
   · rw [(hD' m0.1).2 hqn]
     refine ⟨by omega, fun c hc hce hdc => ?_⟩
     have hce' : c.1 = n.1 := hce
     rw [hce', (hD' n.1).1 ⟨0, rfl⟩]
     omega
end Go.Proofs.YtopcefhncildnaaGreatDoor
namespace Go.Proofs.YtopcefhncildnaaGreatDoor
open D (En nameOk inoOk Good Chk there fnd ins del there_mem fnd_mem mem_ins mem_del chk_ins chk_del ins_perm del_perm)
open F (Fl chk)
def nd0 : Nd := (0, false, 0, [], (0, []))
def gt (l : List Nd) (i : Int) : Nd := (fd l i).getD nd0
theorem gt_of {l : List Nd} (hU : Ups l) {n : Nd} (h : n ∈ l) : gt l n.1 = n := by unfold gt; rw [fd_of hU h]; rfl
def wlk (l : List Nd) : Int → List ByteArray → Int × Int
 | i, [] => (i, 0)
 | i, x :: r => if isD (gt l i) = false then (0, 103) else if there (en (gt l i)) x = false then (0, 101) else wlk l (fnd (en (gt l i)) x) r
def Wlk (l : List Nd) : Int → List ByteArray → Int → Prop
 | i, [], c => i = c
 | i, x :: r, c => ∃ n ∈ l, n.1 = i ∧ isD n = true ∧ ∃ d, (x, d) ∈ en n ∧ Wlk l d r c
theorem Wlk.there {s : St} (hW : Wk s) : ∀ {xs : List ByteArray} {n : Nd} {c : Int}, n ∈ s.1 → Wlk s.1 n.1 xs c → ∃ m ∈ s.1, m.1 = c
 | [], n, c, hn, h => ⟨n, hn, h⟩
 | x :: r, n, c, hn, ⟨m, hm, _, _, d, hd, h⟩ => by
   obtain ⟨k, hk, e⟩ := hW.names m hm _ hd
   exact Wlk.there hW hk (by rw [e]; exact h)
theorem wlk_iff {s : St} (hW : Wk s) : ∀ {xs : List ByteArray} {n : Nd} {c : Int}, n ∈ s.1 → ((wlk s.1 n.1 xs).2 = 0 ∧ (wlk s.1 n.1 xs).1 = c ↔ Wlk s.1 n.1 xs c)
 | [], n, c, hn => by simp [wlk, Wlk]
 | x :: r, n, c, hn => by (
 rw [wlk, gt_of hW.up hn]
 constructor
 · intro h
   cases hd : isD n
   · rw [if_pos hd] at h
     exact absurd h.1 (by decide)
   · rw [if_neg (by rw [hd]; decide)] at h
     cases ht : D.there (en n) x
     · rw [if_pos ht] at h
       exact absurd h.1 (by decide)
     · rw [if_neg (by rw [ht]; decide)] at h
       obtain ⟨d, hm⟩ := there_mem.1 ht
       rw [fnd_mem (hW.dirs n hn hd).1 hm] at h
       obtain ⟨k, hk, e⟩ := hW.names n hn _ hm
       simp only at e
       rw [← e] at h hm
       exact ⟨n, hn, rfl, hd, k.1, hm, (wlk_iff hW hk).1 h⟩
 · rintro ⟨m, hm, e, hd, d, hx, h⟩
   obtain rfl := ups_eq hW.up hm hn e
   rw [if_neg (by rw [hd]; decide), if_neg (by rw [there_mem.2 ⟨d, hx⟩]; decide), fnd_mem (hW.dirs m hm hd).1 hx]
   obtain ⟨k, hk, e⟩ := hW.names m hm _ hx
   simp only at e
   rw [← e] at h ⊢
   exact (wlk_iff hW hk).2 h)
theorem wlk_root {s : St} (hW : Wk s) {xs : List ByteArray} {c : Int} : ((wlk s.1 1 xs).2 = 0 ∧ (wlk s.1 1 xs).1 = c) ↔ Wlk s.1 1 xs c := by
 obtain ⟨t, ht, e, _⟩ := hW.top
 have := wlk_iff hW (xs := xs) (c := c) ht
 rwa [e] at this
theorem wlk_in {s : St} (hW : Wk s) {xs : List ByteArray} (h : (wlk s.1 1 xs).2 = 0) : ∃ n ∈ s.1, n.1 = (wlk s.1 1 xs).1 ∧ gt s.1 (wlk s.1 1 xs).1 = n ∧ Wlk s.1 1 xs n.1 := by
 have h1 := (wlk_root hW).1 ⟨h, rfl⟩
 obtain ⟨t, ht, e, _⟩ := hW.top
 obtain ⟨n, hn, e'⟩ := Wlk.there hW ht (by rw [e]; exact h1)
 exact ⟨n, hn, e', by rw [← e']; exact gt_of hW.up hn, by rw [e']; exact h1⟩
theorem wlk_append {l : List Nd} : ∀ {xs ys : List ByteArray} {i c : Int}, Wlk l i (xs ++ ys) c ↔ ∃ d, Wlk l i xs d ∧ Wlk l d ys c
 | [], ys, i, c => by (
 constructor
 · intro h; exact ⟨i, rfl, h⟩
 · rintro ⟨d, h, k⟩
   have h' : i = d := h
   rw [h']; exact k)
 | x :: r, ys, i, c => by (
 constructor
 · rintro ⟨n, hn, e, hd, d, hx, h⟩
   obtain ⟨d', h1, h2⟩ := wlk_append.1 h
   exact ⟨d', ⟨n, hn, e, hd, d, hx, h1⟩, h2⟩
 · rintro ⟨d', ⟨n, hn, e, hd, d, hx, h1⟩, h2⟩
   exact ⟨n, hn, e, hd, d, hx, wlk_append.2 ⟨d', h1, h2⟩⟩)
theorem wlk_snoc {l : List Nd} {xs : List ByteArray} {x : ByteArray} {i c : Int} : Wlk l i (xs ++ [x]) c ↔ ∃ n ∈ l, Wlk l i xs n.1 ∧ isD n = true ∧ (x, c) ∈ en n := by
 rw [wlk_append]
 constructor
 · rintro ⟨d, h, n, hn, e, hd, d', hx, h'⟩
   have h'' : d' = c := h'
   subst h''
   exact ⟨n, hn, by rw [e]; exact h, hd, hx⟩
 · rintro ⟨n, hn, h, hd, hx⟩
   exact ⟨n.1, h, n, hn, rfl, hd, c, hx, rfl⟩
theorem wlk_way {l : List Nd} (hU : Ups l) : ∀ {xs : List ByteArray} {i c : Int}, Wlk l i xs c → Way l xs.length i c
 | [], _, _, h => h
 | x :: r, i, c, ⟨n, hn, e, _, d, hx, h⟩ => ⟨(x, d), by rw [← e, kid_of hU hn]; exact hx, wlk_way hU h⟩
theorem way_wlk {s : St} (hW : Wk s) : ∀ {k : Nat} {i c : Int}, Way s.1 k i c → ∃ xs : List ByteArray, xs.length = k ∧ Wlk s.1 i xs c
 | 0, _, _, h => ⟨[], rfl, h⟩
 | k + 1, i, c, ⟨e, he, h⟩ => by (
 obtain ⟨xs, hl, hx⟩ := way_wlk hW h
 obtain ⟨n, hn, e1, hen, _⟩ := kid_mem he
 exact ⟨e.1 :: xs, by simp [hl], n, hn, e1, hW.dir hn hen, e.2, hen, hx⟩)
theorem Ok.path_one {s : St} (h : Ok s) : ∀ {k : Nat} {xs ys : List ByteArray} {n : Nd}, xs.length ≤ k → n ∈ s.1 → isD n = true → Wlk s.1 1 xs n.1 → Wlk s.1 1 ys n.1 → xs = ys := by
 intro k
 induction k with
 | zero => (
 intro xs ys n hk hn hd hx hy
 have h0 : xs = [] := List.eq_nil_of_length_eq_zero (by omega)
 subst h0
 have e : (1 : Int) = n.1 := hx
 have h1 := h.1.way_one hn hd (wlk_way h.1.up hx) (wlk_way h.1.up hy)
 exact (List.eq_nil_of_length_eq_zero (by simpa using h1.symm)).symm)
 | succ k ih => (
 intro xs ys n hk hn hd hx hy
 have h1 := h.1.way_one hn hd (wlk_way h.1.up hx) (wlk_way h.1.up hy)
 rcases List.eq_nil_or_concat xs with rfl | ⟨xs', x, rfl⟩
 · exact (List.eq_nil_of_length_eq_zero (by simpa using h1.symm)).symm
 · rcases List.eq_nil_or_concat ys with rfl | ⟨ys', y, rfl⟩
   · simp at h1
   · simp only [List.concat_eq_append] at hx hy hk h1 ⊢
     obtain ⟨p, hp, hpx, hpd, hpe⟩ := wlk_snoc.1 hx
     obtain ⟨q, hq, hqy, hqd, hqe⟩ := wlk_snoc.1 hy
     have hn1 : n.1 ≠ 1 := h.named hp hpe
     obtain ⟨rfl, e⟩ := one_link (h.1.dir_cnt hn hd hn1) hp hq hpe hqe rfl rfl h.1.up
     obtain ⟨rfl, _⟩ := Prod.mk.inj e
     rw [ih (by simp at hk; omega) hp hpd hpx hqy])
theorem Ok.path {s : St} (h : Ok s) {xs ys : List ByteArray} {n : Nd} (hn : n ∈ s.1) (hd : isD n = true) (hx : Wlk s.1 1 xs n.1) (hy : Wlk s.1 1 ys n.1) : xs = ys := h.path_one (Nat.le_refl _) hn hd hx hy
end Go.Proofs.YtopcefhncildnaaGreatDoor
namespace Go.Proofs.YtopcefhncildnaaGreatDoor
open Go.RowKit
open D (En ArgE EOks)
open F (Fl Bk flN flR bksN bksR)
theorem Tryz.info47 : (Tryz.prog.info? 47).map (fun i => (i.zero, i.size, i.bytes)) = some (some (.agg #[.int .i64 0, .bool false, .int .i64 0, .slice none 0 0, .int .i64 0, .slice none 0 0]), 6, 80) := by kernel_rfl
def boolS : Shape Bool := (boolL 4 Tryz.underlying4 (by kernel_rfl)).shape
theorem cells42 : Tryz.prog.cellsOf 42 = 1 := by kernel_rfl
def ensN : Shape (List En) := D.enN.list 42 Tryz.underlying42 cells42
def ndN : Shape Nd := (i64S.and (boolS.and (i64S.and (ensN.and flN.only)))).struct 47 ⟨_, Tryz.underlying47, rfl, rfl⟩ (by kernel_rfl)
theorem cells27 : Tryz.prog.cellsOf 27 = 1 := by kernel_rfl
def ndsN : Shape (List Nd) := ndN.list 27 Tryz.underlying27 cells27
theorem ens_of {n : Nat} {w : World} {v : Value} {l : List En} (h : ensN.lies n w [v] l) : ArgE n w v l := by
 obtain ⟨v', vss, hv, hC, hE⟩ := h
 obtain rfl : v = v' := by simpa using hv
 obtain ⟨rfl, ho⟩ := D.each_ev hE
 exact ⟨hC, ho⟩
def nv (p : Nd) (e b : Value) : List Value := [.int .i64 p.1, .bool p.2.1, .int .i64 p.2.2.1, e, .int .i64 p.2.2.2.2.1, b]
def NOk (p : Nd) : Prop := I64 p.1 ∧ I64 (lk p) ∧ I64 (fi p).1
def LN (n : Nat) (w : World) (p : Nd) (e b : Value) : Prop := ArgE n w e (en p) ∧ bksN.lies n w [b] (fi p).2 ∧ NOk p
def LR (n : Nat) (w : World) (p : Nd) (e b : Value) : Prop := ArgE n w e (en p) ∧ bksR.lies n w [b] (fi p).2 ∧ NOk p
theorem nd_viewN {n : Nat} {w : World} {us : List Value} {p : Nd} (h : ndN.lies n w us p) : ∃ e b, us = nv p e b ∧ LN n w p e b := by
 obtain ⟨u1, r1, rfl, ⟨rfl, h1⟩, u2, r2, rfl, ⟨rfl, _⟩, u3, r3, rfl, ⟨rfl, h3⟩, u4, r4, rfl, h4, h5⟩ := h
 obtain ⟨a, cap, rfl, hb, h6, _⟩ := F.fl_viewN h5
 have h4' := h4
 obtain ⟨v, _, rfl, _⟩ := h4
 exact ⟨_, _, rfl, ens_of h4', hb, bounds_i64 h1, bounds_i64 h3, h6⟩
theorem LN.keep {n : Nat} {w w' : World} {p : Nd} {e b : Value} (h : LN n w p e b) (hs : Same n w w') : LN n w' p e b := ⟨h.1.keep hs, bksN.keep h.2.1 hs, h.2.2⟩
theorem LN.below {n : Nat} {w w' : World} {p : Nd} {e b : Value} (h : LN n w p e b) (hb : Below w.heap.size w w') : LN n w' p e b := h.keep (.of_below hb)
theorem LN.weaken {n m : Nat} {w : World} {p : Nd} {e b : Value} (h : LN n w p e b) (hm : m ≤ n) : LN m w p e b := ⟨h.1.weaken hm, bksN.weaken h.2.1 hm, h.2.2⟩
theorem LR.keep {n : Nat} {w w' : World} {p : Nd} {e b : Value} (h : LR n w p e b) (hs : Same n w w') : LR n w' p e b := ⟨h.1.keep hs, bksR.keep h.2.1 hs, h.2.2⟩
theorem LR.below {n : Nat} {w w' : World} {p : Nd} {e b : Value} (h : LR n w p e b) (hb : Below w.heap.size w w') : LR n w' p e b := h.keep (.of_below hb)
theorem LN.file {n : Nat} {w : World} {p : Nd} {e b : Value} (h : LN n w p e b) : flN.lies n w [.int .i64 (fi p).1, b] (fi p) := F.fl_mkN h.2.1 h.2.2.2.2
theorem LR.file {n : Nat} {w : World} {p : Nd} {e b : Value} (h : LR n w p e b) : flR.lies n w [.int .i64 (fi p).1, b] (fi p) := F.fl_mkR h.2.1 h.2.2.2.2
theorem nds_atN {n : Nat} {w : World} {v : Value} {l : List Nd} (h : ndsN.lies n w [v] l) (i : Nat) (p : Nd) (hp : l[i]? = some p) :
   ∃ b o e f, (∀ W, (Instr.indexAt 27 v (.int .i64 i)).run Tryz.prog W = .ok (.pointer (some ⟨b, o, none⟩)) W) ∧ n ≤ b ∧ (∀ (j : Nat) u, (nv p e f)[j]? = some u → w.cell? ⟨b, o + j, none⟩ = some u) ∧ LN n w p e f := by
 obtain ⟨i0, hi0, _, hz, _⟩ := info_parts Tryz.info47
 obtain ⟨b, o, us, hix, hb, hc, hl⟩ := Shape.list_at (S := ndN) (ht := Tryz.underlying27) (hc := cells27) h (by decide) hi0 hz i p hp
 obtain ⟨e, f, rfl, hL⟩ := nd_viewN hl
 exact ⟨b, o, e, f, hix, hb, hc, hL⟩
theorem nv_cells {w : World} {p : Nd} {e f : Value} {b o : Nat} (h : ∀ (j : Nat) u, (nv p e f)[j]? = some u → w.cell? ⟨b, o + j, none⟩ = some u) :
   w.cell? ⟨b, o, none⟩ = some (.int .i64 p.1) ∧ w.cell? ⟨b, o + 1, none⟩ = some (.bool (isD p)) ∧ w.cell? ⟨b, o + 2, none⟩ = some (.int .i64 (lk p)) ∧ w.cell? ⟨b, o + 3, none⟩ = some e ∧ w.cell? ⟨b, o + 4, none⟩ = some (.int .i64 (fi p).1) ∧ w.cell? ⟨b, o + 5, none⟩ = some f :=
 ⟨h 0 _ rfl, h 1 _ rfl, h 2 _ rfl, h 3 _ rfl, h 4 _ rfl, h 5 _ rfl⟩
end Go.Proofs.YtopcefhncildnaaGreatDoor
namespace Go.Proofs.YtopcefhncildnaaGreatDoor
open Go.RowKit
open F (cmpI)
def posn (l : List Nd) (i : Int) : Nat := l.countP fun n => decide (n.1 < i)
def hasn (l : List Nd) (i : Int) : Bool := l.any fun n => decide (n.1 = i)
theorem posn_le (l : List Nd) (i : Int) : posn l i ≤ l.length := List.countP_le_length
theorem posn_none {l : List Nd} {i : Int} (h : ∀ n ∈ l, ¬ n.1 < i) : posn l i = 0 := by
 unfold posn
 rw [List.countP_eq_zero]
 intro p hp
 simpa using h p hp
theorem posn_at {l : List Nd} (hU : Ups l) (x : Int) : ∀ {i : Nat} {p : Nd}, l[i]? = some p → (p.1 < x ↔ i < posn l x) := by
 induction l with
 | nil => intro i p h; simp at h
 | cons q r ih => (
 obtain ⟨h1, h2⟩ := List.pairwise_cons.1 hU
 intro i p h
 by_cases hq : q.1 < x
 · have e : posn (q :: r) x = posn r x + 1 := by simp [posn, hq]
   rw [e]
   cases i with
   | zero => (
 simp at h
 subst h
 simp [hq])
   | succ i => (
 simp at h
 rw [ih h2 h]
 omega)
 · have hr : ∀ p ∈ q :: r, ¬ p.1 < x := fun p hp => by
     rcases List.mem_cons.1 hp with rfl | hp
     · exact hq
     · have := h1 p hp; omega
   rw [posn_none hr]
   have := hr p (List.mem_of_getElem? h)
   omega)
theorem hasn_iff {l : List Nd} {i : Int} : hasn l i = true ↔ ∃ n ∈ l, n.1 = i := by simp [hasn]
theorem posn_mem {l : List Nd} (hU : Ups l) {k : Nat} {p : Nd} (h : l[k]? = some p) : posn l p.1 = k := by
 have h1 : ¬ k < posn l p.1 := fun c => by have := (posn_at hU p.1 h).2 c; omega
 have hlt := (List.getElem?_eq_some_iff.1 h).1
 rcases Nat.lt_or_ge (posn l p.1) k with c | c
 · obtain ⟨q, hq⟩ := get_lt (l := l) (k := posn l p.1) (by omega)
   have h2 : q.1 < p.1 := by (
 obtain ⟨a1, b1⟩ := List.getElem?_eq_some_iff.1 hq
 obtain ⟨a2, b2⟩ := List.getElem?_eq_some_iff.1 h
 have := List.pairwise_iff_getElem.1 hU _ _ a1 a2 c
 rwa [b1, b2] at this)
   have := (posn_at hU p.1 hq).1 h2
   omega
 · omega
theorem hasn_end {l : List Nd} (hU : Ups l) {i : Int} (h : posn l i = l.length) : hasn l i = false := by
 rw [Bool.eq_false_iff]
 intro hc
 obtain ⟨n, hn, rfl⟩ := hasn_iff.1 hc
 obtain ⟨k, hk⟩ := List.getElem?_of_mem hn
 have h1 := posn_mem hU hk
 have := (List.getElem?_eq_some_iff.1 hk).1
 omega
theorem hasn_at {l : List Nd} (hU : Ups l) {i : Int} {p : Nd} (hp : l[posn l i]? = some p) : hasn l i = decide (cmpI p.1 i = 0) := by
 have hge : ¬ p.1 < i := fun c => by have := (posn_at hU i hp).1 c; omega
 unfold cmpI
 rw [if_neg hge]
 by_cases h : i < p.1
 · rw [if_pos h, decide_eq_false (by decide), Bool.eq_false_iff]
   intro hc
   obtain ⟨n, hn, rfl⟩ := hasn_iff.1 hc
   obtain ⟨k, hk⟩ := List.getElem?_of_mem hn
   have h1 := posn_mem hU hk
   rw [h1, hk] at hp
   simp at hp
   rw [hp] at h
   omega
 · rw [if_neg h, hasn_iff.2 ⟨p, List.mem_of_getElem? hp, by omega⟩]
   rfl
theorem LN.shape {n : Nat} {w : World} {p : Nd} {e f : Value} (h : LN n w p e f) : ∃ ea ec fa fc, e = .slice ea (en p).length ec ∧ f = .slice fa (fi p).2.length fc := by
 obtain ⟨ea, ec, rfl, _⟩ := h.1.shape
 obtain ⟨fa, fc, hf, _⟩ := Shape.list_len (S := F.bkN) (ht := Tryz.underlying43) (hc := F.cells43) h.2.1
 exact ⟨ea, ec, fa, fc, rfl, by simpa using hf⟩
def NV (n0 : Nat) (v : Value) (l : List Nd) (V : World) : Prop := ∀ (i : Nat) (p : Nd), l[i]? = some p → ∃ b o ea el ec fa fl fc, (∀ W, (Instr.indexAt 27 v (.int .i64 i)).run Tryz.prog W = .ok (.pointer (some ⟨b, o, none⟩)) W) ∧
   (V.cell? ⟨b, o, none⟩ = some (.int .i64 p.1) ∧ V.cell? ⟨b, o + 1, none⟩ = some (.bool p.2.1) ∧ V.cell? ⟨b, o + 2, none⟩ = some (.int .i64 p.2.2.1) ∧ V.cell? ⟨b, o + 3, none⟩ = some (.slice ea el ec) ∧ V.cell? ⟨b, o + 4, none⟩ = some (.int .i64 p.2.2.2.2.1) ∧ V.cell? ⟨b, o + 5, none⟩ = some (.slice fa fl fc)) ∧ LN n0 V p (.slice ea el ec) (.slice fa fl fc) ∧ n0 ≤ b ∧ el = (en p).length ∧ fl = (fi p).2.length
theorem nds_view {n0 : Nat} {w : World} {v : Value} {l : List Nd} (h : ndsN.lies n0 w [v] l) : ∀ V, Below w.heap.size w V → NV n0 v l V := fun V hV i p hp => by
 obtain ⟨b, o, e, f, hix, hb, hc, hL⟩ := nds_atN (ndsN.below h hV) i p hp
 obtain ⟨ea, ec, fa, fc, rfl, rfl⟩ := hL.shape
 exact ⟨b, o, ea, _, ec, fa, _, fc, hix, nv_cells hc, hL, hb, rfl, rfl⟩
def NW (n0 : Nat) (v : Value) (l : List Nd) (w : World) : Prop := ∀ (i : Nat) (p : Nd), l[i]? = some p → ∃ b o ea el ec fa fl fc, (∀ W, (Instr.indexAt 27 v (.int .i64 i)).run Tryz.prog W = .ok (.pointer (some ⟨b, o, none⟩)) W) ∧ n0 ≤ b ∧ el = (en p).length ∧ fl = (fi p).2.length ∧
   ∀ V, Below w.heap.size w V → (V.cell? ⟨b, o, none⟩ = some (.int .i64 p.1) ∧ V.cell? ⟨b, o + 1, none⟩ = some (.bool p.2.1) ∧ V.cell? ⟨b, o + 2, none⟩ = some (.int .i64 p.2.2.1) ∧ V.cell? ⟨b, o + 3, none⟩ = some (.slice ea el ec) ∧ V.cell? ⟨b, o + 4, none⟩ = some (.int .i64 p.2.2.2.2.1) ∧ V.cell? ⟨b, o + 5, none⟩ = some (.slice fa fl fc)) ∧ LN n0 V p (.slice ea el ec) (.slice fa fl fc)
theorem nds_all {n0 : Nat} {w : World} {v : Value} {l : List Nd} (h : ndsN.lies n0 w [v] l) : NW n0 v l w := fun i p hp => by
 obtain ⟨b, o, e, f, hix, hb, hc, hL⟩ := nds_atN h i p hp
 obtain ⟨ea, ec, fa, fc, rfl, rfl⟩ := hL.shape
 refine ⟨b, o, ea, _, ec, fa, _, fc, hix, hb, rfl, rfl, fun V hV => ⟨nv_cells fun j u hu => ?_, hL.below hV⟩⟩
 have h1 := hc j u hu
 rw [hV.cell (p := ⟨b, o + j, none⟩) (cell_lt h1)]
 exact h1
theorem cmp_any (a : Int) (d : Bool) (k : Int) (e : Value) (z : Int) (f : Value) (i : Int) (w : World) :
   Calls Tryz.prog 262 #[.agg #[.int .i64 a, .bool d, .int .i64 k, e, .int .i64 z, f], .int .i64 i] w fun r w' => r = .returned (.int .i64 (cmpI a i)) ∧ Below w.heap.size w w' := by
 have HC := fun W' => F.compare_any a i W'
 generalize cmpI a i = r at HC ⊢
 go_enter Tryz.func262, Tryz.ntmps262
 go_wp2_with (go_at_call 156; refine (HC _).mono ?_; rintro e w' ⟨rfl, rfl⟩)
 go_ret
 exact ⟨rfl, (Below.refl _ w).alloc (Nat.le_refl _) _⟩
theorem search_any (n0 : Nat) (v : Value) (l : List Nd) (hU : Ups l) (x : Int) (w : World) (hA : ndsN.lies n0 w [v] l) (hn : l.length ≤ 100000) :
   Calls Tryz.prog 208 #[v, .int .i64 x, .func (.func 262) #[] #[]] w fun e w' => e = .returned (.tuple #[.int .i64 (posn l x), .bool (hasn l x)]) ∧ Below w.heap.size w w' := by
 have HV : Hid (∀ V, Below w.heap.size w V → NV n0 v l V) := nds_view hA
 have HU : Hid (∀ {i : Nat} {p : Nd}, l[i]? = some p → (p.1 < x ↔ i < posn l x)) := posn_at hU x
 have HH : Hid (Ups l) := hU
 have hpl := posn_le l x
 obtain ⟨a, cp, hv, _⟩ := Shape.list_len (S := ndN) (ht := Tryz.underlying27) (hc := cells27) hA
 obtain rfl : v = .slice a l.length cp := by simpa using hv
 obtain ⟨n, hnn⟩ := exa (l.length)
 have hl1 := run_len Tryz.underlying27 a l.length cp
 obtain ⟨c, hc⟩ := exa (posn l x)
 have HN : Hid (n = l.length ∧ c = posn l x) := ⟨hnn, hc⟩
 obtain ⟨h9, hh9⟩ := exa (hasn l x)
 have H9 : Hid (h9 = hasn l x) := hh9
 rw [← hh9]
 rw [← hnn] at hn hpl hl1 HV ⊢
 rw [← hc] at hpl HU ⊢
 clear hA hU hnn hc hv hh9
 go_enter Tryz.func208, Tryz.ntmps208
 go_wp2
 go_loopg [9, 10] n (fun kx s5 s6 wr => ∃ (lo hi : Nat), s5 = .int .i64 lo ∧ s6 = .int .i64 hi ∧ lo ≤ c ∧ c ≤ hi ∧ hi ≤ n ∧ hi - lo ≤ kx ∧ Below w.heap.size w wr)
 case atStart => exact ⟨0, n, rfl, rfl, Nat.zero_le _, hpl, Nat.le_refl _, by omega, Below.refl _ _⟩
 case round => (
 obtain ⟨lo, hi, rfl, rfl, h1, h2, h3, h4, hB⟩ := hrel
 have HB : Hid (Below w.heap.size w wr) := hB
 clear hB
 by_cases hlt : lo < hi
 · obtain ⟨m, hm⟩ := exa ((lo + hi) / 2)
   obtain ⟨p, hp⟩ := get_lt (l := l) (k := m) (by rw [← HN.out.1]; omega)
   obtain ⟨b, o, ea, el, ec, fa, fl, fc, hix, ⟨c0, c1, c2, c3, c4, c5⟩, -⟩ := HV.out wr HB.out m p hp
   have hiff := HU.out hp
   rw [show (m : Int) = ((lo : Int) + (hi : Int)) / 2 by omega] at hix
   obtain ⟨p1, p2, p3, p4, p5, p6⟩ := p
   simp only at c0 c1 c2 c3 c4 c5 hiff
   have hcall := cmp_any p1 p2 p3 (.slice ea el ec) p5 (.slice fa fl fc) x wr
   by_cases hb : p1 < x
   · have hlt2 : m < c := hiff.1 hb
     rw [show cmpI p1 x = -1 from if_pos hb] at hcall
     clear hb hiff hp HU
     go_wp2_with (go_at_call 262; refine hcall.mono ?_; rintro e w' ⟨rfl, hb1⟩)
     go_roundg (hi - (m + 1))
     case measure => omega
     case rel => exact ⟨m + 1, hi, by rw [show ((lo : Int) + (hi : Int)) / 2 + 1 = ((m + 1 : Nat) : Int) by omega], rfl, hlt2, h2, h3, Nat.le_refl _, below_any HB.out hb1⟩
   · have hge : c ≤ m := by
       rcases Nat.lt_or_ge m c with h | h
       · exact absurd (hiff.2 h) hb
       · exact h
     have hz : ¬ cmpI p1 x < 0 := by unfold cmpI; rw [if_neg hb]; split <;> omega
     generalize cmpI p1 x = r at hcall hz
     clear hb hiff hp HU
     go_wp2_with (go_at_call 262; refine hcall.mono ?_; rintro e w' ⟨rfl, hb1⟩)
     go_roundg (m - lo)
     case measure => omega
     case rel => exact ⟨lo, m, rfl, by rw [show ((lo : Int) + (hi : Int)) / 2 = (m : Int) by omega], h1, hge, by omega, Nat.le_refl _, below_any HB.out hb1⟩
 · obtain rfl : lo = c := by omega
   by_cases hend : lo = n
   · have h0 : h9 = false := by rw [H9.out]; exact hasn_end HH.out (by rw [← HN.out.2, ← HN.out.1]; exact hend)
     subst h0
     subst hend
     go_wp2
     go_ret2
     exact ⟨rfl, HB.out⟩
   · obtain ⟨p, hp⟩ := get_lt (l := l) (k := lo) (by rw [← HN.out.1]; omega)
     obtain ⟨b, o, ea, el, ec, fa, fl, fc, hix, ⟨c0, c1, c2, c3, c4, c5⟩, -⟩ := HV.out wr HB.out lo p hp
     have h0 : h9 = decide (cmpI p.1 x = 0) := by rw [H9.out]; exact hasn_at HH.out (by rw [← HN.out.2]; exact hp)
     obtain ⟨p1, p2, p3, p4, p5, p6⟩ := p
     simp only at c0 c1 c2 c3 c4 c5 h0
     have hcall := cmp_any p1 p2 p3 (.slice ea el ec) p5 (.slice fa fl fc) x wr
     have hlo : (lo : Int) < (n : Int) := by omega
     generalize cmpI p1 x = r at hcall h0
     subst h0
     clear hp HU
     go_wp2_with (go_at_call 262; refine hcall.mono ?_; rintro e w' ⟨rfl, hb1⟩)
     go_ret2
     exact ⟨rfl, below_any HB.out hb1⟩)
theorem place_any (n0 : Nat) (v : Value) (l : List Nd) (hU : Ups l) (x : Int) (w : World) (hA : ndsN.lies n0 w [v] l) (hn : l.length ≤ 100000) :
   Calls Tryz.prog 204 #[v, .int .i64 x] w fun e w' => e = .returned (.tuple #[.int .i64 (posn l x), .bool (hasn l x)]) ∧ Below w.heap.size w w' := by
 have HC := search_any n0 v l hU x w hA hn
 clear hA
 go_enter Tryz.func204, Tryz.ntmps204
 go_wp2_with (go_at_call 208; refine HC.mono ?_; rintro e w' ⟨rfl, hb1⟩)
 go_ret2
 exact ⟨rfl, hb1⟩
theorem node_any (n0 : Nat) (v : Value) (nx : Int) (l : List Nd) (hU : Ups l) (k : Nat) (p : Nd) (hp : l[k]? = some p) (b o : Nat) (w : World) (hA : ndsN.lies n0 w [v] l) (hn : l.length ≤ 100000)
   (hix : ∀ W, (Instr.indexAt 27 v (.int .i64 k)).run Tryz.prog W = .ok (.pointer (some ⟨b, o, none⟩)) W) :
   Calls Tryz.prog 159 #[.agg #[v, .int .i64 nx], .int .i64 p.1] w fun e w' => e = .returned (.pointer (some ⟨b, o, none⟩)) ∧ Below w.heap.size w w' := by
 obtain ⟨W, hW⟩ := exa (w.alloc (.cells #[v, .int .i64 nx] 29))
 have hB0 : Below w.heap.size w W := by rw [hW]; exact (Below.refl _ w).alloc (Nat.le_refl _) _
 have HC := place_any n0 v l hU p.1 W (ndsN.below hA hB0) hn
 rw [posn_mem hU hp] at HC
 generalize hasn l p.1 = hb at HC
 have HX : Hid (Box W w.heap.size 29 #[v, .int .i64 nx] ∧ Below w.heap.size w W) := ⟨by rw [hW]; exact Box.new _ _ _, hB0⟩
 obtain ⟨i, hi⟩ := exa (p.1)
 rw [← hi] at HC ⊢
 clear hA hB0 hU hp hi
 go_enter Tryz.func159, Tryz.ntmps159
 go_wp2_with fail
 rw [← hW]
 clear hW
 refine HC.mono ?_
 rintro e w1 ⟨rfl, hb1⟩
 have hX1 := HX.out.1.below hb1 HX.out.1.lt
 obtain ⟨g0, g1, _, _⟩ := hX1.two
 clear hX1
 go_wp2
 go_ret
 exact ⟨rfl, below_any HX.out.2 hb1⟩
end Go.Proofs.YtopcefhncildnaaGreatDoor
namespace Go.Proofs.YtopcefhncildnaaGreatDoor
open Go.RowKit
open D (En ArgE Chk)
open F (Fl chk)
theorem Box.six {w : World} {B : Nat} {t : TypeId} {a b c d e f : Value} (h : Box w B t #[a, b, c, d, e, f]) : w.cell? ⟨B, 0, none⟩ = some a ∧ w.cell? ⟨B, 1, none⟩ = some b ∧ w.cell? ⟨B, 2, none⟩ = some c ∧ w.cell? ⟨B, 3, none⟩ = some d ∧ w.cell? ⟨B, 4, none⟩ = some e ∧ w.cell? ⟨B, 5, none⟩ = some f := ⟨h.cell 0 rfl, h.cell 1 rfl, h.cell 2 rfl, h.cell 3 rfl, h.cell 4 rfl, h.cell 5 rfl⟩
def lastI (l : List Nd) : Int := match l.getLast? with | some p => p.1 | none => 0
theorem lastI_nil : lastI [] = 0 := rfl
theorem lastI_snoc (l : List Nd) (p : Nd) : lastI (l ++ [p]) = p.1 := by simp [lastI]
theorem lastI_take {l : List Nd} {k : Nat} {p : Nd} (hp : l[k]? = some p) : lastI (l.take (k + 1)) = p.1 := by rw [take_snoc hp, lastI_snoc]
theorem lastI_le {l : List Nd} (h : Ups l) {q : Nd} (hq : q ∈ l) : q.1 ≤ lastI l := by
 rcases List.eq_nil_or_concat l with rfl | ⟨m, p, rfl⟩
 · cases hq
 · simp only [List.concat_eq_append] at h hq ⊢
   rw [lastI_snoc]
   rcases List.mem_append.1 hq with hq | hq
   · exact Int.le_of_lt ((List.pairwise_append.1 h).2.2 q hq p (by simp))
   · rw [List.mem_singleton.1 hq]; exact Int.le_refl _
def Nums (nx : Int) (l : List Nd) : Prop := Ups l ∧ ∀ n ∈ l, 1 ≤ n.1 ∧ n.1 < nx
theorem nums_nil (nx : Int) : Nums nx [] := ⟨List.Pairwise.nil, fun _ h => by cases h⟩
theorem nums_snoc {nx : Int} {l : List Nd} {p : Nd} (h : Nums nx l) (h1 : lastI l < p.1) (h2 : p.1 < nx) (h0 : 0 ≤ lastI l) : Nums nx (l ++ [p]) := by
 refine ⟨List.pairwise_append.2 ⟨h.1, List.pairwise_singleton _ _, fun a ha b hb => ?_⟩, fun n hn => ?_⟩
 · rw [List.mem_singleton.1 hb]
   have := lastI_le h.1 ha
   omega
 · rcases List.mem_append.1 hn with hn | hn
   · exact h.2 n hn
   · rw [List.mem_singleton.1 hn]; omega
theorem nums_last {nx : Int} {l : List Nd} {k : Nat} {p : Nd} (h : Nums nx l) (hp : l[k]? = some p) : lastI (l.take k) < p.1 := by
 have h1 : Ups (l.take (k + 1)) := List.Pairwise.sublist (List.take_sublist ..) h.1
 rw [take_snoc hp] at h1
 rcases List.eq_nil_or_concat (l.take k) with e | ⟨m, q, e⟩
 · rw [e, lastI_nil]
   have := (h.2 p (List.mem_of_getElem? hp)).1
   omega
 · rw [e, List.concat_eq_append] at h1 ⊢
   rw [lastI_snoc]
   exact (List.pairwise_append.1 h1).2.2 q (by simp) p (by simp)
theorem lastI_pos {nx : Int} {l : List Nd} (h : Nums nx l) : 0 ≤ lastI l := by
 rcases List.eq_nil_or_concat l with rfl | ⟨m, p, rfl⟩
 · exact Int.le_refl _
 · simp only [List.concat_eq_append] at h ⊢
   rw [lastI_snoc]
   have := (h.2 p (by simp)).1
   omega
def Says (e : Ending) (P : Prop) : Prop := ∃ t, e = .returned (.bool t) ∧ (t = true ↔ P)
theorem says_no {P : Prop} (h : ¬ P) : Says (.returned (.bool false)) P := ⟨false, rfl, ⟨fun c => (by cases c), fun c => absurd c h⟩⟩
theorem says_yes {P : Prop} (h : P) : Says (.returned (.bool true)) P := ⟨true, rfl, ⟨fun _ => h, fun _ => rfl⟩⟩
theorem says_is {P : Prop} {t : Bool} (h : t = true ↔ P) : Says (.returned (.bool t)) P := ⟨t, rfl, h⟩
def NumsOk (s : St) : Prop := (2 ≤ s.2 ∧ s.2 ≤ 2147483647) ∧ s.1.length ≤ 128 ∧ Nums s.2 s.1 ∧ ∃ p, s.1[0]? = some p ∧ p.1 = 1 ∧ isD p = true
theorem numbers_any (n0 : Nat) (a : Option Addr) (c : Nat) (s : St) (w : World) (hA : ndsN.lies n0 w [.slice a s.1.length c] s.1) :
   Calls Tryz.prog 140 #[.agg #[.slice a s.1.length c, .int .i64 s.2]] w fun e w' => Says e (NumsOk s) ∧ Below w.heap.size w w' := by
 obtain ⟨l, nx⟩ := s
 simp only at hA ⊢
 have HV : Hid (∀ V, Below w.heap.size w V → NV n0 (.slice a l.length c) l V) := nds_view hA
 obtain ⟨n, hn⟩ := exa (l.length)
 have hl1 := run_len Tryz.underlying27 a l.length c
 rw [← hn] at hl1 HV ⊢
 have HN : Hid (n = l.length) := hn
 obtain ⟨W, hW⟩ := exa (w.alloc (.cells #[.slice a n c, .int .i64 nx] 29))
 have HW : Hid (Below w.heap.size w W ∧ Box W w.heap.size 29 #[.slice a n c, .int .i64 nx]) := ⟨by rw [hW]; exact (Below.refl _ w).alloc (Nat.le_refl _) _, by rw [hW]; exact Box.new _ _ _⟩
 obtain ⟨g0, g1, _, _⟩ := HW.out.2.two
 rw [hW] at g0 g1
 clear hA hn
 by_cases h1 : nx ≤ 1
 · have HF : Hid (¬ NumsOk (l, nx)) := fun h => by have := h.1.1; simp only at this; omega
   go_enter Tryz.func140, Tryz.ntmps140
   go_wp2
   rw [← hW]
   go_ret
   exact ⟨says_no HF.out, HW.out.1⟩
 by_cases h2 : 2147483647 < nx
 · have HF : Hid (¬ NumsOk (l, nx)) := fun h => by have := h.1.2; simp only at this; omega
   go_enter Tryz.func140, Tryz.ntmps140
   go_wp2
   rw [← hW]
   go_ret
   exact ⟨says_no HF.out, HW.out.1⟩
 by_cases h3 : n = 0
 · have HF : Hid (¬ NumsOk (l, nx)) := fun h => by
     obtain ⟨p, hp, _⟩ := h.2.2.2
     have := (List.getElem?_eq_some_iff.1 hp).1
     have := HN.out
     simp only at *
     omega
   subst h3
   go_enter Tryz.func140, Tryz.ntmps140
   go_wp2
   rw [← hW]
   go_ret
   exact ⟨says_no HF.out, HW.out.1⟩
 have h3i : ¬ (n : Int) = 0 := by omega
 by_cases h4 : 128 < n
 · have HF : Hid (¬ NumsOk (l, nx)) := fun h => by
     have := h.2.1
     have := HN.out
     simp only at *
     omega
   have h4i : (128 : Int) < (n : Int) := by omega
   go_enter Tryz.func140, Tryz.ntmps140
   go_wp2
   rw [← hW]
   go_ret
   exact ⟨says_no HF.out, HW.out.1⟩
 have h4i : ¬ (128 : Int) < (n : Int) := by omega
 go_enter Tryz.func140, Tryz.ntmps140
 go_wp2
 rw [← hW]
 clear hW g0 g1
 go_loopw [3, 29] (fun s i wr => ∃ (k : Nat), k ≤ n ∧ i = .int .i64 k ∧ s = .int .i64 (lastI (l.take k)) ∧ Nums nx (l.take k) ∧ Below W.heap.size W wr) (fun _ i _ => n - (intOf i).toNat)
 case atStart => exact ⟨0, Nat.zero_le _, rfl, rfl, nums_nil nx, Below.refl _ _⟩
 case round => (
 obtain ⟨k, hk, rfl, rfl, hF, hbel⟩ := hrel
 obtain ⟨g0, g1, _, _⟩ := (HW.out.2.below hbel HW.out.2.lt).two
 by_cases hlt : k < n
 · obtain ⟨p, hp⟩ := get_lt (l := l) (k := k) (by rw [← HN.out]; exact hlt)
   obtain ⟨b, o, ea, el, ec, fa, fl, fc, hix, ⟨c0, c1, c2, c3, c4, c5⟩, -⟩ := HV.out wr (below_any HW.out.1 hbel) k p hp
   have hki : (k : Int) < (n : Int) := by omega
   obtain ⟨p1, p2, p3, p4, p5, p6⟩ := p
   simp only at c0 c1 c2 c3 c4 c5
   have HP : Hid (l[k]? = some (p1, p2, p3, p4, p5, p6) ∧ Nums nx (l.take k) ∧ Below W.heap.size W wr) := ⟨hp, hF, hbel⟩
   obtain ⟨ls, hls⟩ := exa (lastI (l.take k))
   rw [← hls]
   have HLS : Hid (ls = lastI (l.take k)) := hls
   obtain ⟨V, hV⟩ := exa (wr.alloc (.cells #[.int .i64 p1, .bool p2, .int .i64 p3, .slice ea el ec, .int .i64 p5, .slice fa fl fc] 47))
   have HVV : Hid (Below W.heap.size W V) := by show Below _ _ _; rw [hV]; exact below_any hbel ((Below.refl _ wr).alloc (Nat.le_refl _) _)
   clear hp hF hbel hls
   by_cases ha : p1 ≤ ls
   · have HB : Hid (¬ NumsOk (l, nx)) := fun h => by
       have := nums_last h.2.2.1 HP.out.1
       rw [← HLS.out] at this
       simp only at this
       omega
     go_wp2
     rw [← hV]
     go_ret
     exact ⟨says_no HB.out, below_any HW.out.1 HVV.out⟩
   by_cases hb : nx ≤ p1
   · have HB : Hid (¬ NumsOk (l, nx)) := fun h => by
       have := (h.2.2.1.2 _ (List.mem_of_getElem? HP.out.1)).2
       simp only at this
       omega
     have g1' : V.cell? ⟨w.heap.size, 1, none⟩ = some (.int .i64 nx) := by (
 obtain ⟨_, q1, _⟩ := (HW.out.2.below HVV.out HW.out.2.lt).two
 exact q1)
     rw [hV] at g1'
     go_wp2
     rw [← hV]
     go_ret
     exact ⟨says_no HB.out, below_any HW.out.1 HVV.out⟩
   have HF : Hid (Nums nx (l.take (k + 1)) ∧ lastI (l.take (k + 1)) = p1) := ⟨by rw [take_snoc HP.out.1]; exact nums_snoc HP.out.2.1 (by rw [← HLS.out]; simp only; omega) (by simp only; omega) (lastI_pos HP.out.2.1), lastI_take HP.out.1⟩
   have g1' : V.cell? ⟨w.heap.size, 1, none⟩ = some (.int .i64 nx) := by (
 obtain ⟨_, q1, _⟩ := (HW.out.2.below HVV.out HW.out.2.lt).two
 exact q1)
   rw [hV] at g1'
   go_wp2
   rw [← hV]
   go_roundw
   case rel => exact ⟨k + 1, by omega, by go_num, by rw [HF.out.2], HF.out.1, HVV.out⟩
   case measure => simp [intOf]; omega
 · obtain rfl : k = n := by omega
   rw [List.take_of_length_le (by rw [HN.out]; exact Nat.le_refl _)] at hF
   obtain ⟨p, hp⟩ := get_lt (l := l) (k := 0) (by rw [← HN.out]; omega)
   obtain ⟨b, o, ea, el, ec, fa, fl, fc, hix, ⟨c0, c1, c2, c3, c4, c5⟩, -⟩ := HV.out wr (below_any HW.out.1 hbel) 0 p hp
   have hix : ∀ W, (Instr.indexAt 27 (.slice a k c) (.int .i64 0)).run Tryz.prog W = .ok (.pointer (some ⟨b, o, none⟩)) W := hix
   have HP : Hid (l[0]? = some p ∧ Nums nx l ∧ Below W.heap.size W wr) := ⟨hp, hF, hbel⟩
   obtain ⟨p1, p2, p3, p4, p5, p6⟩ := p
   simp only at c0 c1
   clear hp hF hbel c2 c3 c4 c5
   by_cases ha : p1 = 1
   · subst ha
     have HB : Hid (p2 = true ↔ NumsOk (l, nx)) := by (
 refine ⟨fun h => ⟨by simp only; omega, by have := HN.out; simp only; omega, HP.out.2.1, _, HP.out.1, rfl, h⟩, fun h => ?_⟩
 obtain ⟨q, hq, _, hd⟩ := h.2.2.2
 have := HP.out.1.symm.trans hq
 simp only [Option.some.injEq] at this
 rw [← this] at hd
 exact hd)
     go_wp2
     go_ret
     exact ⟨says_is HB.out, below_any HW.out.1 HP.out.2.2⟩
   · have HB : Hid (¬ NumsOk (l, nx)) := fun h => by
       obtain ⟨q, hq, hd, _⟩ := h.2.2.2
       have := HP.out.1.symm.trans hq
       simp only [Option.some.injEq] at this
       rw [← this] at hd
       exact ha hd
     go_wp2
     go_ret
     exact ⟨says_no HB.out, below_any HW.out.1 HP.out.2.2⟩)
end Go.Proofs.YtopcefhncildnaaGreatDoor
namespace Go.Proofs.YtopcefhncildnaaGreatDoor
open Go.RowKit
open D (En ArgE Chk)
open F (Fl chk)
theorem mayBeDir_any (n0 : Nat) (p1 : Int) (p2 : Bool) (p3 : Int) (p4 : List En) (p5 : Int) (p6 : List F.Bk) (ea : Option Addr) (el ec : Nat) (fa : Option Addr) (fl fc : Nat) (w : World) (hL : LN n0 w (p1, p2, p3, p4, p5, p6) (.slice ea el ec) (.slice fa fl fc)) (hfl : fl = p6.length) :
   Calls Tryz.prog 202 #[.agg #[.int .i64 p1, .bool p2, .int .i64 p3, .slice ea el ec, .int .i64 p5, .slice fa fl fc]] w fun e w' => e = .returned (.bool (decide (Chk p4 ∧ ((p5, p6) : Fl) = (0, [])))) ∧ Below w.heap.size w w' := by
 obtain ⟨W, hW⟩ := exa (w.alloc (.cells #[.int .i64 p1, .bool p2, .int .i64 p3, .slice ea el ec, .int .i64 p5, .slice fa fl fc] 47))
 have HW : Hid (Below w.heap.size w W ∧ Box W w.heap.size 47 #[.int .i64 p1, .bool p2, .int .i64 p3, .slice ea el ec, .int .i64 p5, .slice fa fl fc]) := ⟨by rw [hW]; exact (Below.refl _ w).alloc (Nat.le_refl _) _, by rw [hW]; exact Box.new _ _ _⟩
 have HC := D.check_any n0 _ p4 W (hL.1.below HW.out.1)
 have hl1 := run_len Tryz.underlying43 fa fl fc
 have hfl0 : fl = 0 ↔ p6 = [] := by rw [hfl]; exact List.length_eq_zero_iff
 clear hL hfl
 by_cases hck : Chk p4
 · rw [D.cerr_ok hck] at HC
   by_cases h5 : p5 = 0
   · subst h5
     by_cases h6 : p6 = []
     · have hz := hfl0.2 h6
       subst hz
       rw [decide_eq_true (⟨hck, by rw [h6]⟩ : Chk p4 ∧ ((0, p6) : Fl) = (0, []))]
       clear hck hfl0 h6
       go_enter Tryz.func202, Tryz.ntmps202
       go_wp2_with fail
       rw [← hW]
       clear hW
       refine HC.mono ?_
       rintro e w1 ⟨rfl, hb1⟩
       obtain ⟨g0, g1, g2, g3, g4, g5⟩ := (HW.out.2.below hb1 HW.out.2.lt).six
       go_wp2
       go_ret
       exact ⟨rfl, below_any HW.out.1 hb1⟩
     · have hz : ¬ (fl : Int) = 0 := fun c => h6 (hfl0.1 (by omega))
       have hzb : ((fl : Int) == 0) = false := by simpa using hz
       rw [decide_eq_false (fun c : Chk p4 ∧ ((0, p6) : Fl) = (0, []) => h6 (Prod.mk.inj c.2).2)]
       clear hck hfl0 h6
       go_enter Tryz.func202, Tryz.ntmps202
       go_wp2_with fail
       rw [← hW]
       clear hW
       refine HC.mono ?_
       rintro e w1 ⟨rfl, hb1⟩
       obtain ⟨g0, g1, g2, g3, g4, g5⟩ := (HW.out.2.below hb1 HW.out.2.lt).six
       go_wp2
       go_ret
       exact ⟨by simp, below_any HW.out.1 hb1⟩
   · rw [decide_eq_false (fun c : Chk p4 ∧ ((p5, p6) : Fl) = (0, []) => h5 (Prod.mk.inj c.2).1)]
     clear hck hfl0
     go_enter Tryz.func202, Tryz.ntmps202
     go_wp2_with fail
     rw [← hW]
     clear hW
     refine HC.mono ?_
     rintro e w1 ⟨rfl, hb1⟩
     obtain ⟨g0, g1, g2, g3, g4, g5⟩ := (HW.out.2.below hb1 HW.out.2.lt).six
     go_wp2
     go_ret
     exact ⟨rfl, below_any HW.out.1 hb1⟩
 · rw [D.cerr_bad hck] at HC
   rw [decide_eq_false (fun c : Chk p4 ∧ ((p5, p6) : Fl) = (0, []) => hck c.1)]
   clear hck hfl0
   go_enter Tryz.func202, Tryz.ntmps202
   go_wp2_with fail
   rw [← hW]
   clear hW
   refine HC.mono ?_
   rintro e w1 ⟨rfl, hb1⟩
   go_wp2
   go_ret
   exact ⟨rfl, below_any HW.out.1 hb1⟩
theorem mayBeFile_any (n0 : Nat) (p1 : Int) (p2 : Bool) (p3 : Int) (p4 : List En) (p5 : Int) (p6 : List F.Bk) (ea : Option Addr) (el ec : Nat) (fa : Option Addr) (fl fc : Nat) (w : World) (hL : LN n0 w (p1, p2, p3, p4, p5, p6) (.slice ea el ec) (.slice fa fl fc)) (hel : el = p4.length) :
   Calls Tryz.prog 203 #[.agg #[.int .i64 p1, .bool p2, .int .i64 p3, .slice ea el ec, .int .i64 p5, .slice fa fl fc]] w fun e w' => e = .returned (.bool (decide (p4 = [] ∧ chk (p5, p6) = true))) ∧ Below w.heap.size w w' := by
 obtain ⟨W, hW⟩ := exa (w.alloc (.cells #[.int .i64 p1, .bool p2, .int .i64 p3, .slice ea el ec, .int .i64 p5, .slice fa fl fc] 47))
 have HW : Hid (Below w.heap.size w W ∧ Box W w.heap.size 47 #[.int .i64 p1, .bool p2, .int .i64 p3, .slice ea el ec, .int .i64 p5, .slice fa fl fc]) := ⟨by rw [hW]; exact (Below.refl _ w).alloc (Nat.le_refl _) _, by rw [hW]; exact Box.new _ _ _⟩
 have HC := F.check_any n0 _ (p5, p6) W (hL.below HW.out.1).file
 have hl1 := run_len Tryz.underlying42 ea el ec
 have hel0 : el = 0 ↔ p4 = [] := by rw [hel]; exact List.length_eq_zero_iff
 clear hL hel
 by_cases h4 : p4 = []
 · have hz := hel0.2 h4
   subst hz
   have hd : decide (p4 = [] ∧ chk (p5, p6) = true) = chk (p5, p6) := by
     cases chk (p5, p6) <;> simp [h4]
   rw [hd]
   unfold F.cerr at HC
   cases hck : chk (p5, p6)
   · rw [if_neg (by rw [hck]; decide)] at HC
     clear hck hel0 h4 hd
     go_enter Tryz.func203, Tryz.ntmps203
     go_wp2_with fail
     rw [← hW]
     clear hW
     refine HC.mono ?_
     rintro e w1 ⟨rfl, hb1⟩
     go_wp2
     go_ret
     exact ⟨rfl, below_any HW.out.1 hb1⟩
   · rw [if_pos hck] at HC
     clear hck hel0 h4 hd
     go_enter Tryz.func203, Tryz.ntmps203
     go_wp2_with fail
     rw [← hW]
     clear hW
     refine HC.mono ?_
     rintro e w1 ⟨rfl, hb1⟩
     go_wp2
     go_ret
     exact ⟨rfl, below_any HW.out.1 hb1⟩
 · have hz : ¬ (el : Int) = 0 := fun c => h4 (hel0.1 (by omega))
   rw [decide_eq_false (fun c : p4 = [] ∧ chk (p5, p6) = true => h4 c.1)]
   clear hel0 h4 HC
   go_enter Tryz.func203, Tryz.ntmps203
   go_wp2
   rw [← hW]
   go_ret
   exact ⟨rfl, HW.out.1⟩
def least (p : Nd) : Int := if p.1 = 1 then 0 else 1
def most (p : Nd) : Int := if p.1 = 1 then 0 else if isD p = true then 1 else 16
theorem mayLink_any (p1 : Int) (p2 : Bool) (p3 : Int) (p4 : List En) (p5 : Int) (p6 : List F.Bk) (ea : Option Addr) (el ec : Nat) (fa : Option Addr) (fl fc : Nat) (w : World) :
   Calls Tryz.prog 205 #[.agg #[.int .i64 p1, .bool p2, .int .i64 p3, .slice ea el ec, .int .i64 p5, .slice fa fl fc]] w fun e w' => e = .returned (.tuple #[.int .i64 (least (p1, p2, p3, p4, p5, p6)), .int .i64 (most (p1, p2, p3, p4, p5, p6))]) ∧ Below w.heap.size w w' := by
 have HB := (Below.refl w.heap.size w).alloc (Nat.le_refl _) (.cells #[.int .i64 p1, .bool p2, .int .i64 p3, .slice ea el ec, .int .i64 p5, .slice fa fl fc] 47)
 by_cases h1 : p1 = 1
 · rw [show least (p1, p2, p3, p4, p5, p6) = 0 from if_pos h1, show most (p1, p2, p3, p4, p5, p6) = 0 from if_pos h1]
   subst h1
   go_enter Tryz.func205, Tryz.ntmps205
   go_wp2
   go_ret2
   exact ⟨rfl, HB⟩
 · rw [show least (p1, p2, p3, p4, p5, p6) = 1 from if_neg h1]
   cases p2
   · rw [show most (p1, false, p3, p4, p5, p6) = 16 by unfold most; rw [if_neg h1]; rfl]
     go_enter Tryz.func205, Tryz.ntmps205
     go_wp2
     go_ret2
     exact ⟨rfl, HB⟩
   · rw [show most (p1, true, p3, p4, p5, p6) = 1 by unfold most; rw [if_neg h1]; rfl]
     go_enter Tryz.func205, Tryz.ntmps205
     go_wp2
     go_ret2
     exact ⟨rfl, HB⟩
def NodeOk (p : Nd) : Prop := (isD p = true → Chk (en p) ∧ fi p = (0, [])) ∧ (isD p = false → en p = [] ∧ chk (fi p) = true)
theorem nodes_any (n0 : Nat) (a : Option Addr) (c : Nat) (l : List Nd) (nx : Int) (w : World) (hA : ndsN.lies n0 w [.slice a l.length c] l) (hlen : l.length ≤ 100000) :
   Calls Tryz.prog 141 #[.agg #[.slice a l.length c, .int .i64 nx]] w fun e w' => Says e (∀ p ∈ l, NodeOk p) ∧ Below w.heap.size w w' := by
 have HV : Hid (∀ V, Below w.heap.size w V → NV n0 (.slice a l.length c) l V) := nds_view hA
 obtain ⟨n, hn⟩ := exa (l.length)
 have hl1 := run_len Tryz.underlying27 a l.length c
 rw [← hn] at hl1 HV hlen ⊢
 have HN : Hid (n = l.length) := hn
 obtain ⟨W, hW⟩ := exa (w.alloc (.cells #[.slice a n c, .int .i64 nx] 29))
 have HW : Hid (Below w.heap.size w W ∧ Box W w.heap.size 29 #[.slice a n c, .int .i64 nx]) := ⟨by rw [hW]; exact (Below.refl _ w).alloc (Nat.le_refl _) _, by rw [hW]; exact Box.new _ _ _⟩
 obtain ⟨g0, g1, _, _⟩ := HW.out.2.two
 rw [hW] at g0 g1
 clear hA hn
 go_enter Tryz.func141, Tryz.ntmps141
 go_wp2
 rw [← hW]
 clear hW g0 g1
 go_loopw [8] (fun i wr => ∃ (k : Nat), k ≤ n ∧ i = .int .i64 k ∧ Hid (∀ p ∈ l.take k, NodeOk p) ∧ Below W.heap.size W wr) (fun i _ => n - (intOf i).toNat)
 case atStart => exact ⟨0, Nat.zero_le _, rfl, fun _ h => (by simp at h), Below.refl _ _⟩
 case round => (
 obtain ⟨k, hk, rfl, HF, hbel⟩ := hrel
 by_cases hlt : k < n
 · obtain ⟨p, hp⟩ := get_lt (l := l) (k := k) (by rw [← HN.out]; exact hlt)
   obtain ⟨b, o, ea, el, ec, fa, fl, fc, hix, ⟨c0, c1, c2, c3, c4, c5⟩, hL, _, hel, hfl⟩ := HV.out wr (below_any HW.out.1 hbel) k p hp
   have hki : (k : Int) < (n : Int) := by omega
   obtain ⟨p1, p2, p3, p4, p5, p6⟩ := p
   simp only at c0 c1 c2 c3 c4 c5
   have HP : Hid (l[k]? = some (p1, p2, p3, p4, p5, p6)) := hp
   obtain ⟨V, hV⟩ := exa (wr.alloc (.cells #[.int .i64 p1, .bool p2, .int .i64 p3, .slice ea el ec, .int .i64 p5, .slice fa fl fc] 47))
   have hbV : Below wr.heap.size wr V := by rw [hV]; exact (Below.refl _ wr).alloc (Nat.le_refl _) _
   have HVV : Hid (Below W.heap.size W V ∧ Box V wr.heap.size 47 #[.int .i64 p1, .bool p2, .int .i64 p3, .slice ea el ec, .int .i64 p5, .slice fa fl fc]) := ⟨below_any hbel hbV, by rw [hV]; exact Box.new _ _ _⟩
   have hm : (p1, p2, p3, p4, p5, p6) ∈ l := List.mem_of_getElem? hp
   have HM : Hid ((p1, p2, p3, p4, p5, p6) ∈ l) := hm
   have hg1 : ∀ q ∈ l.take (k + 1), q ∈ l.take k ∨ q = (p1, p2, p3, p4, p5, p6) := fun q hq => by (
 rw [take_snoc hp] at hq
 rcases List.mem_append.1 hq with h | h
 · exact .inl h
 · exact .inr (List.mem_singleton.1 h))
   have HG : Hid (∀ q ∈ l.take (k + 1), q ∈ l.take k ∨ q = (p1, p2, p3, p4, p5, p6)) := hg1
   have HD := mayBeDir_any n0 p1 p2 p3 p4 p5 p6 ea el ec fa fl fc V (hL.below hbV) hfl
   have HE := mayBeFile_any n0 p1 p2 p3 p4 p5 p6 ea el ec fa fl fc V (hL.below hbV) hel
   obtain ⟨q0, q1, q2, q3, q4, q5⟩ := HVV.out.2.six
   rw [hV] at q0 q1 q2 q3 q4 q5
   clear hp hbel hL hel hfl hbV hm hg1
   cases p2
   · by_cases hok : p4 = [] ∧ chk (p5, p6) = true
     · rw [decide_eq_true hok] at HE
       have HO : Hid (NodeOk (p1, false, p3, p4, p5, p6)) := ⟨fun c => (by cases c), fun _ => hok⟩
       clear hok HD
       go_wp2_with fail
       rw [← hV]
       clear hV q0 q1 q2 q3 q4 q5
       refine HE.mono ?_
       rintro e w1 ⟨rfl, hb1⟩
       go_wp2
       go_roundw
       case rel => exact ⟨k + 1, by omega, by go_num, fun q hq => (HG.out q hq).elim (HF.out q) (fun e => by rw [e]; exact HO.out), below_any HVV.out.1 hb1⟩
       case measure => simp [intOf]; omega
     · rw [decide_eq_false hok] at HE
       have HO : Hid (¬ ∀ p ∈ l, NodeOk p) := fun h => hok ((h _ HM.out).2 rfl)
       clear hok HD
       go_wp2_with fail
       rw [← hV]
       clear hV q0 q1 q2 q3 q4 q5
       refine HE.mono ?_
       rintro e w1 ⟨rfl, hb1⟩
       go_wp2
       go_ret
       exact ⟨says_no HO.out, below_any HW.out.1 (below_any HVV.out.1 hb1)⟩
   · by_cases hok : Chk p4 ∧ ((p5, p6) : Fl) = (0, [])
     · rw [decide_eq_true hok] at HD
       have HO : Hid (NodeOk (p1, true, p3, p4, p5, p6)) := ⟨fun _ => hok, fun c => (by cases c)⟩
       clear hok HE
       go_wp2_with fail
       rw [← hV]
       clear hV q0 q1 q2 q3 q4 q5
       refine HD.mono ?_
       rintro e w1 ⟨rfl, hb1⟩
       obtain ⟨q0, q1, q2, q3, q4, q5⟩ := (HVV.out.2.below hb1 HVV.out.2.lt).six
       go_wp2
       go_roundw
       case rel => exact ⟨k + 1, by omega, by go_num, fun q hq => (HG.out q hq).elim (HF.out q) (fun e => by rw [e]; exact HO.out), below_any HVV.out.1 hb1⟩
       case measure => simp [intOf]; omega
     · rw [decide_eq_false hok] at HD
       have HO : Hid (¬ ∀ p ∈ l, NodeOk p) := fun h => hok ((h _ HM.out).1 rfl)
       clear hok HE
       go_wp2_with fail
       rw [← hV]
       clear hV q0 q1 q2 q3 q4 q5
       refine HD.mono ?_
       rintro e w1 ⟨rfl, hb1⟩
       go_wp2
       go_ret
       exact ⟨says_no HO.out, below_any HW.out.1 (below_any HVV.out.1 hb1)⟩
 · obtain rfl : k = n := by omega
   have HO : Hid (∀ p ∈ l, NodeOk p) := fun p hp => HF.out p (by rw [List.take_of_length_le (by rw [HN.out]; exact Nat.le_refl _)]; exact hp)
   go_wp2
   go_ret
   exact ⟨says_yes HO.out, below_any HW.out.1 hbel⟩)
end Go.Proofs.YtopcefhncildnaaGreatDoor
