/-
  What dir.Check answers, for every entries.
  Where a name stands, or would stand, among entries in order: the closure, the library's sort.Search with it, and dir.place.
  What dir.place, dir.Find and the document's Find answer, for every entries and every name.
-/
import Derived.Test.YtopcefhncildnaaGreatDoorZ23
import Derived.Laws.Cover1
set_option maxRecDepth 100000
set_option maxHeartbeats 4000000
namespace Go.Proofs.YtopcefhncildnaaGreatDoor.D
open Go.RowKit
theorem check_any (n0 : Nat) (v : Value) (l : List En) (w : World) (h : ArgE n0 w v l) :
   Calls Tryz.prog 240 #[v] w fun e w' => e = .returned (.int .i64 (cerr l)) ∧ Below w.heap.size w w' := by
 obtain ⟨a, c, rfl, _, hm, _⟩ := h.shape
 unfold maxLen at hm
 obtain ⟨n, hn⟩ := exa (l.length)
 rw [← hn] at h hm ⊢
 have hl1 := run_len Tryz.underlying42 a n c
 have HN : Hid (n = l.length) := hn
 have HA : Hid (ArgE n0 w (.slice a n c) l) := h
 have HB : Hid (Below w.heap.size w w) := Below.refl _ w
 by_cases h63 : 63 < n
 · have he : cerr l = 9 := cerr_bad fun hc => by have := hc.1; omega
   have h63i : (63 : Int) < (n : Int) := by omega
   rw [he]
   clear h hn he
   go_enter Tryz.func240, Tryz.ntmps240
   go_wp2
   go_ret
   exact ⟨rfl, HB.out⟩
 have h63i : ¬ (63 : Int) < (n : Int) := by omega
 obtain ⟨ce, hce⟩ := exa (cerr l)
 rw [← hce]
 have HE : Hid (ce = cerr l) := hce
 clear h hn hce
 go_enter Tryz.func240, Tryz.ntmps240
 go_wp2
 go_loopw [3, 11] (fun s i wr => ∃ (k : Nat), k ≤ n ∧ i = .int .i64 k ∧ s = .string (lastN (l.take k)) ∧ Fine (l.take k) ∧ Below w.heap.size w wr) (fun _ i _ => n - (intOf i).toNat)
 case atStart => exact ⟨0, Nat.zero_le _, rfl, rfl, fine_nil, HB.out⟩
 case round => (
 obtain ⟨k, hk, rfl, rfl, hF, hbel⟩ := hrel
 by_cases hlt : k < n
 · obtain ⟨p, hp⟩ := get_lt (l := l) (k := k) (by rw [← HN.out]; exact hlt)
   obtain ⟨b, o, hix, _, hc0, hc1⟩ := (HA.out.below hbel).atN k p hp
   have hki : (k : Int) < (n : Int) := by omega
   obtain ⟨s, x⟩ := p
   simp only at hc0 hc1
   have HP : Hid (l[k]? = some (s, x) ∧ Fine (l.take k) ∧ Below w.heap.size w wr) := ⟨hp, hF, hbel⟩
   obtain ⟨ls, hls⟩ := exa (lastN (l.take k))
   rw [← hls]
   have HLS : Hid (ls = lastN (l.take k)) := hls
   obtain ⟨W, hW⟩ := exa (wr.alloc (.cells #[.string s, .int .i64 x] 49))
   have hbW : Below wr.heap.size wr W := by rw [hW]; exact (Below.refl _ wr).alloc (Nat.le_refl _) _
   have hBx : Box W wr.heap.size 49 #[.string s, .int .i64 x] := by rw [hW]; exact Box.new _ _ _
   have HW : Hid (Below w.heap.size w W ∧ Box W wr.heap.size 49 #[.string s, .int .i64 x]) := ⟨below_any hbel hbW, hBx⟩
   have HC := name_any s W
   obtain ⟨g0, g1, _, _⟩ := hBx.two
   rw [hW] at g0 g1
   clear hp hF hbel hls hbW hBx
   by_cases hnm : nameOk s = true
   case neg => (
 rw [show nerr s = 106 from if_neg hnm] at HC
 have hce : ce = 9 := by rw [HE.out]; exact cerr_bad (not_good HP.out.1 fun g => hnm g.1)
 subst hce
 clear hnm
 go_wp2_with fail
 rw [← hW]
 clear hW g0 g1
 refine HC.mono ?_
 rintro e w1 ⟨rfl, hb1⟩
 go_wp2
 go_ret
 exact ⟨rfl, below_any HW.out.1 hb1⟩)
   rw [show nerr s = 0 from if_pos hnm] at HC
   cases hlt2 : ltB ls s
   case false => (
 have hce : ce = 9 := by rw [HE.out]; exact cerr_bad (not_last HP.out.1 (by rw [← HLS.out]; exact hlt2))
 subst hce
 obtain ⟨z1, hz1⟩ := exa (Op.bytesLess s.toList ls.toList)
 obtain ⟨z2, hz2⟩ := exa ((s.toList == ls.toList))
 have hle : (z1 || z2) = true := by rw [hz1, hz2, leB_not, hlt2]; rfl
 clear hnm hlt2
 cases z1 <;> cases z2 <;> first | (cases hle; done) | skip
 all_goals
   clear hle
   have hy1 := hz1.symm
   have hy2 := hz2.symm
   clear hz1 hz2
   go_wp2_with fail
   rw [← hW]
   clear hW g0 g1
   refine HC.mono ?_
   rintro e w1 ⟨rfl, hb1⟩
   obtain ⟨q0, q1, _, _⟩ := (HW.out.2.below hb1 HW.out.2.lt).two
   go_wp2
   go_ret
   exact ⟨rfl, below_any HW.out.1 hb1⟩)
   have hz1 : Op.bytesLess s.toList ls.toList = false := ltB_asymm hlt2
   have hz2 : (s.toList == ls.toList) = false := by (
 rw [ba_eq]
 refine decide_eq_false fun e => ?_
 rw [e, ltB_irrefl] at hlt2
 cases hlt2)
   cases hino : inoOk x
   case false => (
 have hce : ce = 9 := by rw [HE.out]; exact cerr_bad (not_good HP.out.1 fun g => by have := g.2; rw [hino] at this; cases this)
 subst hce
 clear hnm hlt2
 go_wp2_with fail
 rw [← hW]
 clear hW g0 g1
 refine HC.mono ?_
 rintro e w1 ⟨rfl, hb1⟩
 obtain ⟨q0, q1, _, _⟩ := (HW.out.2.below hb1 HW.out.2.lt).two
 have HM := may_any x w1
 rw [hino] at HM
 clear hino
 go_wp2_with (go_at_call 241; refine HM.mono ?_; rintro e w2 ⟨rfl, rfl⟩)
 go_ret
 exact ⟨rfl, below_any HW.out.1 hb1⟩)
   have HF : Hid (Fine (l.take (k + 1)) ∧ lastN (l.take (k + 1)) = s) := ⟨by rw [take_snoc HP.out.1]; exact fine_snoc HP.out.2.1 ⟨hnm, hino⟩ (by rw [← HLS.out]; exact hlt2), lastN_take HP.out.1⟩
   clear hnm hlt2
   go_wp2_with fail
   rw [← hW]
   clear hW g0 g1
   refine HC.mono ?_
   rintro e w1 ⟨rfl, hb1⟩
   obtain ⟨q0, q1, _, _⟩ := (HW.out.2.below hb1 HW.out.2.lt).two
   have HM := may_any x w1
   rw [hino] at HM
   clear hino
   go_wp2_with (go_at_call 241; refine HM.mono ?_; rintro e w2 ⟨rfl, rfl⟩)
   go_roundw
   case rel => exact ⟨k + 1, by omega, by go_num, by rw [HF.out.2], HF.out.1, below_any HW.out.1 hb1⟩
   case measure => simp [intOf]; omega
 · obtain rfl : k = n := by omega
   have hce : ce = 0 := by (
 rw [HE.out]
 refine cerr_ok ⟨by have := HN.out; omega, ?_⟩
 rw [List.take_of_length_le (by rw [HN.out]; exact Nat.le_refl _)] at hF
 exact hF)
   subst hce
   go_wp2
   go_ret
   exact ⟨rfl, hbel⟩)
end Go.Proofs.YtopcefhncildnaaGreatDoor.D
namespace Go.Proofs.YtopcefhncildnaaGreatDoor.D
open Go.RowKit
def pos (l : List En) (x : ByteArray) : Nat := l.countP fun p => ltB p.1 x
theorem pos_le (l : List En) (x : ByteArray) : pos l x ≤ l.length := List.countP_le_length
theorem pos_none {l : List En} {x : ByteArray} (h : ∀ p ∈ l, ltB p.1 x = false) : pos l x = 0 := by
 unfold pos
 rw [List.countP_eq_zero]
 intro p hp
 simp [h p hp]
theorem pos_at {l : List En} (hU : Up l) (x : ByteArray) : ∀ {i : Nat} {p : En}, l[i]? = some p → (ltB p.1 x = true ↔ i < pos l x) := by
 induction l with
 | nil => intro i p h; simp at h
 | cons q r ih => (
 obtain ⟨h1, h2⟩ := List.pairwise_cons.1 hU
 intro i p h
 cases hq : ltB q.1 x
 · have hr : ∀ p ∈ q :: r, ltB p.1 x = false := fun p hp => by
     rcases List.mem_cons.1 hp with rfl | hp
     · exact hq
     · rw [Bool.eq_false_iff]
       intro hc
       rw [ltB_trans (h1 p hp) hc] at hq
       cases hq
   rw [pos_none hr, hr p (List.mem_of_getElem? h)]
   simp
 · have e : pos (q :: r) x = pos r x + 1 := by simp [pos, hq]
   rw [e]
   cases i with
   | zero => (
 simp at h
 subst h
 simp [hq])
   | succ i => (
 simp at h
 rw [ih h2 h]
 omega))
theorem closure_any (n0 B1 B2 : Nat) (v : Value) (l : List En) (x : ByteArray) (i : Nat) (p : En) (hp : l[i]? = some p) (w : World) (h : ArgE n0 w v l) (hl : w.cell? ⟨B1, 0, none⟩ = some v) (hx : w.cell? ⟨B2, 0, none⟩ = some (.string x)) :
   Calls Tryz.prog 295 #[.int .i64 i, .pointer (some ⟨B1, 0, none⟩), .pointer (some ⟨B2, 0, none⟩)] w fun e w' => e = .returned (.bool !(ltB p.1 x)) ∧ ∃ q, w' = w.drewN q := by
 obtain ⟨b, o, hix, _, hc0, hc1⟩ := h.atN i p hp
 obtain ⟨a, c, rfl, _⟩ := h.shape
 obtain ⟨s, y⟩ := p
 simp only at hc0 hc1 ⊢
 obtain ⟨z, hz⟩ : ∃ z, Op.bytesLess s.toList x.toList = z := ⟨_, rfl⟩
 have hzz : ltB s x = z := hz
 rw [hzz]
 obtain ⟨n, hn⟩ := exa (l.length)
 rw [← hn] at hix hl
 clear h hp hzz hn
 go_enter Tryz.func295, Tryz.ntmps295
 go_wp2
 go_quiet (fail)
 go_wp2
 go_ret
 exact ⟨rfl, _, rfl⟩
theorem search_any (n0 B1 B2 : Nat) (v : Value) (l : List En) (hU : Up l) (x : ByteArray) (w : World) (hA : ArgE n0 w v l) (hl : w.cell? ⟨B1, 0, none⟩ = some v) (hx : w.cell? ⟨B2, 0, none⟩ = some (.string x)) (hn : l.length < 4611686018427387904) :
   Calls Tryz.prog 294 #[.int .i64 l.length, .func (.func 295) #[] #[.pointer (some ⟨B1, 0, none⟩), .pointer (some ⟨B2, 0, none⟩)]] w fun e w' => e = .returned (.int .i64 (pos l x)) ∧ ∃ q, w' = w.drewN q := by
 have HC : Hid (∀ (i : Nat) (p : En) (q : Nat), l[i]? = some p → Calls Tryz.prog 295 #[.int .i64 i, .pointer (some ⟨B1, 0, none⟩), .pointer (some ⟨B2, 0, none⟩)] (w.drewN q) fun e w' => e = .returned (.bool !(ltB p.1 x)) ∧ ∃ q', w' = w.drewN q') := fun i p q hp =>
   (closure_any n0 B1 B2 v l x i p hp (w.drewN q) (hA.below (below_drewN (Below.refl _ _) q)) hl hx).mono fun e w' h => ⟨h.1, by obtain ⟨r, hr⟩ := h.2; exact ⟨_, by rw [hr]; exact World.drewN_drewN _ _ _⟩⟩
 have HU : Hid (∀ {i : Nat} {p : En}, l[i]? = some p → (ltB p.1 x = true ↔ i < pos l x)) := pos_at hU x
 have hpl := pos_le l x
 obtain ⟨n, hnn⟩ := exa (l.length)
 obtain ⟨c, hc⟩ := exa (pos l x)
 have HN : Hid (n = l.length) := hnn
 rw [← hnn] at hn hpl ⊢
 rw [← hc] at hpl HU ⊢
 clear hA hl hx hU hnn hc
 go_enter Tryz.func294, Tryz.ntmps294
 go_wp2
 go_loopg [5, 6] n (fun kx s5 s6 wr => ∃ (lo hi q : Nat), s5 = .int .i64 lo ∧ s6 = .int .i64 hi ∧ lo ≤ c ∧ c ≤ hi ∧ hi ≤ n ∧ hi - lo ≤ kx ∧ wr = w.drewN q)
 case atStart => exact ⟨0, n, 0, rfl, rfl, Nat.zero_le _, hpl, Nat.le_refl _, by omega, rfl⟩
 case round => (
 obtain ⟨lo, hi, q, rfl, rfl, h1, h2, h3, h4, rfl⟩ := hrel
 by_cases hlt : lo < hi
 · obtain ⟨m, hm⟩ := exa ((lo + hi) / 2)
   obtain ⟨p, hp⟩ := get_lt (l := l) (k := m) (by rw [← HN.out]; omega)
   have hcall := HC.out m p q hp
   have hiff := HU.out hp
   rw [show (m : Int) = ((lo : Int) + (hi : Int)) / 2 by omega] at hcall
   cases hb : ltB p.1 x
   · rw [hb] at hcall hiff
     have hge : c ≤ m := by (
 rcases Nat.lt_or_ge m c with h | h
 · have := hiff.2 h; cases this
 · exact h)
     clear hb hiff hp HC
     go_wp2_with (go_at_call 295; refine hcall.mono ?_; rintro e w' ⟨rfl, nq, rfl⟩)
     go_roundg (m - lo)
     case measure => omega
     case rel => exact ⟨lo, m, nq, rfl, by rw [show ((lo : Int) + (hi : Int)) / 2 = (m : Int) by omega], h1, hge, by omega, Nat.le_refl _, rfl⟩
   · rw [hb] at hcall hiff
     have hlt2 : m < c := hiff.1 rfl
     clear hb hiff hp HC
     go_wp2_with (go_at_call 295; refine hcall.mono ?_; rintro e w' ⟨rfl, nq, rfl⟩)
     go_roundg (hi - (m + 1))
     case measure => omega
     case rel => exact ⟨m + 1, hi, nq, by rw [show ((lo : Int) + (hi : Int)) / 2 + 1 = ((m + 1 : Nat) : Int) by omega], rfl, hlt2, h2, h3, Nat.le_refl _, rfl⟩
 · obtain rfl : lo = c := by omega
   go_wp2
   go_ret
   exact ⟨rfl, q, rfl⟩)
end Go.Proofs.YtopcefhncildnaaGreatDoor.D
namespace Go.Proofs.YtopcefhncildnaaGreatDoor.D
open Go.RowKit
def there (l : List En) (x : ByteArray) : Bool := l.any fun p => decide (p.1 = x)
theorem there_iff (l : List En) (x : ByteArray) : there l x = true ↔ ∃ (i : Nat) (p : En), l[i]? = some p ∧ p.1 = x := by
 simp only [there, List.any_eq_true, decide_eq_true_eq]
 constructor
 · rintro ⟨p, hp, he⟩
   obtain ⟨i, hi⟩ := List.getElem?_of_mem hp
   exact ⟨i, p, hi, he⟩
 · rintro ⟨i, p, hi, he⟩
   exact ⟨p, List.mem_of_getElem? hi, he⟩
theorem there_pos {l : List En} (hU : Up l) {x : ByteArray} {i : Nat} {p : En} (hp : l[i]? = some p) (he : p.1 = x) : i = pos l x := by
 have h1 : ¬ i < pos l x := fun h => by (
 have := (pos_at hU x hp).2 h
 rw [he, ltB_irrefl] at this
 cases this)
 have hlt : i < l.length := (List.getElem?_eq_some_iff.1 hp).1
 rcases Nat.lt_or_ge (pos l x) i with h | h
 · obtain ⟨q, hq⟩ := get_lt (l := l) (k := pos l x) (by omega)
   have h2 : ltB q.1 p.1 = true := by (
 obtain ⟨a1, b1⟩ := List.getElem?_eq_some_iff.1 hq
 obtain ⟨a2, b2⟩ := List.getElem?_eq_some_iff.1 hp
 have := List.pairwise_iff_getElem.1 hU _ _ a1 a2 h
 rwa [b1, b2] at this)
   rw [he] at h2
   have := (pos_at hU x hq).1 h2
   omega
 · omega
theorem there_end {l : List En} (hU : Up l) {x : ByteArray} (h : pos l x = l.length) : there l x = false := by
 rw [Bool.eq_false_iff]
 intro hc
 obtain ⟨i, p, hp, he⟩ := (there_iff l x).1 hc
 have h1 := there_pos hU hp he
 have := (List.getElem?_eq_some_iff.1 hp).1
 omega
theorem there_at {l : List En} (hU : Up l) {x : ByteArray} {p : En} (hp : l[pos l x]? = some p) : there l x = decide (p.1 = x) := by
 by_cases h : p.1 = x
 · rw [(there_iff l x).2 ⟨_, p, hp, h⟩]; simp [h]
 · rw [decide_eq_false h, Bool.eq_false_iff]
   intro hc
   obtain ⟨i, q, hq, he⟩ := (there_iff l x).1 hc
   have h1 := there_pos hU hq he
   rw [← h1, hq] at hp
   simp at hp
   exact h (by rw [← hp]; exact he)
def fnd (l : List En) (x : ByteArray) : Int := match l.find? fun p => decide (p.1 = x) with | some p => p.2 | none => 0
theorem find_first {l : List En} {x : ByteArray} : ∀ {k : Nat} {p : En}, (∀ (i : Nat) (q : En), i < k → l[i]? = some q → q.1 ≠ x) → l[k]? = some p → p.1 = x → fnd l x = p.2 := by
 unfold fnd
 induction l with
 | nil => intro k p _ h; simp at h
 | cons r l ih => (
 intro k p h hp he
 cases k with
 | zero => (
 simp at hp
 subst hp
 simp [he])
 | succ k => (
 have h0 := h 0 r (by omega) rfl
 rw [List.find?_cons_of_neg (by simpa using h0)]
 exact ih (k := k) (fun i q hi hq => h (i + 1) q (by omega) (by simpa using hq)) (by simpa using hp) he))
theorem fnd_none {l : List En} {x : ByteArray} (h : there l x = false) : fnd l x = 0 := by
 unfold fnd
 have : l.find? (fun p => decide (p.1 = x)) = none := by (
 rw [List.find?_eq_none]
 intro p hp
 unfold there at h
 rw [List.any_eq_false] at h
 simpa using h p hp)
 rw [this]
theorem fnd_pos {l : List En} (hU : Up l) {x : ByteArray} {p : En} (hp : l[pos l x]? = some p) (he : p.1 = x) : fnd l x = p.2 := by
 refine find_first (fun i q hi hq hx => ?_) hp he
 have := there_pos hU hq hx
 omega
def fis (l : List En) (x : ByteArray) : Bool := if Chk l then there l x else false
def fno (l : List En) (x : ByteArray) : Int := if Chk l then fnd l x else 0
theorem place_any (n0 : Nat) (v : Value) (l : List En) (hU : Up l) (x : ByteArray) (w : World) (h : ArgE n0 w v l) (hl63 : l.length ≤ 63) :
   Calls Tryz.prog 242 #[v, .string x] w fun e w' => e = .returned (.tuple #[.int .i64 (pos l x), .bool (there l x)]) ∧ Below w.heap.size w w' := by
 obtain ⟨a, c, rfl, _⟩ := h.shape
 obtain ⟨W, hW⟩ := exa ((w.alloc (.cells #[.slice a l.length c] 42)).alloc (.cells #[.string x] 9))
 have hb : Below w.heap.size w W := by rw [hW]; exact ((Below.refl _ w).alloc (Nat.le_refl _) _).alloc (by simp) _
 have hB1 : Box W w.heap.size 42 #[.slice a l.length c] := by rw [hW]; exact (Box.new _ _ _).alloc _
 have hB2 : Box W (w.heap.size + 1) 9 #[.string x] := by (
 rw [hW]
 have := Box.new (w.alloc (.cells #[.slice a l.length c] 42)) 9 #[.string x]
 rwa [World.size_alloc] at this)
 have HS := search_any n0 w.heap.size (w.heap.size + 1) _ l hU x W (h.below hb) (hB1.cell 0 rfl) (hB2.cell 0 rfl) (by omega)
 have HB : Hid (∀ q, Below w.heap.size w (W.drewN q)) := fun q => below_drewN hb q
 have HBX : Hid (W.cell? ⟨w.heap.size, 0, none⟩ = some (.slice a l.length c) ∧ W.cell? ⟨w.heap.size + 1, 0, none⟩ = some (.string x)) := ⟨hB1.cell 0 rfl, hB2.cell 0 rfl⟩
 have hpl := pos_le l x
 by_cases hend : pos l x = l.length
 · rw [there_end hU hend]
   obtain ⟨n, hn⟩ := exa (l.length)
   rw [hend] at HS ⊢
   have hl1 := run_len Tryz.underlying42 a l.length c
   rw [← hn] at hl1 HS HBX hW hl63 ⊢
   have g0 := HBX.out.1
   have g1 := HBX.out.2
   rw [hW] at g0 g1
   clear h hb hB1 hB2 hend hn hpl
   go_enter Tryz.func242, Tryz.ntmps242
   go_wp2_with fail
   rw [← hW]
   clear g0 g1 hW
   refine HS.mono ?_
   rintro e w' ⟨rfl, q, hq⟩
   have g0 : w'.cell? ⟨w.heap.size, 0, none⟩ = some (.slice a n c) := by rw [hq]; exact HBX.out.1
   have g1 : w'.cell? ⟨w.heap.size + 1, 0, none⟩ = some (.string x) := by rw [hq]; exact HBX.out.2
   have HQ : Hid (w' = W.drewN q) := hq
   clear hq
   go_wp2
   go_quiet (fail)
   go_wp2
   go_ret2
   exact ⟨rfl, by rw [HQ.out, World.drewN_drewN]; exact HB.out _⟩
 · obtain ⟨p, hp⟩ := get_lt (l := l) (k := pos l x) (by omega)
   rw [there_at hU hp]
   obtain ⟨b, o, hix, _, hc0, hc1⟩ := (h.below hb).atN _ p hp
   obtain ⟨s, y⟩ := p
   simp only at hc0 hc1 ⊢
   rw [← ba_eq]
   obtain ⟨z, hz⟩ : ∃ z, (s.toList == x.toList) = z := ⟨_, rfl⟩
   rw [hz]
   obtain ⟨m, hm⟩ := exa (pos l x)
   obtain ⟨n, hn⟩ := exa (l.length)
   have hl1 := run_len Tryz.underlying42 a l.length c
   have hmi : (m : Int) < (n : Int) := by omega
   rw [← hm] at HS hix ⊢
   rw [← hn] at hl1 HS HBX hW hix hl63 ⊢
   have g0 := HBX.out.1
   have g1 := HBX.out.2
   rw [hW] at g0 g1
   have HCC : Hid (W.cell? ⟨b, o, none⟩ = some (.string s)) := hc0
   clear h hb hB1 hB2 hend hn hpl hm hp hc0 hc1
   go_enter Tryz.func242, Tryz.ntmps242
   go_wp2_with fail
   rw [← hW]
   clear g0 g1 hW
   refine HS.mono ?_
   rintro e w' ⟨rfl, q, hq⟩
   have g0 : w'.cell? ⟨w.heap.size, 0, none⟩ = some (.slice a n c) := by rw [hq]; exact HBX.out.1
   have g1 : w'.cell? ⟨w.heap.size + 1, 0, none⟩ = some (.string x) := by rw [hq]; exact HBX.out.2
   have g2 : w'.cell? ⟨b, o, none⟩ = some (.string s) := by rw [hq]; exact HCC.out
   have HQ : Hid (w' = W.drewN q) := hq
   clear hq
   go_wp2
   go_quiet (fail)
   go_wp2
   go_ret2
   exact ⟨rfl, by rw [HQ.out, World.drewN_drewN]; exact HB.out _⟩
theorem find_any (n0 : Nat) (v : Value) (l : List En) (x : ByteArray) (w : World) (h : ArgE n0 w v l) :
   Calls Tryz.prog 272 #[v, .string x] w fun e w' => e = .returned (.tuple #[.int .i64 (fno l x), .bool (fis l x), .int .i64 (cerr l)]) ∧ Below w.heap.size w w' := by
 have HC := check_any n0 v l w h
 obtain ⟨a, c, rfl, _⟩ := h.shape
 by_cases hck : Chk l
 case neg => (
 rw [show fno l x = 0 from if_neg hck, show fis l x = false from if_neg hck]
 rw [cerr_bad hck] at HC ⊢
 clear h hck
 go_enter Tryz.func272, Tryz.ntmps272
 go_wp2_with fail
 refine HC.mono ?_
 rintro e w1 ⟨rfl, hb1⟩
 go_wp2
 go_ret3
 exact ⟨rfl, hb1⟩)
 rw [show fno l x = fnd l x from if_pos hck, show fis l x = there l x from if_pos hck]
 rw [cerr_ok hck] at HC ⊢
 have HH : Hid (ArgE n0 w (.slice a l.length c) l ∧ Chk l) := ⟨h, hck⟩
 cases ht : there l x
 · rw [fnd_none ht]
   have HT : Hid (there l x = false) := ht
   clear h hck ht
   go_enter Tryz.func272, Tryz.ntmps272
   go_wp2_with fail
   refine HC.mono ?_
   rintro e w1 ⟨rfl, hb1⟩
   have HP := place_any n0 _ l HH.out.2.2.2 x w1 (HH.out.1.below hb1) HH.out.2.1
   rw [HT.out] at HP
   go_wp2_with fail
   refine HP.mono ?_
   rintro e w2 ⟨rfl, hb2⟩
   go_wp2
   go_ret3
   exact ⟨rfl, below_any hb1 hb2⟩
 · have HT : Hid (there l x = true) := ht
   obtain ⟨i, p, hp, he⟩ := (there_iff l x).1 ht
   obtain rfl := there_pos hck.2.2 hp he
   rw [fnd_pos hck.2.2 hp he]
   have HPP : Hid (l[pos l x]? = some p) := hp
   have hlt := (List.getElem?_eq_some_iff.1 hp).1
   obtain ⟨s, y⟩ := p
   simp only at he ⊢
   obtain ⟨m, hm⟩ := exa (pos l x)
   have HM : Hid (m = pos l x) := hm
   rw [← hm] at hlt
   have hmi : (m : Int) < (l.length : Int) := by omega
   clear h hck ht hp he hm
   go_enter Tryz.func272, Tryz.ntmps272
   go_wp2_with fail
   refine HC.mono ?_
   rintro e w1 ⟨rfl, hb1⟩
   have HP := place_any n0 _ l HH.out.2.2.2 x w1 (HH.out.1.below hb1) HH.out.2.1
   rw [HT.out, ← HM.out] at HP
   go_wp2_with fail
   refine HP.mono ?_
   rintro e w2 ⟨rfl, hb2⟩
   have hPP := HPP.out
   rw [← HM.out] at hPP
   obtain ⟨b, o, hix, _, hc0, hc1⟩ := ((HH.out.1.below hb1).below hb2).atN m _ hPP
   simp only at hc0 hc1
   clear hPP
   go_wp2
   go_ret3
   exact ⟨rfl, below_any hb1 hb2⟩
end Go.Proofs.YtopcefhncildnaaGreatDoor.D
