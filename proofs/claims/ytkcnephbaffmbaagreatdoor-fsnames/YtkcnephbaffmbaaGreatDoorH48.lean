/-
  The document's Create and Mkdir: what is made of every state.
  The document's gone: an entry of a directory is, its node with its last link.
  The document's Unlink and Rmdir: what is removed of every state.
  The document's Create, Mkdir, Unlink and Rmdir: what each tells of every state and path.
  The document's Link: what one more name makes of every state.
  The document's Link, with a letter for the length.
  Plain mathematics: why nothing is renamed, case by case, as the document asks them.
  Plain mathematics: where the nodes stand that a renaming changes, one after the other.
-/
import Derived.Test.YtkcnephbaffmbaaGreatDoorH46
import Derived.Test.YtkcnephbaffmbaaGreatDoorH47
set_option maxRecDepth 100000
set_option maxHeartbeats 16000000
namespace Go.Proofs.YtkcnephbaffmbaaGreatDoor
open Go.RowKit
open D (En ArgE OwnE Chk there fnd aerr aval ins nameOk)
open P (ArgT OwnT serr sval)
def Stopped (P : Prop) : Prop := P
theorem Stopped.intro {P : Prop} (h : Stopped P) : P := h
theorem std_there {s : St} (h : Ok s) {xs : List ByteArray} (h1 : stdE s.1 xs = 0) : (there (en (hold s xs)) (lst xs) = true → stdT s.1 xs = fnd (en (hold s xs)) (lst xs) ∧ stdT s.1 xs ≠ 0) ∧ (there (en (hold s xs)) (lst xs) = false → stdT s.1 xs = 0) := by
 obtain ⟨_, hm, _, hd, hT⟩ := std_zero h.wk h1
 constructor
 · intro ht
   have e1 : stdT s.1 xs = fnd (en (hold s xs)) (lst xs) := by rw [hT]; unfold entC; rw [if_neg (by rw [hd]; decide), if_neg (by rw [ht]; decide)]
   refine ⟨e1, ?_⟩
   obtain ⟨d, hx⟩ := D.there_mem.1 ht
   rw [e1, D.fnd_mem (h.wk.chk hm) hx]
   obtain ⟨m, hm', e2⟩ := h.wk.names _ hm _ hx
   have := (h.wk.low m hm').1
   simp only at e2
   omega
 · intro ht
   rw [hT]; unfold entC; rw [if_neg (by rw [hd]; decide), if_pos ht]
theorem no_told {s : St} {ps : List ByteArray} {K : Int} {s' : St} {k : Int} (h : Ok s) (hp : psE ps = 0) (h1 : K = k) (hk : k ≠ 0) : Told s ps K s' k ([], 0) := .inr (.inr (.inl ⟨h, hp, by rw [h1]; exact hk, h1.symm, rfl⟩))
theorem yes_told {s : St} {ps : List ByteArray} {K : Int} {s' : St} (h : Ok s) (hp : psE ps = 0) (h1 : K = 0) : Told s ps K s' 0 s' := .inr (.inr (.inr ⟨h, hp, h1, rfl, rfl⟩))
end Go.Proofs.YtkcnephbaffmbaaGreatDoor
namespace Go.Proofs.YtkcnephbaffmbaaGreatDoor
open Go.RowKit
open D (En ArgE OwnE Chk there fnd rerr rval del)
theorem drop_parts {l : List Nd} (hU : Ups l) {q z : Nd} (hz : z ∈ l) (y : ByteArray) : ∃ (kz : Nat) (z1 : Nd), (ch l q.1 (wE (del (en q) y)))[kz]? = some z1 ∧ z1.1 = z.1 ∧ lk z1 = lk z ∧ plc (ch l q.1 (wE (del (en q) y))) z.1 = (kz : Int) ∧ (ch l q.1 (wE (del (en q) y))).set kz (wL (lk z - 1) z1) = ch (ch l q.1 (wE (del (en q) y))) z.1 (wL (lk z - 1)) ∧ ((ch l q.1 (wE (del (en q) y))).set kz (wL (lk z - 1) z1)).eraseIdx kz = rm (ch l q.1 (wE (del (en q) y))) z.1 := by
 have hU1 : Ups (ch l q.1 (wE (del (en q) y))) := ups_ch (fun _ => rfl) hU
 have hm : (if z.1 = q.1 then wE (del (en q) y) z else z) ∈ ch l q.1 (wE (del (en q) y)) := by (
 rw [mem_ch]
 by_cases h : z.1 = q.1
 · rw [if_pos h]; exact .inr ⟨z, hz, h, rfl⟩
 · rw [if_neg h]; exact .inl ⟨hz, h⟩)
 have h1 : (if z.1 = q.1 then wE (del (en q) y) z else z).1 = z.1 := by split <;> rfl
 have h2 : lk (if z.1 = q.1 then wE (del (en q) y) z else z) = lk z := by split <;> rfl
 obtain ⟨kz, hk⟩ := List.getElem?_of_mem hm
 refine ⟨kz, _, hk, h1, h2, ?_, ?_, ?_⟩
 · have := plc_ups hU1 hk
   rwa [h1] at this
 · have := set_ch hU1 hk (wL (lk z - 1))
   rwa [h1] at this
 · rw [List.eraseIdx_set_eq]
   have := erase_rm hU1 hk
   rwa [h1] at this
theorem ok_lk_pos {s : St} (h : Ok s) {q z : Nd} (hq : q ∈ s.1) (hz : z ∈ s.1) {y : ByteArray} (hy : (y, z.1) ∈ en q) : 1 ≤ lk z ∧ lk z ≤ 16 := by
 have h1 : z.1 ≠ 1 := h.named hq hy
 cases hd : isD z
 · exact h.1.some z hz h1 hd
 · rw [h.1.one z hz h1 hd]; decide
theorem out_step {l : List Nd} {k j : Nat} {p : Nd} (hp : l[k]? = some p) : (l.take (k + 1)).eraseIdx j = if k = j then (l.take k).eraseIdx j else (l.take k).eraseIdx j ++ [p] := by
 have hk := (List.getElem?_eq_some_iff.1 hp).1
 rw [take_snoc hp]
 have hl : (l.take k).length = k := by rw [List.length_take]; omega
 rcases Nat.lt_trichotomy k j with h | h | h
 · rw [if_neg (by omega), List.eraseIdx_of_length_le (by simp [hl]; omega), List.eraseIdx_of_length_le (by omega)]
 · subst h
   rw [if_pos rfl, List.eraseIdx_append_of_length_le (by omega), hl, Nat.sub_self, List.eraseIdx_of_length_le (l := l.take k) (by omega)]
   simp
 · rw [if_neg (by omega), List.eraseIdx_append_of_lt_length (by omega)]
theorem rgone_own (X : Nat → Prop) (base : Nat) (v : Value) (l : List Nd) (nx : Int) (at' : Nat) (q z : Nd) (y : ByteArray) (w : World) (hO : Ok (l, nx)) (hq : l[at']? = some q) (hz : z ∈ l) (hy : (y, z.1) ∈ en q) (hR : RX X base w v l) (hbs : base ≤ w.heap.size) (hXs : ∀ k, X k → k < w.heap.size) :
   Calls Tryz.prog 111 #[.agg #[v, .int .i64 nx], .int .i64 at', .string y] w fun e w' => (∃ v', e = .returned (.agg #[v', .int .i64 nx]) ∧ RX X base w' v' (dropN (l, nx) q y z).1 ∧ ∀ j, v'.ownBlock = some j → v.ownBlock = some j ∨ w.heap.size ≤ j) ∧ Below base w w' ∧ AgX (fun k => v.ownBlock = some k) w w' := by
 have hqm := List.mem_of_getElem? hq
 obtain ⟨post, hpost⟩ : ∃ post : Ending → World → Prop, post = fun e w' => (∃ v', e = .returned (.agg #[v', .int .i64 nx]) ∧ RX X base w' v' (dropN (l, nx) q y z).1 ∧ ∀ j, v'.ownBlock = some j → v.ownBlock = some j ∨ w.heap.size ≤ j) ∧ Below base w w' ∧ AgX (fun k => v.ownBlock = some k) w w' := ⟨_, rfl⟩
 have HPo : Hid (∀ v' w', RX X base w' v' (dropN (l, nx) q y z).1 → Below base w w' → (∀ j, v'.ownBlock = some j → v.ownBlock = some j ∨ w.heap.size ≤ j) → AgX (fun k => v.ownBlock = some k) w w' → post (.returned (.agg #[v', .int .i64 nx])) w') := fun v' w' h1 h2 h3 h4 => by rw [hpost]; exact ⟨⟨v', rfl, h1, h3⟩, h2, h4⟩
 rw [← hpost]
 clear hpost
 have hC := hO.wk.chk hqm
 have hth : there (en q) y = true := D.there_mem.2 ⟨_, hy⟩
 have hfn : fnd (en q) y = z.1 := D.fnd_mem hC hy
 have hre : rerr (en q) y = 0 := by unfold D.rerr; rw [if_pos hC, if_pos hth]
 have hrv : rval (en q) y = del (en q) y := if_pos hre
 have hlk := ok_lk_pos hO hqm hz hy
 obtain ⟨kz, z1, hz1, hz1n, hz1l, hplz, hset, hera⟩ := drop_parts hO.wk.up (q := q) hz y
 have HDR : Hid ((dropN (l, nx) q y z).1 = if lk z = 1 then rm (ch l q.1 (wE (del (en q) y))) z.1 else ch (ch l q.1 (wE (del (en q) y))) z.1 (wL (lk z - 1))) := rfl
 obtain ⟨va, vc, rfl⟩ := hR.shape
 obtain ⟨n, hn⟩ := exa (l.length)
 have hn128 : n ≤ 128 := by rw [hn]; exact hO.wk.len
 have HN : Hid (n = l.length) := hn
 rw [← hn] at hR ⊢
 obtain ⟨W, hW⟩ := exa ((w.alloc (.cells #[.slice va n vc, .int .i64 nx] 24)).alloc (.cells #[.slice none 0 0, .int .i64 0] 24))
 have hb : Below w.heap.size w W := by rw [hW]; exact ((Below.refl _ w).alloc (Nat.le_refl _) _).alloc (by simp) _
 have hWs : W.heap.size = w.heap.size + 2 := by rw [hW]; simp
 have hB1 : Box W w.heap.size 24 #[.slice va n vc, .int .i64 nx] := by rw [hW]; exact (Box.new _ _ _).alloc _
 have hB2 : Box W (w.heap.size + 1) 24 #[.slice none 0 0, .int .i64 0] := by (
 rw [hW]
 have := Box.new (w.alloc (.cells #[.slice va n vc, .int .i64 nx] 24)) 24 #[.slice none 0 0, .int .i64 0]
 rwa [World.size_alloc] at this)
 obtain ⟨X1, hX1⟩ : ∃ X1 : Nat → Prop, X1 = fun k => X k ∨ w.heap.size ≤ k ∧ k < w.heap.size + 2 := ⟨_, rfl⟩
 have HX : Hid (∀ k, X1 k ↔ X k ∨ w.heap.size ≤ k ∧ k < w.heap.size + 2) := fun k => by rw [hX1]
 have hR1 : RX X1 base W (.slice va n vc) l := hR.more hb fun k hk => ((HX.out k).1 hk).imp id fun h => h.1
 obtain ⟨g, vc', ea, ec, fa, fc, hv, hbg, hgs, hix, hpx, hall⟩ := hR1.at at' q hq
 obtain ⟨rfl, -, rfl⟩ : va = some ⟨g, 0, none⟩ ∧ n = l.length ∧ vc = vc' := by simpa using hv
 have hgw : g < w.heap.size := (hR.lt g rfl).2
 have HBA : Hid (Below w.heap.size w W ∧ W.heap.size = w.heap.size + 2 ∧ base ≤ w.heap.size ∧ base ≤ g ∧ g < w.heap.size) := ⟨hb, hWs, hbs, hbg, hgw⟩
 obtain ⟨el, hel⟩ := exa ((en q).length)
 rw [← hel] at hall hpx
 have HB1 : Hid (Box W w.heap.size 24 #[.slice (some ⟨g, 0, none⟩) n vc, .int .i64 nx] ∧ Box W (w.heap.size + 1) 24 #[.slice none 0 0, .int .i64 0]) := ⟨hB1, hB2⟩
 have HSB : Hid (∀ V, Below W.heap.size W V → V.cell? ⟨w.heap.size, 0, none⟩ = some (.slice (some ⟨g, 0, none⟩) n vc) ∧ V.cell? ⟨w.heap.size, 1, none⟩ = some (.int .i64 nx) ∧ V.cell? ⟨g, at' * 6 + 3, none⟩ = some (.slice ea el ec) ∧ V.frozen? ⟨g, at' * 6 + 3, none⟩ = false ∧ ArgE 0 V (.slice ea el ec) (en q)) := fun V hV => by
   obtain ⟨g0, g1, -, -⟩ := (hB1.below hV hB1.lt).two
   exact ⟨g0, g1, (hall V hV).1.2.2.2.1, (hall V hV).2.1 _, hpx.lr.1.below hV⟩
 have HST : Hid (∀ V u, Below W.heap.size W V → ArgE W.heap.size V u (del (en q) y) → RX X1 base (V.setCell ⟨g, at' * 6 + 3, none⟩ u) (.slice (some ⟨g, 0, none⟩) n vc) (ch l q.1 (wE (del (en q) y)))) := fun V u hV hu => by (
 rw [← set_ch hO.wk.up hq]
 refine (hall V hV).2.2 3 u (wE (del (en q) y) q) u (.slice fa (fi q).2.length fc) (by omega) rfl ⟨hpx.1, fun w' ha => ⟨?_, ?_⟩⟩
 · refine ens_px hu (fun k hk => ?_) ha
   have h9 := HBA.out
   have hVs := hV.size
   rcases hk with hk | hk
   · rcases (HX.out k).1 hk with h | h
     · have := hXs k h; omega
     · omega
   · have : g = k := by simpa [Value.ownBlock] using hk
     omega
 · exact (hpx.2 w' fun k k1 k2 => by rw [ha k k1 (by have := hV.size; omega)]; exact hV.block k k2).2)
 have HZ : Hid (1 ≤ lk z ∧ lk z ≤ 16 ∧ (ch l q.1 (wE (del (en q) y)))[kz]? = some z1 ∧ z1.1 = z.1 ∧ lk z1 = lk z ∧ plc (ch l q.1 (wE (del (en q) y))) z.1 = (kz : Int) ∧ (ch l q.1 (wE (del (en q) y))).set kz (wL (lk z - 1) z1) = ch (ch l q.1 (wE (del (en q) y))) z.1 (wL (lk z - 1)) ∧ ((ch l q.1 (wE (del (en q) y))).set kz (wL (lk z - 1) z1)).eraseIdx kz = rm (ch l q.1 (wE (del (en q) y))) z.1) := ⟨hlk.1, hlk.2, hz1, hz1n, hz1l, hplz, hset, hera⟩
 have HU : Hid (Ups (ch l q.1 (wE (del (en q) y))) ∧ Chk (en q) ∧ (∀ k, X k → k < w.heap.size) ∧ I64 nx) := ⟨ups_ch (fun _ => rfl) hO.wk.up, hC, hXs, by have := hO.wk.nx; simp only at this; exact ⟨by omega, by omega⟩⟩
 obtain ⟨l1, hl1⟩ := exa (ch l q.1 (wE (del (en q) y)))
 have HL1 : Hid (l1.length = n) := by rw [hl1, ch_length]; exact hn.symm
 rw [← hl1] at HDR HST HZ HU
 obtain ⟨zi, hzi⟩ := exa (z.1)
 rw [← hzi] at HDR HZ hfn
 obtain ⟨zl, hzl⟩ := exa (lk z)
 rw [← hzl] at HDR HZ
 have hzl1 : 1 ≤ zl := HZ.out.1
 have hzl16 : zl ≤ 16 := HZ.out.2.1
 have HC1 := rfind_b y (HSB.out W (Below.refl _ _)).2.2.2.2 hC
 rw [hfn, hth] at HC1
 have HC2 : Hid (∀ V, Below W.heap.size W V → Calls Tryz.prog 125 #[.slice ea el ec, .string y] V fun r w' => (∃ v', r = .returned (.tuple #[v', .int .i64 0]) ∧ OwnE 123 V.heap.size w' v' (del (en q) y)) ∧ Below V.heap.size V w') := fun V hV => by
   have := D.rremove_any 0 (.slice ea el ec) (en q) y V (HSB.out V hV).2.2.2.2
   rwa [hre, hrv] at this
 have hatn : (at' : Int) < (n : Int) := by have := (List.getElem?_eq_some_iff.1 hq).1; omega
 obtain ⟨g0, g1, c3, -, -⟩ := HSB.out W (Below.refl _ _)
 rw [hW] at g0 g1 c3
 clear hO hq hz hy hR hqm hC hth hfn hre hrv hlk hz1 hz1n hz1l hplz hset hera hn hb hWs hB1 hB2 hX1 hR1 hv hbg hgs hpx hall hgw hel hl1 hzi hzl hbs hXs
 go_enter Tryz.func111, Tryz.ntmps111
 go_wp2_with fail
 rw [← hW]
 clear hW g0 g1 c3
 refine HC1.mono ?_
 rintro e w1 ⟨rfl, hb1⟩
 have HB2 : Hid (Below W.heap.size W w1) := hb1
 clear hb1 HC1
 obtain ⟨g0, g1, c3, -, -⟩ := HSB.out w1 HB2.out
 have HC2' := HC2.out w1 HB2.out
 go_wp2_with fail
 refine HC2'.mono ?_
 rintro e w2 ⟨⟨v2, rfl, hO2⟩, hb2⟩
 have HB3 : Hid (Below W.heap.size W w2 ∧ ArgE W.heap.size w2 v2 (del (en q) y)) := ⟨below_any HB2.out hb2, hO2.arg.weaken HB2.out.size⟩
 clear hO2 hb2 HC2' g0 g1 c3
 obtain ⟨va2, vc2, rfl, -⟩ := HB3.out.2.shape
 obtain ⟨m2, hm2⟩ := exa ((del (en q) y).length)
 have HM2 : Hid (m2 = (del (en q) y).length) := hm2
 rw [← hm2] at HB3 ⊢
 clear hm2
 obtain ⟨g0, g1, c3, f3, -⟩ := HSB.out w2 HB3.out.1
 obtain ⟨W3, hW3⟩ := exa (w2.setCell ⟨g, at' * 6 + 3, none⟩ (.slice va2 m2 vc2))
 have hbx3 : Box W3 w.heap.size 24 #[.slice (some ⟨g, 0, none⟩) n vc, .int .i64 nx] := by rw [hW3]; exact (HB1.out.1.below HB3.out.1 HB1.out.1.lt).other (by have := HBA.out; omega)
 have hbr3 : Box W3 (w.heap.size + 1) 24 #[.slice none 0 0, .int .i64 0] := by rw [hW3]; exact (HB1.out.2.below HB3.out.1 HB1.out.2.lt).other (by have := HBA.out; omega)
 have hs3 : W.heap.size ≤ W3.heap.size := by rw [hW3]; have := HB3.out.1.size; simpa [World.setCell] using this
 have HR3 : Hid (RX X1 base W3 (.slice (some ⟨g, 0, none⟩) n vc) l1 ∧ Box W3 w.heap.size 24 #[.slice (some ⟨g, 0, none⟩) n vc, .int .i64 nx] ∧ Box W3 (w.heap.size + 1) 24 #[.slice none 0 0, .int .i64 0] ∧ Below base w W3 ∧ W.heap.size ≤ W3.heap.size) := by (
 refine ⟨by rw [hW3]; exact HST.out w2 _ HB3.out.1 HB3.out.2, hbx3, hbr3, ?_, hs3⟩
 rw [hW3]
 exact ((below_any HBA.out.1 HB3.out.1).mono HBA.out.2.2.1).setCell (p := ⟨g, at' * 6 + 3, none⟩) HBA.out.2.2.2.1 _)
 have HO3 : Hid (∀ k, k ≠ g → k < w.heap.size → W3.heap[k]? = w.heap[k]?) := fun k k1 k2 => by
   rw [hW3, Below.heap_setCell _ _ _ _ (fun e => k1 (by simpa using e)), HB3.out.1.block k (by have := HBA.out; omega)]
   exact HBA.out.1.block k k2
 have HC3 := rplace_any 0 (some ⟨g, 0, none⟩) vc l1 nx zi W3 (by have := HR3.out.1.lies; rw [HL1.out]; exact this)
 rw [HL1.out, HZ.out.2.2.2.2.2.1] at HC3
 obtain ⟨u0, u1, -, -⟩ := hbx3.two
 rw [hW3] at u0 u1
 clear hbx3 hbr3 hs3
 go_wp2_with fail
 rw [← hW3]
 clear hW3 g0 g1 c3 f3 u0 u1
 refine HC3.mono ?_
 rintro e w4 ⟨rfl, hb4⟩
 have hz9 := HZ.out.2.2.1
 obtain ⟨g', vc', ea4, ec4, fa4, fc4, hv4, -, -, hix4, hpx4, hall4⟩ := (HR3.out.1.below hb4).at kz z1 hz9
 obtain ⟨hgg, -, -⟩ : (⟨g, 0, none⟩ : Addr) = ⟨g', 0, none⟩ ∧ n = l1.length ∧ vc = vc' := by simpa using hv4
 obtain rfl : g = g' := by simpa using hgg
 obtain ⟨hall4a, hfr4, hst4⟩ := hall4 w4 (Below.refl _ _)
 have c4 := hall4a.2.2.1
 rw [HZ.out.2.2.2.2.1] at c4
 have f4 := hfr4 (kz * 6 + 2)
 have hkn : (kz : Int) < (n : Int) := by have := (List.getElem?_eq_some_iff.1 hz9).1; have := HL1.out; omega
 have hwz : IntKind.i64.wrap (zl - 1) = zl - 1 := wrap_i64 (by omega) (by omega)
 obtain ⟨W5, hW5⟩ := exa (w4.setCell ⟨g, kz * 6 + 2, none⟩ (.int .i64 (zl - 1)))
 have hbx4 := HR3.out.2.1.below hb4 HR3.out.2.1.lt
 have hbr4 := HR3.out.2.2.1.below hb4 HR3.out.2.2.1.lt
 have hbx5 : Box W5 w.heap.size 24 #[.slice (some ⟨g, 0, none⟩) n vc, .int .i64 nx] := by rw [hW5]; exact hbx4.other (by have := HBA.out; omega)
 have hbr5 : Box W5 (w.heap.size + 1) 24 #[.slice none 0 0, .int .i64 0] := by rw [hW5]; exact hbr4.other (by have := HBA.out; omega)
 have hs5 : W.heap.size ≤ W5.heap.size := by rw [hW5]; have := hb4.size; have := HR3.out.2.2.2.2; simp [World.setCell]; omega
 obtain ⟨l2, hl2⟩ := exa (l1.set kz (wL (zl - 1) z1))
 have HR5 : Hid (RX X1 base W5 (.slice (some ⟨g, 0, none⟩) n vc) l2 ∧ Box W5 w.heap.size 24 #[.slice (some ⟨g, 0, none⟩) n vc, .int .i64 nx] ∧ Box W5 (w.heap.size + 1) 24 #[.slice none 0 0, .int .i64 0] ∧ Below base w W5 ∧ W.heap.size ≤ W5.heap.size) := by (
 refine ⟨?_, hbx5, hbr5, ?_, hs5⟩
 · rw [hW5, hl2]
   exact hst4 2 _ (wL (zl - 1) z1) _ _ (by omega) rfl ⟨⟨hpx4.1.1, (show I64 (zl - 1) from ⟨by omega, by omega⟩), hpx4.1.2.2⟩, hpx4.2⟩
 · rw [hW5]
   exact ((HR3.out.2.2.2.1.trans (hb4.mono (by have := HR3.out.2.2.2.2; have := HBA.out; omega)))).setCell (p := ⟨g, kz * 6 + 2, none⟩) HBA.out.2.2.2.1 _)
 have HO5 : Hid (∀ k, k ≠ g → k < w.heap.size → W5.heap[k]? = w.heap[k]?) := fun k k1 k2 => by
   rw [hW5, Below.heap_setCell _ _ _ _ (fun e => k1 (by simpa using e)), hb4.block k (by have := HR3.out.2.2.2.2; have := HBA.out; omega)]
   exact HO3.out k k1 k2
 have HL2 : Hid (l2.length = n ∧ l2 = ch l1 zi (wL (zl - 1)) ∧ l2.eraseIdx kz = rm l1 zi) := ⟨by rw [hl2, List.length_set, HL1.out], by rw [hl2]; exact HZ.out.2.2.2.2.2.2.1, by rw [hl2]; exact HZ.out.2.2.2.2.2.2.2⟩
 obtain ⟨g0, g1, -, -⟩ := hbx4.two
 have c5 : W5.cell? ⟨g, kz * 6 + 2, none⟩ = some (.int .i64 (zl - 1)) := by (
 obtain ⟨g'', vc'', _, _, _, _, hv5, -, -, -, -, hall5⟩ := HR5.out.1.at kz (wL (zl - 1) z1) (by rw [hl2, List.getElem?_set_self (by have := (List.getElem?_eq_some_iff.1 hz9).1; omega)])
 obtain ⟨hgg5, -, -⟩ : (⟨g, 0, none⟩ : Addr) = ⟨g'', 0, none⟩ ∧ n = l2.length ∧ vc = vc'' := by simpa using hv5
 obtain rfl : g = g'' := by simpa using hgg5
 exact (hall5 W5 (Below.refl _ _)).1.2.2.1)
 obtain ⟨b0, b1, -, -⟩ := hbx5.two
 obtain ⟨r0, r1, r2, r3⟩ := hbr5.two
 rw [hW5] at b0 b1 r0 r1 r2 r3 c5
 clear hb4 hz9 hv4 hpx4 hall4 hall4a hfr4 hst4 hbx4 hbr4 hbx5 hbr5 hs5 hl2 HC3
 by_cases hz1 : zl = 1
 case neg => (
 have hgt : 0 < zl - 1 := by omega
 go_wp2
 rw [← hW5] at b0 b1 r0 r1 r2 r3 ⊢
 clear hW5 c4 f4 c5 g0 g1
 refine bodyPost_ret (v := .agg #[.slice (some ⟨g, 0, none⟩) n vc, .int .i64 nx]) (by simp [results, Tryz.results111, go_sem, *]) rfl (HPo.out _ _ ?_ ?_ ?_ ?_)
 · have h9 := HBA.out
   have hR6 : X1 (w.heap.size + 1) := (HX.out _).2 (.inr ⟨by omega, by omega⟩)
   have hn6 : (Value.slice (some ⟨g, 0, none⟩) n vc).ownBlock ≠ some (w.heap.size + 1) := by simp [Value.ownBlock]; omega
   rw [HDR.out, if_neg hz1, ← HL2.out.2.1]
   exact (((HR5.out.1.set hR6 hn6 _ _).set hR6 hn6 _ _).more (Below.refl _ _) fun k hk => .inl ((HX.out k).2 (.inl hk)))
 · exact below_set2 HR5.out.2.2.2.1 (by have := HBA.out; omega) _ _
 · exact fun j hj => .inl hj
 · intro k k1 k2
   rw [Below.heap_setCell _ _ _ _ (fun e => by simp only at e; omega), Below.heap_setCell _ _ _ _ (fun e => by simp only at e; omega)]
   exact HO5.out k (fun e => k1 (by rw [e]; rfl)) k2)
 subst hz1
 obtain ⟨X2, hX2⟩ : ∃ X2 : Nat → Prop, X2 = fun k => X1 k ∨ k = W5.heap.size := ⟨_, rfl⟩
 have HX2 : Hid (∀ k, X2 k ↔ X1 k ∨ k = W5.heap.size) := fun k => by rw [hX2]
 obtain ⟨W6, hW6⟩ := exa (W5.alloc (.cells #[.slice none 0 0, .int .i64 nx] 24))
 have HW6 : Hid (Below W5.heap.size W5 W6 ∧ Box W6 W5.heap.size 24 #[.slice none 0 0, .int .i64 nx] ∧ W6.heap.size = W5.heap.size + 1) := ⟨by rw [hW6]; exact (Below.refl _ _).alloc (Nat.le_refl _) _, by rw [hW6]; exact Box.new _ _ _, by rw [hW6]; simp⟩
 simp only [show (1 : Int) - 1 = 0 from rfl] at hW5 c5 hwz b0 b1 r0 r1 r2 r3
 have HSZ5 : Hid (w4.heap.size = W5.heap.size) := show w4.heap.size = W5.heap.size by rw [hW5]; simp [World.setCell]
 have hlr := run_len Tryz.underlying22 (some ⟨g, 0, none⟩) n vc
 clear hX2
 go_wp2
 rw [← hW5, HSZ5.out, ← hW6]
 clear hW5 hW6 HSZ5 c4 f4 c5 g0 g1 b0 b1 r0 r1 r2 r3 hwz hix4
 go_loopw [14] (fun i wr => ∃ (k m6 : Nat) (a6 : Option Addr) (c6 : Nat), k ≤ n ∧ i = .int .i64 k ∧ Hid (Below W5.heap.size W5 wr ∧ Box wr W5.heap.size 24 #[.slice a6 m6 c6, .int .i64 nx] ∧ RX X2 (W5.heap.size + 1) wr (.slice a6 m6 c6) ((l2.take k).eraseIdx kz) ∧ W5.heap.size + 1 ≤ wr.heap.size ∧ m6 = ((l2.take k).eraseIdx kz).length)) (fun i _ => n - (intOf i).toNat)
 case atStart => exact ⟨0, 0, none, 0, Nat.zero_le _, rfl, HW6.out.1, HW6.out.2.1, RX.nil _ _ _, by have := HW6.out.2.2; omega, rfl⟩
 case round => (
 obtain ⟨k, m6, a6, c6, hk, rfl, HJ⟩ := hrel
 obtain ⟨s0, s1, -, -⟩ := (HR5.out.2.1.below HJ.out.1 HR5.out.2.1.lt).two
 obtain ⟨t0, t1, -, -⟩ := HJ.out.2.1.two
 by_cases hlt : k < n
 case neg => (
 obtain rfl : k = n := by omega
 obtain ⟨r0, r1, r2, r3⟩ := (HR5.out.2.2.1.below HJ.out.1 HR5.out.2.2.1.lt).two
 go_wp2
 refine bodyPost_ret (v := .agg #[.slice a6 m6 c6, .int .i64 nx]) (by simp [results, Tryz.results111, go_sem, *]) rfl (HPo.out _ _ ?_ ?_ ?_ ?_)
 · have h9 := HBA.out
   have h8 := HR5.out.2.2.2.2
   have hR6 : X2 (w.heap.size + 1) := (HX2.out _).2 (.inl ((HX.out _).2 (.inr ⟨by omega, by omega⟩)))
   have hn6 : (Value.slice a6 m6 c6).ownBlock ≠ some (w.heap.size + 1) := fun e => by have := (HJ.out.2.2.1.lt _ e).1; omega
   have hT : l2.take k = l2 := by rw [← HL2.out.1]; exact List.take_length
   have hJ3 := HJ.out.2.2.1
   rw [hT, HL2.out.2.2] at hJ3
   rw [HDR.out, if_pos trivial]
   exact (((hJ3.set hR6 hn6 _ _).set hR6 hn6 _ _).more (Below.refl _ _) fun k hk => .inl ((HX2.out k).2 (.inl ((HX.out k).2 (.inl hk))))).weaken (by omega)
 · exact below_set2 (HR5.out.2.2.2.1.trans (HJ.out.1.mono (by have := HBA.out; have := HR5.out.2.2.2.2; omega))) (by have := HBA.out; omega) _ _
 · exact fun j hj => .inr (by have := (HJ.out.2.2.1.lt j hj).1; have := HBA.out; have := HR5.out.2.2.2.2; omega)
 · intro j k1 k2
   rw [Below.heap_setCell _ _ _ _ (fun e => by simp only at e; omega), Below.heap_setCell _ _ _ _ (fun e => by simp only at e; omega), HJ.out.1.block j (by have := HBA.out; have := HR5.out.2.2.2.2; omega)]
   exact HO5.out j (fun e => k1 (by rw [e]; rfl)) k2)
 obtain ⟨p, hp⟩ := get_lt (l := l2) (k := k) (by rw [HL2.out.1]; exact hlt)
 have hst := out_step (j := kz) hp
 have hkn' : (k : Int) < (n : Int) := by omega
 by_cases hkz : k = kz
 case pos => (
 rw [if_pos hkz] at hst
 have HJ' : Hid (Below W5.heap.size W5 wr ∧ Box wr W5.heap.size 24 #[.slice a6 m6 c6, .int .i64 nx] ∧ RX X2 (W5.heap.size + 1) wr (.slice a6 m6 c6) ((l2.take (k + 1)).eraseIdx kz) ∧ W5.heap.size + 1 ≤ wr.heap.size ∧ m6 = ((l2.take (k + 1)).eraseIdx kz).length) := by rw [hst]; exact HJ.out
 clear hst hp
 subst hkz
 go_wp2
 go_roundw
 case rel => exact ⟨k + 1, m6, a6, c6, by omega, by go_num, HJ'.out⟩
 case measure => simp [intOf]; omega)
 rw [if_neg hkz] at hst
 have hkzb : ((k : Int) == (kz : Int)) = false := by simp; omega
 have hkzi : ¬ (k : Int) = (kz : Int) := by omega
 obtain ⟨g', vc', ea, ec, fa, fc, hv6, -, -, hix6, hpx6, hall6⟩ := HR5.out.1.at k p hp
 obtain ⟨hgg, -, -⟩ : (⟨g, 0, none⟩ : Addr) = ⟨g', 0, none⟩ ∧ n = l2.length ∧ vc = vc' := by simpa using hv6
 obtain rfl : g = g' := by simpa using hgg
 obtain ⟨el2, hel⟩ := exa ((en p).length)
 obtain ⟨fl, hfl⟩ := exa ((fi p).2.length)
 obtain ⟨pi, hpi⟩ := exa (p.1)
 obtain ⟨pd, hpd⟩ := exa (isD p)
 obtain ⟨pl, hpl'⟩ := exa (lk p)
 obtain ⟨pz, hpz⟩ := exa ((fi p).1)
 rw [← hel, ← hfl, ← hpi, ← hpd, ← hpl', ← hpz] at hall6
 rw [← hel, ← hfl] at hpx6
 have HNV : Hid (nv p (.slice ea el2 ec) (.slice fa fl fc) = [.int .i64 pi, .bool pd, .int .i64 pl, .slice ea el2 ec, .int .i64 pz, .slice fa fl fc] ∧ PX (WX X1 (.slice (some ⟨g, 0, none⟩) n vc)) W5 p (.slice ea el2 ec) (.slice fa fl fc)) := ⟨by rw [hpi, hpd, hpl', hpz]; rfl, hpx6⟩
 have HS : Hid (∀ V, Below wr.heap.size wr V → V.cell? ⟨w.heap.size, 0, none⟩ = some (.slice (some ⟨g, 0, none⟩) n vc) ∧ V.cell? ⟨W5.heap.size, 0, none⟩ = some (.slice a6 m6 c6) ∧ V.cell? ⟨g, k * 6, none⟩ = some (.int .i64 pi) ∧ V.cell? ⟨g, k * 6 + 1, none⟩ = some (.bool pd) ∧ V.cell? ⟨g, k * 6 + 2, none⟩ = some (.int .i64 pl) ∧ V.cell? ⟨g, k * 6 + 3, none⟩ = some (.slice ea el2 ec) ∧ V.cell? ⟨g, k * 6 + 4, none⟩ = some (.int .i64 pz) ∧ V.cell? ⟨g, k * 6 + 5, none⟩ = some (.slice fa fl fc)) := fun V hV => by (
 obtain ⟨s0, -, -, -⟩ := (HR5.out.2.1.below (HJ.out.1.trans (hV.mono (by have := HJ.out.2.2.2.1; omega))) HR5.out.2.1.lt).two
 obtain ⟨t0, -, -, -⟩ := (HJ.out.2.1.below hV HJ.out.2.1.lt).two
 exact ⟨s0, t0, (hall6 V (HJ.out.1.trans (hV.mono (by have := HJ.out.2.2.2.1; omega)))).1⟩)
 have HST6 : Hid ((l2.take (k + 1)).eraseIdx kz = (l2.take k).eraseIdx kz ++ [p]) := hst
 obtain ⟨vss, hown, heach⟩ := HJ.out.2.2.1
 rw [← HJ.out.2.2.2.2] at hown
 have HEA : Hid (Each (fun us p => ∃ e b, us = nv p e b ∧ PX (WX X2 (.slice a6 m6 c6)) wr p e b) vss ((l2.take k).eraseIdx kz)) := heach
 have HOWN : Hid (wr.ownsRow (W5.heap.size + 1) 78 6 (.slice a6 m6 c6) m6 vss.flatten) := hown
 have hm6 : m6 ≤ 128 := by (
 have h1 := HJ.out.2.2.2.2
 have h2 : ((l2.take k).eraseIdx kz).length ≤ (l2.take k).length := by rw [List.length_eraseIdx]; split <;> omega
 have h3 : (l2.take k).length ≤ k := by rw [List.length_take]; omega
 omega)
 clear hst hp hv6 hpx6 hall6 hel hfl hpi hpd hpl' hpz hown heach
 go_wp2
 refine AnyBut.begin (fun V => V.cell? ⟨w.heap.size, 0, none⟩ = some (.slice (some ⟨g, 0, none⟩) n vc) ∧ V.cell? ⟨W5.heap.size, 0, none⟩ = some (.slice a6 m6 c6) ∧ V.cell? ⟨g, k * 6, none⟩ = some (.int .i64 pi) ∧ V.cell? ⟨g, k * 6 + 1, none⟩ = some (.bool pd) ∧ V.cell? ⟨g, k * 6 + 2, none⟩ = some (.int .i64 pl) ∧ V.cell? ⟨g, k * 6 + 3, none⟩ = some (.slice ea el2 ec) ∧ V.cell? ⟨g, k * 6 + 4, none⟩ = some (.int .i64 pz) ∧ V.cell? ⟨g, k * 6 + 5, none⟩ = some (.slice fa fl fc)) 10 (by kernel_rfl) ?_
 obtain ⟨V0, hV0⟩ := exa (wr.drew)
 have hbV0 : Below wr.heap.size wr V0 := by rw [hV0]; exact (Below.refl _ wr).drew
 rw [← hV0]
 clear hV0 s0 s1 t0 t1
 have hSS := HS.out V0 hbV0
 refine ty 0 77 hSS ?_; simp only [ua,ub,uc,ud]
 refine ty 1 78 hSS ?_; simp only [ua,ub,uc,ud]
 refine ty 2 79 hSS ?_; simp only [ua,ub,uc,ud]
 refine ty 3 80 hSS ?_; simp only [ua,ub,uc,ud]
 refine ty 4 81 hSS ?_; simp only [ua,ub,uc,ud]
 refine ty 5 82 hSS ?_; simp only [ua,ub,uc,ud]
 refine ty 6 83 hSS ?_; simp only [ua,ub,uc,ud]
 refine AnyBut.step (i := 7) (by kernel_rfl) rfl (fun K hK => ?_)
 go_simp
 have hbA : Below wr.heap.size wr (V0.alloc (.cells #[.int .i64 pi, .bool pd, .int .i64 pl, .slice ea el2 ec, .int .i64 pz, .slice fa fl fc] 78)) := hbV0.alloc hbV0.size _
 refine hK.out _ _ (HS.out _ hbA) ?_
 clear hK hSS
 have hSS := HS.out _ hbA
 refine AnyBut.step (i := 8) (by kernel_rfl) rfl (fun K hK => ?_)
 obtain ⟨i3, hi3, hz30, hz31, hz32⟩ := info_parts Tryz.info78
 refine step_append_lies _ (by rfl) _ _ _ (by rfl) (W5.heap.size + 1) 78 i3 _ 6 80 Tryz.underlying22 hi3 hz30 hz31 hz32 rfl (by omega) _ m6 _ (by rfl) ((own_below HOWN.out hbV0).alloc _) ⟨V0.heap.size, 0, none⟩ 1 1 [.int .i64 pi, .bool pd, .int .i64 pl, .slice ea el2 ec, .int .i64 pz, .slice fa fl fc] (by rfl) (by rfl)
   (World.news_of_block (cs := #[.int .i64 pi, .bool pd, .int .i64 pl, .slice ea el2 ec, .int .i64 pz, .slice fa fl fc]) (t := 78) (fr := (0, 0)) (heap_alloc_new V0 _)) (by simp [Value.oneCell']) (by omega) (by unfold maxLen; omega) (by omega) (by have := hbV0.size; have := HJ.out.2.2.2.1; simp; omega) (V0.heap.size + 1) (by simp) ?_
 intro gg cap3 w7 hO7 hg7 hat hltg
 have hne : ∀ B, B < W5.heap.size + 1 → some B ≠ (Value.slice a6 m6 c6).ownBlock := fun B hB => row_ne HOWN.out hB
 have hb57 : Below W5.heap.size W5 w7 := (HJ.out.1.trans (hbA.mono (by have := HJ.out.2.2.2.1; omega))).grown hg7 (by have := hbA.size; have := HJ.out.2.2.2.1; omega) (fun j hj => by have := (HOWN.out.lt j hj).1; omega)
 have hbx7 : Box w7 W5.heap.size 24 #[.slice a6 m6 c6, .int .i64 nx] := (HJ.out.2.1.below hbA HJ.out.2.1.lt).grown hg7 (hne _ (by omega))
 have hSX : w7.cell? ⟨w.heap.size, 0, none⟩ = some (.slice (some ⟨g, 0, none⟩) n vc) ∧ w7.cell? ⟨W5.heap.size, 0, none⟩ = some (.slice a6 m6 c6) ∧ w7.cell? ⟨g, k * 6, none⟩ = some (.int .i64 pi) ∧ w7.cell? ⟨g, k * 6 + 1, none⟩ = some (.bool pd) ∧ w7.cell? ⟨g, k * 6 + 2, none⟩ = some (.int .i64 pl) ∧ w7.cell? ⟨g, k * 6 + 3, none⟩ = some (.slice ea el2 ec) ∧ w7.cell? ⟨g, k * 6 + 4, none⟩ = some (.int .i64 pz) ∧ w7.cell? ⟨g, k * 6 + 5, none⟩ = some (.slice fa fl fc) := by (
 have hgl : g < W5.heap.size := (HR5.out.1.lt g rfl).2
 have hk7 : ∀ j, w7.cell? ⟨g, j, none⟩ = (V0.alloc (.cells #[.int .i64 pi, .bool pd, .int .i64 pl, .slice ea el2 ec, .int .i64 pz, .slice fa fl fc] 78)).cell? ⟨g, j, none⟩ := fun j => World.cell?_of_block (hg7.block g (by have := hbA.size; have := HJ.out.2.2.2.1; omega) (hne g (by omega)))
 have hk8 : w7.cell? ⟨w.heap.size, 0, none⟩ = (V0.alloc (.cells #[.int .i64 pi, .bool pd, .int .i64 pl, .slice ea el2 ec, .int .i64 pz, .slice fa fl fc] 78)).cell? ⟨w.heap.size, 0, none⟩ := World.cell?_of_block (hg7.block w.heap.size (by have := hbA.size; have := HJ.out.2.2.2.1; have := HR5.out.2.1.lt; omega) (hne _ (by have := HR5.out.2.1.lt; omega)))
 refine ⟨by rw [hk8]; exact hSS.1, hbx7.two.1, ?_⟩
 rw [hk7, hk7, hk7, hk7, hk7, hk7]
 exact hSS.2.2)
 refine hK.out _ _ hSX ?_
 clear hK hSS
 refine AnyBut.step (i := 9) (by kernel_rfl) rfl (fun K hK => ?_)
 go_simp
 refine hK.out _ _ hSX ?_
 clear hK
 refine AnyBut.last (by kernel_rfl) (by kernel_rfl) rfl (fun K hK => ?_)
 obtain ⟨y0, y1, z0, z1'⟩ := hbx7.two
 go_simp
 refine hK.out _ _ ?_
 clear hK hSX
 have HR7 : Hid (RX X2 (W5.heap.size + 1) w7 (.slice (some ⟨gg, 0, none⟩) (m6 + 1) cap3) ((l2.take (k + 1)).eraseIdx kz)) := by (
 rw [HST6.out]
 have key : ∀ w'', AgX (WX X2 (.slice a6 m6 c6)) (V0.alloc (.cells #[.int .i64 pi, .bool pd, .int .i64 pl, .slice ea el2 ec, .int .i64 pz, .slice fa fl fc] 78)) w'' → AgX (WX X2 (.slice a6 m6 c6)) wr w'' := fun w'' ha j k1 k2 => by
   rw [ha j k1 (by have := hbA.size; omega)]
   exact hbA.block j k2
 refine RX.push (v := .slice a6 m6 c6) (e := .slice ea el2 ec) (b := .slice fa fl fc) (vss := vss) (HEA.out.mono fun us q ⟨e, b, h3, h4⟩ => ⟨e, b, h3, h4.to key⟩) (HNV.out.2.to fun w'' ha j k1 k2 => ?_) hg7 (fun g' hg' => ?_) (by rw [← HJ.out.2.2.2.2, HNV.out.1]; exact hO7)
 · rw [ha j ?_ (by have := hbA.size; have := HJ.out.2.2.2.1; omega)]
   · rw [hbA.block j (by have := HJ.out.2.2.2.1; omega)]
     exact HJ.out.1.block j k2
   · rintro (c | c)
     · rcases (HX2.out j).1 c with c | c
       · exact k1 (.inl c)
       · omega
     · have := (HOWN.out.lt j c).1
       omega
 · have e1 : gg = g' := by simpa [Value.ownBlock] using hg'
   subst e1
   rcases hat with h | h
   · exact .inl h
   · exact .inr (by rw [h]; simp))
 have HB7 : Hid (Below W5.heap.size W5 w7 ∧ Box w7 W5.heap.size 24 #[.slice a6 m6 c6, .int .i64 nx] ∧ gg ≠ W5.heap.size ∧ m6 + 1 = ((l2.take (k + 1)).eraseIdx kz).length ∧ W5.heap.size + 1 ≤ w7.heap.size) := by (
 refine ⟨hb57, hbx7, ?_, by rw [HST6.out, List.length_append, ← HJ.out.2.2.2.2]; rfl, hbx7.lt⟩
 have := (HR7.out.lt gg rfl).1
 omega)
 clear hO7 hg7 hat hltg hne hb57 hbx7 hbA
 go_wp2
 go_roundw
 case rel =>
   refine ⟨k + 1, m6 + 1, some ⟨gg, 0, none⟩, cap3, by omega, by go_num, HB7.out.1.setCell (p := ⟨W5.heap.size, 0, none⟩) (Nat.le_refl _) _, HB7.out.2.1.set 0 _, HR7.out.set ((HX2.out _).2 (.inr rfl)) (by have := HB7.out.2.2.1; simp [Value.ownBlock]; omega) _ _, by have := HB7.out.2.2.2.2; simpa [World.setCell] using this, HB7.out.2.2.2.1⟩
 case measure => simp [intOf]; omega)
end Go.Proofs.YtkcnephbaffmbaaGreatDoor
namespace Go.Proofs.YtkcnephbaffmbaaGreatDoor
open Go.RowKit
open D (En ArgE OwnE Chk there fnd)
open P (ArgT OwnT serr sval)
theorem filE_walk {s : St} {xs : List ByteArray} (h : (wlk s.1 1 xs).2 ≠ 0) : filE s.1 xs = (wlk s.1 1 xs).2 := by unfold filE; rw [if_neg h]
theorem filE_dir {s : St} {xs : List ByteArray} (h : (wlk s.1 1 xs).2 = 0) (hd : isD (tgt s xs) = true) : filE s.1 xs = 104 := by unfold filE; rw [if_pos h, show gt s.1 (wlk s.1 1 xs).1 = tgt s xs from rfl, if_pos hd]
theorem filE_zero {s : St} {xs : List ByteArray} (h : (wlk s.1 1 xs).2 = 0) (hd : isD (tgt s xs) = false) : filE s.1 xs = 0 := by unfold filE; rw [if_pos h, show gt s.1 (wlk s.1 1 xs).1 = tgt s xs from rfl, if_neg (by rw [hd]; decide)]
theorem dirE_not {s : St} {xs : List ByteArray} (h : (wlk s.1 1 xs).2 = 0) (hd : isD (tgt s xs) = false) : dirE s.1 xs = 103 := by unfold dirE; rw [if_pos h, show gt s.1 (wlk s.1 1 xs).1 = tgt s xs from rfl, if_pos hd]
theorem dirE_zero {s : St} {xs : List ByteArray} (h : (wlk s.1 1 xs).2 = 0) (hd : isD (tgt s xs) = true) : dirE s.1 xs = 0 := by unfold dirE; rw [if_pos h, show gt s.1 (wlk s.1 1 xs).1 = tgt s xs from rfl, if_neg (by rw [hd]; decide)]
theorem rmE_not {s : St} {xs : List ByteArray} (hne : xs ≠ []) (h : (wlk s.1 1 xs).2 = 0) (hd : isD (tgt s xs) = false) : rmE s xs = 103 := by
 unfold rmE; rw [if_neg hne, if_pos (by rw [dirE_not h hd]; decide), dirE_not h hd]
theorem rmE_more {s : St} {xs : List ByteArray} (hne : xs ≠ []) (h : (wlk s.1 1 xs).2 = 0) (hd : isD (tgt s xs) = true) (he : (en (tgt s xs)).length ≠ 0) : rmE s xs = 105 := by
 unfold rmE; rw [if_neg hne, if_neg (by rw [dirE_zero h hd]; decide), if_neg he]
theorem rmE_zero {s : St} {xs : List ByteArray} (hne : xs ≠ []) (h : (wlk s.1 1 xs).2 = 0) (hd : isD (tgt s xs) = true) (he : (en (tgt s xs)).length = 0) : rmE s xs = 0 := by
 unfold rmE; rw [if_neg hne, if_neg (by rw [dirE_zero h hd]; decide), if_pos he]
end Go.Proofs.YtkcnephbaffmbaaGreatDoor
namespace Go.Proofs.YtkcnephbaffmbaaGreatDoor
open Go.RowKit
open P (serr sval)
def FlatR (B0 : Nat) (T : Int → St → Prop) (w : World) (e : Ending) (w' : World) : Prop := (∃ (k : Int) (l : List Nd) (x : Int) (n : Nat) (a : Option Addr) (c : Nat), e = .returned (.tuple #[.agg #[.slice a n c, .int .i64 x], .int .i64 k]) ∧ n = l.length ∧ OR B0 w.heap.size w' (.slice a n c) l ∧ T k (l, x)) ∧ Below w.heap.size w w'
theorem TellsR.flat {B0 : Nat} {T : Int → St → Prop} {w w' : World} {e : Ending} (h : TellsR B0 T w e w') : FlatR B0 T w e w' := by
 obtain ⟨⟨v, k, ⟨l, x⟩, rfl, hT, hO⟩, hb⟩ := h
 obtain ⟨a, c, rfl⟩ := hO.shape
 exact ⟨⟨k, l, x, _, a, c, rfl, rfl, hO, hT⟩, hb⟩
end Go.Proofs.YtkcnephbaffmbaaGreatDoor
namespace Go.Proofs.YtkcnephbaffmbaaGreatDoor
open Go.RowKit
open D (En ArgE OwnE Chk there fnd aerr aval ins nameOk)
open P (ArgT OwnT serr sval)
theorem lnE_fil {s : St} {xs ys : List ByteArray} (h : filE s.1 xs ≠ 0) : lnE s xs ys = filE s.1 xs := by unfold lnE; rw [if_pos h]
theorem lnE_vac {s : St} {xs ys : List ByteArray} (h : filE s.1 xs = 0) (h1 : vacE s.1 ys ≠ 0) : lnE s xs ys = vacE s.1 ys := by unfold lnE; rw [if_neg (fun c => c h), if_pos h1]
theorem lnE_many {s : St} {xs ys : List ByteArray} (h : filE s.1 xs = 0) (h1 : vacE s.1 ys = 0) (h2 : lk (tgt s xs) = 16) : lnE s xs ys = 110 := by unfold lnE; rw [if_neg (fun c => c h), if_neg (fun c => c h1), if_pos h2]
theorem lnE_add {s : St} {xs ys : List ByteArray} (h : filE s.1 xs = 0) (h1 : vacE s.1 ys = 0) (h2 : lk (tgt s xs) ≠ 16) : lnE s xs ys = aerr (en (hold s ys)) (lst ys, (tgt s xs).1) := by unfold lnE; rw [if_neg (fun c => c h), if_neg (fun c => c h1), if_neg h2]
theorem vacE_nil (l : List Nd) : vacE l [] = 102 := by simp [vacE]
theorem vacE_std {l : List Nd} {xs : List ByteArray} (h : xs ≠ []) (h1 : stdE l xs ≠ 0) : vacE l xs = stdE l xs := by simp [vacE, h, h1]
theorem vacE_there {l : List Nd} {xs : List ByteArray} (h : xs ≠ []) (h1 : stdE l xs = 0) (h2 : stdT l xs ≠ 0) : vacE l xs = 102 := by simp [vacE, h, h1, h2]
theorem vacE_zero {l : List Nd} {xs : List ByteArray} (h : xs ≠ []) (h1 : stdE l xs = 0) (h2 : stdT l xs = 0) : vacE l xs = 0 := by simp [vacE, h, h1, h2]
theorem ch_parts {l : List Nd} (hU : Ups l) {i : Int} {z : Nd} (hz : z ∈ l) (es : List En) : ∃ (kz : Nat) (z1 : Nd), (ch l i (wE es))[kz]? = some z1 ∧ z1.1 = z.1 ∧ lk z1 = lk z ∧ plc (ch l i (wE es)) z.1 = (kz : Int) ∧ ∀ k, (ch l i (wE es)).set kz (wL k z1) = ch (ch l i (wE es)) z.1 (wL k) := by
 have hU1 : Ups (ch l i (wE es)) := ups_ch (fun _ => rfl) hU
 have hm : (if z.1 = i then wE es z else z) ∈ ch l i (wE es) := by (
 rw [mem_ch]
 by_cases h : z.1 = i
 · rw [if_pos h]; exact .inr ⟨z, hz, h, rfl⟩
 · rw [if_neg h]; exact .inl ⟨hz, h⟩)
 have h1 : (if z.1 = i then wE es z else z).1 = z.1 := by split <;> rfl
 have h2 : lk (if z.1 = i then wE es z else z) = lk z := by split <;> rfl
 obtain ⟨kz, hk⟩ := List.getElem?_of_mem hm
 refine ⟨kz, _, hk, h1, h2, ?_, fun k => ?_⟩
 · have := plc_ups hU1 hk
   rwa [h1] at this
 · have := set_ch hU1 hk (wL k)
   rwa [h1] at this
theorem rLink_tells (n0 : Nat) (w0 : World) (a : Option Addr) (c : Nat) (s : St) (p q : ByteArray) (w : World) (hb0 : Below w0.heap.size w0 w) (hA : ndsR.lies n0 w0 [.slice a s.1.length c] s.1) (hM : FitsS s.1) :
   Calls Tryz.prog 28 #[.agg #[.slice a s.1.length c, .int .i64 s.2], .string p, .string q] w (TellsR w0.heap.size (Told s [p, q] (lnE s (sval p) (sval q)) (lnkN s (hold s (sval q)) (lst (sval q)) (tgt s (sval p)))) w) := by
 obtain ⟨T, hT⟩ : ∃ T : Int → St → Prop, T = Told s [p, q] (lnE s (sval p) (sval q)) (lnkN s (hold s (sval q)) (lst (sval q)) (tgt s (sval p))) := ⟨_, rfl⟩
 have HT : Hid (T = Told s [p, q] (lnE s (sval p) (sval q)) (lnkN s (hold s (sval q)) (lst (sval q)) (tgt s (sval p)))) := hT
 rw [← hT]
 clear hT
 obtain ⟨post, hpost⟩ : ∃ post : Ending → World → Prop, post = TellsR w0.heap.size T w := ⟨_, rfl⟩
 have HNo : Hid (∀ k w', T k ([], 0) → Below w.heap.size w w' → post (.returned (.tuple #[.agg #[.slice none 0 0, .int .i64 0], .int .i64 k])) w') := fun k w' h1 h2 => by rw [hpost]; exact ⟨⟨_, k, ([], 0), rfl, h1, OR.nil _ _ _⟩, h2⟩
 have HYes : Hid (∀ v l' nx' w', T 0 (l', nx') → OR w0.heap.size w.heap.size w' v l' → Below w.heap.size w w' → post (.returned (.tuple #[.agg #[v, .int .i64 nx'], .int .i64 0])) w') := fun v l' nx' w' h1 h2 h3 => by rw [hpost]; exact ⟨⟨v, 0, (l', nx'), rfl, h1, h2⟩, h3⟩
 rw [← hpost]
 clear hpost
 obtain ⟨W, hW⟩ := exa ((w.alloc (.cells #[.slice a s.1.length c, .int .i64 s.2] 24)).alloc (.cells #[.slice none 0 0, .int .i64 0] 24))
 have hb : Below w.heap.size w W := by rw [hW]; exact ((Below.refl _ w).alloc (Nat.le_refl _) _).alloc (by simp) _
 have hAw : ndsR.lies n0 w [.slice a s.1.length c] s.1 := ndsR.below hA hb0
 have hB1 : Box W w.heap.size 24 #[.slice a s.1.length c, .int .i64 s.2] := by rw [hW]; exact (Box.new _ _ _).alloc _
 have hB2 : Box W (w.heap.size + 1) 24 #[.slice none 0 0, .int .i64 0] := by (
 rw [hW]
 have := Box.new (w.alloc (.cells #[.slice a s.1.length c, .int .i64 s.2] 24)) 24 #[.slice none 0 0, .int .i64 0]
 rwa [World.size_alloc] at this)
 have HW : Hid (Below w.heap.size w W ∧ ndsR.lies n0 W [.slice a s.1.length c] s.1 ∧ W.heap.size = w.heap.size + 2 ∧ Below w0.heap.size w0 W ∧ w0.heap.size ≤ w.heap.size) := ⟨hb, ndsR.below hAw hb, by rw [hW]; simp, hb0.trans (hb.mono hb0.size), hb0.size⟩
 have HSB : Hid (∀ V, Below W.heap.size W V → V.cell? ⟨w.heap.size, 0, none⟩ = some (.slice a s.1.length c) ∧ V.cell? ⟨w.heap.size, 1, none⟩ = some (.int .i64 s.2) ∧ V.cell? ⟨w.heap.size + 1, 0, none⟩ = some (.slice none 0 0) ∧ V.cell? ⟨w.heap.size + 1, 1, none⟩ = some (.int .i64 0) ∧ V.frozen? ⟨w.heap.size + 1, 0, none⟩ = false ∧ V.frozen? ⟨w.heap.size + 1, 1, none⟩ = false) := fun V hV => by (
 obtain ⟨g0, g1, -, -⟩ := (hB1.below hV hB1.lt).two
 obtain ⟨d0, d1, d2, d3⟩ := (hB2.below hV hB2.lt).two
 exact ⟨g0, g1, d0, d1, d2, d3⟩)
 have HBW : Hid (∀ V, Below W.heap.size W V → Below w.heap.size w V) := fun V hV => below_any hb hV
 have HA0 : Hid (ndsR.lies n0 w0 [.slice a s.1.length c] s.1 ∧ FitsS s.1) := ⟨hA, hM⟩
 have HLI : Hid (∀ V, Below W.heap.size W V → ndsR.lies n0 V [.slice a s.1.length c] s.1) := fun V hV => ndsR.below HW.out.2.1 hV
 have HPL : Hid (∀ V (i : Int), Below W.heap.size W V → Calls Tryz.prog 75 #[.agg #[.slice a s.1.length c, .int .i64 s.2], .int .i64 i] V fun e w' => e = .returned (.int .i64 (plc s.1 i)) ∧ Below V.heap.size V w') := fun V i hV => rplace_any n0 a c s.1 s.2 i V (HLI.out V hV)
 have HWA : Hid (Ok s → ∀ V av cv m (xs : List ByteArray), Below W.heap.size W V → m = xs.length → OwnT W.heap.size V (.slice av m cv) xs → Calls Tryz.prog 49 #[.agg #[.slice a s.1.length c, .int .i64 s.2], .slice av m cv] V fun e w' => e = .returned (.tuple #[.int .i64 (wlk s.1 1 xs).1, .int .i64 (wlk s.1 1 xs).2]) ∧ Below V.heap.size V w') := fun hO V av cv m xs hV hm hX => by
   subst hm
   exact rwalk_any n0 W.heap.size a c s hO.wk av cv xs V (HLI.out V hV) hX.arg
 have HHO : Hid (Ok s → ∀ V av cv m (xs : List ByteArray), Below W.heap.size W V → m = xs.length → OwnT W.heap.size V (.slice av m cv) xs → xs ≠ [] → Calls Tryz.prog 73 #[.agg #[.slice a s.1.length c, .int .i64 s.2], .slice av m cv] V fun e w' => (∃ i x, e = .returned (.tuple #[.int .i64 i, .string x, .int .i64 (stdE s.1 xs)]) ∧ (stdE s.1 xs = 0 → i = plc s.1 (hold s xs).1 ∧ x = lst xs)) ∧ Below V.heap.size V w') := fun hO V av cv m xs hV hm hX hne => by
   subst hm
   exact rhome_any n0 W.heap.size a c s hO.wk av cv xs hne V (HLI.out V hV) hX.arg
 have HOW : Hid (Ok s → ∀ V, Below W.heap.size W V → Calls Tryz.prog 42 #[.agg #[.slice a s.1.length c, .int .i64 s.2]] V fun e w' => (∃ v', e = .returned (.agg #[v', .int .i64 s.2]) ∧ OR w0.heap.size V.heap.size w' v' s.1) ∧ Below V.heap.size V w') := fun hO V hV => rown_any n0 w0 a c s hO.wk V (HW.out.2.2.2.1.trans (hV.mono HW.out.2.2.2.1.size)) HA0.out.1
 have HC1 := rcheck10_any n0 a c s W (HLI.out W (Below.refl _ _)) hM
 obtain ⟨g0, g1, d0, d1, e0, e1⟩ := HSB.out W (Below.refl _ _)
 obtain ⟨n, hn⟩ := exa (s.1.length)
 obtain ⟨nx, hnx⟩ := exa (s.2)
 have HN : Hid (n = s.1.length ∧ nx = s.2) := ⟨hn, hnx⟩
 rw [← hn] at HW HSB HA0 HLI HPL HWA HHO HOW HC1 g0 hW ⊢
 rw [← hnx] at HSB HPL HWA HHO HOW HC1 g1 hW ⊢
 rw [hW] at g0 g1 d0 d1 e0 e1
 clear hb hA hAw hM hB1 hB2 hb0 hn hnx
 go_enter Tryz.func28, Tryz.ntmps28
 go_wp2_with fail
 rw [← hW]
 clear hW g0 g1 d0 d1 e0 e1
 refine HC1.mono ?_
 rintro e w1 ⟨⟨r, rfl, hr⟩, hb1⟩
 have HB1 : Hid (Below W.heap.size W w1) := hb1
 clear hb1 HC1
 obtain ⟨-, -, d0, d1, e0, e1⟩ := HSB.out w1 HB1.out
 by_cases hr0 : r = 0
 case neg => (
 have HT1 : Hid (T 9 ([], 0)) := by (
 rw [HT.out]
 rcases hr with ⟨_, h⟩ | ⟨h, _⟩
 · exact absurd h hr0
 · exact .inl ⟨h, rfl, rfl⟩)
 clear hr
 go_wp2
 refine bodyPost_ret (v := .tuple #[.agg #[.slice none 0 0, .int .i64 0], .int .i64 9]) (by simp [results, Tryz.results28, go_sem, *]) rfl (HNo.out _ _ HT1.out (below_set2 (HBW.out _ HB1.out) (by omega) _ _)))
 have HO : Hid (Ok s) := by (
 rcases hr with ⟨h, _⟩ | ⟨_, h⟩
 · exact h
 · omega)
 clear hr
 subst hr0
 have HC2 := rtwo_any p q w1
 go_wp2_with fail
 refine HC2.mono ?_
 rintro e w2 ⟨⟨av, m, cv, aw, my, cw, k2, rfl, h2⟩, hb2⟩
 obtain ⟨xs, hxs⟩ := exa (sval p)
 obtain ⟨ys, hys⟩ := exa (sval q)
 rw [← hxs, ← hys] at HT h2
 have HB2 : Hid (Below W.heap.size W w2) := below_any HB1.out hb2
 have H2 : Hid ((psE [p, q] ≠ 0 ∧ k2 = psE [p, q]) ∨ (psE [p, q] = 0 ∧ k2 = 0 ∧ m = xs.length ∧ my = ys.length ∧ OwnT W.heap.size w2 (.slice av m cv) xs ∧ OwnT W.heap.size w2 (.slice aw my cw) ys)) := h2.imp id fun ⟨a1, a2, a3, a4, a5, a6⟩ => ⟨a1, a2, a3, a4, a5.weaken HB1.out.size, a6.weaken HB1.out.size⟩
 have hl1 := run_len Tryz.underlying59 av m cv
 have hl2 := run_len Tryz.underlying59 aw my cw
 clear hb2 HC2 h2 hxs hys d0 d1 e0 e1
 obtain ⟨g0, g1, d0, d1, e0, e1⟩ := HSB.out w2 HB2.out
 by_cases hk0 : k2 = 0
 case neg => (
 have HT1 : Hid (T k2 ([], 0)) := by (
 rw [HT.out]
 rcases H2.out with ⟨h1, h2⟩ | ⟨_, h2, _⟩
 · exact .inr (.inl ⟨HO.out, h1, h2, rfl⟩)
 · exact absurd h2 hk0)
 go_wp2
 refine bodyPost_ret (v := .tuple #[.agg #[.slice none 0 0, .int .i64 0], .int .i64 k2]) (by simp [results, Tryz.results28, go_sem, *]) rfl (HNo.out _ _ HT1.out (below_set2 (HBW.out _ HB2.out) (by omega) _ _)))
 subst hk0
 have HX2 : Hid (psE [p, q] = 0 ∧ m = xs.length ∧ my = ys.length ∧ OwnT W.heap.size w2 (.slice av m cv) xs ∧ OwnT W.heap.size w2 (.slice aw my cw) ys) := by (
 rcases H2.out with ⟨h1, h2⟩ | ⟨h1, _, h3⟩
 · exact absurd h2.symm h1
 · exact ⟨h1, h3⟩)
 clear H2
 have HC3 := HWA.out HO.out w2 av cv m xs HB2.out HX2.out.2.1 HX2.out.2.2.2.1
 obtain ⟨i3, k3, hik⟩ : ∃ i k, (i, k) = wlk s.1 1 xs := ⟨_, _, rfl⟩
 have HIK : Hid ((i3, k3) = wlk s.1 1 xs) := hik
 rw [← hik] at HC3
 clear hik
 go_wp2_with fail
 refine HC3.mono ?_
 rintro e w3 ⟨rfl, hb3⟩
 have HB3 : Hid (Below W.heap.size W w3) := below_any HB2.out hb3
 have HOT : Hid (OwnT W.heap.size w3 (.slice aw my cw) ys) := HX2.out.2.2.2.2.below hb3
 clear hb3 HC3 g0 g1 d0 d1 e0 e1
 obtain ⟨g0, g1, d0, d1, e0, e1⟩ := HSB.out w3 HB3.out
 by_cases hk0 : k3 = 0
 case neg => (
 have HT1 : Hid (T k3 ([], 0)) := by (
 have h2 : (wlk s.1 1 xs).2 = k3 := by rw [← HIK.out]
 have h3 : filE s.1 xs = k3 := (filE_walk (by rw [h2]; exact hk0)).trans h2
 rw [HT.out]
 exact no_told HO.out HX2.out.1 ((lnE_fil (by rw [h3]; exact hk0)).trans h3) hk0)
 go_wp2
 refine bodyPost_ret (v := .tuple #[.agg #[.slice none 0 0, .int .i64 0], .int .i64 k3]) (by simp [results, Tryz.results28, go_sem, *]) rfl (HNo.out _ _ HT1.out (below_set2 (HBW.out _ HB3.out) (by omega) _ _)))
 subst hk0
 have HWZ : Hid ((wlk s.1 1 xs).2 = 0) := show (wlk s.1 1 xs).2 = 0 by rw [← HIK.out]
 obtain ⟨hzm, hzi, -⟩ := HO.out.wk.lead HWZ.out
 obtain ⟨z, hz⟩ := exa (tgt s xs)
 rw [← hz] at hzm hzi
 obtain ⟨atz, hatz, hpcz⟩ := plc_mem HO.out.wk.up hzm
 have hzi' : i3 = z.1 := by
   have h2 : (wlk s.1 1 xs).1 = i3 := by rw [← HIK.out]
   rw [← h2]; exact hzi
 have HZ : Hid (z = tgt s xs ∧ s.1[atz]? = some z ∧ z ∈ s.1 ∧ i3 = z.1) := ⟨hz, hatz, hzm, hzi'⟩
 obtain ⟨bz, oz, eaz, ecz, faz, fcz, hixz, hallz⟩ := ndr_at HW.out.2.1 atz z hatz
 obtain ⟨pd, hpd⟩ := exa (isD z)
 obtain ⟨pl, hpl'⟩ := exa (lk z)
 have HD : Hid (pd = isD z ∧ pl = lk z) := ⟨hpd, hpl'⟩
 have HPZ : Hid (∀ V, Below W.heap.size W V → Calls Tryz.prog 75 #[.agg #[.slice a n c, .int .i64 nx], .int .i64 i3] V fun e w' => e = .returned (.int .i64 atz) ∧ Below V.heap.size V w') := fun V hV => by (
 have hh := HPL.out V i3 hV
 rw [hzi', hpcz, ← hzi'] at hh
 exact hh)
 have HSZ : Hid (∀ V, Below W.heap.size W V → V.cell? ⟨w.heap.size, 0, none⟩ = some (.slice a n c) ∧ V.cell? ⟨w.heap.size, 1, none⟩ = some (.int .i64 nx) ∧ V.cell? ⟨bz, oz + 1, none⟩ = some (.bool pd) ∧ V.cell? ⟨bz, oz + 2, none⟩ = some (.int .i64 pl)) := fun V hV => by (
 obtain ⟨g0, g1, -⟩ := HSB.out V hV
 rw [hpd, hpl']
 exact ⟨g0, g1, (hallz V hV).1.2.1, (hallz V hV).1.2.2.1⟩)
 have hatzn : (atz : Int) < (n : Int) := by (
 have h1 := (List.getElem?_eq_some_iff.1 hatz).1
 have h2 := HN.out.1
 omega)
 clear hzm hzi hzi' hz hatz hpcz hallz hpd hpl' d0 d1 e0 e1 g0 g1
 have HS0 := HSZ.out w3.drew (below_any HB3.out (Below.refl _ w3).drew)
 have HCR := HPZ.out w3.drew (below_any HB3.out (Below.refl _ w3).drew)
 go_wp2
 go_region_held3 (fun U => U.cell? ⟨w.heap.size, 0, none⟩ = some (.slice a n c) ∧ U.cell? ⟨w.heap.size, 1, none⟩ = some (.int .i64 nx) ∧ U.cell? ⟨bz, oz + 1, none⟩ = some (.bool pd) ∧ U.cell? ⟨bz, oz + 2, none⟩ = some (.int .i64 pl))
   (first | with_reducible exact HS1 | with_reducible exact HS0)
   ((first | (go_at_call 75; refine HCR.mono ?_; rintro e w4 ⟨rfl, hb4⟩; have HS1 := HSZ.out w4 (below_any (below_any HB3.out (Below.refl _ w3).drew) hb4))))
 have HB4 : Hid (Below W.heap.size W w4 ∧ OwnT W.heap.size w4 (.slice aw my cw) ys) := ⟨below_any (below_any HB3.out (Below.refl _ w3).drew) hb4, HOT.out.below (below_any (Below.refl _ w3).drew hb4)⟩
 clear HS0 HS1 hb4 HCR
 obtain ⟨g0, g1, d0, d1, e0, e1⟩ := HSB.out w4 HB4.out.1
 cases hpd : pd
 case true => (
 subst hpd
 have HT1 : Hid (T 104 ([], 0)) := by (
 have h1 := HD.out.1
 rw [HZ.out.1] at h1
 have h2 := filE_dir HWZ.out h1.symm
 rw [HT.out]
 exact no_told HO.out HX2.out.1 ((lnE_fil (by rw [h2]; decide)).trans h2) (by decide))
 go_wp2
 refine bodyPost_ret (v := .tuple #[.agg #[.slice none 0 0, .int .i64 0], .int .i64 104]) (by simp [results, Tryz.results28, go_sem, *]) rfl (HNo.out _ _ HT1.out (below_set2 (HBW.out _ HB4.out.1) (by omega) _ _)))
 subst hpd
 have HF0 : Hid (filE s.1 xs = 0) := by (
 have h1 := HD.out.1
 rw [HZ.out.1] at h1
 exact filE_zero HWZ.out h1.symm)
 by_cases hm0 : my = 0
 case pos => (
 subst hm0
 have HT1 : Hid (T 102 ([], 0)) := by (
 have h1 : ys = [] := List.eq_nil_of_length_eq_zero HX2.out.2.2.1.symm
 have h2 : vacE s.1 ys = 102 := by rw [h1]; exact vacE_nil _
 rw [HT.out]
 exact no_told HO.out HX2.out.1 ((lnE_vac HF0.out (by rw [h2]; decide)).trans h2) (by decide))
 go_wp2
 refine bodyPost_ret (v := .tuple #[.agg #[.slice none 0 0, .int .i64 0], .int .i64 102]) (by simp [results, Tryz.results28, go_sem, *]) rfl (HNo.out _ _ HT1.out (below_set2 (HBW.out _ HB4.out.1) (by omega) _ _)))
 have HNE : Hid (ys ≠ []) := fun h => hm0 (by rw [HX2.out.2.2.1, h]; rfl)
 have hm0b : ((my : Int) == 0) = false := by simp; omega
 have HC5 := HHO.out HO.out w4 aw cw my ys HB4.out.1 HX2.out.2.2.1 HB4.out.2 HNE.out
 obtain ⟨k5, hk5⟩ := exa (stdE s.1 ys)
 rw [← hk5] at HC5
 have HK5 : Hid (k5 = stdE s.1 ys) := hk5
 clear hk5
 go_wp2_with fail
 refine HC5.mono ?_
 rintro e w5 ⟨⟨i5, x5, rfl, h5⟩, hb5⟩
 have HB5 : Hid (Below W.heap.size W w5) := below_any HB4.out.1 hb5
 have H5 : Hid (k5 = 0 → i5 = plc s.1 (hold s ys).1 ∧ x5 = lst ys) := h5
 clear hb5 h5 HC5 g0 g1 d0 d1 e0 e1
 obtain ⟨g0, g1, d0, d1, e0, e1⟩ := HSB.out w5 HB5.out
 by_cases hk0 : k5 = 0
 case neg => (
 have HT1 : Hid (T k5 ([], 0)) := by (
 have h2 : vacE s.1 ys = k5 := (vacE_std HNE.out (by rw [← HK5.out]; exact hk0)).trans HK5.out.symm
 rw [HT.out]
 exact no_told HO.out HX2.out.1 ((lnE_vac HF0.out (by rw [h2]; exact hk0)).trans h2) hk0)
 go_wp2
 refine bodyPost_ret (v := .tuple #[.agg #[.slice none 0 0, .int .i64 0], .int .i64 k5]) (by simp [results, Tryz.results28, go_sem, *]) rfl (HNo.out _ _ HT1.out (below_set2 (HBW.out _ HB5.out) (by omega) _ _)))
 subst hk0
 have HS0 : Hid (stdE s.1 ys = 0) := HK5.out.symm
 obtain ⟨hi5, rfl⟩ := H5.out rfl
 obtain ⟨-, hhm, -, -, -⟩ := std_zero HO.out.wk HS0.out
 obtain ⟨at', hat, hpc⟩ := plc_mem HO.out.wk.up hhm
 rw [hpc] at hi5
 subst hi5
 obtain ⟨h, hh⟩ := exa (hold s ys)
 obtain ⟨y, hy⟩ := exa (lst ys)
 have HQ : Hid (h = hold s ys ∧ y = lst ys ∧ s.1[at']? = some h ∧ h ∈ s.1) := ⟨hh, hy, by rw [hh]; exact hat, by rw [hh]; exact hhm⟩
 rw [← hy]
 obtain ⟨b1, o1, ea, ec, fa, fc, hix, hall⟩ := ndr_at HW.out.2.1 at' h HQ.out.2.2.1
 obtain ⟨el, hel⟩ := exa ((en h).length)
 rw [← hel] at hall
 have HE1 : Hid (∀ V, Below W.heap.size W V → V.cell? ⟨b1, o1 + 3, none⟩ = some (.slice ea el ec) ∧ ArgE n0 V (.slice ea el ec) (en h)) := fun V hV => ⟨(hall V hV).1.2.2.2.1, (hall V hV).2.1⟩
 have hatn : (at' : Int) < (n : Int) := by (
 have h1 := (List.getElem?_eq_some_iff.1 hat).1
 have h2 := HN.out.1
 omega)
 have HC6 := rfind_b y (HE1.out w5 HB5.out).2 (HO.out.wk.chk HQ.out.2.2.2)
 have c3 := (HE1.out w5 HB5.out).1
 obtain ⟨fq, hfq⟩ := exa (fnd (en h) y)
 obtain ⟨th, hth⟩ := exa (there (en h) y)
 rw [← hfq, ← hth] at HC6
 have HTH : Hid (th = there (en h) y ∧ el = (en h).length) := ⟨hth, hel⟩
 clear hhm hat hpc hall hh hy hfq hth hel H5 HK5
 go_wp2_with fail
 refine HC6.mono ?_
 rintro e w6 ⟨rfl, hb6⟩
 have HB6 : Hid (Below W.heap.size W w6) := below_any HB5.out hb6
 clear hb6 HC6 g0 g1 d0 d1 e0 e1 c3
 obtain ⟨g0, g1, d0, d1, e0, e1⟩ := HSB.out w6 HB6.out
 cases th
 case true => (
 have HT1 : Hid (T 102 ([], 0)) := by (
 have h1 := HTH.out.1
 rw [HQ.out.1, HQ.out.2.1] at h1
 have h2 := vacE_there HNE.out HS0.out ((std_there HO.out HS0.out).1 h1.symm).2
 rw [HT.out]
 exact no_told HO.out HX2.out.1 ((lnE_vac HF0.out (by rw [h2]; decide)).trans h2) (by decide))
 go_wp2
 refine bodyPost_ret (v := .tuple #[.agg #[.slice none 0 0, .int .i64 0], .int .i64 102]) (by simp [results, Tryz.results28, go_sem, *]) rfl (HNo.out _ _ HT1.out (below_set2 (HBW.out _ HB6.out) (by omega) _ _)))
 have HV0 : Hid (vacE s.1 ys = 0) := by (
 have h1 := HTH.out.1
 rw [HQ.out.1, HQ.out.2.1] at h1
 exact vacE_zero HNE.out HS0.out ((std_there HO.out HS0.out).2 h1.symm))
 have HS0' := HSZ.out w6.drew (below_any HB6.out (Below.refl _ w6).drew)
 have HCR := HPZ.out w6.drew (below_any HB6.out (Below.refl _ w6).drew)
 clear d0 d1 e0 e1 g0 g1
 go_wp2
 go_region_held3 (fun U => U.cell? ⟨w.heap.size, 0, none⟩ = some (.slice a n c) ∧ U.cell? ⟨w.heap.size, 1, none⟩ = some (.int .i64 nx) ∧ U.cell? ⟨bz, oz + 1, none⟩ = some (.bool false) ∧ U.cell? ⟨bz, oz + 2, none⟩ = some (.int .i64 pl))
   (first | with_reducible exact HS1 | with_reducible exact HS0')
   ((first | (go_at_call 75; refine HCR.mono ?_; rintro e w7 ⟨rfl, hb7⟩; have HS1 := HSZ.out w7 (below_any (below_any HB6.out (Below.refl _ w6).drew) hb7))))
 have HB7 : Hid (Below W.heap.size W w7) := below_any (below_any HB6.out (Below.refl _ w6).drew) hb7
 clear HS0' HS1 hb7 HCR
 obtain ⟨g0, g1, d0, d1, e0, e1⟩ := HSB.out w7 HB7.out
 by_cases hpl : pl = 16
 case pos => (
 subst hpl
 have HT1 : Hid (T 110 ([], 0)) := by (
 have h1 := HD.out.2
 rw [HZ.out.1] at h1
 rw [HT.out]
 exact no_told HO.out HX2.out.1 (lnE_many HF0.out HV0.out h1.symm) (by decide))
 go_wp2
 refine bodyPost_ret (v := .tuple #[.agg #[.slice none 0 0, .int .i64 0], .int .i64 110]) (by simp [results, Tryz.results28, go_sem, *]) rfl (HNo.out _ _ HT1.out (below_set2 (HBW.out _ HB7.out) (by omega) _ _)))
 have HLE : Hid (lnE s xs ys = aerr (en h) (y, i3)) := by (
 have h1 := HD.out.2
 rw [HZ.out.1] at h1
 have h2 := lnE_add HF0.out HV0.out (s := s) (by rw [← h1]; exact hpl)
 rw [← HQ.out.1, ← HQ.out.2.1, ← HZ.out.1, ← HZ.out.2.2.2] at h2
 exact h2)
 have hplb : 0 ≤ pl ∧ pl ≤ 16 := by (
 rw [HD.out.2]
 rcases HO.out.1.files z HZ.out.2.2.1 HD.out.1.symm with _
 by_cases h1 : z.1 = 1
 · rw [HO.out.1.root z HZ.out.2.2.1 h1]; decide
 · have := HO.out.1.some z HZ.out.2.2.1 h1 HD.out.1.symm
   omega)
 obtain ⟨hpl0, hpl16⟩ := hplb
 have hpli : ¬ 16 ≤ pl := by omega
 have hI3 : I64 i3 := by (
 have h1 := HO.out.wk.low z HZ.out.2.2.1
 have h2 := HO.out.wk.nx
 rw [HZ.out.2.2.2]
 exact ⟨by omega, by omega⟩)
 have HI3 : Hid (I64 i3) := hI3
 clear hI3
 have HC8 := HOW.out HO.out w7 HB7.out
 go_wp2_with fail
 refine HC8.mono ?_
 rintro e w8 ⟨⟨v8, rfl, hor8⟩, hb8⟩
 have HB8 : Hid (Below W.heap.size W w8) := below_any HB7.out hb8
 obtain ⟨X, hX⟩ : ∃ X : Nat → Prop, X = fun k => (w0.heap.size ≤ k ∧ k < w7.heap.size) ∨ k = w8.heap.size := ⟨_, rfl⟩
 have HX : Hid (∀ k, X k ↔ (w0.heap.size ≤ k ∧ k < w7.heap.size) ∨ k = w8.heap.size) := fun k => by rw [hX]
 obtain ⟨W8, hW8⟩ := exa (w8.alloc (.cells #[v8, .int .i64 nx] 24))
 have hbW8 : Below w8.heap.size w8 W8 := by rw [hW8]; exact (Below.refl _ w8).alloc (Nat.le_refl _) _
 have HR8 : Hid (RX X w7.heap.size W8 v8 s.1 ∧ Box W8 w8.heap.size 24 #[v8, .int .i64 nx] ∧ Below W.heap.size W W8 ∧ w7.heap.size ≤ w8.heap.size ∧ W8.heap.size = w8.heap.size + 1) := by (
 refine ⟨(RX.of_or hor8).more hbW8 fun k hk => ?_, by rw [hW8]; exact Box.new _ _ _, below_any HB8.out hbW8, hb8.size, by rw [hW8]; simp⟩
 rcases (HX.out k).1 hk with h | h
 · exact .inl h
 · exact .inr (by omega))
 obtain ⟨g8, c8, ea8, ec8, fa8, fc8, rfl, hbg8, hgs8, hix8, hpx8, hall8⟩ := HR8.out.1.at at' h HQ.out.2.2.1
 rw [← HN.out.1] at hix8 HR8 hpx8 hall8 hW8 ⊢
 rw [← HTH.out.2] at hpx8 hall8
 have HG8 : Hid (w7.heap.size ≤ g8 ∧ g8 < W8.heap.size ∧ g8 ≠ w8.heap.size ∧ g8 < w8.heap.size ∧ W.heap.size ≤ w7.heap.size) := by (
 have h1 := HR8.out.1.lt g8 rfl
 have h2 := hor8.owns g8 (by rw [← HN.out.1]; rfl)
 exact ⟨h1.1, h1.2, by omega, by omega, HB7.out.size⟩)
 have HALL8 : Hid (∀ V, Below W8.heap.size W8 V → V.cell? ⟨g8, at' * 6 + 3, none⟩ = some (.slice ea8 el ec8) ∧ V.frozen? ⟨g8, at' * 6 + 3, none⟩ = false ∧ V.cell? ⟨w8.heap.size, 0, none⟩ = some (.slice (some ⟨g8, 0, none⟩) n c8) ∧ V.cell? ⟨w8.heap.size, 1, none⟩ = some (.int .i64 nx)) := fun V hV => by
   have hbx := HR8.out.2.1.below hV HR8.out.2.1.lt
   exact ⟨(hall8 V hV).1.2.2.2.1, (hall8 V hV).2.1 _, hbx.two.1, hbx.two.2.1⟩
 have HPX8 : Hid (PX (WX X (.slice (some ⟨g8, 0, none⟩) n c8)) W8 h (.slice ea8 el ec8) (.slice fa8 (fi h).2.length fc8)) := hpx8
 have HST8 : Hid (∀ V u p' e' f', Below W8.heap.size W8 V → (nv h (.slice ea8 el ec8) (.slice fa8 (fi h).2.length fc8)).set 3 u = nv p' e' f' → PX (WX X (.slice (some ⟨g8, 0, none⟩) n c8)) V p' e' f' → RX X w7.heap.size (V.setCell ⟨g8, at' * 6 + 3, none⟩ u) (.slice (some ⟨g8, 0, none⟩) n c8) (s.1.set at' p')) := fun V u p' e' f' hV h1 h2 => (hall8 V hV).2.2 3 u p' e' f' (by omega) h1 h2
 have HAD : Calls Tryz.prog 80 #[.slice ea8 el ec8, .agg #[.string y, .int .i64 i3]] W8 fun r w' => (∃ v', r = .returned (.tuple #[v', .int .i64 (aerr (en h) (y, i3))]) ∧ OwnE 123 W8.heap.size w' v' (aval (en h) (y, i3))) ∧ Below W8.heap.size W8 w' := by (
 have hly : y.size ≤ maxLen := by
   rw [HQ.out.2.1]
   exact HB4.out.2.arg.2 _ (lst_mem HNE.out)
 exact D.radd_any 0 (.slice ea8 el ec8) (en h) (y, i3) W8 hpx8.lr.1 ⟨hly, HI3.out⟩)
 obtain ⟨k9, hk9⟩ := exa (aerr (en h) (y, i3))
 have HK9 : Hid (k9 = aerr (en h) (y, i3)) := hk9
 rw [← hk9] at HAD
 obtain ⟨t0, t1, t2, t3⟩ := HALL8.out W8 (Below.refl _ _)
 rw [hW8] at t0 t2 t3
 clear hor8 hb8 hX hbW8 hpx8 hall8 hbg8 hgs8 HC8 g0 g1 d0 d1 e0 e1 hk9 t1
 go_wp2_with fail
 rw [← hW8]
 clear hW8 t0 t2 t3
 refine HAD.mono ?_
 rintro e w9 ⟨⟨v9, rfl, hO9⟩, hb9⟩
 have HB9 : Hid (Below W8.heap.size W8 w9 ∧ OwnE 123 W8.heap.size w9 v9 (aval (en h) (y, i3))) := ⟨hb9, hO9⟩
 clear hb9 hO9 HAD
 obtain ⟨-, -, d0, d1, e0, e1⟩ := HSB.out w9 (below_any HR8.out.2.2.1 HB9.out.1)
 by_cases hk0 : k9 = 0
 case neg => (
 have HT1 : Hid (T k9 ([], 0)) := by
   rw [HT.out, HK9.out]
   exact no_told HO.out HX2.out.1 HLE.out (by rw [← HK9.out]; exact hk0)
 go_wp2
 refine bodyPost_ret (v := .tuple #[.agg #[.slice none 0 0, .int .i64 0], .int .i64 k9]) (by simp [results, Tryz.results28, go_sem, *]) rfl (HNo.out _ _ HT1.out (below_set2 (HBW.out _ (below_any HR8.out.2.2.1 HB9.out.1)) (by omega) _ _)))
 subst hk0
 obtain ⟨t0, t1, t2, t3⟩ := HALL8.out w9 HB9.out.1
 have hav : aval (en h) (y, i3) = ins (en h) (y, i3) := if_pos HK9.out.symm
 have HO9 : Hid (OwnE 123 W8.heap.size w9 v9 (ins (en h) (y, i3))) := by rw [← hav]; exact HB9.out.2
 obtain ⟨ea9, ec9, rfl⟩ := HO9.out.shape
 obtain ⟨W9, hW9⟩ := exa (w9.setCell ⟨g8, at' * 6 + 3, none⟩ (.slice ea9 (ins (en h) (y, i3)).length ec9))
 obtain ⟨l1, hl1'⟩ := exa (ch s.1 h.1 (wE (ins (en h) (y, i3))))
 have hbx9 : Box W9 w8.heap.size 24 #[.slice (some ⟨g8, 0, none⟩) n c8, .int .i64 nx] := by rw [hW9]; exact (HR8.out.2.1.below HB9.out.1 HR8.out.2.1.lt).other (Ne.symm HG8.out.2.2.1)
 have HR9 : Hid (RX X w7.heap.size W9 (.slice (some ⟨g8, 0, none⟩) n c8) l1 ∧ Box W9 w8.heap.size 24 #[.slice (some ⟨g8, 0, none⟩) n c8, .int .i64 nx] ∧ Below W.heap.size W W9 ∧ w8.heap.size + 1 ≤ W9.heap.size) := by (
 refine ⟨?_, hbx9, ?_, by rw [hW9]; have := HB9.out.1.size; have := HR8.out.2.2.2.2; simp [World.setCell]; omega⟩
 · rw [hW9, hl1', ← set_ch HO.out.wk.up HQ.out.2.2.1]
   refine HST8.out w9 _ (wE (ins (en h) (y, i3)) h) _ (.slice fa8 (fi h).2.length fc8) HB9.out.1 rfl ⟨HPX8.out.1, fun w' ha => ⟨?_, ?_⟩⟩
   · refine ens_px HO9.out.arg (fun k hk => ?_) ha
     have h0 := HR8.out.2.2.2
     have h4 := HG8.out
     rcases hk with hk | hk
     · rcases (HX.out k).1 hk with h | h <;> omega
     · have : g8 = k := by simpa [Value.ownBlock] using hk
       omega
   · exact (HPX8.out.2 w' fun k k1 k2 => by rw [ha k k1 (by have := HB9.out.1.size; omega)]; exact HB9.out.1.block k k2).2
 · rw [hW9]
   exact (below_any HR8.out.2.2.1 HB9.out.1).setCell (p := ⟨g8, at' * 6 + 3, none⟩) (by have := HG8.out; simp only; omega) _)
 obtain ⟨kz, z1, hz1, hz1n, hz1l, hplz, hset⟩ := ch_parts HO.out.wk.up (i := h.1) HZ.out.2.2.1 (ins (en h) (y, i3))
 rw [← hl1'] at hz1 hplz hset
 rw [← HZ.out.2.2.2] at hz1n hplz hset
 rw [← HD.out.2] at hz1l
 have HL1 : Hid (l1.length = n) := by rw [hl1', ch_length]; exact HN.out.1.symm
 obtain ⟨g9, c9, ea10, ec10, fa10, fc10, hv9, -, -, hix9, hpx9, hall9⟩ := HR9.out.1.at kz z1 hz1
 obtain ⟨hgg, -, -⟩ : (⟨g8, 0, none⟩ : Addr) = ⟨g9, 0, none⟩ ∧ n = l1.length ∧ c8 = c9 := by simpa using hv9
 obtain rfl : g8 = g9 := by simpa using hgg
 have HCP : Hid (∀ V, Below W9.heap.size W9 V → Calls Tryz.prog 75 #[.agg #[.slice (some ⟨g8, 0, none⟩) n c8, .int .i64 nx], .int .i64 i3] V fun e w' => e = .returned (.int .i64 kz) ∧ Below V.heap.size V w') := fun V hV => by
   have h1 := rplace_any 0 (some ⟨g8, 0, none⟩) c8 l1 nx i3 V (by have := (HR9.out.1.below hV).lies; rw [HL1.out]; exact this)
   rwa [HL1.out, hplz] at h1
 have HSV : Hid (∀ V, Below W9.heap.size W9 V → V.cell? ⟨w8.heap.size, 0, none⟩ = some (.slice (some ⟨g8, 0, none⟩) n c8) ∧ V.cell? ⟨w8.heap.size, 1, none⟩ = some (.int .i64 nx) ∧ V.cell? ⟨g8, kz * 6 + 2, none⟩ = some (.int .i64 pl)) := fun V hV => by
   obtain ⟨q0, q1, -, -⟩ := (HR9.out.2.1.below hV HR9.out.2.1.lt).two
   exact ⟨q0, q1, by rw [← hz1l]; exact (hall9 V hV).1.2.2.1⟩
 have HST9 : Hid (∀ V, Below W9.heap.size W9 V → V.frozen? ⟨g8, kz * 6 + 2, none⟩ = false ∧ RX X w7.heap.size (V.setCell ⟨g8, kz * 6 + 2, none⟩ (.int .i64 (pl + 1))) (.slice (some ⟨g8, 0, none⟩) n c8) (ch l1 i3 (wL (pl + 1)))) := fun V hV => by (
 refine ⟨(hall9 V hV).2.1 _, ?_⟩
 rw [← hset]
 exact (hall9 V hV).2.2 2 _ (wL (pl + 1) z1) _ _ (by omega) rfl ⟨⟨hpx9.1.1, (show I64 (pl + 1) from ⟨by omega, by omega⟩), hpx9.1.2.2⟩, fun w' ha => hpx9.2 w' fun k k1 k2 => by rw [ha k k1 (by have := hV.size; omega)]; exact hV.block k k2⟩)
 have hkzn : (kz : Int) < (n : Int) := by have := (List.getElem?_eq_some_iff.1 hz1).1; have := HL1.out; omega
 have HLN : Hid (lnkN s (hold s ys) (lst ys) (tgt s xs) = (ch l1 i3 (wL (pl + 1)), nx)) := show lnkN s (hold s ys) (lst ys) (tgt s xs) = (ch l1 i3 (wL (pl + 1)), nx) by
   unfold lnkN
   rw [← HQ.out.1, ← HQ.out.2.1, ← HZ.out.1, ← HZ.out.2.2.2, ← HD.out.2, ← hl1', ← HN.out.2]
 obtain ⟨u0, u1, -, -⟩ := hbx9.two
 rw [hW9] at u0 u1
 have hwp : IntKind.i64.wrap (pl + 1) = pl + 1 := wrap_i64 (by omega) (by omega)
 clear hav hbx9 hz1 hz1n hz1l hplz hset hv9 hgg hpx9 hall9 hl1' d0 d1 e0 e1
 go_wp2
 rw [← hW9]
 clear hW9 u0 u1 t0 t1 t2 t3
 refine AnyBut.begin (fun V => V.cell? ⟨w8.heap.size, 0, none⟩ = some (.slice (some ⟨g8, 0, none⟩) n c8) ∧ V.cell? ⟨w8.heap.size, 1, none⟩ = some (.int .i64 nx) ∧ V.cell? ⟨g8, kz * 6 + 2, none⟩ = some (.int .i64 pl)) 11 (by kernel_rfl) ?_
 obtain ⟨V0, hV0⟩ := exa (W9.drew)
 have hbV0 : Below W9.heap.size W9 V0 := by rw [hV0]; exact (Below.refl _ W9).drew
 rw [← hV0]
 clear hV0
 have hSS := HSV.out V0 hbV0
 refine ty 0 125 hSS ?_; simp only [ua,ub,uc,ud]
 refine ty 1 126 hSS ?_; simp only [ua,ub,uc,ud]
 refine ty 2 127 hSS ?_; simp only [ua,ub,uc,ud]
 refine ty 3 128 hSS ?_; simp only [ua,ub,uc,ud]
 refine AnyBut.step (i := 4) (by kernel_rfl) rfl (fun K hK => ?_)
 go_simp
 refine Calls.mono (HCP.out V0 hbV0) ?_
 rintro e w10 ⟨rfl, hb10⟩
 dsimp only
 have hbw : Below W9.heap.size W9 w10 := below_any hbV0 hb10
 refine hK.out _ _ (HSV.out w10 hbw) ?_
 clear hK hSS
 have hSS := HSV.out w10 hbw
 refine ty 5 130 hSS ?_; simp only [ua,ub,uc,ud]
 refine ty 6 131 hSS ?_; simp only [ua,ub,uc,ud]
 refine ty 7 132 hSS ?_; simp only [ua,ub,uc,ud]
 refine ty 8 133 hSS ?_; simp only [ua,ub,uc,ud]
 refine AnyBut.step (i := 9) (by kernel_rfl) rfl (fun K hK => ?_)
 go_simp
 refine hK.out _ _ hSS ?_
 clear hK
 refine AnyBut.step (i := 10) (by kernel_rfl) rfl (fun K hK => ?_)
 go_simp
 refine hK.out _ _ hSS ?_
 clear hK
 obtain ⟨hfz, hR11⟩ := HST9.out w10 hbw
 have hc2 := hSS.2.2
 refine AnyBut.last (by kernel_rfl) (by kernel_rfl) rfl (fun K hK => ?_)
 go_simp
 refine hK.out _ _ ?_
 clear hK hSS
 obtain ⟨W11, hW11⟩ := exa (w10.setCell ⟨g8, kz * 6 + 2, none⟩ (.int .i64 (pl + 1)))
 have hbx11 : Box W11 w8.heap.size 24 #[.slice (some ⟨g8, 0, none⟩) n c8, .int .i64 nx] := by rw [hW11]; exact (HR9.out.2.1.below hbw HR9.out.2.1.lt).other (Ne.symm HG8.out.2.2.1)
 have HR11 : Hid (RX X w7.heap.size W11 (.slice (some ⟨g8, 0, none⟩) n c8) (ch l1 i3 (wL (pl + 1))) ∧ Below W.heap.size W W11) := by (
 refine ⟨by rw [hW11]; exact hR11, ?_⟩
 rw [hW11]
 exact (below_any HR9.out.2.2.1 hbw).setCell (p := ⟨g8, kz * 6 + 2, none⟩) (by have := HG8.out; simp only; omega) _)
 obtain ⟨u0, u1, -, -⟩ := hbx11.two
 obtain ⟨-, -, d0, d1, e0, e1⟩ := HSB.out W11 HR11.out.2
 have HTY : Hid (T 0 (ch l1 i3 (wL (pl + 1)), nx)) := by
   rw [HT.out, ← HLN.out]
   exact yes_told HO.out HX2.out.1 (by rw [HLE.out, ← HK9.out])
 rw [← hW11]
 clear hW11 hbx11 hR11 hfz hc2 hb10 hbw hbV0
 go_wp2
 refine bodyPost_ret (v := .tuple #[.agg #[.slice (some ⟨g8, 0, none⟩) n c8, .int .i64 nx], .int .i64 0]) (by simp [results, Tryz.results28, go_sem, *]) rfl (HYes.out _ _ _ _ HTY.out ?_ (below_set2 (HBW.out _ HR11.out.2) (by omega) _ _))
 have h2 := HW.out
 have h3 := HG8.out
 have hR : X (w.heap.size + 1) := (HX.out _).2 (.inl ⟨by omega, by omega⟩)
 have hn2 : (Value.slice (some ⟨g8, 0, none⟩) n c8).ownBlock ≠ some (w.heap.size + 1) := by simp [Value.ownBlock]; omega
 exact ((HR11.out.1.set hR hn2 _ _).set hR hn2 _ _).or (fun k k1 k2 => (HX.out k).2 (.inl ⟨k1, by omega⟩)) (by omega)
end Go.Proofs.YtkcnephbaffmbaaGreatDoor
namespace Go.Proofs.YtkcnephbaffmbaaGreatDoor
open Go.RowKit
open P (serr sval)
theorem rLink_any (n0 : Nat) (w0 : World) (a : Option Addr) (c : Nat) (s : St) (p q : ByteArray) (w : World) (hb0 : Below w0.heap.size w0 w) (hA : ndsR.lies n0 w0 [.slice a s.1.length c] s.1) (hM : FitsS s.1) :
   Calls Tryz.prog 28 #[.agg #[.slice a s.1.length c, .int .i64 s.2], .string p, .string q] w (FlatR w0.heap.size (Told s [p, q] (lnE s (sval p) (sval q)) (lnkN s (hold s (sval q)) (lst (sval q)) (tgt s (sval p)))) w) :=
 (rLink_tells n0 w0 a c s p q w hb0 hA hM).mono fun _ _ h => h.flat
end Go.Proofs.YtkcnephbaffmbaaGreatDoor
namespace Go.Proofs.YtkcnephbaffmbaaGreatDoor
open D (En nameOk inoOk Good Chk there fnd ins del aerr)
open P (serr sval werr wval)
theorem renE_nil {s : St} {xs ys : List ByteArray} (h : xs = [] ∨ ys = []) : renE s xs ys = 108 := by unfold renE; rw [if_pos h]
theorem renE_walk {s : St} {xs ys : List ByteArray} (h1 : xs ≠ []) (h2 : ys ≠ []) (h : (wlk s.1 1 xs).2 ≠ 0) : renE s xs ys = (wlk s.1 1 xs).2 := by
 unfold renE; rw [if_neg (fun c => c.elim h1 h2), if_pos h]
theorem renE_std {s : St} {xs ys : List ByteArray} (h1 : xs ≠ []) (h2 : ys ≠ []) (h3 : (wlk s.1 1 xs).2 = 0) (h : stdE s.1 ys ≠ 0) : renE s xs ys = stdE s.1 ys := by
 unfold renE; rw [if_neg (fun c => c.elim h1 h2), if_neg (fun c => c h3), if_pos h]
theorem renE_in {s : St} {xs ys : List ByteArray} (h1 : xs ≠ []) (h2 : ys ≠ []) (h3 : (wlk s.1 1 xs).2 = 0) (h4 : stdE s.1 ys = 0) (h : isD (tgt s xs) = true ∧ isB xs ys = true) : renE s xs ys = 108 := by
 unfold renE; rw [if_neg (fun c => c.elim h1 h2), if_neg (fun c => c h3), if_neg (fun c => c h4), if_pos h]
theorem renE_same {s : St} {xs ys : List ByteArray} (h1 : xs ≠ []) (h2 : ys ≠ []) (h3 : (wlk s.1 1 xs).2 = 0) (h4 : stdE s.1 ys = 0) (h5 : ¬ (isD (tgt s xs) = true ∧ isB xs ys = true)) (h : stdT s.1 ys = (tgt s xs).1) : renE s xs ys = 0 := by
 unfold renE; rw [if_neg (fun c => c.elim h1 h2), if_neg (fun c => c h3), if_neg (fun c => c h4), if_neg h5, if_pos h]
theorem renE_cw {s : St} {xs ys : List ByteArray} (h1 : xs ≠ []) (h2 : ys ≠ []) (h3 : (wlk s.1 1 xs).2 = 0) (h4 : stdE s.1 ys = 0) (h5 : ¬ (isD (tgt s xs) = true ∧ isB xs ys = true)) (h6 : stdT s.1 ys ≠ (tgt s xs).1) (h : stdT s.1 ys ≠ 0) (h' : cwE s xs ys ≠ 0) : renE s xs ys = cwE s xs ys := by
 unfold renE; rw [if_neg (fun c => c.elim h1 h2), if_neg (fun c => c h3), if_neg (fun c => c h4), if_neg h5, if_neg h6, if_pos ⟨h, h'⟩]
theorem renE_rest {s : St} (hO : Ok s) {xs ys : List ByteArray} (h1 : xs ≠ []) (h2 : ys ≠ []) (h3 : (wlk s.1 1 xs).2 = 0) (h4 : stdE s.1 ys = 0) (h5 : ¬ (isD (tgt s xs) = true ∧ isB xs ys = true)) (h6 : stdT s.1 ys ≠ (tgt s xs).1) (h7 : stdT s.1 ys ≠ 0 → cwE s xs ys = 0) (hn : nameOk (lst ys) = true) :
   renE s xs ys = if stdT s.1 ys = 0 ∧ (hold s xs).1 ≠ (hold s ys).1 ∧ 63 ≤ (en (hold s ys)).length then 51 else if 8 < ys.length + dpt s.1 8 (tgt s xs).1 then 5 else 0 := by
 unfold renE; rw [if_neg (fun c => c.elim h1 h2), if_neg (fun c => c h3), if_neg (fun c => c h4), if_neg h5, if_neg h6, if_neg (fun c => c.2 (h7 c.1)), ren_room hO h1 h2 h3 h4 h6 h7 hn]
 by_cases h : stdT s.1 ys = 0 ∧ (hold s xs).1 ≠ (hold s ys).1 ∧ 63 ≤ (en (hold s ys)).length
 · rw [if_pos h, if_pos h, if_pos (by decide)]
 · rw [if_neg h, if_neg h, if_neg (by decide)]
theorem cwE_is {s : St} (hO : Ok s) {xs ys : List ByteArray} (h2 : ys ≠ []) (h4 : stdE s.1 ys = 0) (h : stdT s.1 ys ≠ 0) :
   tgt s ys ∈ s.1 ∧ (tgt s ys).1 = stdT s.1 ys ∧ cwE s xs ys = if isD (tgt s ys) = true ∧ isD (tgt s xs) = false then 104 else if isD (tgt s ys) = false ∧ isD (tgt s xs) = true then 103 else if 0 < (en (tgt s ys)).length then 105 else 0 := by
 have hw := walk_of_std hO h2 h4 h
 obtain ⟨l1, l2, l3⟩ := hO.wk.lead hw
 refine ⟨l1, by rw [← l2]; exact (std_of_walk hO h2 hw).1.symm, ?_⟩
 unfold cwE
 cases hx : isD (tgt s xs) <;> cases hy : isD (tgt s ys)
 · rw [if_neg (by decide), filE_zero hw hy]
   have := (hO.wk.files _ l1 hy).1
   simp [this]
 · rw [if_neg (by decide), filE_dir hw hy]; simp
 · rw [if_pos rfl, rmE_not h2 hw hy]; simp
 · rw [if_pos rfl]
   by_cases he : (en (tgt s ys)).length = 0
   · rw [rmE_zero h2 hw hy he]; simp [he]
   · rw [rmE_more h2 hw hy he, if_neg (by simp), if_neg (by simp), if_pos (by omega)]
theorem within_isB {p q : ByteArray} (h : werr p q = 0) : (wval p q && decide ((sval p).length < (sval q).length)) = isB (sval p) (sval q) := by
 unfold P.wval isB
 rw [h]
 by_cases h1 : (sval p).length < (sval q).length
 · have h2 : (sval p).length ≤ (sval q).length := by omega
   simp [h1, h2]
 · simp [h1]
end Go.Proofs.YtkcnephbaffmbaaGreatDoor
namespace Go.Proofs.YtkcnephbaffmbaaGreatDoor
open D (En nameOk inoOk Good Chk there fnd ins del aerr)
theorem move_parts {s : St} (h : Ok s) {xs ys : List ByteArray} (hx0 : xs ≠ []) (hy0 : ys ≠ []) (hx : (wlk s.1 1 xs).2 = 0) (hs : stdE s.1 ys = 0) (hst : stdT s.1 ys ≠ (tgt s xs).1) (hcw : stdT s.1 ys ≠ 0 → cwE s xs ys = 0) :
   ∃ a k b : Nat, s.1[a]? = some (hold s ys) ∧ plc s.1 (hold s ys).1 = (a : Int) ∧ Chk (en (hold s ys)) ∧
     (ren1 s ys).1[k]? = some (hold (ren1 s ys) xs) ∧ plc (ren1 s ys).1 (hold s xs).1 = (k : Int) ∧ Chk (en (hold (ren1 s ys) xs)) ∧ (lst xs, (tgt s xs).1) ∈ en (hold (ren1 s ys) xs) ∧
     (ren1 s ys).1.set k (wE (del (en (hold (ren1 s ys) xs)) (lst xs)) (hold (ren1 s ys) xs)) = ren2 s xs ys ∧
     (ren2 s xs ys)[b]? = some (gt (ren2 s xs ys) (stdI s.1 ys)) ∧ plc (ren2 s xs ys) (hold s ys).1 = (b : Int) ∧ Chk (en (gt (ren2 s xs ys) (stdI s.1 ys))) ∧
     (ren2 s xs ys).set b (wE (ins (en (gt (ren2 s xs ys) (stdI s.1 ys))) (lst ys, (tgt s xs).1)) (gt (ren2 s xs ys) (stdI s.1 ys))) = ren3 s xs ys := by
 obtain ⟨c1, c2, c3, c4, c5, -⟩ := ren_clear h hx0 hy0 hx hs hst hcw
 obtain ⟨d1, d2, d3, d4, -, -⟩ := ren_struck h hx0 hy0 hx hs hst hcw
 obtain ⟨y1, y2, y3, y4, y5⟩ := std_zero h.wk hs
 obtain ⟨b1, b2, b3, b4, b5⟩ := c1.wk.stands hx0 (by rw [c2])
 have ht : (tgt (ren1 s ys) xs).1 = (tgt s xs).1 := by (
 have := (c1.wk.lead (xs := xs) (by rw [c2])).2.1
 rw [c2] at this
 exact this.symm)
 rw [ht] at b4
 obtain ⟨a, ha⟩ := List.getElem?_of_mem y2
 obtain ⟨k, hk⟩ := List.getElem?_of_mem b1
 obtain ⟨b, hb⟩ := List.getElem?_of_mem d2
 refine ⟨a, k, b, ha, plc_ups h.wk.up ha, (h.wk.dirs _ y2 y4).1, hk, ?_, (c1.wk.dirs _ b1 b3).1, b4, set_ch c1.wk.up hk (wE (del (en (hold (ren1 s ys) xs)) (lst xs))), hb, ?_, (d1.dirs _ d2 d4).1, ?_⟩
 · rw [← c4]; exact plc_ups c1.wk.up hk
 · have := plc_ups d1.up hb
   rwa [d3, y3] at this
 · have := set_ch d1.up hb (wE (ins (en (gt (ren2 s xs ys) (stdI s.1 ys))) (lst ys, (tgt s xs).1)))
   rw [this, d3]
   rfl
theorem move_way {s : St} (h : Ok s) {xs ys : List ByteArray} (hy0 : ys ≠ []) (hs : stdE s.1 ys = 0) (hcw : stdT s.1 ys ≠ 0 → cwE s xs ys = 0) :
   (there (en (hold s ys)) (lst ys) = false ∧ ren1 s ys = s) ∨ (there (en (hold s ys)) (lst ys) = true ∧ tgt s ys ∈ s.1 ∧ (lst ys, (tgt s ys).1) ∈ en (hold s ys) ∧ ren1 s ys = dropN s (hold s ys) (lst ys) (tgt s ys)) := by
 cases ht : there (en (hold s ys)) (lst ys)
 · refine .inl ⟨rfl, ?_⟩
   unfold ren1
   rw [if_pos ((std_there h hs).2 ht)]
 · have h0 := ((std_there h hs).1 ht).2
   obtain ⟨w1, w2⟩ := cw_zero h.wk (hcw h0)
   obtain ⟨z1, z2, z3⟩ := h.wk.lead w1
   obtain ⟨q1, q2, q3, q4, q5⟩ := h.wk.stands hy0 w1
   refine .inr ⟨rfl, z1, q4, ?_⟩
   unfold ren1
   rw [if_neg h0]
end Go.Proofs.YtkcnephbaffmbaaGreatDoor
