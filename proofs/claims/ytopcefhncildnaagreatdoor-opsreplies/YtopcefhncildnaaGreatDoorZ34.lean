/-
  A map of numbers by numbers: what it holds, what is looked up and laid in, how many keys it has.
  What the program tells of links: every entry names a node that is there, and each node has as many links as it may have and says it has.
  What the program tells of ways: how many names the longest one on from a node has.
  What the program tells of ways: all nodes that they meet, counted in a map.
-/
import Derived.Test.YtopcefhncildnaaGreatDoorZ20
import Derived.Test.YtopcefhncildnaaGreatDoorZ31
import Derived.Maps.OwnSet
set_option maxRecDepth 100000
set_option maxHeartbeats 8000000
namespace Go.Proofs.YtopcefhncildnaaGreatDoor
open Go.RowKit
open Go.Maps (Keyed)
def ik (k : Int) : Lit := .int .i64 k
theorem ik_key {k : Int} (h : I64 k) : keyOf Tryz.prog 3 (.int .i64 k) = some (ik k) := Maps.keyOf_int_mk Tryz.underlying3 h.wf
theorem ik_inj {i j : Int} (h : ik i = ik j) : i = j := (Lit.int.inj h).2
theorem ik_is {k : Int} (h : I64 k) : WideAt.IsKeyLit (ik k) := F.keyed3.key (ik_key h)
theorem zero3 (w : World) : (zeroValue 3).run Tryz.prog w = .ok (.int .i64 0) w := by
 have h : (Tryz.prog.info? 3).map (·.zero) = some (some (.int .i64 0)) := by kernel_rfl
 obtain ⟨i, hi, hz⟩ := Option.map_eq_some_iff.1 h
 simp [zeroValue, typeInfo, hi, hz]
def IM (w : World) (b : Nat) (ks : List Int) (M : Int → Int) : Prop := ∃ D : DataW Unit, w.ownsMap Tryz.prog 3 (plainElem Tryz.prog 3) b ks.length D ∧ Maps.size D = ks.length ∧ ks.Nodup ∧ (∀ k, I64 k → Maps.has D (ik k) = decide (k ∈ ks)) ∧ (∀ k, I64 k → D.atKey (ik k) (.lit (.int .i64 0)) = .lit (.int .i64 (M k)))
theorem IM.made (w : World) : IM (w.alloc (.map #[] 0)) w.heap.size [] (fun _ => 0) :=
 ⟨_, World.ownsMap_made w Tryz.prog 3 _, rfl, List.nodup_nil, fun _ _ => rfl, fun _ _ => rfl⟩
theorem IM.lt {w : World} {b : Nat} {ks : List Int} {M : Int → Int} (h : IM w b ks M) : b < w.heap.size := let ⟨_, h1, _⟩ := h; h1.lt
theorem IM.kept {w w' : World} {b : Nat} {ks : List Int} {M : Int → Int} (h : IM w b ks M) (hb : w'.heap[b]? = w.heap[b]?) : IM w' b ks M := by
 obtain ⟨D, ⟨es, clock, h1, h2⟩, r⟩ := h
 exact ⟨D, ⟨es, clock, hb.trans h1, h2⟩, r⟩
theorem IM.below {w w' : World} {b : Nat} {ks : List Int} {M : Int → Int} (h : IM w b ks M) (hb : Below w.heap.size w w') : IM w' b ks M := h.kept (hb.block b h.lt)
theorem IM.look {w : World} {b : Nat} {ks : List Int} {M : Int → Int} (h : IM w b ks M) {k : Int} (hk : I64 k) : (Instr.lookup 285 (.map (some b)) (.int .i64 k) false).run Tryz.prog w = .ok (.int .i64 (M k)) w ∧ I64 (M k) := by
 obtain ⟨D, h1, _, _, _, h5⟩ := h
 obtain ⟨c, hrun, hc, hw⟩ := h1.lookup_int F.keyed3 Tryz.underlying285 Tryz.underlying3 (zero3 w) (ik_key hk)
 rw [h5 k hk] at hc
 obtain rfl : M k = c := by
   have := DataW.lit.inj hc
   exact (Lit.int.inj this).2
 exact ⟨hrun, bounds_i64 hw⟩
def updI (M : Int → Int) (k x : Int) : Int → Int := fun i => if i = k then x else M i
theorem IM.put {w : World} {b : Nat} {ks : List Int} {M : Int → Int} (h : IM w b ks M) {k x : Int} (hk : I64 k) (hx : I64 x) (hn : ks.length ≤ 1000000) :
   ∃ w', (Instr.mapUpdate 285 (.map (some b)) (.int .i64 k) (.int .i64 x)).run Tryz.prog w = .ok () w' ∧ IM w' b (if k ∈ ks then ks else ks ++ [k]) (updI M k x) ∧ w.grownBy w' (some b) := by
 obtain ⟨D, h1, h2, h3, h4, h5⟩ := h
 obtain ⟨w', hrun, h6, hg⟩ := h1.update F.keyed3 Tryz.underlying285 (by unfold maxLen; omega) (ik_key hk) (plainElem_int Tryz.underlying3 hx.wf)
 have hD := h1.isMap
 have hT := h1.tidy F.keyed3
 have hsz : Maps.size (D.put (ik k) (.lit (.int .i64 x))) = (if k ∈ ks then ks else ks ++ [k]).length := by (
 rw [Maps.size_put hT, h4 k hk, h2]
 by_cases hm : k ∈ ks
 · simp [hm]
 · simp [hm])
 refine ⟨w', hrun, ⟨_, ?_, hsz, ?_, fun j hj => ?_, fun j hj => ?_⟩, hg⟩
 · obtain ⟨es, clock, a, b', c, d⟩ := h6
   refine ⟨es, clock, a, b', ?_, d⟩
   rw [← hsz, d]
   simp [Maps.size, length_sorted]
 · by_cases hm : k ∈ ks
   · rw [if_pos hm]; exact h3
   · rw [if_neg hm]
     refine List.nodup_append.2 ⟨h3, by simp, fun a ha c hc e => hm ?_⟩
     rw [List.mem_singleton.1 hc] at e
     rw [← e]; exact ha
 · by_cases e : j = k
   · subst e
     rw [Maps.has_put_same hD (ik_is hj)]
     by_cases hm : j ∈ ks
     · simp [hm]
     · simp [hm]
   · rw [Maps.has_put_other (fun c => e (ik_inj c)), h4 j hj]
     by_cases hm : k ∈ ks
     · simp [hm]
     · simp [hm, e]
 · unfold updI
   by_cases e : j = k
   · subst e
     rw [if_pos rfl, Maps.atKey_put_same hD (ik_is hj)]
   · rw [if_neg e, Maps.atKey_put_other (fun c => e (ik_inj c)), h5 j hj]
theorem IM.len {w : World} {b : Nat} {ks : List Int} {M : Int → Int} (h : IM w b ks M) : (Builtin.len_ #[285] 3 #[.map (some b)]).run Tryz.prog w = .ok (.int .i64 ks.length) w := by
 obtain ⟨D, h1, h2, _⟩ := h
 rw [← h2]
 exact h1.len Tryz.underlying285 3
theorem IM.nodup {w : World} {b : Nat} {ks : List Int} {M : Int → Int} (h : IM w b ks M) : ks.Nodup := let ⟨_, _, _, h3, _⟩ := h; h3
theorem IM.box {w w' : World} {b B : Nat} {t : TypeId} {cs : Array Value} (hB : Box w B t cs) (hg : w.grownBy w' (some b)) (hne : B ≠ b) : Box w' B t cs := hB.grown hg (fun e => hne (Option.some.inj e))
end Go.Proofs.YtopcefhncildnaaGreatDoor
namespace Go.Proofs.YtopcefhncildnaaGreatDoor
open Go.RowKit
open D (En ArgE Chk)
theorem cP_snoc (es : List En) (e : En) (k : Int) : cP (es ++ [e]) k = cP es k + if e.2 = k then 1 else 0 := by
 unfold cP
 rw [List.countP_append, List.countP_cons]
 simp
theorem cnt_snoc (l : List Nd) (p : Nd) (k : Int) : cnt (l ++ [p]) k = cnt l k + cP (en p) k := by simp [cnt, cP]
theorem cP_le (es : List En) (k : Int) : cP es k ≤ es.length := List.countP_le_length
theorem cnt_le {l : List Nd} (h : ∀ p ∈ l, (en p).length ≤ 63) (k : Int) : cnt l k ≤ 63 * l.length := by
 induction l with
 | nil => simp [cnt]
 | cons a r ih => (
 rw [cnt_cons]
 have h1 := cP_le (en a) k
 have h2 := h a (List.mem_cons_self ..)
 have h3 := ih fun p hp => h p (List.mem_cons_of_mem _ hp)
 rw [List.length_cons]
 omega)
theorem node_len {p : Nd} (h : NodeOk p) : (en p).length ≤ 63 := by
 cases hd : isD p
 · rw [(h.2 hd).1]; simp
 · exact (h.1 hd).1.1
theorem keys_le {l : List Nd} {ks : List Int} (h : ks.Nodup) (hs : ∀ k ∈ ks, hasn l k = true) : ks.length ≤ l.length := by
 have := nodup_le (m := l.map (·.1)) h fun k hk => by
   obtain ⟨n, hn, e⟩ := hasn_iff.1 (hs k hk)
   exact List.mem_map.2 ⟨n, hn, e⟩
 rwa [List.length_map] at this
def LinkOk (l : List Nd) (p : Nd) : Prop := lk p = (cnt l p.1 : Int) ∧ least p ≤ lk p ∧ lk p ≤ most p
def LinksOk (l : List Nd) : Prop := (∀ p ∈ l, ∀ e ∈ en p, hasn l e.2 = true) ∧ ∀ p ∈ l, LinkOk l p
theorem links_any (n0 : Nat) (a : Option Addr) (c : Nat) (l : List Nd) (nx : Int) (w : World) (hA : ndsN.lies n0 w [.slice a l.length c] l) (hU : Ups l) (h128 : l.length ≤ 128) (hno : ∀ p ∈ l, NodeOk p) :
   Calls Tryz.prog 142 #[.agg #[.slice a l.length c, .int .i64 nx]] w fun e w' => Says e (LinksOk l) ∧ Below w.heap.size w w' := by
 have HV : Hid (NW n0 (.slice a l.length c) l w) := nds_all hA
 have HPL : Hid (∀ (x : Int) (V : World), Below w.heap.size w V → Calls Tryz.prog 204 #[.slice a l.length c, .int .i64 x] V fun e w' => e = .returned (.tuple #[.int .i64 (posn l x), .bool (hasn l x)]) ∧ Below V.heap.size V w') := fun x V hV => place_any n0 _ l hU x V (ndsN.below hA hV) (by omega)
 obtain ⟨n, hn⟩ := exa (l.length)
 have hl1 := run_len Tryz.underlying27 a l.length c
 rw [← hn] at hl1 HV HPL h128 ⊢
 have HN : Hid (n = l.length ∧ ∀ p ∈ l, (en p).length ≤ 63) := ⟨hn, fun p hp => node_len (hno p hp)⟩
 obtain ⟨W, hW⟩ := exa ((w.alloc (.cells #[.slice a n c, .int .i64 nx] 29)).alloc (.map #[] 0))
 have HW : Hid (Below w.heap.size w W ∧ Box W w.heap.size 29 #[.slice a n c, .int .i64 nx] ∧ IM W (w.heap.size + 1) [] (fun _ => 0)) := by (
 refine ⟨by rw [hW]; exact ((Below.refl _ w).alloc (Nat.le_refl _) _).alloc (by simp) _, by rw [hW]; exact (Box.new _ _ _).alloc _, ?_⟩
 have := IM.made (w.alloc (.cells #[.slice a n c, .int .i64 nx] 29))
 rw [World.size_alloc] at this
 rw [hW]; exact this)
 obtain ⟨g0, g1, -, -⟩ := HW.out.2.1.two
 rw [hW] at g0 g1
 have hmm := @run_makeMap Tryz.prog
 clear hA hn hU hno
 go_enter Tryz.func142, Tryz.ntmps142
 go_wp2
 rw [← hW]
 clear hW g0 g1 hmm
 go_loopw [18] (fun i wr => ∃ (k : Nat) (ks : List Int), k ≤ n ∧ i = .int .i64 k ∧ Hid ((∀ p ∈ l.take k, ∀ e ∈ en p, hasn l e.2 = true) ∧ (∀ x ∈ ks, hasn l x = true) ∧ IM wr (w.heap.size + 1) ks (fun x => (cnt (l.take k) x : Int)) ∧ Box wr w.heap.size 29 #[.slice a n c, .int .i64 nx] ∧ Below w.heap.size w wr)) (fun i _ => n - (intOf i).toNat)
 case atStart => exact ⟨0, [], Nat.zero_le _, rfl, fun _ h => (by simp at h), fun _ h => (by cases h), HW.out.2.2, HW.out.2.1, HW.out.1⟩
 case round => (
 obtain ⟨k, ks, hk, rfl, HF⟩ := hrel
 by_cases hlt : k < n
 · obtain ⟨wo, rfl⟩ := exa (wr)
   obtain ⟨p, hp⟩ := get_lt (l := l) (k := k) (by rw [← HN.out.1]; exact hlt)
   have h63 := HN.out.2 p (List.mem_of_getElem? hp)
   obtain ⟨b, o, ea, el, ec, fa, fl, fc, hix, -, hel, -, hall⟩ := HV.out k p hp
   obtain ⟨⟨c0, c1, c2, c3, c4, c5⟩, -⟩ := hall wo HF.out.2.2.2.2
   have HAE : Hid (∀ X, Below w.heap.size w X → ArgE n0 X (.slice ea el ec) (en p)) := fun X hX => (hall X hX).2.1
   have hki : (k : Int) < (n : Int) := by omega
   obtain ⟨p1, p2, p3, p4, p5, p6⟩ := p
   replace HAE : Hid (∀ X, Below w.heap.size w X → ArgE n0 X (.slice ea el ec) p4) := HAE
   simp only at c0 c1 c2 c3 c4 c5
   replace hel : el = p4.length := hel
   replace h63 : p4.length ≤ 63 := h63
   have hel63 : el ≤ 63 := by omega
   obtain ⟨V, hV⟩ := exa (wo.alloc (.cells #[.int .i64 p1, .bool p2, .int .i64 p3, .slice ea el ec, .int .i64 p5, .slice fa fl fc] 47))
   have hbV : Below wo.heap.size wo V := by rw [hV]; exact (Below.refl _ wo).alloc (Nat.le_refl _) _
   have HVV : Hid (IM V (w.heap.size + 1) ks (fun x => (cnt (l.take k) x : Int)) ∧ Box V w.heap.size 29 #[.slice a n c, .int .i64 nx] ∧ Below w.heap.size w V) :=
     ⟨HF.out.2.2.1.below hbV, HF.out.2.2.2.1.below hbV HF.out.2.2.2.1.lt, below_any HF.out.2.2.2.2 hbV⟩
   have HP : Hid (l[k]? = some (p1, p2, p3, p4, p5, p6) ∧ el = p4.length ∧ p4.length ≤ 63) := ⟨hp, hel, h63⟩
   have HBD : Hid (∀ x, cnt (l.take k) x ≤ 8064) := fun x => by (
 have h1 := cnt_le (l := l.take k) (fun q hq => HN.out.2 q (List.mem_of_mem_take hq)) x
 rw [List.length_take] at h1
 omega)
   have hl2 := run_len Tryz.underlying42 ea el ec
   clear hp hbV h63 hel hall
   go_wp2
   rw [← hV]
   clear hV c0 c1 c2 c3 c4 c5 hix
   go_loopw [25] (fun i wr => ∃ (j : Nat) (ks : List Int), j ≤ el ∧ i = .int .i64 j ∧ Hid ((∀ e ∈ p4.take j, hasn l e.2 = true) ∧ (∀ x ∈ ks, hasn l x = true) ∧ IM wr (w.heap.size + 1) ks (fun x => ((cnt (l.take k) x + cP (p4.take j) x : Nat) : Int)) ∧ Box wr w.heap.size 29 #[.slice a n c, .int .i64 nx] ∧ Below w.heap.size w wr)) (fun i _ => el - (intOf i).toNat)
   case atStart => exact ⟨0, ks, Nat.zero_le _, rfl, fun _ h => (by simp at h), HF.out.2.1, HVV.out.1, HVV.out.2.1, HVV.out.2.2⟩
   case round => (
 obtain ⟨j, kt, hj, rfl, HJ⟩ := hrel
 by_cases hjt : j < el
 · obtain ⟨e, he⟩ := get_lt (l := p4) (k := j) (by rw [← HP.out.2.1]; exact hjt)
   have hA := HAE.out wr HJ.out.2.2.2.2
   obtain ⟨bb, oo, hix, -, d0, d1⟩ := hA.atN j e he
   have hok := (hA.2.get he).2
   have hji : (j : Int) < (el : Int) := by omega
   obtain ⟨s, x⟩ := e
   simp only at d0 d1 hok
   have HE : Hid (p4[j]? = some (s, x) ∧ I64 x) := ⟨he, hok⟩
   obtain ⟨X, hX⟩ := exa (wr.alloc (.cells #[.string s, .int .i64 x] 49))
   have hbX : Below wr.heap.size wr X := by rw [hX]; exact (Below.refl _ wr).alloc (Nat.le_refl _) _
   have hbwX : Below w.heap.size w X := below_any HJ.out.2.2.2.2 hbX
   have hBX : Box X wr.heap.size 49 #[.string s, .int .i64 x] := by rw [hX]; exact Box.new _ _ _
   have HX : Hid (IM X (w.heap.size + 1) kt (fun x => ((cnt (l.take k) x + cP (p4.take j) x : Nat) : Int)) ∧ Box X w.heap.size 29 #[.slice a n c, .int .i64 nx] ∧ Below w.heap.size w X ∧ Box X wr.heap.size 49 #[.string s, .int .i64 x]) :=
     ⟨HJ.out.2.2.1.below hbX, HJ.out.2.2.2.1.below hbX HJ.out.2.2.2.1.lt, hbwX, hBX⟩
   have HC := HPL.out x X hbwX
   obtain ⟨g0, g1, -, -⟩ := HX.out.2.1.two
   obtain ⟨q0, q1, -, -⟩ := hBX.two
   rw [hX] at g0 g1 q0 q1
   clear he hA hok hbX hbwX hBX
   cases hh : hasn l x
   · rw [hh] at HC
     have HO : Hid (¬ LinksOk l) := fun h => by (
 have := h.1 _ (List.mem_of_getElem? HP.out.1) _ (List.mem_of_getElem? HE.out.1)
 simp only at this
 rw [hh] at this
 cases this)
     clear hh
     go_wp2_with fail
     rw [← hX]
     clear hX g0 g1 q0 q1
     refine HC.mono ?_
     rintro e w1 ⟨rfl, hb1⟩
     go_wp2
     go_ret
     exact ⟨says_no HO.out, below_any HX.out.2.2.1 hb1⟩
   · rw [hh] at HC
     have HH : Hid (hasn l x = true) := hh
     clear hh
     go_wp2_with fail
     rw [← hX]
     clear hX g0 g1 q0 q1
     refine HC.mono ?_
     rintro e w1 ⟨rfl, hb1⟩
     have hI1 := HX.out.1.below hb1
     obtain ⟨q0, q1, -, -⟩ := (HX.out.2.2.2.below hb1 HX.out.2.2.2.lt).two
     obtain ⟨hlk, -⟩ := hI1.look HE.out.2
     obtain ⟨m, hm⟩ : ∃ m : Nat, m = cnt (l.take k) x + cP (p4.take j) x := ⟨_, rfl⟩
     rw [← hm] at hlk
     have hmb : m ≤ 10000 := by (
 have h1 := HBD.out x
 have h2 := cP_le (p4.take j) x
 rw [List.length_take] at h2
 have h3 := HP.out.2.2
 omega)
     have hkl := keys_le hI1.nodup HJ.out.2.1
     obtain ⟨w2, hup, hI2, hg2⟩ := hI1.put HE.out.2 (x := (m : Int) + 1) (by unfold I64; omega) (by have := HN.out.1; omega)
     have HS : Hid ((∀ y ∈ (if x ∈ kt then kt else kt ++ [x]), hasn l y = true) ∧ IM w2 (w.heap.size + 1) (if x ∈ kt then kt else kt ++ [x]) (fun y => ((cnt (l.take k) y + cP (p4.take (j + 1)) y : Nat) : Int)) ∧ Box w2 w.heap.size 29 #[.slice a n c, .int .i64 nx] ∧ Below w.heap.size w w2 ∧ ∀ e ∈ p4.take (j + 1), hasn l e.2 = true) := by (
 refine ⟨fun y hy => ?_, ?_, ?_, ?_, fun e he => ?_⟩
 · by_cases hm : x ∈ kt
   · rw [if_pos hm] at hy; exact HJ.out.2.1 y hy
   · rw [if_neg hm] at hy
     rcases List.mem_append.1 hy with h | h
     · exact HJ.out.2.1 y h
     · rw [List.mem_singleton.1 h]; exact HH.out
 · have e1 : (fun y => ((cnt (l.take k) y + cP (p4.take (j + 1)) y : Nat) : Int)) = updI (fun y => ((cnt (l.take k) y + cP (p4.take j) y : Nat) : Int)) x ((m : Int) + 1) := by
     funext y
     unfold updI
     rw [take_snoc HE.out.1, cP_snoc]
     by_cases e : y = x
     · subst e
       rw [if_pos rfl, if_pos rfl, hm]
       omega
     · rw [if_neg e, if_neg (fun c => e c.symm)]
       rfl
   rw [e1]; exact hI2
 · exact IM.box (HX.out.2.1.below hb1 HX.out.2.1.lt) hg2 (by omega)
 · exact (below_any HX.out.2.2.1 hb1).grown hg2 (Nat.le_trans (Nat.le_refl _) (below_any HX.out.2.2.1 hb1).size) (fun z hz => by cases hz; omega)
 · rw [take_snoc HE.out.1] at he
   rcases List.mem_append.1 he with h | h
   · exact HJ.out.1 e h
   · rw [List.mem_singleton.1 h]; exact HH.out)
     clear hI1 hI2 hg2 hm hkl
     go_wp2
     go_roundw
     case rel => exact ⟨j + 1, _, by omega, by go_num, HS.out.2.2.2.2, HS.out.1, HS.out.2.1, HS.out.2.2.1, HS.out.2.2.2.1⟩
     case measure => simp [intOf]; omega
 · obtain rfl : j = el := by omega
   have HS : Hid ((∀ p ∈ l.take (k + 1), ∀ e ∈ en p, hasn l e.2 = true) ∧ IM wr (w.heap.size + 1) kt (fun x => (cnt (l.take (k + 1)) x : Int))) := by (
 have hp4 : p4.take j = p4 := List.take_of_length_le (by rw [HP.out.2.1]; exact Nat.le_refl _)
 refine ⟨fun p hp e he => ?_, ?_⟩
 · rw [take_snoc HP.out.1] at hp
   rcases List.mem_append.1 hp with h | h
   · exact HF.out.1 p h e he
   · rw [List.mem_singleton.1 h] at he
     exact HJ.out.1 e (by rw [hp4]; exact he)
 · have h1 := HJ.out.2.2.1
   rw [hp4] at h1
   have e1 : (fun x => (cnt (l.take (k + 1)) x : Int)) = fun x => ((cnt (l.take k) x + cP p4 x : Nat) : Int) := by (
 funext x
 rw [take_snoc HP.out.1, cnt_snoc])
   rw [e1]; exact h1)
   go_wp2
   go_roundw
   case rel => exact ⟨k + 1, kt, by omega, by go_num, HS.out.1, HJ.out.2.1, HS.out.2, HJ.out.2.2.2.1, HJ.out.2.2.2.2⟩
   case measure => simp [intOf]; omega)
 · obtain rfl : k = n := by omega
   have hfull : l.take k = l := List.take_of_length_le (by rw [HN.out.1]; exact Nat.le_refl _)
   have HT : Hid ((∀ p ∈ l, ∀ e ∈ en p, hasn l e.2 = true) ∧ IM wr (w.heap.size + 1) ks (fun x => (cnt l x : Int)) ∧ Box wr w.heap.size 29 #[.slice a k c, .int .i64 nx] ∧ Below w.heap.size w wr) := by (
 have h1 := HF.out
 rw [hfull] at h1
 exact ⟨h1.1, h1.2.2.1, h1.2.2.2.1, h1.2.2.2.2⟩)
   obtain ⟨g0, g1, -, -⟩ := HT.out.2.2.1.two
   clear hfull HF
   obtain ⟨wo, rfl⟩ := exa (wr)
   go_wp2
   clear g0 g1
   go_loopw [49] (fun i wr => ∃ (j : Nat), j ≤ k ∧ i = .int .i64 j ∧ Hid ((∀ p ∈ l.take j, LinkOk l p) ∧ Below wo.heap.size wo wr)) (fun i _ => k - (intOf i).toNat)
   case atStart => exact ⟨0, Nat.zero_le _, rfl, fun _ h => (by simp at h), Below.refl _ _⟩
   case round => (
 obtain ⟨j, hj, rfl, HJ⟩ := hrel
 by_cases hjt : j < k
 · obtain ⟨p, hp⟩ := get_lt (l := l) (k := j) (by rw [← HN.out.1]; exact hjt)
   obtain ⟨b, o, ea, el, ec, fa, fl, fc, hix, -, -, -, hall⟩ := HV.out j p hp
   obtain ⟨⟨c0, c1, c2, c3, c4, c5⟩, hL⟩ := hall wr (below_any HT.out.2.2.2 HJ.out.2)
   have hki : (j : Int) < (k : Int) := by omega
   have hbd := cnt_le HN.out.2 p.1
   have hpI := hL.2.2.1
   have HP : Hid (l[j]? = some p) := hp
   have ML := mayLink_any p.1 p.2.1 p.2.2.1 p.2.2.2.1 p.2.2.2.2.1 p.2.2.2.2.2 ea el ec fa fl fc
   obtain ⟨lo, hlo⟩ := exa (least p)
   obtain ⟨mo, hmo⟩ := exa (most p)
   obtain ⟨cn, hcn⟩ := exa (cnt l p.1)
   have HLO : Hid (LinkOk l p ↔ p.2.2.1 = (cn : Int) ∧ lo ≤ p.2.2.1 ∧ p.2.2.1 ≤ mo) := by rw [hlo, hmo, hcn]; exact Iff.rfl
   have HG : Hid (∀ q ∈ l.take (j + 1), q ∈ l.take j ∨ q = p) := fun q hq => by (
 rw [take_snoc hp] at hq
 rcases List.mem_append.1 hq with h | h
 · exact .inl h
 · exact .inr (List.mem_singleton.1 h))
   rw [show (least (p.1, p.2.1, p.2.2.1, p.2.2.2.1, p.2.2.2.2.1, p.2.2.2.2.2)) = lo from hlo.symm, show (most (p.1, p.2.1, p.2.2.1, p.2.2.2.1, p.2.2.2.2.1, p.2.2.2.2.2)) = mo from hmo.symm] at ML
   rw [← hcn] at hbd
   have HLK : Hid (∀ V, Below wo.heap.size wo V → (Instr.lookup 285 (.map (some (w.heap.size + 1))) (.int .i64 p.1) false).run Tryz.prog V = .ok (.int .i64 (cn : Int)) V) := fun V hV => by (
 have := ((HT.out.2.1.below hV).look hpI).1
 rw [hcn]; exact this)
   obtain ⟨X, hX⟩ := exa (wr.alloc (.cells #[.int .i64 p.1, .bool p.2.1, .int .i64 p.2.2.1, .slice ea el ec, .int .i64 p.2.2.2.2.1, .slice fa fl fc] 47))
   have hbX : Below wr.heap.size wr X := by rw [hX]; exact (Below.refl _ wr).alloc (Nat.le_refl _) _
   have hBX : Box X wr.heap.size 47 #[.int .i64 p.1, .bool p.2.1, .int .i64 p.2.2.1, .slice ea el ec, .int .i64 p.2.2.2.2.1, .slice fa fl fc] := by rw [hX]; exact Box.new _ _ _
   have HX : Hid (Below wo.heap.size wo X ∧ Box X wr.heap.size 47 #[.int .i64 p.1, .bool p.2.1, .int .i64 p.2.2.1, .slice ea el ec, .int .i64 p.2.2.2.2.1, .slice fa fl fc]) := ⟨below_any HJ.out.2 hbX, hBX⟩
   obtain ⟨q0, q1, q2, q3, q4, q5⟩ := hBX.six
   rw [hX] at q0 q1 q2 q3 q4 q5
   replace ML := ML X
   have HM : Hid (p ∈ l) := List.mem_of_getElem? hp
   clear hp hall hL hpI hlo hmo hcn hbX hBX
   obtain ⟨p1, p2, p3, p4, p5, p6⟩ := p
   simp only at c0 c1 c2 c3 c4 c5 q0 q1 q2 q3 q4 q5 ML HLO HLK HX hX hbd
   by_cases t1 : p3 = (cn : Int)
   · subst t1
     by_cases t2 : (cn : Int) < lo
     · have HO : Hid (¬ LinksOk l) := fun h => by have := (HLO.out.1 (h.2 _ HM.out)).2.1; omega
       go_wp2_with fail
       rw [← hX]
       clear hX q0 q1 q2 q3 q4 q5
       refine ML.mono ?_
       rintro e w1 ⟨rfl, hb1⟩
       obtain ⟨q0, q1, q2, q3, q4, q5⟩ := (HX.out.2.below hb1 HX.out.2.lt).six
       have hlk := HLK.out w1 (below_any HX.out.1 hb1)
       go_wp2
       go_ret
       exact ⟨says_no HO.out, below_any HT.out.2.2.2 (below_any HX.out.1 hb1)⟩
     · by_cases t3 : mo < (cn : Int)
       · have HO : Hid (¬ LinksOk l) := fun h => by have := (HLO.out.1 (h.2 _ HM.out)).2.2; omega
         go_wp2_with fail
         rw [← hX]
         clear hX q0 q1 q2 q3 q4 q5
         refine ML.mono ?_
         rintro e w1 ⟨rfl, hb1⟩
         obtain ⟨q0, q1, q2, q3, q4, q5⟩ := (HX.out.2.below hb1 HX.out.2.lt).six
         have hlk := HLK.out w1 (below_any HX.out.1 hb1)
         go_wp2
         go_ret
         exact ⟨says_no HO.out, below_any HT.out.2.2.2 (below_any HX.out.1 hb1)⟩
       · have HO : Hid (LinkOk l (p1, p2, (cn : Int), p4, p5, p6)) := HLO.out.2 ⟨rfl, by omega, by omega⟩
         go_wp2_with fail
         rw [← hX]
         clear hX q0 q1 q2 q3 q4 q5
         refine ML.mono ?_
         rintro e w1 ⟨rfl, hb1⟩
         obtain ⟨q0, q1, q2, q3, q4, q5⟩ := (HX.out.2.below hb1 HX.out.2.lt).six
         have hlk := HLK.out w1 (below_any HX.out.1 hb1)
         go_wp2
         go_roundw
         case rel => exact ⟨j + 1, by omega, by go_num, fun q hq => (HG.out q hq).elim (HJ.out.1 q) (fun e => by rw [e]; exact HO.out), below_any HX.out.1 hb1⟩
         case measure => simp [intOf]; omega
   · have HO : Hid (¬ LinksOk l) := fun h => t1 (HLO.out.1 (h.2 _ HM.out)).1
     go_wp2_with fail
     rw [← hX]
     clear hX q0 q1 q2 q3 q4 q5
     refine ML.mono ?_
     rintro e w1 ⟨rfl, hb1⟩
     obtain ⟨q0, q1, q2, q3, q4, q5⟩ := (HX.out.2.below hb1 HX.out.2.lt).six
     have hlk := HLK.out w1 (below_any HX.out.1 hb1)
     go_wp2
     go_ret
     exact ⟨says_no HO.out, below_any HT.out.2.2.2 (below_any HX.out.1 hb1)⟩
 · obtain rfl : j = k := by omega
   have HO : Hid (LinksOk l) := ⟨HT.out.1, fun p hp => HJ.out.1 p (by rw [List.take_of_length_le (by rw [HN.out.1]; exact Nat.le_refl _)]; exact hp)⟩
   go_wp2
   go_ret
   exact ⟨says_yes HO.out, below_any HT.out.2.2.2 HJ.out.2⟩))
end Go.Proofs.YtopcefhncildnaaGreatDoor
namespace Go.Proofs.YtopcefhncildnaaGreatDoor
open Go.RowKit
open D (En ArgE Chk)
def topD (D : Int → Nat) (es : List En) : Nat := es.foldl (fun m e => max m (1 + D e.2)) 0
theorem topD_snoc (D : Int → Nat) (es : List En) (e : En) : topD D (es ++ [e]) = max (topD D es) (1 + D e.2) := by simp [topD]
theorem topD_le {D : Int → Nat} {es : List En} {c : Nat} (h : ∀ e ∈ es, D e.2 ≤ c) : topD D es ≤ c + 1 := by
 unfold topD
 rw [foldmax_le (fun e : En => 1 + D e.2)]
 exact ⟨Nat.zero_le _, fun e he => by have := h e he; omega⟩
theorem below_step (n0 : Nat) (a : Option Addr) (c : Nat) (l : List Nd) (nx : Int) (hU : Ups l) (h128 : l.length ≤ 128) (D : Int → Nat) (i : Nat) (p : Nd) (hp : l[i]? = some p) (h63 : (en p).length ≤ 63) (hD : ∀ e ∈ en p, D e.2 ≤ 1000) (w : World) (hA : ndsN.lies n0 w [.slice a l.length c] l)
   (hrec : ∀ e ∈ en p, ∀ V, ndsN.lies n0 V [.slice a l.length c] l → Calls Tryz.prog 207 #[.agg #[.slice a l.length c, .int .i64 nx], .int .i64 e.2] V fun r w' => r = .returned (.int .i64 (D e.2)) ∧ Below V.heap.size V w') :
   Calls Tryz.prog 207 #[.agg #[.slice a l.length c, .int .i64 nx], .int .i64 p.1] w fun r w' => r = .returned (.int .i64 (topD D (en p))) ∧ Below w.heap.size w w' := by
 obtain ⟨b, o, ea, el, ec, fa, fl, fc, hix, -, hel, -, hall⟩ := nds_all hA i p hp
 obtain ⟨W, hW⟩ := exa (w.alloc (.cells #[.slice a l.length c, .int .i64 nx] 29))
 have hbW : Below w.heap.size w W := by rw [hW]; exact (Below.refl _ w).alloc (Nat.le_refl _) _
 have HW : Hid (Below w.heap.size w W ∧ Box W w.heap.size 29 #[.slice a l.length c, .int .i64 nx]) := ⟨hbW, by rw [hW]; exact Box.new _ _ _⟩
 have HC := node_any n0 _ nx l hU i p hp b o W (ndsN.below hA hbW) (by omega) hix
 have HALL : Hid (∀ V, Below w.heap.size w V → V.cell? ⟨b, o + 3, none⟩ = some (.slice ea el ec) ∧ ArgE n0 V (.slice ea el ec) (en p)) := fun V hV => ⟨(hall V hV).1.2.2.2.1, (hall V hV).2.1⟩
 have HR : Hid (∀ e ∈ en p, ∀ V, Below w.heap.size w V → Calls Tryz.prog 207 #[.agg #[.slice a l.length c, .int .i64 nx], .int .i64 e.2] V fun r w' => r = .returned (.int .i64 (D e.2)) ∧ Below V.heap.size V w') := fun e he V hV => hrec e he V (ndsN.below hA hV)
 have HD : Hid (∀ e ∈ en p, D e.2 ≤ 1000) := hD
 obtain ⟨n, hn⟩ := exa (l.length)
 rw [← hn] at HW HC HR hW ⊢
 obtain ⟨es, hes⟩ := exa (en p)
 rw [← hes] at HALL HR HD hel h63 ⊢
 have HEL : Hid (el = es.length) := hel
 have hel63 : el ≤ 63 := by omega
 obtain ⟨T, hT⟩ := exa (topD D es)
 rw [← hT]
 have HT : Hid (T = topD D es) := hT
 obtain ⟨pi, hpi⟩ := exa (p.1)
 rw [← hpi] at HC ⊢
 have hl2 := run_len Tryz.underlying42 ea el ec
 obtain ⟨g0, g1, -, -⟩ := HW.out.2.two
 rw [hW] at g0 g1
 clear hA hp hD hrec hix hall hbW hn hes hel h63 hT hpi hU h128
 go_enter Tryz.func207, Tryz.ntmps207
 go_wp2_with fail
 rw [← hW]
 clear hW g0 g1
 refine HC.mono ?_
 rintro e w1 ⟨rfl, hb1⟩
 have HB1 : Hid (Below w.heap.size w w1 ∧ Box w1 w.heap.size 29 #[.slice a n c, .int .i64 nx]) := ⟨below_any HW.out.1 hb1, HW.out.2.below hb1 HW.out.2.lt⟩
 have c3 := (HALL.out w1 HB1.out.1).1
 clear hb1 HC
 go_wp2
 clear c3
 go_loopw [5, 15] (fun s i wr => ∃ (j : Nat), j ≤ el ∧ i = .int .i64 j ∧ s = .int .i64 (topD D (es.take j)) ∧ Below w1.heap.size w1 wr) (fun _ i _ => el - (intOf i).toNat)
 case atStart => exact ⟨0, Nat.zero_le _, rfl, rfl, Below.refl _ _⟩
 case round => (
 obtain ⟨j, hj, rfl, rfl, hbel⟩ := hrel
 have HJ : Hid (Below w1.heap.size w1 wr) := hbel
 clear hbel
 by_cases hjt : j < el
 · obtain ⟨e, he⟩ := get_lt (l := es) (k := j) (by rw [← HEL.out]; exact hjt)
   obtain ⟨bb, oo, hix, -, d0, d1⟩ := (HALL.out wr (below_any HB1.out.1 HJ.out)).2.atN j e he
   have hji : (j : Int) < (el : Int) := by omega
   have hm := List.mem_of_getElem? he
   have hDe := HD.out e hm
   obtain ⟨s, x⟩ := e
   simp only at d0 d1 hDe
   have HE : Hid (es[j]? = some (s, x) ∧ (s, x) ∈ es) := ⟨he, hm⟩
   obtain ⟨X, hX⟩ := exa (wr.alloc (.cells #[.string s, .int .i64 x] 49))
   have hbX : Below wr.heap.size wr X := by rw [hX]; exact (Below.refl _ wr).alloc (Nat.le_refl _) _
   have HX : Hid (Below w1.heap.size w1 X) := below_any HJ.out hbX
   have HCR := HR.out (s, x) hm X (below_any HB1.out.1 HX.out)
   obtain ⟨g0, g1, -, -⟩ := (HB1.out.2.below HX.out HB1.out.2.lt).two
   have hBX : Box X wr.heap.size 49 #[.string s, .int .i64 x] := by rw [hX]; exact Box.new _ _ _
   obtain ⟨q0, q1, -, -⟩ := hBX.two
   rw [hX] at g0 g1 q0 q1
   obtain ⟨L, hL⟩ := exa (topD D (es.take j))
   have hLb : L ≤ 1001 := by rw [hL]; exact topD_le fun e he => HD.out e (List.mem_of_mem_take he)
   have HL : Hid (topD D (es.take (j + 1)) = max L (1 + D x)) := by show _ = _; rw [take_snoc he, topD_snoc, hL]
   rw [← hL]
   obtain ⟨d, hd⟩ := exa (D x)
   simp only at HCR
   rw [← hd] at HCR HL hDe
   clear he hm hbX hBX hL hd
   by_cases hmx : L < 1 + d
   · have hmi : (L : Int) < 1 + (d : Int) := by omega
     have HLL : Hid (topD D (es.take (j + 1)) = 1 + d) := by show _ = _; rw [HL.out]; omega
     clear HL
     go_wp2_with fail
     rw [← hX]
     clear hX g0 g1 q0 q1
     refine HCR.mono ?_
     rintro e w2 ⟨rfl, hb2⟩
     go_wp2
     go_roundw
     case rel => exact ⟨j + 1, by omega, by go_num, by rw [HLL.out, show max (L : Int) (1 + (d : Int)) = ((1 + d : Nat) : Int) by omega], below_any HX.out hb2⟩
     case measure => simp [intOf]; omega
   · have hmi : ¬ (L : Int) < 1 + (d : Int) := by omega
     have HLL : Hid (topD D (es.take (j + 1)) = L) := by show _ = _; rw [HL.out]; omega
     clear HL
     go_wp2_with fail
     rw [← hX]
     clear hX g0 g1 q0 q1
     refine HCR.mono ?_
     rintro e w2 ⟨rfl, hb2⟩
     go_wp2
     go_roundw
     case rel => exact ⟨j + 1, by omega, by go_num, by rw [HLL.out, show max (L : Int) (1 + (d : Int)) = (L : Int) by omega], below_any HX.out hb2⟩
     case measure => simp [intOf]; omega
 · obtain rfl : j = el := by omega
   have hT : T = topD D (es.take j) := by rw [HT.out, List.take_of_length_le (by rw [HEL.out]; exact Nat.le_refl _)]
   rw [← hT]
   go_wp2
   go_ret
   exact ⟨rfl, below_any HB1.out.1 HJ.out⟩)
theorem deep_any (n0 : Nat) (a : Option Addr) (c : Nat) (l : List Nd) (nx : Int) (hU : Ups l) (h128 : l.length ≤ 128) (h63 : ∀ p ∈ l, (en p).length ≤ 63) (hnm : ∀ p ∈ l, ∀ e ∈ en p, ∃ m ∈ l, m.1 = e.2) : ∀ (k : Nat) (p : Nd), p ∈ l → Bd l k p.1 → k ≤ 1000 → ∀ w, ndsN.lies n0 w [.slice a l.length c] l →
   Calls Tryz.prog 207 #[.agg #[.slice a l.length c, .int .i64 nx], .int .i64 p.1] w fun r w' => r = .returned (.int .i64 (dpt l k p.1)) ∧ Below w.heap.size w w' := by
 intro k
 induction k with
 | zero => (
 intro p hp hb _ w hA
 obtain ⟨i, hi⟩ := List.getElem?_of_mem hp
 have he : en p = [] := by
   have h1 : kid l p.1 = [] := hb
   rwa [kid_of hU hp] at h1
 have := below_step n0 a c l nx hU h128 (fun _ => 0) i p hi (h63 p hp) (fun _ _ => Nat.zero_le _) w hA (fun e he' => by rw [he] at he'; cases he')
 rw [he] at this
 exact this)
 | succ k ih => (
 intro p hp hb hk w hA
 obtain ⟨i, hi⟩ := List.getElem?_of_mem hp
 have hb' : ∀ e ∈ en p, Bd l k e.2 := fun e he => hb e (by rw [kid_of hU hp]; exact he)
 have := below_step n0 a c l nx hU h128 (dpt l k) i p hi (h63 p hp) (fun e _ => by have := dpt_le (l := l) k e.2; omega) w hA (fun e he V hV => by
   obtain ⟨m, hm, e1⟩ := hnm p hp e he
   rw [← e1]
   exact ih m hm (by rw [e1]; exact hb' e he) (by omega) V hV)
 rw [dpt, kid_of hU hp]
 exact this)
end Go.Proofs.YtopcefhncildnaaGreatDoor
namespace Go.Proofs.YtopcefhncildnaaGreatDoor
open Go.RowKit
open D (En ArgE Chk)
def Met (vs : Int → List Int) (ks : List Int) (i : Int) (es : List En) (ks' : List Int) : Prop := ∀ x, x ∈ ks' ↔ x ∈ ks ∨ x = i ∨ ∃ e ∈ es, x ∈ vs e.2
def Reached (w0 w : World) (b : Nat) (l : List Nd) (ks : List Int) : Prop := Below w0.heap.size w0 w ∧ w0.heap.size ≤ b ∧ (∃ M, IM w b ks M) ∧ ∀ x ∈ ks, hasn l x = true
theorem reach_step (n0 : Nat) (a : Option Addr) (c : Nat) (l : List Nd) (nx : Int) (hU : Ups l) (h128 : l.length ≤ 128) (vs : Int → List Int) (i : Nat) (p : Nd) (hp : l[i]? = some p) (h63 : (en p).length ≤ 63) (w0 w : World) (b : Nat) (ks : List Int) (hA : ndsN.lies n0 w0 [.slice a l.length c] l) (hR : Reached w0 w b l ks)
   (hrec : ∀ e ∈ en p, ∀ V kt, Reached w0 V b l kt → Calls Tryz.prog 206 #[.agg #[.slice a l.length c, .int .i64 nx], .int .i64 e.2, .map (some b)] V fun r w' => r = .returned (.tuple #[]) ∧ (∃ ku, Reached w0 w' b l ku ∧ ∀ x, x ∈ ku ↔ x ∈ kt ∨ x ∈ vs e.2) ∧ V.grownBy w' (some b)) :
   Calls Tryz.prog 206 #[.agg #[.slice a l.length c, .int .i64 nx], .int .i64 p.1, .map (some b)] w fun r w' => r = .returned (.tuple #[]) ∧ (∃ ks', Reached w0 w' b l ks' ∧ Met vs ks p.1 (en p) ks') ∧ w.grownBy w' (some b) := by
 obtain ⟨bb, oo, ea, el, ec, fa, fl, fc, hix, -, hel, -, hall⟩ := nds_all hA i p hp
 obtain ⟨W, hW⟩ := exa (w.alloc (.cells #[.slice a l.length c, .int .i64 nx] 29))
 have hbW : Below w.heap.size w W := by rw [hW]; exact (Below.refl _ w).alloc (Nat.le_refl _) _
 obtain ⟨hR1, hR2, ⟨M, hM⟩, hR4⟩ := hR
 have hpI : I64 p.1 := (hall w hR1).2.2.2.1
 have hMW := hM.below hbW
 obtain ⟨hlk, hmI⟩ := hMW.look hpI
 obtain ⟨m, hm⟩ := exa (M p.1)
 rw [← hm] at hlk hmI
 have hkl := keys_le hM.nodup hR4
 have hwI : I64 (wrap64 (m + 1)) := by unfold I64 wrap64; omega
 obtain ⟨W2, hup, hI2, hg2⟩ := hMW.put hpI hwI (by omega)
 have hlt : b < w.heap.size := hM.lt
 have hBW2 : Box W2 w.heap.size 29 #[.slice a l.length c, .int .i64 nx] := IM.box (by rw [hW]; exact Box.new _ _ _) hg2 (by omega)
 have hgW : w.grownBy W (some b) := ⟨hbW.os, hbW.tape, hbW.output, hbW.size, fun k hk _ => hbW.block k hk⟩
 have hg02 : w.grownBy W2 (some b) := hgW.trans hg2
 have hB02 : Below w0.heap.size w0 W2 := hR1.grown hg02 hR1.size (fun z hz => by cases hz; exact hR2)
 have hR2' : Reached w0 W2 b l (if p.1 ∈ ks then ks else ks ++ [p.1]) := ⟨hB02, hR2, ⟨_, hI2⟩, fun x hx => by
   by_cases hc : p.1 ∈ ks
   · rw [if_pos hc] at hx; exact hR4 x hx
   · rw [if_neg hc] at hx
     rcases List.mem_append.1 hx with h | h
     · exact hR4 x h
     · rw [List.mem_singleton.1 h]; exact hasn_iff.2 ⟨p, List.mem_of_getElem? hp, rfl⟩⟩
 have hmet : ∀ x, x ∈ (if p.1 ∈ ks then ks else ks ++ [p.1]) ↔ x ∈ ks ∨ x = p.1 := fun x => by (
 by_cases hc : p.1 ∈ ks
 · rw [if_pos hc]
   exact ⟨.inl, fun h => h.elim id (fun e => by rw [e]; exact hc)⟩
 · rw [if_neg hc]; simp)
 generalize (if p.1 ∈ ks then ks else ks ++ [p.1]) = ks2 at hR2' hmet hI2
 have HC := node_any n0 _ nx l hU i p hp bb oo W2 (ndsN.below hA hB02) (by omega) hix
 have HALL : Hid (∀ V, Below w0.heap.size w0 V → V.cell? ⟨bb, oo + 3, none⟩ = some (.slice ea el ec) ∧ ArgE n0 V (.slice ea el ec) (en p)) := fun V hV => ⟨(hall V hV).1.2.2.2.1, (hall V hV).2.1⟩
 have HR : Hid (∀ e ∈ en p, ∀ V kt, Reached w0 V b l kt → _) := hrec
 have H2 : Hid (Reached w0 W2 b l ks2 ∧ (∀ x, x ∈ ks2 ↔ x ∈ ks ∨ x = p.1) ∧ w.grownBy W2 (some b) ∧ Box W2 w.heap.size 29 #[.slice a l.length c, .int .i64 nx] ∧ b < w.heap.size) := ⟨hR2', hmet, hg02, hBW2, hlt⟩
 obtain ⟨n, hn⟩ := exa (l.length)
 rw [← hn] at HC HR hW H2 ⊢
 obtain ⟨es, hes⟩ := exa (en p)
 rw [← hes] at HALL HR hel h63 ⊢
 have HEL : Hid (el = es.length) := hel
 have hel63 : el ≤ 63 := by omega
 obtain ⟨pi, hpi⟩ := exa (p.1)
 rw [← hpi] at HC hlk hup H2 ⊢
 have hl2 := run_len Tryz.underlying42 ea el ec
 rw [hW] at hlk hup
 clear hA hp hrec hix hall hbW hn hes hel h63 hpi hU h128 hR1 hR2 hM hR4 hMW hm hkl hI2 hg2 hgW hg02 hB02 hR2' hmet hBW2 hpI hlt hW
 obtain ⟨g0, g1, -, -⟩ := H2.out.2.2.2.1.two
 go_enter Tryz.func206, Tryz.ntmps206
 go_wp2_with fail
 clear hlk hup g0 g1
 refine HC.mono ?_
 rintro e w1 ⟨rfl, hb1⟩
 have H3 : Hid (Reached w0 w1 b l ks2 ∧ w.grownBy w1 (some b) ∧ Box w1 w.heap.size 29 #[.slice a n c, .int .i64 nx]) := by
   obtain ⟨⟨r1, r2, ⟨M', r3⟩, r4⟩, _, hg, hB, _⟩ := H2.out
   exact ⟨⟨below_any r1 hb1, r2, ⟨M', r3.below hb1⟩, r4⟩, hg.trans ⟨hb1.os, hb1.tape, hb1.output, hb1.size, fun k hk _ => hb1.block k hk⟩, hB.below hb1 hB.lt⟩
 have c3 := (HALL.out w1 H3.out.1.1).1
 clear hb1 HC
 go_wp2
 clear c3
 go_loopw [19] (fun i wr => ∃ (j : Nat) (kt : List Int), j ≤ el ∧ i = .int .i64 j ∧ Hid (Reached w0 wr b l kt ∧ Met vs ks pi (es.take j) kt ∧ w.grownBy wr (some b) ∧ Box wr w.heap.size 29 #[.slice a n c, .int .i64 nx])) (fun i _ => el - (intOf i).toNat)
 case atStart => (
 refine ⟨0, ks2, Nat.zero_le _, rfl, H3.out.1, fun x => ?_, H3.out.2.1, H3.out.2.2⟩
 rw [H2.out.2.1 x]
 simp)
 case round => (
 obtain ⟨j, kt, hj, rfl, HJ⟩ := hrel
 by_cases hjt : j < el
 · obtain ⟨e, he⟩ := get_lt (l := es) (k := j) (by rw [← HEL.out]; exact hjt)
   obtain ⟨be, oe, hix, -, d0, d1⟩ := (HALL.out wr HJ.out.1.1).2.atN j e he
   have hji : (j : Int) < (el : Int) := by omega
   have hm := List.mem_of_getElem? he
   obtain ⟨s, x⟩ := e
   simp only at d0 d1
   have HE : Hid (es[j]? = some (s, x)) := he
   obtain ⟨X, hX⟩ := exa (wr.alloc (.cells #[.string s, .int .i64 x] 49))
   have hbX : Below wr.heap.size wr X := by rw [hX]; exact (Below.refl _ wr).alloc (Nat.le_refl _) _
   have hgX : wr.grownBy X (some b) := ⟨hbX.os, hbX.tape, hbX.output, hbX.size, fun k hk _ => hbX.block k hk⟩
   have hRX : Reached w0 X b l kt := by (
 obtain ⟨r1, r2, ⟨M', r3⟩, r4⟩ := HJ.out.1
 exact ⟨below_any r1 hbX, r2, ⟨M', r3.below hbX⟩, r4⟩)
   have hBX1 : Box X w.heap.size 29 #[.slice a n c, .int .i64 nx] := HJ.out.2.2.2.below hbX HJ.out.2.2.2.lt
   have HX : Hid (w.grownBy X (some b) ∧ Box X w.heap.size 29 #[.slice a n c, .int .i64 nx]) := ⟨HJ.out.2.2.1.trans hgX, hBX1⟩
   have HCR := HR.out (s, x) hm X kt hRX
   obtain ⟨g0, g1, -, -⟩ := hBX1.two
   have hBX : Box X wr.heap.size 49 #[.string s, .int .i64 x] := by rw [hX]; exact Box.new _ _ _
   obtain ⟨q0, q1, -, -⟩ := hBX.two
   rw [hX] at g0 g1 q0 q1
   simp only at HCR
   clear he hm hbX hBX hgX hRX hBX1
   go_wp2_with fail
   rw [← hX]
   clear hX g0 g1 q0 q1
   refine HCR.mono ?_
   rintro e w2 ⟨rfl, ⟨ku, hku, hin⟩, hg2⟩
   have HS : Hid (Reached w0 w2 b l ku ∧ Met vs ks pi (es.take (j + 1)) ku ∧ w.grownBy w2 (some b) ∧ Box w2 w.heap.size 29 #[.slice a n c, .int .i64 nx]) := by (
 refine ⟨hku, fun y => ?_, HX.out.1.trans hg2, IM.box HX.out.2 hg2 (by have := H2.out.2.2.2.2; omega)⟩
 rw [hin y, HJ.out.2.1 y, take_snoc HE.out]
 constructor
 · rintro ((h | h | ⟨e, he, h⟩) | h)
   · exact .inl h
   · exact .inr (.inl h)
   · exact .inr (.inr ⟨e, List.mem_append_left _ he, h⟩)
   · exact .inr (.inr ⟨(s, x), List.mem_append_right _ (List.mem_singleton.2 rfl), h⟩)
 · rintro (h | h | ⟨e, he, h⟩)
   · exact .inl (.inl h)
   · exact .inl (.inr (.inl h))
   · rcases List.mem_append.1 he with he | he
     · exact .inl (.inr (.inr ⟨e, he, h⟩))
     · rw [List.mem_singleton.1 he] at h; exact .inr h)
   clear hku hin hg2
   go_wp2
   go_roundw
   case rel => exact ⟨j + 1, ku, by omega, by go_num, HS.out⟩
   case measure => simp [intOf]; omega
 · obtain rfl : j = el := by omega
   have HS : Hid (∃ ks', Reached w0 wr b l ks' ∧ Met vs ks pi es ks') := ⟨kt, HJ.out.1, by
     have := HJ.out.2.1
     rw [List.take_of_length_le (by rw [HEL.out]; exact Nat.le_refl _)] at this
     exact this⟩
   go_wp2
   go_end0
   exact ⟨rfl, HS.out, HJ.out.2.2.1⟩)
theorem reach_any (n0 : Nat) (a : Option Addr) (c : Nat) (l : List Nd) (nx : Int) (hU : Ups l) (h128 : l.length ≤ 128) (h63 : ∀ p ∈ l, (en p).length ≤ 63) (hnm : ∀ p ∈ l, ∀ e ∈ en p, ∃ m ∈ l, m.1 = e.2) (w0 : World) (b : Nat) (hA : ndsN.lies n0 w0 [.slice a l.length c] l) : ∀ (k : Nat) (p : Nd), p ∈ l → Bd l k p.1 → ∀ w ks, Reached w0 w b l ks →
   Calls Tryz.prog 206 #[.agg #[.slice a l.length c, .int .i64 nx], .int .i64 p.1, .map (some b)] w fun r w' => r = .returned (.tuple #[]) ∧ (∃ ks', Reached w0 w' b l ks' ∧ ∀ x, x ∈ ks' ↔ x ∈ ks ∨ x ∈ vis l k p.1) ∧ w.grownBy w' (some b) := by
 intro k
 induction k with
 | zero => (
 intro p hp hb w ks hR
 obtain ⟨i, hi⟩ := List.getElem?_of_mem hp
 have he : en p = [] := by
   have h1 : kid l p.1 = [] := hb
   rwa [kid_of hU hp] at h1
 refine (reach_step n0 a c l nx hU h128 (fun _ => []) i p hi (h63 p hp) w0 w b ks hA hR (fun e he' => by rw [he] at he'; cases he')).mono ?_
 rintro r w' ⟨h1, ⟨ks', h2, h3⟩, h4⟩
 refine ⟨h1, ⟨ks', h2, fun x => ?_⟩, h4⟩
 rw [h3 x, he]
 simp [vis])
 | succ k ih => (
 intro p hp hb w ks hR
 obtain ⟨i, hi⟩ := List.getElem?_of_mem hp
 have hb' : ∀ e ∈ en p, Bd l k e.2 := fun e he => hb e (by rw [kid_of hU hp]; exact he)
 refine (reach_step n0 a c l nx hU h128 (vis l k) i p hi (h63 p hp) w0 w b ks hA hR (fun e he V kt hV => ?_)).mono ?_
 · obtain ⟨m, hm, e1⟩ := hnm p hp e he
   rw [← e1]
   exact ih m hm (by rw [e1]; exact hb' e he) V kt hV
 · rintro r w' ⟨h1, ⟨ks', h2, h3⟩, h4⟩
   refine ⟨h1, ⟨ks', h2, fun x => ?_⟩, h4⟩
   rw [h3 x]
   simp only [vis, List.mem_cons, List.mem_flatMap, kid_of hU hp])
theorem all_keys {l : List Nd} (hU : Ups l) {ks : List Int} (hn : ks.Nodup) (hs : ∀ k ∈ ks, hasn l k = true) : ks.length = l.length ↔ ∀ p ∈ l, p.1 ∈ ks := by
 have hsub : ∀ k ∈ ks, k ∈ l.map (·.1) := fun k hk => by
   obtain ⟨n, hn, e⟩ := hasn_iff.1 (hs k hk)
   exact List.mem_map.2 ⟨n, hn, e⟩
 constructor
 · intro he p hp
   apply Classical.byContradiction
   intro hc
   have h1 := nodup_le (l := p.1 :: ks) (m := l.map (·.1)) (List.nodup_cons.2 ⟨hc, hn⟩) (fun x hx => by
     rcases List.mem_cons.1 hx with rfl | hx
     · exact List.mem_map.2 ⟨p, hp, rfl⟩
     · exact hsub x hx)
   rw [List.length_cons, List.length_map] at h1
   omega
 · intro h
   have h1 := nodup_le (m := l.map (·.1)) hn hsub
   have h2 := nodup_le (l := l.map (·.1)) (m := ks) (by
     rw [List.nodup_iff_pairwise_ne]
     exact (ups_map.1 hU).imp fun h => by omega) (fun x hx => by
     obtain ⟨p, hp, rfl⟩ := List.mem_map.1 hx
     exact h p hp)
   rw [List.length_map] at h1 h2
   omega
def WaysOk (l : List Nd) : Prop := Bd l 8 1 ∧ ∀ n ∈ l, n.1 ∈ vis l 8 1
theorem ways_any (n0 : Nat) (a : Option Addr) (c : Nat) (s : St) (w : World) (hA : ndsN.lies n0 w [.slice a s.1.length c] s.1) (hP : Pre s) :
   Calls Tryz.prog 143 #[.agg #[.slice a s.1.length c, .int .i64 s.2]] w fun e w' => Says e (WaysOk s.1) ∧ Below w.heap.size w w' := by
 have h63 : ∀ p ∈ s.1, (en p).length ≤ 63 := fun p hp => by (
 cases hd : isD p
 · rw [(hP.files p hp hd).1]; simp
 · exact (hP.dirs p hp hd).1.1)
 obtain ⟨t, ht, ht1, _⟩ := hP.top
 have hends := hP.ends
 have HRE : Hid (∀ w0 b, ndsN.lies n0 w0 [.slice a s.1.length c] s.1 → ∀ w ks, Reached w0 w b s.1 ks → Calls Tryz.prog 206 #[.agg #[.slice a s.1.length c, .int .i64 s.2], .int .i64 1, .map (some b)] w fun r w' => r = .returned (.tuple #[]) ∧ (∃ ks', Reached w0 w' b s.1 ks' ∧ ∀ x, x ∈ ks' ↔ x ∈ ks ∨ x ∈ vis s.1 128 1) ∧ w.grownBy w' (some b)) := fun w0 b h w ks hR => by
   have := reach_any n0 a c s.1 s.2 hP.up hP.len h63 hP.names w0 b h 128 t ht (by rw [ht1]; exact hends) w ks hR
   rwa [ht1] at this
 have HBE : Hid (∀ V, Below w.heap.size w V → Calls Tryz.prog 207 #[.agg #[.slice a s.1.length c, .int .i64 s.2], .int .i64 1] V fun r w' => r = .returned (.int .i64 (dpt s.1 128 1)) ∧ Below V.heap.size V w') := fun V hV => by
   have := deep_any n0 a c s.1 s.2 hP.up hP.len h63 hP.names 128 t ht (by rw [ht1]; exact hends) (by omega) V (ndsN.below hA hV)
   rwa [ht1] at this
 have HQ : Hid (Ups s.1 ∧ (dpt s.1 128 1 ≤ 8 ↔ Bd s.1 8 1) ∧ (Bd s.1 8 1 → ∀ x, x ∈ vis s.1 128 1 ↔ x ∈ vis s.1 8 1)) := by (
 refine ⟨hP.up, ⟨fun h => (bd_iff 8 1).2 (Nat.le_trans (dpt_mono (by omega)) h), fun h => ?_⟩, fun h x => vis_same h (by omega)⟩
 rw [dpt_same h (by omega : 8 ≤ 128)]
 exact dpt_le 8 1)
 have hdb := dpt_le (l := s.1) 128 1
 obtain ⟨l, nx⟩ := s
 simp only at hA HRE HBE HQ hdb ⊢
 obtain ⟨W, hW⟩ := exa ((w.alloc (.cells #[.slice a l.length c, .int .i64 nx] 29)).alloc (.map #[] 0))
 have HW : Hid (Below w.heap.size w W ∧ Box W w.heap.size 29 #[.slice a l.length c, .int .i64 nx] ∧ Reached w W (w.heap.size + 1) l []) := by (
 have h1 : Below w.heap.size w W := by rw [hW]; exact ((Below.refl _ w).alloc (Nat.le_refl _) _).alloc (by simp) _
 refine ⟨h1, by rw [hW]; exact (Box.new _ _ _).alloc _, h1, by omega, ⟨fun _ => 0, ?_⟩, fun _ h => by cases h⟩
 have := IM.made (w.alloc (.cells #[.slice a l.length c, .int .i64 nx] 29))
 rw [World.size_alloc] at this
 rw [hW]; exact this)
 have HC := HRE.out w (w.heap.size + 1) hA W [] HW.out.2.2
 obtain ⟨g0, g1, -, -⟩ := HW.out.2.1.two
 rw [hW] at g0 g1
 have hmm := @run_makeMap Tryz.prog
 have hl1 := run_len Tryz.underlying27 a l.length c
 obtain ⟨d, hd⟩ := exa (dpt l 128 1)
 rw [← hd] at HBE HQ hdb
 obtain ⟨n, hn⟩ := exa (l.length)
 have HN : Hid (n = l.length) := hn
 rw [← hn] at HBE HW HC hW hl1 g0 g1 ⊢
 clear hA hP h63 ht ht1 hends hd HRE hn
 go_enter Tryz.func143, Tryz.ntmps143
 go_wp2_with fail
 rw [← hW]
 clear hW g0 g1 hmm
 refine HC.mono ?_
 rintro e w1 ⟨rfl, ⟨ks, hks, hin⟩, hg1⟩
 have hB1 : Below w.heap.size w w1 := hks.1
 obtain ⟨M, hM⟩ := hks.2.2.1
 have hlen := hM.len
 have hbx : Box w1 w.heap.size 29 #[.slice a n c, .int .i64 nx] := IM.box HW.out.2.1 hg1 (by omega)
 obtain ⟨g0, g1, -, -⟩ := hbx.two
 have hall := all_keys HQ.out.1 hM.nodup hks.2.2.2
 obtain ⟨m, hm⟩ := exa (ks.length)
 rw [← hm] at hlen
 have HA : Hid ((m = n ↔ ∀ p ∈ l, p.1 ∈ vis l 128 1) ∧ Below w.heap.size w w1) := by (
 refine ⟨?_, hB1⟩
 rw [hm, HN.out, hall]
 exact ⟨fun h p hp => ((hin p.1).1 (h p hp)).elim (fun c => by cases c) id, fun h p hp => (hin p.1).2 (.inr (h p hp))⟩)
 have HCB := HBE.out w1 hB1
 clear hks hin hg1 hM hbx hall hm hB1 HC
 by_cases hmn : m = n
 · subst hmn
   go_wp2_with fail
   refine HCB.mono ?_
   rintro e w2 ⟨rfl, hb2⟩
   have HS : Hid ((decide ((d : Int) ≤ 8)) = true ↔ WaysOk l) := by (
 show _ ↔ _
 rw [decide_eq_true_eq]
 constructor
 · intro h
   have hb := HQ.out.2.1.1 (by omega)
   exact ⟨hb, fun p hp => (HQ.out.2.2 hb p.1).1 (HA.out.1.1 (by first | rfl | trivial) p hp)⟩
 · intro h
   have := HQ.out.2.1.2 h.1
   omega)
   go_wp2
   go_ret
   exact ⟨says_is HS.out, below_any HA.out.2 hb2⟩
 · have hmi : ¬ (m : Int) = (n : Int) := by omega
   have HS : Hid (¬ WaysOk l) := fun h => hmn (HA.out.1.2 fun p hp => (HQ.out.2.2 h.1 p.1).2 (h.2 p hp))
   go_wp2
   go_ret
   exact ⟨says_no HS.out, HA.out.2⟩
theorem pre_of {s : St} (h1 : NumsOk s) (h2 : ∀ p ∈ s.1, NodeOk p) (h3 : LinksOk s.1) : Pre s := by
 obtain ⟨a, b, c, p, hp, e1, e2⟩ := h1
 have hl : ∀ n ∈ s.1, lk n = (cnt s.1 n.1 : Int) := fun n hn => (h3.2 n hn).1
 have hb : ∀ n ∈ s.1, least n ≤ lk n ∧ lk n ≤ most n := fun n hn => (h3.2 n hn).2
 refine ⟨a, b, c.1, c.2, ⟨p, List.mem_of_getElem? hp, e1, e2⟩, fun n hn hd => (h2 n hn).1 hd, fun n hn hd => (h2 n hn).2 hd, fun n hn e he => hasn_iff.1 (h3.1 n hn e he), hl, fun n hn he => ?_, fun n hn he hd => ?_, fun n hn he hd => ?_⟩
 · have := hb n hn
   unfold least most at this
   rw [if_pos he, if_pos he] at this
   omega
 · have := hb n hn
   unfold least most at this
   rw [if_neg he, if_neg he, if_pos hd] at this
   omega
 · have := hb n hn
   unfold least most at this
   rw [if_neg he, if_neg he, if_neg (by rw [hd]; decide)] at this
   exact this
theorem ok_of {s : St} (h1 : NumsOk s) (h2 : ∀ p ∈ s.1, NodeOk p) (h3 : LinksOk s.1) (h4 : WaysOk s.1) : Ok s := ⟨pre_of h1 h2 h3, (pre_of h1 h2 h3).deep.2 h4⟩
theorem Ok.nums {s : St} (h : Ok s) : NumsOk s := by
 obtain ⟨hP, _⟩ := h
 obtain ⟨t, ht, e1, e2⟩ := hP.top
 refine ⟨hP.nx, hP.len, ⟨hP.up, hP.low⟩, ?_⟩
 obtain ⟨i, hi⟩ := List.getElem?_of_mem ht
 obtain ⟨q, hq⟩ := get_lt (l := s.1) (k := 0) (by have := (List.getElem?_eq_some_iff.1 hi).1; omega)
 have h0 : i = 0 := by (
 rcases Nat.eq_zero_or_pos i with c | c
 · exact c
 · obtain ⟨a1, b1⟩ := List.getElem?_eq_some_iff.1 hq
   obtain ⟨a2, b2⟩ := List.getElem?_eq_some_iff.1 hi
   have := List.pairwise_iff_getElem.1 hP.up _ _ a1 a2 c
   rw [b1, b2] at this
   have := (hP.low q (List.mem_of_getElem? hq)).1
   omega)
 subst h0
 exact ⟨t, hi, e1, e2⟩
theorem Ok.nodes {s : St} (h : Ok s) : ∀ p ∈ s.1, NodeOk p := fun p hp => ⟨h.1.dirs p hp, h.1.files p hp⟩
theorem Ok.links {s : St} (h : Ok s) : LinksOk s.1 := by
 refine ⟨fun p hp e he => hasn_iff.2 (h.1.names p hp e he), fun p hp => ⟨h.1.links p hp, ?_⟩⟩
 unfold least most
 by_cases h1 : p.1 = 1
 · rw [if_pos h1, if_pos h1, h.1.root p hp h1]; omega
 · rw [if_neg h1, if_neg h1]
   cases hd : isD p
   · rw [if_neg (by decide)]; exact h.1.some p hp h1 hd
   · rw [if_pos rfl, h.1.one p hp h1 hd]; omega
theorem Ok.ways {s : St} (h : Ok s) : WaysOk s.1 := h.1.deep.1 h.2
theorem check_any (n0 : Nat) (a : Option Addr) (c : Nat) (s : St) (w : World) (hA : ndsN.lies n0 w [.slice a s.1.length c] s.1) :
   Calls Tryz.prog 72 #[.agg #[.slice a s.1.length c, .int .i64 s.2]] w fun e w' => (∃ r : Int, e = .returned (.int .i64 r) ∧ ((Ok s ∧ r = 0) ∨ (¬ Ok s ∧ r = 9))) ∧ Below w.heap.size w w' := by
 obtain ⟨W, hW⟩ := exa (w.alloc (.cells #[.slice a s.1.length c, .int .i64 s.2] 29))
 have HW : Hid (Below w.heap.size w W ∧ Box W w.heap.size 29 #[.slice a s.1.length c, .int .i64 s.2]) := ⟨by rw [hW]; exact (Below.refl _ w).alloc (Nat.le_refl _) _, by rw [hW]; exact Box.new _ _ _⟩
 have HX : Hid (∀ V, Below W.heap.size W V → V.cell? ⟨w.heap.size, 0, none⟩ = some (.slice a s.1.length c) ∧ V.cell? ⟨w.heap.size, 1, none⟩ = some (.int .i64 s.2) ∧ ndsN.lies n0 V [.slice a s.1.length c] s.1) := fun V hV => by
   obtain ⟨g0, g1, _, _⟩ := (HW.out.2.below hV HW.out.2.lt).two
   exact ⟨g0, g1, ndsN.below hA (below_any HW.out.1 hV)⟩
 have H1 := numbers_any n0 a c s W (ndsN.below hA HW.out.1)
 have H2 : Hid (NumsOk s → ∀ V, Below W.heap.size W V → Calls Tryz.prog 141 #[.agg #[.slice a s.1.length c, .int .i64 s.2]] V fun e w' => Says e (∀ p ∈ s.1, NodeOk p) ∧ Below V.heap.size V w') := fun h V hV => nodes_any n0 a c s.1 s.2 V (HX.out V hV).2.2 (by have := h.2.1; omega)
 have H3 : Hid (NumsOk s → (∀ p ∈ s.1, NodeOk p) → ∀ V, Below W.heap.size W V → Calls Tryz.prog 142 #[.agg #[.slice a s.1.length c, .int .i64 s.2]] V fun e w' => Says e (LinksOk s.1) ∧ Below V.heap.size V w') := fun h h' V hV => links_any n0 a c s.1 s.2 V (HX.out V hV).2.2 h.2.2.1.1 h.2.1 h'
 have H4 : Hid (Pre s → ∀ V, Below W.heap.size W V → Calls Tryz.prog 143 #[.agg #[.slice a s.1.length c, .int .i64 s.2]] V fun e w' => Says e (WaysOk s.1) ∧ Below V.heap.size V w') := fun h V hV => ways_any n0 a c s V (HX.out V hV).2.2 h
 obtain ⟨g0, g1, -⟩ := HX.out W (Below.refl _ _)
 rw [hW] at g0 g1
 obtain ⟨post, hpost⟩ : ∃ post : Ending → Prop, post = fun e => ∃ r : Int, e = .returned (.int .i64 r) ∧ ((Ok s ∧ r = 0) ∨ (¬ Ok s ∧ r = 9)) := ⟨_, rfl⟩
 have HPo : Hid ((Ok s → post (.returned (.int .i64 0))) ∧ (¬ Ok s → post (.returned (.int .i64 9)))) := ⟨fun h => by rw [hpost]; exact ⟨0, rfl, .inl ⟨h, rfl⟩⟩, fun h => by rw [hpost]; exact ⟨9, rfl, .inr ⟨h, rfl⟩⟩⟩
 suffices HH : Calls Tryz.prog 72 #[.agg #[.slice a s.1.length c, .int .i64 s.2]] w fun e w' => post e ∧ Below w.heap.size w w' by
   rw [hpost] at HH; exact HH
 obtain ⟨n, hn⟩ := exa (s.1.length)
 rw [← hn] at HW HX H1 H2 H3 H4 hW g0 g1 ⊢
 obtain ⟨nx, hnx⟩ := exa (s.2)
 rw [← hnx] at HW HX H1 H2 H3 H4 hW g0 g1 ⊢
 clear hA hpost hn hnx
 go_enter Tryz.func72, Tryz.ntmps72
 go_wp2_with fail
 rw [← hW]
 clear hW g0 g1
 refine H1.mono ?_
 rintro e w1 ⟨⟨t, rfl, hiff⟩, hb1⟩
 have HB1 : Hid (Below W.heap.size W w1) := hb1
 clear hb1 H1
 cases t
 · have HO : Hid (¬ Ok s) := fun h => by have := hiff.2 h.nums; cases this
   clear hiff
   go_wp2
   go_ret
   exact ⟨HPo.out.2 HO.out, below_any HW.out.1 HB1.out⟩
 have K1 : Hid (NumsOk s) := hiff.1 rfl
 clear hiff
 obtain ⟨g0, g1, -⟩ := HX.out w1 HB1.out
 have H2' := H2.out K1.out w1 HB1.out
 go_wp2_with fail
 refine H2'.mono ?_
 rintro e w2 ⟨⟨t, rfl, hiff⟩, hb2⟩
 have HB2 : Hid (Below W.heap.size W w2) := below_any HB1.out hb2
 clear hb2 H2' g0 g1
 cases t
 · have HO : Hid (¬ Ok s) := fun h => by have := hiff.2 h.nodes; cases this
   clear hiff
   go_wp2
   go_ret
   exact ⟨HPo.out.2 HO.out, below_any HW.out.1 HB2.out⟩
 have K2 : Hid (∀ p ∈ s.1, NodeOk p) := hiff.1 rfl
 clear hiff
 obtain ⟨g0, g1, -⟩ := HX.out w2 HB2.out
 have H3' := H3.out K1.out K2.out w2 HB2.out
 go_wp2_with fail
 refine H3'.mono ?_
 rintro e w3 ⟨⟨t, rfl, hiff⟩, hb3⟩
 have HB3 : Hid (Below W.heap.size W w3) := below_any HB2.out hb3
 clear hb3 H3' g0 g1
 cases t
 · have HO : Hid (¬ Ok s) := fun h => by have := hiff.2 h.links; cases this
   clear hiff
   go_wp2
   go_ret
   exact ⟨HPo.out.2 HO.out, below_any HW.out.1 HB3.out⟩
 have K3 : Hid (LinksOk s.1) := hiff.1 rfl
 clear hiff
 obtain ⟨g0, g1, -⟩ := HX.out w3 HB3.out
 have H4' := H4.out (pre_of K1.out K2.out K3.out) w3 HB3.out
 go_wp2_with fail
 refine H4'.mono ?_
 rintro e w4 ⟨⟨t, rfl, hiff⟩, hb4⟩
 have HB4 : Hid (Below W.heap.size W w4) := below_any HB3.out hb4
 clear hb4 H4' g0 g1
 cases t
 · have HO : Hid (¬ Ok s) := fun h => by have := hiff.2 h.ways; cases this
   clear hiff
   go_wp2
   go_ret
   exact ⟨HPo.out.2 HO.out, below_any HW.out.1 HB4.out⟩
 · have HO : Hid (Ok s) := ok_of K1.out K2.out K3.out (hiff.1 rfl)
   clear hiff
   go_wp2
   go_ret
   exact ⟨HPo.out.1 HO.out, below_any HW.out.1 HB4.out⟩
end Go.Proofs.YtopcefhncildnaaGreatDoor
