/-
  A text's octets in memory: '[]byte(s)'; octets in the words of records.
  An op as octets: what ops.Encode answers.
  The statements' helper alive of stage 11: the page's example.
  The document's answers: an op checked, and as octets.
-/
import Derived.Test.YtopcefhncildnaaGreatDoorV18
import Derived.Test.YtopcefhncildnaaGreatDoorV44
import Derived.Laws.IdiomStrings
import Derived.Laws.AppendOwn
set_option maxRecDepth 100000
set_option maxHeartbeats 8000000
namespace Go.Proofs.YtopcefhncildnaaGreatDoor.K
open Go.RowKit
def octs (s : ByteArray) : List Int := s.data.toList.map fun b => (b.toNat : Int)
theorem octs_len (s : ByteArray) : (octs s).length = s.size := by
 simp only [octs, List.length_map, Array.length_toList]
 rfl
theorem octs_oc (s : ByteArray) : W.Oc (octs s) := fun x hx => by
 obtain ⟨b, _, rfl⟩ := List.mem_map.1 hx
 have := b.toNat_lt
 omega
theorem cells_box {n0 : Nat} {w : World} {B : Nat} {t : TypeId} {cs : Array Value} {n : Nat} (h : Box w B t cs) (hn : cs.size = n) (hm : n ≤ maxLen) (hb : n0 ≤ B) : Cells n0 w 1 (.slice (some ⟨B, 0, none⟩) n n) n cs.toList :=
 ⟨by simp [hn], .inr ⟨⟨B, 0, none⟩, n, rfl, Nat.le_refl _, hm, hb, fun j u hj => by
   rw [add_plain, Nat.zero_add]
   exact h.cell j (by simpa using hj)⟩⟩
theorem w_arg {n : Nat} {w : World} {v : Value} {l : List Int} (h : Arg n w v l) : W.Arg n w v l := h
theorem arg_w {n : Nat} {w : World} {v : Value} {l : List Int} (h : W.Arg n w v l) : Arg n w v l := h
theorem conv_str (s : ByteArray) (hs : s.size ≤ maxLen) (V : World) (H : Nat) (hH : V.heap.size = H) :
   ∃ cap V', (convert 9 25 (.string s)).run Tryz.prog V = .ok (.slice (some ⟨H, 0, none⟩) s.size cap) V' ∧ Below H V V' ∧ V'.heap.size = H + 1 ∧ W.Arg H V' (.slice (some ⟨H, 0, none⟩) s.size cap) (octs s) := by
 subst hH
 have hr := run_bytes_of_string (P := Tryz.prog) V 9 25 5 s Tryz.underlying9 Tryz.underlying25 Tryz.underlying5
 have hge := grownCap_ge V s.size 0 5
 generalize hcap : grownCap V s.size 0 5 = cap at hr hge
 refine ⟨cap, _, hr, ((Below.refl _ V).drew).alloc (Nat.le_refl _) _, by simp, ?_⟩
 have hnew : (V.drew.alloc (.cells (bytesRow s cap) 5 ((bytesRow s cap).size, (bytesRow s cap).size + 1))).heap[V.heap.size]? = some (.cells (bytesRow s cap) 5 ((bytesRow s cap).size, (bytesRow s cap).size + 1)) := heap_alloc_new V.drew _
 refine W.Arg.mk ?_ (octs_oc s)
 rw [octs_len]
 refine ⟨by simp [octs_len], .inr ⟨⟨V.heap.size, 0, none⟩, cap, rfl, hge, hs, Nat.le_refl _, fun j u hj => ?_⟩⟩
 have hj' : j < s.data.size := by
   have := (List.getElem?_eq_some_iff.1 hj).1
   simpa [octs] using this
 have hc := bytesRow_at s cap j hj'
 have hu : u = .int .u8 (s.data[j].toNat : Int) := by (
 have h1 : ((octs s).map (Value.int .u8))[j]? = some (.int .u8 (s.data[j].toNat : Int)) := by
   simp only [octs, List.getElem?_map, Option.map_eq_some_iff]
   exact ⟨_, ⟨s.data[j], by simp, rfl⟩, rfl⟩
 exact Option.some.inj (hj.symm.trans h1))
 rw [add_plain, Nat.zero_add, hu, ← hc]
 unfold World.cell?
 rw [hnew]
 simp
end Go.Proofs.YtopcefhncildnaaGreatDoor.K
namespace Go.Proofs.YtopcefhncildnaaGreatDoor.K
open Go.RowKit
def opR (k off m : Int) (p t : ByteArray) (d : List Int) : W.Rc := (k, [off, m], [octs p, octs t, d])
theorem opE_le {k : Int} {p t : ByteArray} {dl : Nat} (h : opE k p t dl = 0) : 1 ≤ k ∧ k ≤ 12 ∧ p.size ≤ 255 ∧ t.size ≤ 255 ∧ dl ≤ 4096 := by
 unfold opE at h
 by_cases h1 : k < 1 ∨ 12 < k
 · rw [if_pos h1] at h; omega
 · rw [if_neg h1] at h
   by_cases h2 : longer 255 [p, t] = true ∨ 4096 < dl
   · rw [if_pos h2] at h; omega
   · have h3 : longer 255 [p, t] = false := by
       cases hl : longer 255 [p, t]
       · rfl
       · exact absurd (.inl hl) h2
     simp only [longer, List.any_cons, List.any_nil, Bool.or_false, Bool.or_eq_false_iff, decide_eq_false_iff_not] at h3
     omega
theorem chk_op {k off m : Int} {p t : ByteArray} {d : List Int} (h : opE k p t d.length = 0) : W.chkR (opR k off m p t d) = 0 := by
 obtain ⟨h1, h2, h3, h4, h5⟩ := opE_le h
 unfold W.chkR opR
 rw [if_neg (by simp only; omega), if_neg (by simp), if_neg]
 simp only [List.any_cons, List.any_nil, Bool.or_false, octs_len, Bool.or_eq_true, decide_eq_true_eq]
 omega
def opO (k off m : Int) (p t : ByteArray) (d : List Int) : List Int := if opE k p t d.length = 0 then W.encO (opR k off m p t d) else []
theorem enc_any {n1 : Nat} {k off m : Int} {p t : ByteArray} (hp : p.size ≤ maxLen) (ht : t.size ≤ maxLen) (ho : I64 off) (hm : I64 m) {da : Option Addr} {dl dc : Nat} {d : List Int} (hd : dl = d.length) {w : World} (hD : Arg n1 w (.slice da dl dc) d) :
   Calls Tryz.prog 23 #[.agg #[.int .i64 k, .string p, .string t, .int .i64 off, .int .i64 m, .slice da dl dc]] w fun e w' => (∃ a c, e = .returned (.tuple #[.slice a (opO k off m p t d).length c, .int .i64 (opE k p t d.length)]) ∧ W.Own1 w.heap.size w' (.slice a (opO k off m p t d).length c) (opO k off m p t d)) ∧ Below w.heap.size w w' := by
 obtain ⟨W1, hW1⟩ := exa (w.alloc (.cells #[.int .i64 k, .string p, .string t, .int .i64 off, .int .i64 m, .slice da dl dc] 56))
 have hb1 : Below w.heap.size w W1 := by rw [hW1]; exact (Below.refl _ w).alloc (Nat.le_refl _) _
 have hB : Box W1 w.heap.size 56 #[.int .i64 k, .string p, .string t, .int .i64 off, .int .i64 m, .slice da dl dc] := by rw [hW1]; exact Box.new _ _ _
 have HC := check_any k off m p t hp ht da dl dc W1
 have HB : Hid (Below w.heap.size w W1 ∧ Box W1 w.heap.size 56 #[.int .i64 k, .string p, .string t, .int .i64 off, .int .i64 m, .slice da dl dc]) := ⟨hb1, hB⟩
 have HI : Hid (p.size ≤ maxLen ∧ t.size ≤ maxLen ∧ I64 off ∧ I64 m ∧ dl = d.length ∧ Arg n1 w (.slice da dl dc) d) := ⟨hp, ht, ho, hm, hd, hD⟩
 obtain ⟨post, hpost⟩ : ∃ post : Ending → World → Prop, post = fun e w' => (∃ a c, e = .returned (.tuple #[.slice a (opO k off m p t d).length c, .int .i64 (opE k p t d.length)]) ∧ W.Own1 w.heap.size w' (.slice a (opO k off m p t d).length c) (opO k off m p t d)) ∧ Below w.heap.size w w' := ⟨_, rfl⟩
 obtain ⟨oe, hoe⟩ := exa (opE k p t dl)
 have HOE : Hid (oe = opE k p t d.length) := by
   show _ = _
   rw [hoe, hd]
 have HPo : Hid (∀ (a : Option Addr) (n c : Nat) (O : List Int) w', O = opO k off m p t d → n = O.length → W.Own1 w.heap.size w' (.slice a n c) O → Below w.heap.size w w' → post (.returned (.tuple #[.slice a n c, .int .i64 oe])) w') := fun a n c O w' h1 h2 h3 h4 => by (
 subst h1 h2
 rw [hpost, HOE.out]
 exact ⟨⟨a, c, rfl, h3⟩, h4⟩)
 rw [← hpost]
 rw [← hoe] at HC
 have y0 := hB.cell 0 rfl
 have y1 := hB.cell 1 rfl
 have y2 := hB.cell 2 rfl
 have y3 := hB.cell 3 rfl
 have y4 := hB.cell 4 rfl
 have y5 := hB.cell 5 rfl
 rw [hW1] at y0 y1 y2 y3 y4 y5
 clear hpost hoe hb1 hB hp ht ho hm hd hD
 go_enter Tryz.func23, Tryz.ntmps23
 go_wp2_with fail
 rw [← hW1]
 clear hW1 y0 y1 y2 y3 y4 y5
 refine HC.mono ?_
 rintro e w2 ⟨rfl, hb2⟩
 have H2 : Hid (Below W1.heap.size W1 w2 ∧ Below w.heap.size w w2) := ⟨hb2, HB.out.1.trans (hb2.mono HB.out.1.size)⟩
 clear HC hb2
 by_cases hoz : oe = 0
 rotate_left
 · have HQ : Hid (post (.returned (.tuple #[.slice none 0 0, .int .i64 oe])) w2) := HPo.out none 0 0 [] w2 (by unfold opO; rw [← HOE.out, if_neg hoz]) rfl (W.Own1.nil _ _) H2.out.2
   go_wp2
   exact HQ.out
 subst hoz
 have HO : Hid (opO k off m p t d = W.encO (opR k off m p t d) ∧ W.chkR (opR k off m p t d) = 0 ∧ I64 k) := by (
 have h := HOE.out.symm
 refine ⟨by unfold opO; rw [if_pos h], chk_op h, ?_⟩
 have := opE_le h
 exact ⟨by omega, by omega⟩)
 obtain ⟨W3, hW3⟩ := exa (w2.alloc (.cells #[.int .i64 off, .int .i64 m] 3))
 have hb3 : Below w2.heap.size w2 W3 := by rw [hW3]; exact (Below.refl _ w2).alloc (Nat.le_refl _) _
 have hs3 : W3.heap.size = w2.heap.size + 1 := by rw [hW3]; exact Array.size_push _
 have hB3 : Box W3 w2.heap.size 3 #[.int .i64 off, .int .i64 m] := by rw [hW3]; exact Box.new _ _ _
 obtain ⟨cp, W4, hr4, hb4, hs4, ha4⟩ := conv_str p HI.out.1 W3 (w2.heap.size + 1) hs3
 obtain ⟨ct, W5, hr5, hb5, hs5, ha5⟩ := conv_str t HI.out.2.1 W4 (w2.heap.size + 1 + 1) hs4
 obtain ⟨W6, hW6⟩ := exa (W5.alloc (.cells #[.slice (some ⟨w2.heap.size + 1, 0, none⟩) p.size cp, .slice (some ⟨w2.heap.size + 1 + 1, 0, none⟩) t.size ct, .slice da dl dc] 25))
 have hb6 : Below W5.heap.size W5 W6 := by rw [hW6]; exact (Below.refl _ W5).alloc (Nat.le_refl _) _
 have hB6 : Box W6 W5.heap.size 25 #[.slice (some ⟨w2.heap.size + 1, 0, none⟩) p.size cp, .slice (some ⟨w2.heap.size + 1 + 1, 0, none⟩) t.size ct, .slice da dl dc] := by rw [hW6]; exact Box.new _ _ _
 rw [← hs3] at hb4
 rw [← hs4] at hb5
 have b36 : Below W3.heap.size W3 W6 := below_any (below_any hb4 hb5) hb6
 have b26 : Below w2.heap.size w2 W6 := below_any hb3 b36
 have HW6 : Hid (Below w.heap.size w W6) := H2.out.2.trans (b26.mono H2.out.2.size)
 have hD6 : W.Arg 0 W6 (.slice da dl dc) d := w_arg ((HI.out.2.2.2.2.2.below HW6.out).weaken (Nat.zero_le _))
 have hrec : W.recF.lies 0 W6 [.int .i64 k, .slice (some ⟨w2.heap.size, 0, none⟩) 2 2, .slice (some ⟨W5.heap.size, 0, none⟩) 3 3] (opR k off m p t d) := by (
 have hN : W.intsS.lies 0 W6 [.slice (some ⟨w2.heap.size, 0, none⟩) 2 2] [off, m] := ⟨_, rfl, cells_box (hB3.below b36 hB3.lt) rfl (by simp [maxLen]) (Nat.zero_le _), fun x hx => by
   rcases List.mem_cons.1 hx with rfl | hx
   · exact W.I64.wf HI.out.2.2.1
   · rw [List.mem_singleton.1 hx]; exact W.I64.wf HI.out.2.2.2.1⟩
 have hT : W.textsS.lies 0 W6 [.slice (some ⟨W5.heap.size, 0, none⟩) 3 3] [octs p, octs t, d] := ⟨_, [[.slice (some ⟨w2.heap.size + 1, 0, none⟩) p.size cp], [.slice (some ⟨w2.heap.size + 1 + 1, 0, none⟩) t.size ct], [.slice da dl dc]], rfl, cells_box hB6 rfl (by simp [maxLen]) (Nat.zero_le _), ((ha4.weaken (Nat.zero_le _)).below hb5).below hb6, (ha5.weaken (Nat.zero_le _)).below hb6, hD6, trivial⟩
 exact W.rec_mk (r := opR k off m p t d) hN hT HO.out.2.2)
 have HE := W.enc_any 0 _ _ W6 hrec
 rw [HO.out.2.1] at HE
 have HE2 : Hid (W.encO (opR k off m p t d) = opO k off m p t d) := HO.out.1.symm
 have z0 := (HB.out.2.below H2.out.1 HB.out.2.lt).cell 0 rfl
 have z3 := (HB.out.2.below H2.out.1 HB.out.2.lt).cell 3 rfl
 have z4 := (HB.out.2.below H2.out.1 HB.out.2.lt).cell 4 rfl
 have hx3 := HB.out.2.below (below_any H2.out.1 hb3) HB.out.2.lt
 have hx4 := hx3.below hb4 (Nat.lt_of_lt_of_le HB.out.2.lt (below_any H2.out.1 hb3).size)
 have hx5 := hx4.below hb5 hx4.lt
 have z1 := hx3.cell 1 rfl
 have z2 := hx4.cell 2 rfl
 have z5 := hx5.cell 5 rfl
 rw [hW3] at z1
 rw [hW3] at hr4
 clear HO hb3 hs3 hB3 hb4 hs4 ha4 hb5 hs5 ha5 hb6 hB6 b36 b26 hD6 hrec hW3 hx3 hx4 hx5
 go_wp2_with fail
 rw [← hW6]
 clear hW6 hr4 hr5 z0 z1 z2 z3 z4 z5
 refine HE.mono ?_
 rintro e w7 ⟨⟨a7, c7, rfl, ho7⟩, hb7⟩
 have HQ : Hid (post (.returned (.tuple #[.slice a7 (W.encO (opR k off m p t d)).length c7, .int .i64 0])) w7) := HPo.out a7 _ c7 _ w7 HE2.out rfl (W.bytesS.oweaken ho7 HW6.out.size) (HW6.out.trans (hb7.mono HW6.out.size))
 clear ho7 hb7 HE
 go_wp2
 exact HQ.out
end Go.Proofs.YtopcefhncildnaaGreatDoor.K
namespace Go.Proofs.YtopcefhncildnaaGreatDoor.K
open Go.RowKit
open P (serr sval)
theorem ex_x : serr ⟨#[47, 120]⟩ = 0 ∧ frE ([rootN], 2) (sval ⟨#[47, 120]⟩) 0 9 = 101 := by decide +kernel
theorem ex_e : opE 9 ⟨#[47, 120]⟩ ⟨#[]⟩ 0 = 0 ∧ opE 12 ⟨#[]⟩ ⟨#[]⟩ 0 = 0 := by decide +kernel
theorem ex_o : 0 < (opO 12 0 0 ⟨#[]⟩ ⟨#[]⟩ []).length := by decide +kernel
theorem ex_t {s' : St} {r : Rp} {e : Int} (h : ApT [rootN] 2 9 ⟨#[47, 120]⟩ ⟨#[]⟩ 0 9 [] s' r e) : e = 0 ∧ r.1 = 101 := by
 rcases h with ⟨h, _⟩ | ⟨_, h, _⟩ | ⟨_, _, _, h, _⟩ | ⟨ho, hE, he, _, _, hl, _⟩
 · exact absurd ok_new h
 · exact absurd ex_e.1 h
 · omega
 · refine ⟨he, ?_⟩
   obtain ⟨hr, _⟩ := hl rfl
   rcases hr with ⟨h, _⟩ | ⟨_, h, _⟩ | ⟨_, _, _, h⟩
   · exact absurd ok_new h
   · exact absurd ex_x.1 h
   · rw [h]; exact ex_x.2
theorem num_any (k : Int) (w : World) : Calls Tryz.prog 21 #[.int .i64 k] w fun e w' => e = .returned (.int .i64 k) ∧ w = w' := by
 go_enter Tryz.func21, Tryz.ntmps21
 go_wp2
 go_ret
 exact ⟨rfl, rfl⟩
theorem alive_any (w : World) (hg : Glob w) : Calls Tryz.prog 19 #[] w fun e w' => e = .returned (.bool true) ∧ Below w.heap.size w w' := by
 have HG : Hid (∀ V, Below w.heap.size w V → Glob V) := fun V hV => hg.below hV hg.lt
 have HN := New_any w
 clear hg
 go_enter Tryz.func19, Tryz.ntmps19
 go_wp2_with fail
 refine HN.mono ?_
 rintro e w1 ⟨⟨v, rfl, ho⟩, hb1⟩
 obtain ⟨a, c, rfl⟩ := nds_shape (ndsN.olies ho)
 have ho' : ndsN.lies w.heap.size w1 [.slice a 1 c] [rootN] := ndsN.olies ho
 have H1 : Hid (Below w.heap.size w w1) := hb1
 have HC := apply9_any (nx := 2) (n := 1) (p := ⟨#[47, 120]⟩) (t := ⟨#[]⟩) (off := 0) (m := 9) (da := none) (dl := 0) (dc := 0) (d := []) rfl (by decide) (by decide) ⟨by omega, by omega⟩ ⟨by omega, by omega⟩ rfl (arg_nil 0 w1) ho' (HG.out _ hb1)
 clear HN ho ho' hb1
 simp only [List.length_cons, List.length_nil, Nat.zero_add]
 go_wp2_with fail
 refine HC.mono ?_
 rintro e w2 ⟨⟨a3, n3, c3, x3, l3, k3, z3, xx, yy, xc, yc, D3, O3, e3, rfl, hn3, hl3, hX3, hY3, hT3⟩, hb2⟩
 obtain ⟨he3, hk3⟩ := ex_t hT3
 simp only at hk3
 subst he3 hk3
 obtain ⟨V, hV⟩ := exa ((w2.alloc (.cells #[.slice a3 n3 c3, .int .i64 x3] 29)).alloc (.cells #[.int .i64 101, .int .i64 z3, .slice xx D3.length xc, .slice yy O3.length yc] 59))
 have hbV : Below w2.heap.size w2 V := by rw [hV]; exact ((Below.refl _ w2).alloc (Nat.le_refl _) _).alloc (by simp) _
 have hV2 : Box V (w2.heap.size + 1) 59 #[.int .i64 101, .int .i64 z3, .slice xx D3.length xc, .slice yy O3.length yc] := by (
 rw [hV]
 have := Box.new (w2.alloc (.cells #[.slice a3 n3 c3, .int .i64 x3] 29)) 59 #[.int .i64 101, .int .i64 z3, .slice xx D3.length xc, .slice yy O3.length yc]
 rwa [World.size_alloc] at this)
 have HV : Hid (Below w.heap.size w V ∧ Box V (w2.heap.size + 1) 59 #[.int .i64 101, .int .i64 z3, .slice xx D3.length xc, .slice yy O3.length yc]) := ⟨below_any (below_any H1.out hb2) hbV, hV2⟩
 have HE := enc_any (k := 12) (off := 0) (m := 0) (p := ⟨#[]⟩) (t := ⟨#[]⟩) (by decide) (by decide) ⟨by omega, by omega⟩ ⟨by omega, by omega⟩ (da := none) (dl := 0) (dc := 0) (d := []) rfl (arg_nil 0 V)
 simp only [List.length_nil] at HE
 rw [ex_e.2] at HE
 obtain ⟨bl, hbl⟩ := exa ((opO 12 0 0 ⟨#[]⟩ ⟨#[]⟩ []).length)
 have hb0 : (0 : Int) < (bl : Int) := by rw [hbl]; exact Int.natCast_pos.2 ex_o
 rw [← hbl] at HE
 clear hT3 hl3 hX3 hY3 hn3 HC hb2 hbV hV2 hbl
 go_upto_region 2 with fail
 rw [← hV]
 clear hV
 go_wp2_with fail
 refine HE.mono ?_
 rintro e w3 ⟨⟨a5, c5, rfl, ho5⟩, hb3⟩
 have r0 := (HV.out.2.below hb3 HV.out.2.lt).cell 0 rfl
 have HQ : Hid (Below w.heap.size w w3) := below_any HV.out.1 hb3
 have hl := run_len Tryz.underlying25 a5 bl c5
 clear ho5 hb3 HE
 go_wp2_with (go_at_call 21; refine (num_any _ _).mono ?_; rintro e9 wn ⟨rfl, rfl⟩)
 go_ret
 exact ⟨by simp; omega, HQ.out⟩
end Go.Proofs.YtopcefhncildnaaGreatDoor.K
namespace Go.Proofs.YtopcefhncildnaaGreatDoor.K
open Go.RowKit
set_option linter.unusedVariables false
theorem rcheck_any (k off m : Int) (p t : ByteArray) (hp : p.size ≤ maxLen) (ht : t.size ≤ maxLen) (d : Option Addr) (dl dc : Nat) (w : World) :
   Calls Tryz.prog 30 #[.agg #[.int .i64 k, .string p, .string t, .int .i64 off, .int .i64 m, .slice d dl dc]] w fun e w' => e = .returned (.int .i64 (opE k p t dl)) ∧ Below w.heap.size w w' := by
 obtain ⟨W1, hW1⟩ := exa (w.alloc (.cells #[.int .i64 k, .string p, .string t, .int .i64 off, .int .i64 m, .slice d dl dc] 56))
 have hb1 : Below w.heap.size w W1 := by rw [hW1]; exact (Below.refl _ w).alloc (Nat.le_refl _) _
 have hO : Box W1 w.heap.size 56 #[.int .i64 k, .string p, .string t, .int .i64 off, .int .i64 m, .slice d dl dc] := by rw [hW1]; exact Box.new _ _ _
 have HB1 : Hid (Below w.heap.size w W1) := hb1
 obtain ⟨ce, hce⟩ := exa (opE k p t dl)
 have HCE : Hid (ce = if k < 1 ∨ 12 < k then 22 else if 255 < p.size ∨ 255 < t.size ∨ 4096 < dl then 5 else 0) := by (
 show _ = _
 rw [hce]
 unfold opE
 by_cases h1 : k < 1 ∨ 12 < k
 · rw [if_pos h1, if_pos h1]
 · rw [if_neg h1, if_neg h1]
   congr 1
   simp only [longer, List.any_cons, List.any_nil, Bool.or_false, Bool.or_eq_true, decide_eq_true_eq, or_assoc])
 rw [← hce]
 have hl := run_len Tryz.underlying25 d dl dc
 have c0 := hO.cell 0 rfl
 have c1 := hO.cell 1 rfl
 have c2 := hO.cell 2 rfl
 have c5 := hO.cell 5 rfl
 clear hb1 hO hce
 rw [hW1] at c0 c1 c2 c5 HB1
 clear hW1
 by_cases h1 : k < 1
 · obtain rfl : ce = 22 := by rw [HCE.out, if_pos (.inl h1)]
   clear HCE
   go_enter Tryz.func30, Tryz.ntmps30
   go_wp2
   go_ret
   exact ⟨rfl, HB1.out⟩
 by_cases h2 : 12 < k
 · obtain rfl : ce = 22 := by rw [HCE.out, if_pos (.inr h2)]
   clear HCE
   go_enter Tryz.func30, Tryz.ntmps30
   go_wp2
   go_ret
   exact ⟨rfl, HB1.out⟩
 have HE : Hid (ce = if 255 < p.size ∨ 255 < t.size ∨ 4096 < dl then 5 else 0) := by
   show _ = _
   rw [HCE.out, if_neg (by omega)]
 clear HCE
 by_cases h3 : (255 : Int) < (p.size : Int)
 · obtain rfl : ce = 5 := by rw [HE.out, if_pos (by omega)]
   clear HE
   go_enter Tryz.func30, Tryz.ntmps30
   go_wp2
   go_ret
   exact ⟨rfl, HB1.out⟩
 by_cases h4 : (255 : Int) < (t.size : Int)
 · obtain rfl : ce = 5 := by rw [HE.out, if_pos (by omega)]
   clear HE
   go_enter Tryz.func30, Tryz.ntmps30
   go_wp2
   go_ret
   exact ⟨rfl, HB1.out⟩
 by_cases h5 : (4096 : Int) < (dl : Int)
 · obtain rfl : ce = 5 := by rw [HE.out, if_pos (by omega)]
   clear HE
   go_enter Tryz.func30, Tryz.ntmps30
   go_wp2
   go_ret
   exact ⟨rfl, HB1.out⟩
 · obtain rfl : ce = 0 := by rw [HE.out, if_neg (by omega)]
   clear HE
   go_enter Tryz.func30, Tryz.ntmps30
   go_wp2
   go_ret
   exact ⟨rfl, HB1.out⟩
theorem renc_any {n1 : Nat} {k off m : Int} {p t : ByteArray} (hp : p.size ≤ maxLen) (ht : t.size ≤ maxLen) (ho : I64 off) (hm : I64 m) {da : Option Addr} {dl dc : Nat} {d : List Int} (hd : dl = d.length) {w : World} (hD : Arg n1 w (.slice da dl dc) d) :
   Calls Tryz.prog 24 #[.agg #[.int .i64 k, .string p, .string t, .int .i64 off, .int .i64 m, .slice da dl dc]] w fun e w' => (∃ a c, e = .returned (.tuple #[.slice a (opO k off m p t d).length c, .int .i64 (opE k p t d.length)]) ∧ W.Own1 w.heap.size w' (.slice a (opO k off m p t d).length c) (opO k off m p t d)) ∧ Below w.heap.size w w' := by
 obtain ⟨W1, hW1⟩ := exa (w.alloc (.cells #[.int .i64 k, .string p, .string t, .int .i64 off, .int .i64 m, .slice da dl dc] 56))
 have hb1 : Below w.heap.size w W1 := by rw [hW1]; exact (Below.refl _ w).alloc (Nat.le_refl _) _
 have hB : Box W1 w.heap.size 56 #[.int .i64 k, .string p, .string t, .int .i64 off, .int .i64 m, .slice da dl dc] := by rw [hW1]; exact Box.new _ _ _
 have HC := rcheck_any k off m p t hp ht da dl dc W1
 have HB : Hid (Below w.heap.size w W1 ∧ Box W1 w.heap.size 56 #[.int .i64 k, .string p, .string t, .int .i64 off, .int .i64 m, .slice da dl dc]) := ⟨hb1, hB⟩
 have HI : Hid (p.size ≤ maxLen ∧ t.size ≤ maxLen ∧ I64 off ∧ I64 m ∧ dl = d.length ∧ Arg n1 w (.slice da dl dc) d) := ⟨hp, ht, ho, hm, hd, hD⟩
 obtain ⟨post, hpost⟩ : ∃ post : Ending → World → Prop, post = fun e w' => (∃ a c, e = .returned (.tuple #[.slice a (opO k off m p t d).length c, .int .i64 (opE k p t d.length)]) ∧ W.Own1 w.heap.size w' (.slice a (opO k off m p t d).length c) (opO k off m p t d)) ∧ Below w.heap.size w w' := ⟨_, rfl⟩
 obtain ⟨oe, hoe⟩ := exa (opE k p t dl)
 have HOE : Hid (oe = opE k p t d.length) := by
   show _ = _
   rw [hoe, hd]
 have HPo : Hid (∀ (a : Option Addr) (n c : Nat) (O : List Int) w', O = opO k off m p t d → n = O.length → W.Own1 w.heap.size w' (.slice a n c) O → Below w.heap.size w w' → post (.returned (.tuple #[.slice a n c, .int .i64 oe])) w') := fun a n c O w' h1 h2 h3 h4 => by (
 subst h1 h2
 rw [hpost, HOE.out]
 exact ⟨⟨a, c, rfl, h3⟩, h4⟩)
 rw [← hpost]
 rw [← hoe] at HC
 have y0 := hB.cell 0 rfl
 have y1 := hB.cell 1 rfl
 have y2 := hB.cell 2 rfl
 have y3 := hB.cell 3 rfl
 have y4 := hB.cell 4 rfl
 have y5 := hB.cell 5 rfl
 rw [hW1] at y0 y1 y2 y3 y4 y5
 clear hpost hoe hb1 hB hp ht ho hm hd hD
 go_enter Tryz.func24, Tryz.ntmps24
 go_wp2_with fail
 rw [← hW1]
 clear hW1 y0 y1 y2 y3 y4 y5
 refine HC.mono ?_
 rintro e w2 ⟨rfl, hb2⟩
 have H2 : Hid (Below W1.heap.size W1 w2 ∧ Below w.heap.size w w2) := ⟨hb2, HB.out.1.trans (hb2.mono HB.out.1.size)⟩
 clear HC hb2
 by_cases hoz : oe = 0
 rotate_left
 · have HQ : Hid (post (.returned (.tuple #[.slice none 0 0, .int .i64 oe])) w2) := HPo.out none 0 0 [] w2 (by unfold opO; rw [← HOE.out, if_neg hoz]) rfl (W.Own1.nil _ _) H2.out.2
   go_wp2
   exact HQ.out
 subst hoz
 have HO : Hid (opO k off m p t d = W.encO (opR k off m p t d) ∧ W.chkR (opR k off m p t d) = 0 ∧ I64 k) := by (
 have h := HOE.out.symm
 refine ⟨by unfold opO; rw [if_pos h], chk_op h, ?_⟩
 have := opE_le h
 exact ⟨by omega, by omega⟩)
 obtain ⟨W3, hW3⟩ := exa (w2.alloc (.cells #[.int .i64 off, .int .i64 m] 3))
 have hb3 : Below w2.heap.size w2 W3 := by rw [hW3]; exact (Below.refl _ w2).alloc (Nat.le_refl _) _
 have hs3 : W3.heap.size = w2.heap.size + 1 := by rw [hW3]; exact Array.size_push _
 have hB3 : Box W3 w2.heap.size 3 #[.int .i64 off, .int .i64 m] := by rw [hW3]; exact Box.new _ _ _
 obtain ⟨cp, W4, hr4, hb4, hs4, ha4⟩ := conv_str p HI.out.1 W3 (w2.heap.size + 1) hs3
 obtain ⟨ct, W5, hr5, hb5, hs5, ha5⟩ := conv_str t HI.out.2.1 W4 (w2.heap.size + 1 + 1) hs4
 obtain ⟨W6, hW6⟩ := exa (W5.alloc (.cells #[.slice (some ⟨w2.heap.size + 1, 0, none⟩) p.size cp, .slice (some ⟨w2.heap.size + 1 + 1, 0, none⟩) t.size ct, .slice da dl dc] 25))
 have hb6 : Below W5.heap.size W5 W6 := by rw [hW6]; exact (Below.refl _ W5).alloc (Nat.le_refl _) _
 have hB6 : Box W6 W5.heap.size 25 #[.slice (some ⟨w2.heap.size + 1, 0, none⟩) p.size cp, .slice (some ⟨w2.heap.size + 1 + 1, 0, none⟩) t.size ct, .slice da dl dc] := by rw [hW6]; exact Box.new _ _ _
 rw [← hs3] at hb4
 rw [← hs4] at hb5
 have b36 : Below W3.heap.size W3 W6 := below_any (below_any hb4 hb5) hb6
 have b26 : Below w2.heap.size w2 W6 := below_any hb3 b36
 have HW6 : Hid (Below w.heap.size w W6) := H2.out.2.trans (b26.mono H2.out.2.size)
 have hD6 : W.Arg 0 W6 (.slice da dl dc) d := w_arg ((HI.out.2.2.2.2.2.below HW6.out).weaken (Nat.zero_le _))
 have hrec : W.recF.lies 0 W6 [.int .i64 k, .slice (some ⟨w2.heap.size, 0, none⟩) 2 2, .slice (some ⟨W5.heap.size, 0, none⟩) 3 3] (opR k off m p t d) := by (
 have hN : W.intsS.lies 0 W6 [.slice (some ⟨w2.heap.size, 0, none⟩) 2 2] [off, m] := ⟨_, rfl, cells_box (hB3.below b36 hB3.lt) rfl (by simp [maxLen]) (Nat.zero_le _), fun x hx => by
   rcases List.mem_cons.1 hx with rfl | hx
   · exact W.I64.wf HI.out.2.2.1
   · rw [List.mem_singleton.1 hx]; exact W.I64.wf HI.out.2.2.2.1⟩
 have hT : W.textsS.lies 0 W6 [.slice (some ⟨W5.heap.size, 0, none⟩) 3 3] [octs p, octs t, d] := ⟨_, [[.slice (some ⟨w2.heap.size + 1, 0, none⟩) p.size cp], [.slice (some ⟨w2.heap.size + 1 + 1, 0, none⟩) t.size ct], [.slice da dl dc]], rfl, cells_box hB6 rfl (by simp [maxLen]) (Nat.zero_le _), ((ha4.weaken (Nat.zero_le _)).below hb5).below hb6, (ha5.weaken (Nat.zero_le _)).below hb6, hD6, trivial⟩
 exact W.rec_mk (r := opR k off m p t d) hN hT HO.out.2.2)
 have HE := W.renc_any 0 _ _ W6 hrec
 rw [HO.out.2.1] at HE
 have HE2 : Hid (W.encO (opR k off m p t d) = opO k off m p t d) := HO.out.1.symm
 have z0 := (HB.out.2.below H2.out.1 HB.out.2.lt).cell 0 rfl
 have z3 := (HB.out.2.below H2.out.1 HB.out.2.lt).cell 3 rfl
 have z4 := (HB.out.2.below H2.out.1 HB.out.2.lt).cell 4 rfl
 have hx3 := HB.out.2.below (below_any H2.out.1 hb3) HB.out.2.lt
 have hx4 := hx3.below hb4 (Nat.lt_of_lt_of_le HB.out.2.lt (below_any H2.out.1 hb3).size)
 have hx5 := hx4.below hb5 hx4.lt
 have z1 := hx3.cell 1 rfl
 have z2 := hx4.cell 2 rfl
 have z5 := hx5.cell 5 rfl
 rw [hW3] at z1
 rw [hW3] at hr4
 clear HO hb3 hs3 hB3 hb4 hs4 ha4 hb5 hs5 ha5 hb6 hB6 b36 b26 hD6 hrec hW3 hx3 hx4 hx5
 go_wp2_with fail
 rw [← hW6]
 clear hW6 hr4 hr5 z0 z1 z2 z3 z4 z5
 refine HE.mono ?_
 rintro e w7 ⟨⟨a7, c7, rfl, ho7⟩, hb7⟩
 have HQ : Hid (post (.returned (.tuple #[.slice a7 (W.encO (opR k off m p t d)).length c7, .int .i64 0])) w7) := HPo.out a7 _ c7 _ w7 HE2.out rfl (W.bytesS.oweaken ho7 HW6.out.size) (HW6.out.trans (hb7.mono HW6.out.size))
 clear ho7 hb7 HE
 go_wp2
 exact HQ.out
end Go.Proofs.YtopcefhncildnaaGreatDoor.K
