/-
  A text's octets in memory: '[]byte(s)'; octets in the words of records.
  An op as octets: what ops.Encode answers.
  The statements' helper alive of stage 11: the page's example.
  A reply as octets: what ops.EncodeReply answers.
-/
import Derived.Test.YtopcefhncildnaaGreatDoorZ18
import Derived.Test.YtopcefhncildnaaGreatDoorZ45
import Derived.Laws.IdiomStrings
import Derived.Laws.AppendOwn
set_option maxRecDepth 100000
set_option maxHeartbeats 8000000
namespace Go.Proofs.YtopcefhncildnaaGreatDoor.K
open Go.RowKit
def octs (s : ByteArray) : List Int := s.data.toList.map fun b => (b.toNat : Int)
theorem octs_len (s : ByteArray) : (octs s).length = s.size := by
 simp only [octs, List.length_map, Array.length_toList]
 rfl
theorem octs_oc (s : ByteArray) : W.Oc (octs s) := fun x hx => by
 obtain ⟨b, _, rfl⟩ := List.mem_map.1 hx
 have := b.toNat_lt
 omega
theorem cells_box {n0 : Nat} {w : World} {B : Nat} {t : TypeId} {cs : Array Value} {n : Nat} (h : Box w B t cs) (hn : cs.size = n) (hm : n ≤ maxLen) (hb : n0 ≤ B) : Cells n0 w 1 (.slice (some ⟨B, 0, none⟩) n n) n cs.toList :=
 ⟨by simp [hn], .inr ⟨⟨B, 0, none⟩, n, rfl, Nat.le_refl _, hm, hb, fun j u hj => by
   rw [add_plain, Nat.zero_add]
   exact h.cell j (by simpa using hj)⟩⟩
theorem w_arg {n : Nat} {w : World} {v : Value} {l : List Int} (h : Arg n w v l) : W.Arg n w v l := h
theorem arg_w {n : Nat} {w : World} {v : Value} {l : List Int} (h : W.Arg n w v l) : Arg n w v l := h
theorem conv_str (s : ByteArray) (hs : s.size ≤ maxLen) (V : World) (H : Nat) (hH : V.heap.size = H) :
   ∃ cap V', (convert 9 25 (.string s)).run Tryz.prog V = .ok (.slice (some ⟨H, 0, none⟩) s.size cap) V' ∧ Below H V V' ∧ V'.heap.size = H + 1 ∧ W.Arg H V' (.slice (some ⟨H, 0, none⟩) s.size cap) (octs s) := by
 subst hH
 have hr := run_bytes_of_string (P := Tryz.prog) V 9 25 5 s Tryz.underlying9 Tryz.underlying25 Tryz.underlying5
 have hge := grownCap_ge V s.size 0 5
 generalize hcap : grownCap V s.size 0 5 = cap at hr hge
 refine ⟨cap, _, hr, ((Below.refl _ V).drew).alloc (Nat.le_refl _) _, by simp, ?_⟩
 have hnew : (V.drew.alloc (.cells (bytesRow s cap) 5 ((bytesRow s cap).size, (bytesRow s cap).size + 1))).heap[V.heap.size]? = some (.cells (bytesRow s cap) 5 ((bytesRow s cap).size, (bytesRow s cap).size + 1)) := heap_alloc_new V.drew _
 refine W.Arg.mk ?_ (octs_oc s)
 rw [octs_len]
 refine ⟨by simp [octs_len], .inr ⟨⟨V.heap.size, 0, none⟩, cap, rfl, hge, hs, Nat.le_refl _, fun j u hj => ?_⟩⟩
 have hj' : j < s.data.size := by
   have := (List.getElem?_eq_some_iff.1 hj).1
   simpa [octs] using this
 have hc := bytesRow_at s cap j hj'
 have hu : u = .int .u8 (s.data[j].toNat : Int) := by (
 have h1 : ((octs s).map (Value.int .u8))[j]? = some (.int .u8 (s.data[j].toNat : Int)) := by
   simp only [octs, List.getElem?_map, Option.map_eq_some_iff]
   exact ⟨_, ⟨s.data[j], by simp, rfl⟩, rfl⟩
 exact Option.some.inj (hj.symm.trans h1))
 rw [add_plain, Nat.zero_add, hu, ← hc]
 unfold World.cell?
 rw [hnew]
 simp
end Go.Proofs.YtopcefhncildnaaGreatDoor.K
namespace Go.Proofs.YtopcefhncildnaaGreatDoor.K
open Go.RowKit
def opR (k off m : Int) (p t : ByteArray) (d : List Int) : W.Rc := (k, [off, m], [octs p, octs t, d])
theorem opE_le {k : Int} {p t : ByteArray} {dl : Nat} (h : opE k p t dl = 0) : 1 ≤ k ∧ k ≤ 12 ∧ p.size ≤ 255 ∧ t.size ≤ 255 ∧ dl ≤ 4096 := by
 unfold opE at h
 by_cases h1 : k < 1 ∨ 12 < k
 · rw [if_pos h1] at h; omega
 · rw [if_neg h1] at h
   by_cases h2 : longer 255 [p, t] = true ∨ 4096 < dl
   · rw [if_pos h2] at h; omega
   · have h3 : longer 255 [p, t] = false := by
       cases hl : longer 255 [p, t]
       · rfl
       · exact absurd (.inl hl) h2
     simp only [longer, List.any_cons, List.any_nil, Bool.or_false, Bool.or_eq_false_iff, decide_eq_false_iff_not] at h3
     omega
theorem chk_op {k off m : Int} {p t : ByteArray} {d : List Int} (h : opE k p t d.length = 0) : W.chkR (opR k off m p t d) = 0 := by
 obtain ⟨h1, h2, h3, h4, h5⟩ := opE_le h
 unfold W.chkR opR
 rw [if_neg (by simp only; omega), if_neg (by simp), if_neg]
 simp only [List.any_cons, List.any_nil, Bool.or_false, octs_len, Bool.or_eq_true, decide_eq_true_eq]
 omega
def opO (k off m : Int) (p t : ByteArray) (d : List Int) : List Int := if opE k p t d.length = 0 then W.encO (opR k off m p t d) else []
theorem enc_any {n1 : Nat} {k off m : Int} {p t : ByteArray} (hp : p.size ≤ maxLen) (ht : t.size ≤ maxLen) (ho : I64 off) (hm : I64 m) {da : Option Addr} {dl dc : Nat} {d : List Int} (hd : dl = d.length) {w : World} (hD : Arg n1 w (.slice da dl dc) d) :
   Calls Tryz.prog 23 #[.agg #[.int .i64 k, .string p, .string t, .int .i64 off, .int .i64 m, .slice da dl dc]] w fun e w' => (∃ a c, e = .returned (.tuple #[.slice a (opO k off m p t d).length c, .int .i64 (opE k p t d.length)]) ∧ W.Own1 w.heap.size w' (.slice a (opO k off m p t d).length c) (opO k off m p t d)) ∧ Below w.heap.size w w' := by
 obtain ⟨W1, hW1⟩ := exa (w.alloc (.cells #[.int .i64 k, .string p, .string t, .int .i64 off, .int .i64 m, .slice da dl dc] 56))
 have hb1 : Below w.heap.size w W1 := by rw [hW1]; exact (Below.refl _ w).alloc (Nat.le_refl _) _
 have hB : Box W1 w.heap.size 56 #[.int .i64 k, .string p, .string t, .int .i64 off, .int .i64 m, .slice da dl dc] := by rw [hW1]; exact Box.new _ _ _
 have HC := check_any k off m p t hp ht da dl dc W1
 have HB : Hid (Below w.heap.size w W1 ∧ Box W1 w.heap.size 56 #[.int .i64 k, .string p, .string t, .int .i64 off, .int .i64 m, .slice da dl dc]) := ⟨hb1, hB⟩
 have HI : Hid (p.size ≤ maxLen ∧ t.size ≤ maxLen ∧ I64 off ∧ I64 m ∧ dl = d.length ∧ Arg n1 w (.slice da dl dc) d) := ⟨hp, ht, ho, hm, hd, hD⟩
 obtain ⟨post, hpost⟩ : ∃ post : Ending → World → Prop, post = fun e w' => (∃ a c, e = .returned (.tuple #[.slice a (opO k off m p t d).length c, .int .i64 (opE k p t d.length)]) ∧ W.Own1 w.heap.size w' (.slice a (opO k off m p t d).length c) (opO k off m p t d)) ∧ Below w.heap.size w w' := ⟨_, rfl⟩
 obtain ⟨oe, hoe⟩ := exa (opE k p t dl)
 have HOE : Hid (oe = opE k p t d.length) := by
   show _ = _
   rw [hoe, hd]
 have HPo : Hid (∀ (a : Option Addr) (n c : Nat) (O : List Int) w', O = opO k off m p t d → n = O.length → W.Own1 w.heap.size w' (.slice a n c) O → Below w.heap.size w w' → post (.returned (.tuple #[.slice a n c, .int .i64 oe])) w') := fun a n c O w' h1 h2 h3 h4 => by (
 subst h1 h2
 rw [hpost, HOE.out]
 exact ⟨⟨a, c, rfl, h3⟩, h4⟩)
 rw [← hpost]
 rw [← hoe] at HC
 have y0 := hB.cell 0 rfl
 have y1 := hB.cell 1 rfl
 have y2 := hB.cell 2 rfl
 have y3 := hB.cell 3 rfl
 have y4 := hB.cell 4 rfl
 have y5 := hB.cell 5 rfl
 rw [hW1] at y0 y1 y2 y3 y4 y5
 clear hpost hoe hb1 hB hp ht ho hm hd hD
 go_enter Tryz.func23, Tryz.ntmps23
 go_wp2_with fail
 rw [← hW1]
 clear hW1 y0 y1 y2 y3 y4 y5
 refine HC.mono ?_
 rintro e w2 ⟨rfl, hb2⟩
 have H2 : Hid (Below W1.heap.size W1 w2 ∧ Below w.heap.size w w2) := ⟨hb2, HB.out.1.trans (hb2.mono HB.out.1.size)⟩
 clear HC hb2
 by_cases hoz : oe = 0
 rotate_left
 · have HQ : Hid (post (.returned (.tuple #[.slice none 0 0, .int .i64 oe])) w2) := HPo.out none 0 0 [] w2 (by unfold opO; rw [← HOE.out, if_neg hoz]) rfl (W.Own1.nil _ _) H2.out.2
   go_wp2
   exact HQ.out
 subst hoz
 have HO : Hid (opO k off m p t d = W.encO (opR k off m p t d) ∧ W.chkR (opR k off m p t d) = 0 ∧ I64 k) := by (
 have h := HOE.out.symm
 refine ⟨by unfold opO; rw [if_pos h], chk_op h, ?_⟩
 have := opE_le h
 exact ⟨by omega, by omega⟩)
 obtain ⟨W3, hW3⟩ := exa (w2.alloc (.cells #[.int .i64 off, .int .i64 m] 3))
 have hb3 : Below w2.heap.size w2 W3 := by rw [hW3]; exact (Below.refl _ w2).alloc (Nat.le_refl _) _
 have hs3 : W3.heap.size = w2.heap.size + 1 := by rw [hW3]; exact Array.size_push _
 have hB3 : Box W3 w2.heap.size 3 #[.int .i64 off, .int .i64 m] := by rw [hW3]; exact Box.new _ _ _
 obtain ⟨cp, W4, hr4, hb4, hs4, ha4⟩ := conv_str p HI.out.1 W3 (w2.heap.size + 1) hs3
 obtain ⟨ct, W5, hr5, hb5, hs5, ha5⟩ := conv_str t HI.out.2.1 W4 (w2.heap.size + 1 + 1) hs4
 obtain ⟨W6, hW6⟩ := exa (W5.alloc (.cells #[.slice (some ⟨w2.heap.size + 1, 0, none⟩) p.size cp, .slice (some ⟨w2.heap.size + 1 + 1, 0, none⟩) t.size ct, .slice da dl dc] 25))
 have hb6 : Below W5.heap.size W5 W6 := by rw [hW6]; exact (Below.refl _ W5).alloc (Nat.le_refl _) _
 have hB6 : Box W6 W5.heap.size 25 #[.slice (some ⟨w2.heap.size + 1, 0, none⟩) p.size cp, .slice (some ⟨w2.heap.size + 1 + 1, 0, none⟩) t.size ct, .slice da dl dc] := by rw [hW6]; exact Box.new _ _ _
 rw [← hs3] at hb4
 rw [← hs4] at hb5
 have b36 : Below W3.heap.size W3 W6 := below_any (below_any hb4 hb5) hb6
 have b26 : Below w2.heap.size w2 W6 := below_any hb3 b36
 have HW6 : Hid (Below w.heap.size w W6) := H2.out.2.trans (b26.mono H2.out.2.size)
 have hD6 : W.Arg 0 W6 (.slice da dl dc) d := w_arg ((HI.out.2.2.2.2.2.below HW6.out).weaken (Nat.zero_le _))
 have hrec : W.recF.lies 0 W6 [.int .i64 k, .slice (some ⟨w2.heap.size, 0, none⟩) 2 2, .slice (some ⟨W5.heap.size, 0, none⟩) 3 3] (opR k off m p t d) := by (
 have hN : W.intsS.lies 0 W6 [.slice (some ⟨w2.heap.size, 0, none⟩) 2 2] [off, m] := ⟨_, rfl, cells_box (hB3.below b36 hB3.lt) rfl (by simp [maxLen]) (Nat.zero_le _), fun x hx => by
   rcases List.mem_cons.1 hx with rfl | hx
   · exact W.I64.wf HI.out.2.2.1
   · rw [List.mem_singleton.1 hx]; exact W.I64.wf HI.out.2.2.2.1⟩
 have hT : W.textsS.lies 0 W6 [.slice (some ⟨W5.heap.size, 0, none⟩) 3 3] [octs p, octs t, d] := ⟨_, [[.slice (some ⟨w2.heap.size + 1, 0, none⟩) p.size cp], [.slice (some ⟨w2.heap.size + 1 + 1, 0, none⟩) t.size ct], [.slice da dl dc]], rfl, cells_box hB6 rfl (by simp [maxLen]) (Nat.zero_le _), ((ha4.weaken (Nat.zero_le _)).below hb5).below hb6, (ha5.weaken (Nat.zero_le _)).below hb6, hD6, trivial⟩
 exact W.rec_mk (r := opR k off m p t d) hN hT HO.out.2.2)
 have HE := W.enc_any 0 _ _ W6 hrec
 rw [HO.out.2.1] at HE
 have HE2 : Hid (W.encO (opR k off m p t d) = opO k off m p t d) := HO.out.1.symm
 have z0 := (HB.out.2.below H2.out.1 HB.out.2.lt).cell 0 rfl
 have z3 := (HB.out.2.below H2.out.1 HB.out.2.lt).cell 3 rfl
 have z4 := (HB.out.2.below H2.out.1 HB.out.2.lt).cell 4 rfl
 have hx3 := HB.out.2.below (below_any H2.out.1 hb3) HB.out.2.lt
 have hx4 := hx3.below hb4 (Nat.lt_of_lt_of_le HB.out.2.lt (below_any H2.out.1 hb3).size)
 have hx5 := hx4.below hb5 hx4.lt
 have z1 := hx3.cell 1 rfl
 have z2 := hx4.cell 2 rfl
 have z5 := hx5.cell 5 rfl
 rw [hW3] at z1
 rw [hW3] at hr4
 clear HO hb3 hs3 hB3 hb4 hs4 ha4 hb5 hs5 ha5 hb6 hB6 b36 b26 hD6 hrec hW3 hx3 hx4 hx5
 go_wp2_with fail
 rw [← hW6]
 clear hW6 hr4 hr5 z0 z1 z2 z3 z4 z5
 refine HE.mono ?_
 rintro e w7 ⟨⟨a7, c7, rfl, ho7⟩, hb7⟩
 have HQ : Hid (post (.returned (.tuple #[.slice a7 (W.encO (opR k off m p t d)).length c7, .int .i64 0])) w7) := HPo.out a7 _ c7 _ w7 HE2.out rfl (W.bytesS.oweaken ho7 HW6.out.size) (HW6.out.trans (hb7.mono HW6.out.size))
 clear ho7 hb7 HE
 go_wp2
 exact HQ.out
end Go.Proofs.YtopcefhncildnaaGreatDoor.K
namespace Go.Proofs.YtopcefhncildnaaGreatDoor.K
open Go.RowKit
open P (serr sval)
theorem ex_x : serr ⟨#[47, 120]⟩ = 0 ∧ frE ([rootN], 2) (sval ⟨#[47, 120]⟩) 0 9 = 101 := by decide +kernel
theorem ex_e : opE 9 ⟨#[47, 120]⟩ ⟨#[]⟩ 0 = 0 ∧ opE 12 ⟨#[]⟩ ⟨#[]⟩ 0 = 0 := by decide +kernel
theorem ex_o : 0 < (opO 12 0 0 ⟨#[]⟩ ⟨#[]⟩ []).length := by decide +kernel
theorem ex_t {s' : St} {r : Rp} {e : Int} (h : ApT [rootN] 2 9 ⟨#[47, 120]⟩ ⟨#[]⟩ 0 9 [] s' r e) : e = 0 ∧ r.1 = 101 := by
 rcases h with ⟨h, _⟩ | ⟨_, h, _⟩ | ⟨_, _, _, h, _⟩ | ⟨ho, hE, he, _, _, hl, _⟩
 · exact absurd ok_new h
 · exact absurd ex_e.1 h
 · omega
 · refine ⟨he, ?_⟩
   obtain ⟨hr, _⟩ := hl rfl
   rcases hr with ⟨h, _⟩ | ⟨_, h, _⟩ | ⟨_, _, _, h⟩
   · exact absurd ok_new h
   · exact absurd ex_x.1 h
   · rw [h]; exact ex_x.2
theorem num_any (k : Int) (w : World) : Calls Tryz.prog 21 #[.int .i64 k] w fun e w' => e = .returned (.int .i64 k) ∧ w = w' := by
 go_enter Tryz.func21, Tryz.ntmps21
 go_wp2
 go_ret
 exact ⟨rfl, rfl⟩
theorem alive_any (w : World) (hg : Glob w) : Calls Tryz.prog 19 #[] w fun e w' => e = .returned (.bool true) ∧ Below w.heap.size w w' := by
 have HG : Hid (∀ V, Below w.heap.size w V → Glob V) := fun V hV => hg.below hV hg.lt
 have HN := New_any w
 clear hg
 go_enter Tryz.func19, Tryz.ntmps19
 go_wp2_with fail
 refine HN.mono ?_
 rintro e w1 ⟨⟨v, rfl, ho⟩, hb1⟩
 obtain ⟨a, c, rfl⟩ := nds_shape (ndsN.olies ho)
 have ho' : ndsN.lies w.heap.size w1 [.slice a 1 c] [rootN] := ndsN.olies ho
 have H1 : Hid (Below w.heap.size w w1) := hb1
 have HC := apply9_any (nx := 2) (n := 1) (p := ⟨#[47, 120]⟩) (t := ⟨#[]⟩) (off := 0) (m := 9) (da := none) (dl := 0) (dc := 0) (d := []) rfl (by decide) (by decide) ⟨by omega, by omega⟩ ⟨by omega, by omega⟩ rfl (arg_nil 0 w1) ho' (HG.out _ hb1)
 clear HN ho ho' hb1
 simp only [List.length_cons, List.length_nil, Nat.zero_add]
 go_wp2_with fail
 refine HC.mono ?_
 rintro e w2 ⟨⟨a3, n3, c3, x3, l3, k3, z3, xx, yy, xc, yc, D3, O3, e3, rfl, hn3, hl3, hX3, hY3, hT3⟩, hb2⟩
 obtain ⟨he3, hk3⟩ := ex_t hT3
 simp only at hk3
 subst he3 hk3
 obtain ⟨V, hV⟩ := exa ((w2.alloc (.cells #[.slice a3 n3 c3, .int .i64 x3] 29)).alloc (.cells #[.int .i64 101, .int .i64 z3, .slice xx D3.length xc, .slice yy O3.length yc] 59))
 have hbV : Below w2.heap.size w2 V := by rw [hV]; exact ((Below.refl _ w2).alloc (Nat.le_refl _) _).alloc (by simp) _
 have hV2 : Box V (w2.heap.size + 1) 59 #[.int .i64 101, .int .i64 z3, .slice xx D3.length xc, .slice yy O3.length yc] := by (
 rw [hV]
 have := Box.new (w2.alloc (.cells #[.slice a3 n3 c3, .int .i64 x3] 29)) 59 #[.int .i64 101, .int .i64 z3, .slice xx D3.length xc, .slice yy O3.length yc]
 rwa [World.size_alloc] at this)
 have HV : Hid (Below w.heap.size w V ∧ Box V (w2.heap.size + 1) 59 #[.int .i64 101, .int .i64 z3, .slice xx D3.length xc, .slice yy O3.length yc]) := ⟨below_any (below_any H1.out hb2) hbV, hV2⟩
 have HE := enc_any (k := 12) (off := 0) (m := 0) (p := ⟨#[]⟩) (t := ⟨#[]⟩) (by decide) (by decide) ⟨by omega, by omega⟩ ⟨by omega, by omega⟩ (da := none) (dl := 0) (dc := 0) (d := []) rfl (arg_nil 0 V)
 simp only [List.length_nil] at HE
 rw [ex_e.2] at HE
 obtain ⟨bl, hbl⟩ := exa ((opO 12 0 0 ⟨#[]⟩ ⟨#[]⟩ []).length)
 have hb0 : (0 : Int) < (bl : Int) := by rw [hbl]; exact Int.natCast_pos.2 ex_o
 rw [← hbl] at HE
 clear hT3 hl3 hX3 hY3 hn3 HC hb2 hbV hV2 hbl
 go_upto_region 2 with fail
 rw [← hV]
 clear hV
 go_wp2_with fail
 refine HE.mono ?_
 rintro e w3 ⟨⟨a5, c5, rfl, ho5⟩, hb3⟩
 have r0 := (HV.out.2.below hb3 HV.out.2.lt).cell 0 rfl
 have HQ : Hid (Below w.heap.size w w3) := below_any HV.out.1 hb3
 have hl := run_len Tryz.underlying25 a5 bl c5
 clear ho5 hb3 HE
 go_wp2_with (go_at_call 21; refine (num_any _ _).mono ?_; rintro e9 wn ⟨rfl, rfl⟩)
 go_ret
 exact ⟨by simp; omega, HQ.out⟩
end Go.Proofs.YtopcefhncildnaaGreatDoor.K
namespace Go.Proofs.YtopcefhncildnaaGreatDoor.K
open Go.RowKit
open P (ArgT OwnT tv)
set_option linter.unusedVariables false
def EL (n : Nat) (w : World) (u : Value) (s : ByteArray) : Prop := ∃ b cap fr, u = .slice (some ⟨b, 0, none⟩) s.size cap ∧ n ≤ b ∧ w.heap[b]? = some (.cells (bytesRow s cap) 5 fr) ∧ s.size ≤ cap ∧ s.size ≤ maxLen
theorem EL.arg {n : Nat} {w : World} {u : Value} {s : ByteArray} (h : EL n w u s) : W.Arg n w u (octs s) := by
 obtain ⟨b, cap, fr, rfl, hb, hw, hge, hs⟩ := h
 refine W.Arg.mk ?_ (octs_oc s)
 rw [octs_len]
 refine ⟨by simp [octs_len], .inr ⟨⟨b, 0, none⟩, cap, rfl, hge, hs, hb, fun j u hj => ?_⟩⟩
 have hj' : j < s.data.size := by
   have := (List.getElem?_eq_some_iff.1 hj).1
   simpa [octs] using this
 have hc := bytesRow_at s cap j hj'
 have hu : u = .int .u8 (s.data[j].toNat : Int) := by (
 have h1 : ((octs s).map (Value.int .u8))[j]? = some (.int .u8 (s.data[j].toNat : Int)) := by
   simp only [octs, List.getElem?_map, Option.map_eq_some_iff]
   exact ⟨_, ⟨s.data[j], by simp, rfl⟩, rfl⟩
 exact Option.some.inj (hj.symm.trans h1))
 rw [add_plain, Nat.zero_add, hu, ← hc]
 unfold World.cell?
 rw [hw]
 simp
theorem EL.weaken {n m : Nat} {w : World} {u : Value} {s : ByteArray} (h : EL n w u s) (hm : m ≤ n) : EL m w u s := by
 obtain ⟨b, cap, fr, h1, h2, h3, h4⟩ := h
 exact ⟨b, cap, fr, h1, by omega, h3, h4⟩
theorem EL.below {n : Nat} {w w' : World} {u : Value} {s : ByteArray} (h : EL n w u s) (hb : Below w.heap.size w w') : EL n w' u s := by
 obtain ⟨b, cap, fr, h1, h2, h3, h4⟩ := h
 exact ⟨b, cap, fr, h1, h2, (hb.block b (Array.getElem?_eq_some_iff.1 h3).1).trans h3, h4⟩
theorem EL.grown {n : Nat} {w w' : World} {row : Option Nat} {u : Value} {s : ByteArray} (h : EL n w u s) (hg : w.grownBy w' row) (hc : Clear w row [5]) : EL n w' u s := by
 obtain ⟨b, cap, fr, h1, h2, h3, h4⟩ := h
 refine ⟨b, cap, fr, h1, h2, (hg.block b (Array.getElem?_eq_some_iff.1 h3).1 fun e => ?_).trans h3, h4⟩
 exact hc b _ _ _ e.symm h3 (by simp)
theorem conv_el (s : ByteArray) (hs : s.size ≤ maxLen) (V : World) (H : Nat) (hH : V.heap.size = H) :
   ∃ cap V', (convert 9 25 (.string s)).run Tryz.prog V = .ok (.slice (some ⟨H, 0, none⟩) s.size cap) V' ∧ Below H V V' ∧ V'.heap.size = H + 1 ∧ EL H V' (.slice (some ⟨H, 0, none⟩) s.size cap) s := by
 subst hH
 have hr := run_bytes_of_string (P := Tryz.prog) V 9 25 5 s Tryz.underlying9 Tryz.underlying25 Tryz.underlying5
 have hge := grownCap_ge V s.size 0 5
 generalize hcap : grownCap V s.size 0 5 = cap at hr hge
 exact ⟨cap, _, hr, ((Below.refl _ V).drew).alloc (Nat.le_refl _) _, by simp, V.heap.size, cap, _, rfl, Nat.le_refl _, heap_alloc_new V.drew _, hge, hs⟩
def RpO (n : Nat) (w : World) (v : Value) (u : Value) (l : List ByteArray) : Prop := ∃ us, w.ownsRow n 25 1 v (l.length + 1) (u :: us) ∧ Each (fun u s => EL n w u s) us l
theorem Tryz.infoB : (Tryz.prog.info? 25).map (fun i => (i.zero, i.size, i.bytes)) = some (some (.slice none 0 0), 1, 24) := by kernel_rfl
theorem own_box {w : World} {B n : Nat} {t : TypeId} {u : Value} (h : Box w B t #[u]) (hn : n ≤ B) : w.ownsRow n t 1 (.slice (some ⟨B, 0, none⟩) 1 1) 1 [u] := by
 refine ⟨by simp, .inr ⟨B, 1, _, rfl, hn, h, ?_⟩⟩
 simp [maxLen]
def rpR (e n : Int) (d : List Int) (l : List ByteArray) : W.Rc := (0, [e, n], d :: l.map octs)
def rpC (e n : Int) (d : List Int) (l : List ByteArray) : Int := if rpE e n d.length l ≠ 0 then rpE e n d.length l else W.chkR (rpR e n d l)
def rpO (e n : Int) (d : List Int) (l : List ByteArray) : List Int := if rpE e n d.length l ≠ 0 then [] else W.encO (rpR e n d l)
theorem each_one {R : List Value → List Int → Prop} : ∀ {us : List Value} {l : List ByteArray}, Each (fun u s => R [u] (octs s)) us l → Each R (us.map fun u => [u]) (l.map octs)
 | [], [], _ => trivial
 | _ :: _, _ :: _, h => ⟨h.1, each_one h.2⟩
theorem flat_one (us : List Value) : (us.map fun u => [u]).flatten = us := by
 induction us with
 | nil => rfl
 | cons u r ih => simp [ih]
theorem rpo_lies {n n1 : Nat} {w : World} {v u : Value} {d : List Int} {l : List ByteArray} (h : RpO n w v u l) (hu : W.Arg n1 w u d) : W.textsS.lies 0 w [v] (d :: l.map octs) := by
 obtain ⟨us, hO, hE⟩ := h
 refine ⟨v, [u] :: us.map (fun u => [u]), rfl, ?_, ?_, ?_⟩
 · have := (Cells.own hO).weaken (Nat.zero_le n)
   rw [show (d :: l.map octs).length = l.length + 1 by simp, show ([u] :: us.map (fun u => [u])).flatten = u :: us by rw [List.flatten_cons, flat_one]; rfl]
   exact this
 · exact hu.weaken (Nat.zero_le _)
 · exact each_one (hE.mono fun _ _ h => h.arg.weaken (Nat.zero_le _))
theorem rpenc_any {n1 n2 : Nat} {e n : Int} (hok : I64 e ∧ I64 n) {da : Option Addr} {dl dc : Nat} {d : List Int} (hd : dl = d.length) {v : Value} {l : List ByteArray} {w : World} (hD : Arg n1 w (.slice da dl dc) d) (hN : ArgT n2 w v l) :
   Calls Tryz.prog 32 #[.agg #[.int .i64 e, .int .i64 n, .slice da dl dc, v]] w fun x w' => (∃ a c, x = .returned (.tuple #[.slice a (rpO e n d l).length c, .int .i64 (rpC e n d l)]) ∧ W.Own1 w.heap.size w' (.slice a (rpO e n d l).length c) (rpO e n d l)) ∧ Below w.heap.size w w' := by
 obtain ⟨va, vc, rfl, _, hm, _⟩ := hN.shape
 obtain ⟨vl, hvl⟩ := exa (l.length)
 rw [← hvl] at hN hm ⊢
 obtain ⟨W1, hW1⟩ := exa (w.alloc (.cells #[.int .i64 e, .int .i64 n, .slice da dl dc, .slice va vl vc] 59))
 have hb1 : Below w.heap.size w W1 := by rw [hW1]; exact (Below.refl _ w).alloc (Nat.le_refl _) _
 have hB : Box W1 w.heap.size 59 #[.int .i64 e, .int .i64 n, .slice da dl dc, .slice va vl vc] := by rw [hW1]; exact Box.new _ _ _
 have HC := rpcheck_any e n da dl dc n2 _ l W1 (hN.below hb1)
 have HB : Hid (Below w.heap.size w W1 ∧ Box W1 w.heap.size 59 #[.int .i64 e, .int .i64 n, .slice da dl dc, .slice va vl vc]) := ⟨hb1, hB⟩
 have HI : Hid (I64 e ∧ I64 n ∧ dl = d.length ∧ vl = l.length ∧ Arg n1 w (.slice da dl dc) d ∧ ArgT n2 w (.slice va vl vc) l) := ⟨hok.1, hok.2, hd, hvl, hD, hN⟩
 obtain ⟨post, hpost⟩ : ∃ post : Ending → World → Prop, post = fun x w' => (∃ a c, x = .returned (.tuple #[.slice a (rpO e n d l).length c, .int .i64 (rpC e n d l)]) ∧ W.Own1 w.heap.size w' (.slice a (rpO e n d l).length c) (rpO e n d l)) ∧ Below w.heap.size w w' := ⟨_, rfl⟩
 obtain ⟨oe, hoe⟩ := exa (rpE e n dl l)
 have HOE : Hid (oe = rpE e n d.length l) := by
   show _ = _
   rw [hoe, hd]
 have HPo : Hid (∀ (a : Option Addr) (m c : Nat) (k : Int) (O : List Int) w', k = rpC e n d l → O = rpO e n d l → m = O.length → W.Own1 w.heap.size w' (.slice a m c) O → Below w.heap.size w w' → post (.returned (.tuple #[.slice a m c, .int .i64 k])) w') := fun a m c k O w' h0 h1 h2 h3 h4 => by (
 subst h0 h1 h2
 rw [hpost]
 exact ⟨⟨a, c, rfl, h3⟩, h4⟩)
 rw [← hpost]
 rw [← hoe] at HC
 have y0 := hB.cell 0 rfl
 have y1 := hB.cell 1 rfl
 have y2 := hB.cell 2 rfl
 have y3 := hB.cell 3 rfl
 rw [hW1] at y0 y1 y2 y3
 clear hpost hoe hb1 hB hok hd hD hN hvl
 go_enter Tryz.func32, Tryz.ntmps32
 go_wp2_with fail
 rw [← hW1]
 clear hW1 y0 y1 y2 y3
 refine HC.mono ?_
 rintro x w2 ⟨rfl, hb2⟩
 have H2 : Hid (Below W1.heap.size W1 w2 ∧ Below w.heap.size w w2 ∧ w.heap.size < w2.heap.size) := ⟨hb2, HB.out.1.trans (hb2.mono HB.out.1.size), Nat.lt_of_lt_of_le HB.out.2.lt hb2.size⟩
 clear HC hb2
 by_cases hoz : oe = 0
 rotate_left
 · have HQ : Hid (post (.returned (.tuple #[.slice none 0 0, .int .i64 oe])) w2) := HPo.out none 0 0 _ [] w2 (by unfold rpC; rw [← HOE.out, if_pos hoz]) (by unfold rpO; rw [← HOE.out, if_pos hoz]) rfl (W.Own1.nil _ _) H2.out.2.1
   go_wp2
   exact HQ.out
 subst hoz
 have HO : Hid (rpO e n d l = W.encO (rpR e n d l) ∧ rpC e n d l = W.chkR (rpR e n d l) ∧ l.length ≤ 64) := by (
 have h := HOE.out.symm
 refine ⟨by unfold rpO; rw [if_neg (by simp [h])], by unfold rpC; rw [if_neg (by simp [h])], ?_⟩
 unfold rpE at h
 split at h
 · cases h
 split at h
 · cases h
 split at h
 · cases h
 · omega)
 have hvm : vl ≤ 64 := by have := HO.out.2.2; have := HI.out.2.2.2.1; omega
 obtain ⟨W3, hW3⟩ := exa (w2.alloc (.cells #[.slice da dl dc] 25))
 have hb3 : Below w2.heap.size w2 W3 := by rw [hW3]; exact (Below.refl _ w2).alloc (Nat.le_refl _) _
 have hB3 : Box W3 w2.heap.size 25 #[.slice da dl dc] := by rw [hW3]; exact Box.new _ _ _
 have H3 : Hid (Below w2.heap.size w2 W3 ∧ RpO w2.heap.size W3 (.slice (some ⟨w2.heap.size, 0, none⟩) 1 1) (.slice da dl dc) []) := ⟨hb3, [], own_box hB3 (Nat.le_refl _), trivial⟩
 have hl1 := run_len Tryz.underlying57 va vl vc
 have hx2 := HB.out.2.below H2.out.1 HB.out.2.lt
 have z2 := hx2.cell 2 rfl
 have z3 := (hx2.below hb3 hx2.lt).cell 3 rfl
 rw [hW3] at z3
 clear hb3 hB3 hx2
 go_wp2_with fail
 rw [← hW3]
 clear z2 z3 hW3
 go_loopw [5, 19] (fun v i wr => ∃ (j : Nat) (a c : _), j ≤ vl ∧ i = .int .i64 j ∧ v = .slice a (j + 1) c ∧ Hid (RpO w2.heap.size wr v (.slice da dl dc) (l.take j) ∧ Below w2.heap.size w2 wr)) (fun _ i _ => vl - (intOf i).toNat)
 case atStart => exact ⟨0, some ⟨w2.heap.size, 0, none⟩, 1, Nat.zero_le _, rfl, rfl, H3.out.2, H3.out.1⟩
 case round => (
 obtain ⟨j, av, cv, hj, rfl, rfl, HJ⟩ := hrel
 by_cases hjt : j < vl
 · obtain ⟨p, hp⟩ := get_lt (l := l) (k := j) (by rw [← HI.out.2.2.2.1]; exact hjt)
   obtain ⟨bx, ox, hix, -, d0⟩ := (((HI.out.2.2.2.2.2.below H2.out.2.1).below HJ.out.2)).at j p hp
   have hji : (j : Int) < (vl : Int) := by omega
   have hpm : p.size ≤ maxLen := HI.out.2.2.2.2.2.2 p (List.mem_of_getElem? hp)
   obtain ⟨cp, W4, hr4, hb4, hs4, ha4⟩ := conv_el p hpm wr wr.heap.size rfl
   obtain ⟨us, hO, hE⟩ := HJ.out.1
   have HP : Hid (l[j]? = some p ∧ (l.take j).length = j) := ⟨hp, by rw [List.length_take, ← HI.out.2.2.2.1]; omega⟩
   rw [HP.out.2] at hO
   have H4 : Hid (W4.ownsRow w2.heap.size 25 1 (.slice av (j + 1) cv) (j + 1) (.slice da dl dc :: us) ∧ Each (fun u s => EL w2.heap.size W4 u s) us (l.take j) ∧ EL w2.heap.size W4 (.slice (some ⟨wr.heap.size, 0, none⟩) p.size cp) p ∧ Below w2.heap.size w2 W4) := ⟨own_below hO hb4, hE.mono fun _ _ h => h.below hb4, ha4.weaken HJ.out.2.size, below_any HJ.out.2 hb4⟩
   clear hp hO hE ha4 hb4 hpm
   go_wp2_with (at_builtin; refine push_row (by rfl) _ _ 89 25 (by rfl) Tryz.underlying89 Tryz.infoB rfl (by omega) w2.heap.size _ (.slice da dl dc :: us) (j + 1) [.slice (some ⟨wr.heap.size, 0, none⟩) p.size cp] rfl (by simp [Value.oneCell']) W4 (by rfl) H4.out.1 (by simp [go_sem, *]) (by omega) (by omega) H4.out.2.2.2.size ?_; intro g cap w3 hO3 hg3 hgr3 hlt3)
   have HS : Hid (RpO w2.heap.size w3 (.slice (some ⟨g, 0, none⟩) (j + 1 + 1) cap) (.slice da dl dc) (l.take (j + 1)) ∧ Below w2.heap.size w2 w3) := by (
 have hcl : Clear W4 (Value.slice av (j + 1) cv).ownBlock [5] := Clear.own H4.out.1 (by decide)
 have hgW : W4.grownBy w3 (Value.slice av (j + 1) cv).ownBlock := ⟨hg3.os, hg3.tape, hg3.output, Nat.le_trans (by simp) hg3.size, fun k hk hne => (hg3.block k (by simp; omega) hne).trans (Below.heap_alloc W4 _ k hk)⟩
 refine ⟨⟨us ++ [.slice (some ⟨wr.heap.size, 0, none⟩) p.size cp], ?_, ?_⟩, below_row H4.out.2.2.2 H4.out.1 hg3 (Nat.le_refl _) H4.out.2.2.2.size⟩
 · rw [take_snoc HP.out.1, List.length_append, HP.out.2]
   exact hO3
 · rw [take_snoc HP.out.1]
   exact (H4.out.2.1.mono fun _ _ h => h.grown hgW hcl).snoc (H4.out.2.2.1.grown hgW hcl))
   clear hO3 hg3 hgr3 hlt3
   go_wp2
   go_roundw
   case rel => exact ⟨j + 1, some ⟨g, 0, none⟩, cap, by omega, by go_num, rfl, HS.out⟩
   case measure => simp [intOf]; omega
 · obtain rfl : j = vl := by omega
   have hfull : l.take j = l := List.take_of_length_le (by rw [HI.out.2.2.2.1]; exact Nat.le_refl _)
   have HS : Hid (RpO w2.heap.size wr (.slice av (j + 1) cv) (.slice da dl dc) l ∧ Below w2.heap.size w2 wr) := by (
 have h1 := HJ.out
 rwa [hfull] at h1)
   clear hfull HJ
   obtain ⟨W5, hW5⟩ := exa (wr.alloc (.cells #[.int .i64 e, .int .i64 n] 3))
   have hb5 : Below wr.heap.size wr W5 := by rw [hW5]; exact (Below.refl _ wr).alloc (Nat.le_refl _) _
   have hB5 : Box W5 wr.heap.size 3 #[.int .i64 e, .int .i64 n] := by rw [hW5]; exact Box.new _ _ _
   have hbr : Below w.heap.size w wr := H2.out.2.1.trans (HS.out.2.mono H2.out.2.1.size)
   have HW5 : Hid (Below w.heap.size w W5) := hbr.trans (hb5.mono hbr.size)
   have hrec : W.recF.lies 0 W5 [.int .i64 0, .slice (some ⟨wr.heap.size, 0, none⟩) 2 2, .slice av (j + 1) cv] (rpR e n d l) := by (
 have hN : W.intsS.lies 0 W5 [.slice (some ⟨wr.heap.size, 0, none⟩) 2 2] [e, n] := ⟨_, rfl, cells_box hB5 rfl (by simp [maxLen]) (Nat.zero_le _), fun x hx => by
   rcases List.mem_cons.1 hx with rfl | hx
   · exact W.I64.wf HI.out.1
   · rw [List.mem_singleton.1 hx]; exact W.I64.wf HI.out.2.1⟩
 have hT : W.textsS.lies 0 W5 [.slice av (j + 1) cv] (d :: l.map octs) := W.textsS.below (rpo_lies HS.out.1 (w_arg (HI.out.2.2.2.2.1.below hbr))) hb5
 exact W.rec_mk (r := rpR e n d l) hN hT (show W.I64 0 from ⟨by decide, by decide⟩))
   have HE := W.enc_any 0 _ _ W5 hrec
   have HE2 : Hid (W.encO (rpR e n d l) = rpO e n d l ∧ W.chkR (rpR e n d l) = rpC e n d l) := ⟨HO.out.1.symm, HO.out.2.1.symm⟩
   have hxr := (HB.out.2.below H2.out.1 HB.out.2.lt).below HS.out.2 H2.out.2.2
   have z0 := hxr.cell 0 rfl
   have z1 := hxr.cell 1 rfl
   clear HO hb5 hB5 hbr hrec hxr
   go_wp2_with fail
   rw [← hW5]
   clear hW5 z0 z1
   refine HE.mono ?_
   rintro x w7 ⟨⟨a7, c7, rfl, ho7⟩, hb7⟩
   have HQ : Hid (post (.returned (.tuple #[.slice a7 (W.encO (rpR e n d l)).length c7, .int .i64 (W.chkR (rpR e n d l))])) w7) := HPo.out a7 _ c7 _ _ w7 HE2.out.2 HE2.out.1 rfl (W.bytesS.oweaken ho7 HW5.out.size) (HW5.out.trans (hb7.mono HW5.out.size))
   clear ho7 hb7 HE
   go_wp2
   exact HQ.out)
end Go.Proofs.YtopcefhncildnaaGreatDoor.K
