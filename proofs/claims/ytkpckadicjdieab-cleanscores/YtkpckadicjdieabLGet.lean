/-
  What the program's Get answers, for every store and kind.
-/
import Derived.Test.YtkpckadicjdieabLFree
namespace Go.Proofs.Ytkpckadicjdieab
open Go.RowKit

def gB (s : St) (o i : Int) : List Int := if okB s = true then (last s o i).1.2.2 else []
theorem kn_mem : ∀ (m : List Ver) (x : Kn), ((m.foldl knStep x).1 = x.1) ∨ ∃ y ∈ m, (m.foldl knStep x).1 = y.2.2
  | [], _ => .inl rfl
  | y :: m, x => by
    rw [List.foldl_cons]
    rcases kn_mem m (knStep x y) with h | ⟨z, hz, h⟩
    · rw [h]
      unfold knStep
      split
      · exact .inr ⟨y, by simp, rfl⟩
      · exact .inl rfl
    · exact .inr ⟨z, by simp [hz], h⟩
theorem vers_mem {s : St} {x : Ver} (h : x ∈ vers s) : (∃ p ∈ s.1, x.2.2 ∈ p.2 ∧ x.1 = p.1) ∨ (x.2.2 ∈ s.2.2.1 ∧ x.1 = s.2.2.2) := by
  have hpl : ∀ (q : Int) (l : List Bk), x ∈ plc q l → x.2.2 ∈ l ∧ x.1 = q := fun q l hx => by
    unfold plc at hx
    obtain ⟨y, hy, rfl⟩ := List.mem_map.1 hx
    obtain ⟨y1, y2⟩ := y
    exact ⟨(List.mem_zipIdx hy).2.2 ▸ List.getElem_mem _, rfl⟩
  rcases List.mem_append.1 h with h | h
  · unfold segv at h
    obtain ⟨l, hl, hx⟩ := List.mem_flatten.1 h
    obtain ⟨p, hp, rfl⟩ := List.mem_map.1 hl
    exact .inl ⟨p, hp, hpl _ _ hx⟩
  · exact .inr (hpl _ _ h)
theorem last_may {s : St} (h : Ok s) (o i : Int) : (last s o i).1.2.2.length ≤ 32 := by
  unfold last kn
  rcases kn_mem ((vers s).filter (isK o i)) kn0 with e | ⟨y, hy, e⟩
  · rw [e]; simp [kn0]
  · rw [e]
    rcases vers_mem (List.mem_filter.1 hy).1 with ⟨p, hp, hb, _⟩ | ⟨hb, _⟩
    · exact may_len (h.data p hp _ hb)
    · exact may_len (List.all_eq_true.1 h.may _ hb)

set_option maxRecDepth 100000 in
set_option maxHeartbeats 4000000 in
theorem get_any (n0 : Nat) (us : List Value) (s : St) (o i : Int) (w : World) (h : stN.lies n0 w us s) (ho : I64 o) (hi : I64 i) :
    Calls Try.prog 54 #[.agg us.toArray, .int .i64 o, .int .i64 i] w fun e w' => (∃ v', e = .returned (.tuple #[v', .bool (!decide ((gB s o i).length = 0)), .int .i64 (okE s)]) ∧ Own1 w.heap.size w' v' (gB s o i)) ∧ Below w.heap.size w w' := by
  obtain ⟨a, c, b, d, e, f, rfl, hS, hH, hO, hN, m1, m2, m3⟩ := st_viewN h
  obtain ⟨post, hpost⟩ : ∃ post : Ending → World → Prop, post = fun e w' => (∃ v', e = .returned (.tuple #[v', .bool (!decide ((gB s o i).length = 0)), .int .i64 (okE s)]) ∧ Own1 w.heap.size w' v' (gB s o i)) ∧ Below w.heap.size w w' := ⟨_, rfl⟩
  have HNO : Hid (∀ w', ¬ Ok s → Below w.heap.size w w' → post (.returned (.tuple #[.slice none 0 0, .bool false, .int .i64 9])) w') := fun w' h1 h3 => by
    have hb : gB s o i = [] := by unfold gB; rw [if_neg (fun c => h1 (ok_iff.1 c))]
    rw [hpost]
    refine ⟨⟨_, by rw [okE_bad h1, hb]; rfl, ?_⟩, h3⟩
    rw [hb]
    exact .mk (World.ownsRow_nil _ _ _ _) (fun _ h => by cases h)
  have HYES : Hid (∀ v' w', Ok s → Own1 w.heap.size w' v' (last s o i).1.2.2 → Below w.heap.size w w' → post (.returned (.tuple #[v', .bool (!decide ((last s o i).1.2.2.length = 0)), .int .i64 0])) w') := fun v' w' h1 h2 h3 => by
    have hb : gB s o i = (last s o i).1.2.2 := by unfold gB; rw [if_pos (ok_iff.2 h1)]
    rw [hpost]
    exact ⟨⟨v', by rw [okE_ok h1, hb], by rw [hb]; exact h2⟩, h3⟩
  rw [← hpost]
  clear hpost
  obtain ⟨n, hn⟩ : ∃ n, n = s.1.length := ⟨_, rfl⟩
  obtain ⟨nh, hnh⟩ : ∃ n, n = s.2.1.length := ⟨_, rfl⟩
  obtain ⟨no, hno⟩ : ∃ n, n = s.2.2.1.length := ⟨_, rfl⟩
  obtain ⟨nx, hnx⟩ : ∃ n, n = s.2.2.2 := ⟨_, rfl⟩
  rw [← hn, ← hnh, ← hno, ← hnx] at h ⊢
  obtain ⟨W, hW⟩ : ∃ W, W = w.alloc (.cells #[.slice a n c, .slice b nh d, .slice e no f, .int .i64 nx] 31) := ⟨_, rfl⟩
  have hbW : Below w.heap.size w W := by rw [hW]; exact (Below.refl _ w).alloc (Nat.le_refl _) _
  have hB1 : Box W w.heap.size 31 #[.slice a n c, .slice b nh d, .slice e no f, .int .i64 nx] := by rw [hW]; exact Box.new _ _ _
  have HC := checkL_any n0 [.slice a n c, .slice b nh d, .slice e no f, .int .i64 nx] s W (stN.below h hbW)
  have HW : Hid (Below w.heap.size w W ∧ Box W w.heap.size 31 #[.slice a n c, .slice b nh d, .slice e no f, .int .i64 nx] ∧ stN.lies n0 w [.slice a n c, .slice b nh d, .slice e no f, .int .i64 nx] s ∧ I64 o ∧ I64 i) := ⟨hbW, hB1, h, ho, hi⟩
  obtain ⟨g0, g1, g2, g3, -⟩ := hB1.four
  rw [hW] at g0 g1 g2 g3
  clear h hS hH hO hN m1 m2 m3 hbW hB1 hn hnh hno hnx ho hi
  go_enter Try.func54, Try.ntmps54
  go_wp2_with fail
  rw [← hW]
  clear hW g0 g1 g2 g3
  refine HC.mono ?_
  rintro e1 w1 ⟨rfl, hb1⟩
  have HB1 : Hid (Below w.heap.size w w1) := below_any HW.out.1 hb1
  obtain ⟨q0, q1, q2, q3, -⟩ := (HW.out.2.1.below hb1 HW.out.2.1.lt).four
  clear hb1 HC
  rcases okE_cases s with ⟨hk, hok⟩ | ⟨hk, hok⟩
  case inr =>
    rw [hk]
    have HE : Hid (post (.returned (.tuple #[.slice none 0 0, .bool false, .int .i64 9])) w1) := HNO.out w1 hok HB1.out
    clear hk hok
    go_wp2
    go_ret3
    exact HE.out
  case inl =>
    rw [hk]
    have HOK : Hid (Ok s) := hok
    have HCL := last_any n0 [.slice a n c, .slice b nh d, .slice e no f, .int .i64 nx] s w1 (stN.below HW.out.2.2.1 HB1.out) hok
    clear hk hok
    go_wp2_with fail
    refine HCL.mono ?_
    rintro e2 w2 ⟨⟨bb, rfl, hLV, -⟩, hb2⟩
    obtain ⟨kvv, hlk, hkv⟩ := hLV.look HW.out.2.2.2.1 HW.out.2.2.2.2
    have hlk2 := hlk w2 rfl
    obtain ⟨ka, kc, hkv0, hKA, _⟩ := hkv
    have HLA : Hid (∀ v' w', Own1 w.heap.size w' v' (last s o i).1.2.2 → Below w.heap.size w w' → post (.returned (.tuple #[v', .bool (!decide ((last s o i).1.2.2.length = 0)), .int .i64 0])) w') := fun v' w' h1 h2 => HYES.out v' w' HOK.out h1 h2
    have HLM : Hid ((last s o i).1.2.2.length ≤ 32) := last_may HOK.out o i
    unfold last at HLA HLM
    obtain ⟨⟨kb, sq, pl, ct⟩, hkk⟩ : ∃ y, y = kn (vers s) o i := ⟨_, rfl⟩
    rw [← hkk] at hkv0 hKA HLA HLM
    simp only at hkv0 hKA HLA HLM
    obtain ⟨m, hm⟩ : ∃ m, m = kb.2.2.length := ⟨_, rfl⟩
    rw [← hm] at hkv0 hKA HLA HLM
    subst hkv0
    obtain ⟨V, hV⟩ : ∃ V, V = w2.alloc (.cells #[.int .i64 kb.1, .int .i64 kb.2.1, .slice ka m kc, .int .i64 sq, .int .i64 (pl : Nat), .int .i64 (ct : Nat)] 82) := ⟨_, rfl⟩
    have hbV : Below w2.heap.size w2 V := by rw [hV]; exact (Below.refl _ _).alloc (Nat.le_refl _) _
    have hxV : Box V w2.heap.size 82 #[.int .i64 kb.1, .int .i64 kb.2.1, .slice ka m kc, .int .i64 sq, .int .i64 (pl : Nat), .int .i64 (ct : Nat)] := by rw [hV]; exact Box.new _ _ _
    have HV : Hid (Below w.heap.size w V ∧ Arg 0 V (.slice ka m kc) kb.2.2 ∧ ∀ U, Below V.heap.size V U → U.cell? ⟨w2.heap.size, 0, none⟩ = some (.int .i64 kb.1) ∧ U.cell? ⟨w2.heap.size, 1, none⟩ = some (.int .i64 kb.2.1) ∧ U.cell? ⟨w2.heap.size, 2, none⟩ = some (.slice ka m kc)) := ⟨below_any (below_any HB1.out hb2) hbV, (hKA.below hb2).below hbV, fun U hU => by
      have h1 := (hxV.below hU hxV.lt).six
      exact ⟨h1.1, h1.2.1, h1.2.2.1⟩⟩
    have HM : Hid (m = kb.2.2.length) := hm
    clear hLV hb2 hlk hKA hkk hm hbV hxV HCL
    go_upto_region 5 with fail
    rw [← hV]
    clear hV hlk2 q0 q1 q2 q3
    refine AnyBut.begin (fun U => U.cell? ⟨w2.heap.size, 0, none⟩ = some (.int .i64 kb.1) ∧ U.cell? ⟨w2.heap.size, 1, none⟩ = some (.int .i64 kb.2.1) ∧ U.cell? ⟨w2.heap.size, 2, none⟩ = some (.slice ka m kc)) 1000 (by kernel_rfl) ?_
    have hSS := HV.out.2.2 V.drew (Below.refl _ V).drew
    refine tx 0 22 hSS ?_
    simp only [ua, ub, uc, ud]
    refine tx 1 23 hSS ?_
    simp only [ua, ub, uc, ud]
    refine tx 2 24 hSS ?_
    simp only [ua, ub, uc, ud]
    refine tx 4 26 hSS ?_
    simp only [ua, ub, uc, ud]
    refine tx 5 27 hSS ?_
    simp only [ua, ub, uc, ud]
    refine AnyBut.step (i := 3) (by kernel_rfl) rfl (fun K hK => ?_)
    go_simp
    refine Calls.mono (octets_any 0 (.slice ka m kc) kb.2.2 V.drew (HV.out.2.1.below (Below.refl _ V).drew) (by have := HLM.out; have := HM.out; omega)) ?_
    rintro e3 w3 ⟨⟨v3, rfl, ho3⟩, hb3⟩
    have hb3 : Below V.heap.size V w3 := ((Below.refl _ V).drew).trans hb3
    dsimp only
    refine hK.out _ _ (HV.out.2.2 w3 hb3) ?_
    clear hK hSS
    have hSS := HV.out.2.2 w3 hb3
    refine AnyBut.step (i := 6) (by kernel_rfl) rfl (fun K hK => ?_)
    go_simp
    refine Calls.mono (isGone_any kb.1 kb.2.1 ka m kc w3) ?_
    rintro e4 w4 ⟨rfl, hb4⟩
    have hb34 := hb4
    have hb4 : Below V.heap.size V w4 := hb3.trans (hb4.mono hb3.size)
    dsimp only
    refine hK.out _ _ (HV.out.2.2 w4 hb4) ?_
    clear hK hSS
    have hSS := HV.out.2.2 w4 hb4
    have HE : Hid (post (.returned (.tuple #[v3, .bool (!decide (m = 0)), .int .i64 0])) w4) := HLA.out v3 w4 (bytesS.oweaken (bytesS.obelow ho3 hb34) HV.out.1.size) (below_any HV.out.1 hb4)
    obtain ⟨a3, c3, rfl⟩ := ho3.shape
    generalize decide (m = 0) = gn at HE
    refine tx 7 29 hSS ?_
    simp only [ua, ub, uc, ud]
    refine tx 8 6 hSS ?_
    simp only [ua, ub, uc, ud]
    refine tx 9 7 hSS ?_
    simp only [ua, ub, uc, ud]
    refine tx 10 8 hSS ?_
    simp only [ua, ub, uc, ud]
    refine AnyBut.done (by kernel_rfl) ?_
    clear ho3 hb3 hb4 hb34 hSS
    go_wp2
    go_ret3
    exact HE.out

/-! New stores. -/
def nE (k : Int) : Int := if k < 1 ∨ 64 < k then 4 else 0
def nS (k : Int) : St := if nE k = 0 then (List.replicate k.toNat (0, []), List.replicate k.toNat false, [], 1) else s0
theorem each_rep {α β : Type} {R : α → β → Prop} {a : α} {b : β} (h : R a b) : ∀ n, Each R (List.replicate n a) (List.replicate n b)
  | 0 => trivial
  | n + 1 => ⟨h, each_rep h n⟩
theorem made_two (z1 z2 : Value) (n : Nat) : (madeCells #[z1, z2] (n * 2)).toList = (List.replicate n [z1, z2]).flatten := by
  apply List.ext_getElem?
  intro j
  by_cases hj : j < n * 2
  · have h1 : (List.replicate n [z1, z2])[j / 2]? = some [z1, z2] := by rw [List.getElem?_replicate, if_pos (by omega)]
    have h2 : ([z1, z2] : List Value)[j % 2]? = some (if j % 2 = 0 then z1 else z2) := by
      have : j % 2 = 0 ∨ j % 2 = 1 := by omega
      rcases this with e | e <;> rw [e] <;> rfl
    have h3 := flat_get (size := 2) (fun us hus => by rw [List.eq_of_mem_replicate hus]; rfl) h1 h2
    rw [show j / 2 * 2 + j % 2 = j by omega] at h3
    rw [h3]
    have : j % 2 = 0 ∨ j % 2 = 1 := by omega
    rcases this with e | e <;> simp [madeCells, hj, e]
  · have h4 : ((List.replicate n [z1, z2]).flatten).length = n * 2 := by rw [flat_length (size := 2) (fun us hus => by rw [List.eq_of_mem_replicate hus]; rfl), List.length_replicate]
    have h5 : ((List.replicate n [z1, z2]).flatten)[j]? = none := List.getElem?_eq_none (by rw [h4]; omega)
    rw [h5]
    simp [madeCells, hj]

end Go.Proofs.Ytkpckadicjdieab
