import Derived.Test.YtkpckadicjdieabZ19
import Derived.Test.YtkpckadicjdieabZ26
import Derived.Test.YtkpckadicjdieabZ20
import Derived.Test.YtkpckadicjdieabZ27
/-
  The last version of a kind, as the document tells it.
-/
namespace Go.Proofs.Ytkpckadicjdieab
open Go.RowKit

/-- What is known of a kind, as the document holds it. -/
def KX (w : World) (L : List Ver) (o x sq : Int) (pl ct : Nat) (v : Value) : Prop := ∃ kb : Bk, kn L o x = (kb, sq, pl, ct) ∧ Arg 0 w v kb.2.2 ∧ I64 sq ∧ ct ≤ L.length
theorem KX.nil (w : World) (o x : Int) : KX w [] o x 0 0 0 (.slice none 0 0) := ⟨(0, 0, []), rfl, .mk ⟨rfl, .inl ⟨rfl, rfl⟩⟩ (fun _ h => by cases h), ⟨by omega, by omega⟩, Nat.le_refl _⟩
theorem KX.skip {w : World} {L : List Ver} {o x sq : Int} {pl ct : Nat} {v : Value} (h : KX w L o x sq pl ct v) {q : Int} {j : Nat} {t : Bk} (hn : ¬ (t.1 = o ∧ t.2.1 = x)) : KX w (L ++ [(q, j, t)]) o x sq pl ct v := by
  obtain ⟨kb, h1, h2, h3, h4⟩ := h
  exact ⟨kb, by rw [kn_other _ _ _ _ (fun c => hn ⟨c.1.symm, c.2.symm⟩)]; exact h1, h2, h3, by rw [List.length_append]; omega⟩
theorem KX.keep {w : World} {L : List Ver} {sq : Int} {pl ct : Nat} {v : Value} {q : Int} {j : Nat} {t : Bk} (h : KX w L t.1 t.2.1 sq pl ct v) (hn : ¬ sq ≤ q) : KX w (L ++ [(q, j, t)]) t.1 t.2.1 sq pl (ct + 1) v := by
  obtain ⟨kb, h1, h2, h3, h4⟩ := h
  refine ⟨kb, ?_, h2, h3, by rw [List.length_append]; simp; omega⟩
  rw [kn_same, h1]
  unfold knStep
  rw [if_neg hn]
theorem KX.over {w : World} {L : List Ver} {sq : Int} {pl ct : Nat} {v u : Value} {q : Int} {j : Nat} {t : Bk} (h : KX w L t.1 t.2.1 sq pl ct v) (hn : sq ≤ q) (hu : Arg 0 w u t.2.2) (hq : I64 q) : KX w (L ++ [(q, j, t)]) t.1 t.2.1 q j (ct + 1) u := by
  obtain ⟨kb, h1, h2, h3, h4⟩ := h
  refine ⟨t, ?_, hu, hq, by rw [List.length_append]; simp; omega⟩
  rw [kn_same, h1]
  unfold knStep
  rw [if_pos hn]
theorem kn_seq : ∀ (m : List Ver) (y : Kn) (b : Int), y.2.1 ≤ b → (∀ v ∈ m, v.1 ≤ b) → (m.foldl knStep y).2.1 ≤ b
  | [], _, _, h, _ => h
  | v :: m, y, b, h, hv => by
    rw [List.foldl_cons]
    refine kn_seq m _ b ?_ fun v' hv' => hv v' (List.mem_cons_of_mem _ hv')
    unfold knStep
    split
    · exact hv v (List.mem_cons_self ..)
    · exact h
theorem seq_le {s : St} (h : Ok s) (j : Nat) (o x : Int) : (kn (segv s.1 ++ plc s.2.2.2 (s.2.2.1.take j)) o x).2.1 ≤ s.2.2.2 := by
  unfold kn
  refine kn_seq _ _ _ (by have := h.next.1; show (0 : Int) ≤ _; omega) fun v hv => ?_
  have hm : v ∈ vers s := by
    rcases List.mem_append.1 (List.mem_filter.1 hv).1 with hm | hm
    · exact List.mem_append_left _ hm
    · refine List.mem_append_right _ ?_
      unfold plc at hm ⊢
      obtain ⟨y, hy, rfl⟩ := List.mem_map.1 hm
      refine List.mem_map.2 ⟨y, ?_, rfl⟩
      obtain ⟨y1, y2⟩ := y
      rw [List.mem_zipIdx_iff_getElem?] at hy ⊢
      rw [List.getElem?_take] at hy
      by_cases c : y2 < j
      · rw [if_pos c] at hy; exact hy
      · rw [if_neg c] at hy; cases hy
  rcases vers_mem hm with ⟨p, hp, hb, e⟩ | ⟨_, e⟩
  · rw [e]
    cases hf : freeB p
    · have := (h.each p hp hf).2; omega
    · have := (free_iff.1 hf).1; have := h.next.1; omega
  · rw [e]; omega

set_option maxRecDepth 100000 in
set_option maxHeartbeats 8000000 in
theorem rlast_any (n0 : Nat) (us : List Value) (s : St) (o x : Int) (w : World) (h : stR.lies n0 w us s) (hok : Ok s) :
    Calls Try.prog 76 #[.agg us.toArray, .int .i64 o, .int .i64 x] w fun e w' => (∃ (sq : Int) (pl ct : Nat) (v : Value), e = .returned (.tuple #[.int .i64 sq, .int .i64 (pl : Nat), v, .int .i64 (ct : Nat)]) ∧ KX w (vers s) o x sq pl ct v) ∧ Below w.heap.size w w' := by
  obtain ⟨a, c, b, d, e, f, rfl, hS, hH, hO, hN, m1, m2, m3⟩ := st_viewR h
  have HSL : Hid (∀ j, (kn (segv s.1 ++ plc s.2.2.2 (s.2.2.1.take j)) o x).2.1 ≤ s.2.2.2) := fun j => seq_le hok j o x
  have HOK : Hid (s.1.length ≤ 64 ∧ s.2.2.1.length ≤ 8 ∧ ∀ p ∈ s.1, p.2.length ≤ 8) := ⟨hok.slots.2, hok.few, hok.small⟩
  obtain ⟨l, hd, op, nx⟩ := s
  simp only at hS hH hO hN m1 m2 m3 HOK HSL ⊢
  obtain ⟨post, hpost⟩ : ∃ post : Ending → World → Prop, post = fun e w' => (∃ (sq : Int) (pl ct : Nat) (v : Value), e = .returned (.tuple #[.int .i64 sq, .int .i64 (pl : Nat), v, .int .i64 (ct : Nat)]) ∧ KX w (vers (l, hd, op, nx)) o x sq pl ct v) ∧ Below w.heap.size w w' := ⟨_, rfl⟩
  have HPo : Hid (∀ sq pl ct v w', KX w (vers (l, hd, op, nx)) o x sq pl ct v → Below w.heap.size w w' → post (.returned (.tuple #[.int .i64 sq, .int .i64 (pl : Nat), v, .int .i64 (ct : Nat)])) w') := fun sq pl ct v w' h1 h2 => by rw [hpost]; exact ⟨⟨sq, pl, ct, v, rfl, h1⟩, h2⟩
  rw [← hpost]
  clear hpost
  obtain ⟨n, hn⟩ : ∃ n, n = l.length := ⟨_, rfl⟩
  obtain ⟨nh, hnh⟩ : ∃ n, n = hd.length := ⟨_, rfl⟩
  obtain ⟨no, hno⟩ : ∃ n, n = op.length := ⟨_, rfl⟩
  have hl1 := run_len Try.underlying22 a n c
  have hl3 := run_len Try.underlying24 e no f
  rw [← hn] at hS HOK ⊢
  rw [← hnh] at ⊢
  rw [← hno] at hO HOK ⊢
  have HN : Hid (n = l.length ∧ no = op.length ∧ I64 nx) := ⟨hn, hno, hN⟩
  have HA : Hid (sgsR.lies n0 w [.slice a n c] l ∧ bksR.lies n0 w [.slice e no f] op) := ⟨hS, hO⟩
  have hn64 := HOK.out.1
  have hno8 := HOK.out.2.1
  obtain ⟨W, hW⟩ : ∃ W, W = w.alloc (.cells #[.slice a n c, .slice b nh d, .slice e no f, .int .i64 nx] 26) := ⟨_, rfl⟩
  have hbW : Below w.heap.size w W := by rw [hW]; exact (Below.refl _ w).alloc (Nat.le_refl _) _
  have hB1 : Box W w.heap.size 26 #[.slice a n c, .slice b nh d, .slice e no f, .int .i64 nx] := by rw [hW]; exact Box.new _ _ _
  have HB : Hid (Below w.heap.size w W ∧ Box W w.heap.size 26 #[.slice a n c, .slice b nh d, .slice e no f, .int .i64 nx]) := ⟨hbW, hB1⟩
  clear h hS hH hO hN m1 m2 m3 hbW hB1 hn hnh hno hok
  go_enter Try.func76, Try.ntmps76
  go_wp2
  rw [← hW]
  clear hW
  go_loopw [10, 11, 12, 13, 14] (fun s10 s11 s12 s13 i wr => ∃ (k : Nat) (sq : Int) (pl ct : Nat) (ka : Option Addr) (km kc : Nat), k ≤ n ∧ i = .int .i64 k ∧ s10 = .int .i64 sq ∧ s11 = .int .i64 (pl : Nat) ∧ s12 = .int .i64 (ct : Nat) ∧ s13 = .slice ka km kc ∧ Hid (KX w (segv (l.take k)) o x sq pl ct (.slice ka km kc) ∧ Below W.heap.size W wr)) (fun _ _ _ _ i _ => n - (intOf i).toNat)
  case atStart => exact ⟨0, 0, 0, 0, none, 0, 0, Nat.zero_le _, rfl, rfl, rfl, rfl, rfl, by simpa [segv] using KX.nil w o x, Below.refl _ _⟩
  case round =>
    obtain ⟨k, sq, pl, ct, ka, km, kc, hk, rfl, rfl, rfl, rfl, rfl, HJ⟩ := hrel
    obtain ⟨z0, z1, z2, z3, -⟩ := (HB.out.2.below HJ.out.2 HB.out.2.lt).four
    by_cases hlt : k < n
    · obtain ⟨p, hp⟩ := get_lt (l := l) (k := k) (by rw [← HN.out.1]; exact hlt)
      have hki : (k : Int) < (n : Int) := by omega
      obtain ⟨pb, po, px, pcap, hix, c0, c1, hL, _⟩ := sgs_atR HA.out.1 k p hp
      obtain ⟨_, _, e0, hLb, hI, _⟩ := sg_viewR hL
      obtain ⟨m, hm⟩ : ∃ m, m = p.2.length := ⟨_, rfl⟩
      have HP : Hid (bksR.lies n0 w [.slice px m pcap] p.2 ∧ m = p.2.length ∧ I64 p.1 ∧ segv (l.take (k + 1)) = segv (l.take k) ++ plc p.1 p.2 ∧ (segv (l.take k)).length ≤ 512) := ⟨by rw [hm]; simp at e0; obtain ⟨rfl, rfl⟩ := e0; exact hLb, hm, hI, segv_take hp, by
        have h1 := segv_length (l := l.take k) fun q hq => HOK.out.2.2 q (List.mem_of_mem_take hq)
        rw [List.length_take] at h1
        omega⟩
      have hm8 : m ≤ 8 := by rw [hm]; exact HOK.out.2.2 p (List.mem_of_getElem? hp)
      have HC : Hid (∀ V, Below W.heap.size W V → (V.cell? ⟨w.heap.size, 0, none⟩ = some (.slice a n c) ∧ V.cell? ⟨w.heap.size, 2, none⟩ = some (.slice e no f) ∧ V.cell? ⟨w.heap.size, 3, none⟩ = some (.int .i64 nx)) ∧ V.cell? ⟨pb, po, none⟩ = some (.int .i64 p.1) ∧ V.cell? ⟨pb, po + 1, none⟩ = some (.slice px m pcap)) := fun V hV => by
        have h1 := (HB.out.2.below hV HB.out.2.lt).four
        have h2 := below_any HB.out.1 hV
        exact ⟨⟨h1.1, h1.2.2.1, h1.2.2.2.1⟩, by rw [h2.cell (cell_lt c0)]; exact c0, by rw [h2.cell (cell_lt c1)]; rw [hm]; exact c1⟩
      have hl5 := run_len Try.underlying24 px m pcap
      clear hp c0 c1 hL hLb hI e0 hm
      go_wp2
      clear z0 z1 z2 z3
      go_loopw [10, 11, 12, 13, 15] (fun s10 s11 s12 s13 i wr => ∃ (j : Nat) (sq : Int) (pl ct : Nat) (ka : Option Addr) (km kc : Nat), j ≤ m ∧ i = .int .i64 j ∧ s10 = .int .i64 sq ∧ s11 = .int .i64 (pl : Nat) ∧ s12 = .int .i64 (ct : Nat) ∧ s13 = .slice ka km kc ∧ Hid (KX w (segv (l.take k) ++ plc p.1 (p.2.take j)) o x sq pl ct (.slice ka km kc) ∧ Below W.heap.size W wr)) (fun _ _ _ _ i _ => m - (intOf i).toNat)
      case atStart => exact ⟨0, sq, pl, ct, ka, km, kc, Nat.zero_le _, rfl, rfl, rfl, rfl, rfl, by simpa [plc] using HJ.out.1, HJ.out.2⟩
      case round =>
        obtain ⟨j, sq, pl, ct, ka, km, kc, hj, rfl, rfl, rfl, rfl, rfl, HJ⟩ := hrel
        obtain ⟨⟨z0, z2, z3⟩, y0, y1⟩ := HC.out wr HJ.out.2
        by_cases hjm : j < m
        · obtain ⟨t, ht⟩ := get_lt (l := p.2) (k := j) (by rw [← HP.out.2.1]; exact hjm)
          obtain ⟨tb, tof, tx', tcap, hixt, k0, k1, k2, hA, hto, hti, _⟩ := bks_atR HP.out.1 j t ht
          have hji : (j : Int) < (m : Int) := by omega
          have hbr := below_any HB.out.1 HJ.out.2
          have g0 : wr.cell? ⟨tb, tof, none⟩ = some (.int .i64 t.1) := by rw [hbr.cell (cell_lt k0)]; exact k0
          have g1 : wr.cell? ⟨tb, tof + 1, none⟩ = some (.int .i64 t.2.1) := by rw [hbr.cell (cell_lt k1)]; exact k1
          have g2 : wr.cell? ⟨tb, tof + 2, none⟩ = some (.slice tx' t.2.2.length tcap) := by rw [hbr.cell (cell_lt k2)]; exact k2
          obtain ⟨ml, hml⟩ : ∃ k, k = t.2.2.length := ⟨_, rfl⟩
          rw [← hml] at g2 hA
          have HT : Hid (plc p.1 (p.2.take (j + 1)) = plc p.1 (p.2.take j) ++ [(p.1, j, t)] ∧ Arg 0 w (.slice tx' ml tcap) t.2.2) := ⟨plc_take ht, hA.weaken (Nat.zero_le _)⟩
          have HCT : Hid (ct ≤ 600) := by
            obtain ⟨_, _, _, _, h4⟩ := HJ.out.1
            show ct ≤ 600
            have := HP.out.2.2.2.2
            rw [List.length_append, plc_length, List.length_take] at h4
            omega
          have hct := HCT.out
          obtain ⟨V, hV⟩ : ∃ V, V = wr.alloc (.cells #[.int .i64 t.1, .int .i64 t.2.1, .slice tx' ml tcap] 97) := ⟨_, rfl⟩
          have hbV : Below W.heap.size W V := by rw [hV]; exact HJ.out.2.alloc HJ.out.2.size _
          have hxV : Box V wr.heap.size 97 #[.int .i64 t.1, .int .i64 t.2.1, .slice tx' ml tcap] := by rw [hV]; exact Box.new _ _ _
          have HV : Hid (Below W.heap.size W V) := hbV
          obtain ⟨v0, v1, v2, -⟩ := hxV.three
          obtain ⟨⟨w0', w2', w3'⟩, x0', x1'⟩ := HC.out V hbV
          clear ht hA hto hti k0 k1 k2 hml hbr hbV hxV
          go_upto_region 10 with fail
          rw [← hV]
          clear hV g0 g1 g2 hixt z0 z2 z3 y0 y1
          by_cases ho : t.1 = o
          · by_cases hx : t.2.1 = x
            · subst ho hx
              by_cases hge : sq ≤ p.1
              · have HF : Hid (KX w (segv (l.take k) ++ plc p.1 (p.2.take (j + 1))) t.1 t.2.1 p.1 j (ct + 1) (.slice tx' ml tcap) ∧ ∀ r, Below W.heap.size W (V.drewN r)) := ⟨by rw [HT.out.1, ← List.append_assoc]; exact HJ.out.1.over hge HT.out.2 HP.out.2.2.1, fun r => below_drewN HV.out r⟩
                go_wp2
                go_quiet (fail)
                go_wp2
                go_roundw
                case rel => exact ⟨j + 1, p.1, j, ct + 1, tx', ml, tcap, by omega, by go_num, rfl, rfl, by go_num, rfl, HF.out.1, HF.out.2 _⟩
                case measure => simp [intOf]; omega
              · have HF : Hid (KX w (segv (l.take k) ++ plc p.1 (p.2.take (j + 1))) t.1 t.2.1 sq pl (ct + 1) (.slice ka km kc) ∧ Below W.heap.size W V) := ⟨by rw [HT.out.1, ← List.append_assoc]; exact HJ.out.1.keep hge, HV.out⟩
                go_wp2
                go_roundw
                case rel => exact ⟨j + 1, sq, pl, ct + 1, ka, km, kc, by omega, by go_num, rfl, rfl, by go_num, rfl, HF.out⟩
                case measure => simp [intOf]; omega
            · have hxi : (t.2.1 == x) = false := by simp [hx]
              have HF : Hid (KX w (segv (l.take k) ++ plc p.1 (p.2.take (j + 1))) o x sq pl ct (.slice ka km kc) ∧ Below W.heap.size W V) := ⟨by rw [HT.out.1, ← List.append_assoc]; exact HJ.out.1.skip (fun c => hx c.2), HV.out⟩
              subst ho
              go_wp2
              go_roundw
              case rel => exact ⟨j + 1, sq, pl, ct, ka, km, kc, by omega, by go_num, rfl, rfl, rfl, rfl, HF.out⟩
              case measure => simp [intOf]; omega
          · have hoi : (t.1 == o) = false := by simp [ho]
            have HF : Hid (KX w (segv (l.take k) ++ plc p.1 (p.2.take (j + 1))) o x sq pl ct (.slice ka km kc) ∧ Below W.heap.size W V) := ⟨by rw [HT.out.1, ← List.append_assoc]; exact HJ.out.1.skip (fun c => ho c.1), HV.out⟩
            go_wp2
            go_roundw
            case rel => exact ⟨j + 1, sq, pl, ct, ka, km, kc, by omega, by go_num, rfl, rfl, rfl, rfl, HF.out⟩
            case measure => simp [intOf]; omega
        · obtain rfl : j = m := by omega
          have HF : Hid (KX w (segv (l.take (k + 1))) o x sq pl ct (.slice ka km kc) ∧ Below W.heap.size W wr) := by
            show _ ∧ _
            have := HJ.out
            rwa [HP.out.2.1, List.take_length, ← HP.out.2.2.2.1] at this
          go_wp2
          go_roundw
          case rel => exact ⟨k + 1, sq, pl, ct, ka, km, kc, by omega, by go_num, rfl, rfl, rfl, rfl, HF.out⟩
          case measure => simp [intOf]; omega
    · obtain rfl : k = n := by omega
      have HJ0 : Hid (KX w (segv l) o x sq pl ct (.slice ka km kc) ∧ Below W.heap.size W wr) := by
        show _ ∧ _
        have := HJ.out
        rwa [HN.out.1, List.take_length] at this
      clear HJ
      go_wp2
      clear z0 z1 z2 z3
      go_loopw [10, 11, 12, 13, 17] (fun s10 s11 s12 s13 i wr => ∃ (j : Nat) (sq : Int) (pl ct : Nat) (ka : Option Addr) (km kc : Nat), j ≤ no ∧ i = .int .i64 j ∧ s10 = .int .i64 sq ∧ s11 = .int .i64 (pl : Nat) ∧ s12 = .int .i64 (ct : Nat) ∧ s13 = .slice ka km kc ∧ Hid (KX w (segv l ++ plc nx (op.take j)) o x sq pl ct (.slice ka km kc) ∧ Below W.heap.size W wr)) (fun _ _ _ _ i _ => no - (intOf i).toNat)
      case atStart => exact ⟨0, sq, pl, ct, ka, km, kc, Nat.zero_le _, rfl, rfl, rfl, rfl, rfl, by simpa [plc] using HJ0.out.1, HJ0.out.2⟩
      case round =>
        obtain ⟨j, sq, pl, ct, ka, km, kc, hj, rfl, rfl, rfl, rfl, rfl, HJ⟩ := hrel
        obtain ⟨z0, z1, z2, z3, -⟩ := (HB.out.2.below HJ.out.2 HB.out.2.lt).four
        by_cases hjm : j < no
        · obtain ⟨t, ht⟩ := get_lt (l := op) (k := j) (by rw [← HN.out.2.1]; exact hjm)
          obtain ⟨tb, tof, tx', tcap, hixt, k0, k1, k2, hA, hto, hti, _⟩ := bks_atR HA.out.2 j t ht
          have hji : (j : Int) < (no : Int) := by omega
          have hbr := below_any HB.out.1 HJ.out.2
          have g0 : wr.cell? ⟨tb, tof, none⟩ = some (.int .i64 t.1) := by rw [hbr.cell (cell_lt k0)]; exact k0
          have g1 : wr.cell? ⟨tb, tof + 1, none⟩ = some (.int .i64 t.2.1) := by rw [hbr.cell (cell_lt k1)]; exact k1
          have g2 : wr.cell? ⟨tb, tof + 2, none⟩ = some (.slice tx' t.2.2.length tcap) := by rw [hbr.cell (cell_lt k2)]; exact k2
          obtain ⟨ml, hml⟩ : ∃ k, k = t.2.2.length := ⟨_, rfl⟩
          rw [← hml] at g2 hA
          have HT : Hid (plc nx (op.take (j + 1)) = plc nx (op.take j) ++ [(nx, j, t)] ∧ Arg 0 w (.slice tx' ml tcap) t.2.2) := ⟨plc_take ht, hA.weaken (Nat.zero_le _)⟩
          have HSQ : Hid (sq ≤ nx) := by
            obtain ⟨_, h1, _⟩ := HJ.out.1
            have h2 := HSL.out j
            rw [h1] at h2
            exact h2
          have HCT : Hid (ct ≤ 600) := by
            obtain ⟨_, _, _, _, h4⟩ := HJ.out.1
            show ct ≤ 600
            have h1 := segv_length (l := l) fun q hq => HOK.out.2.2 q hq
            have := HN.out.1
            rw [List.length_append, plc_length, List.length_take] at h4
            omega
          have hct := HCT.out
          clear ht hA hto hti k0 k1 k2 hml hbr
          by_cases ho : t.1 = o
          · by_cases hx : t.2.1 = x
            · subst ho hx
              have HF : Hid (KX w (segv l ++ plc nx (op.take (j + 1))) t.1 t.2.1 nx j (ct + 1) (.slice tx' ml tcap) ∧ ∀ r, Below W.heap.size W (wr.drewN r)) := ⟨by rw [HT.out.1, ← List.append_assoc]; exact HJ.out.1.over HSQ.out HT.out.2 HN.out.2.2, fun r => below_drewN HJ.out.2 r⟩
              go_wp2
              go_quiet (fail)
              go_wp2
              go_roundw
              case rel => exact ⟨j + 1, nx, j, ct + 1, tx', ml, tcap, by omega, by go_num, rfl, rfl, by go_num, rfl, HF.out.1, HF.out.2 _⟩
              case measure => simp [intOf]; omega
            · have hxi : (t.2.1 == x) = false := by simp [hx]
              have HF : Hid (KX w (segv l ++ plc nx (op.take (j + 1))) o x sq pl ct (.slice ka km kc) ∧ Below W.heap.size W wr) := ⟨by rw [HT.out.1, ← List.append_assoc]; exact HJ.out.1.skip (fun c => hx c.2), HJ.out.2⟩
              subst ho
              go_wp2
              go_roundw
              case rel => exact ⟨j + 1, sq, pl, ct, ka, km, kc, by omega, by go_num, rfl, rfl, rfl, rfl, HF.out⟩
              case measure => simp [intOf]; omega
          · have hoi : (t.1 == o) = false := by simp [ho]
            have HF : Hid (KX w (segv l ++ plc nx (op.take (j + 1))) o x sq pl ct (.slice ka km kc) ∧ Below W.heap.size W wr) := ⟨by rw [HT.out.1, ← List.append_assoc]; exact HJ.out.1.skip (fun c => ho c.1), HJ.out.2⟩
            go_wp2
            go_roundw
            case rel => exact ⟨j + 1, sq, pl, ct, ka, km, kc, by omega, by go_num, rfl, rfl, rfl, rfl, HF.out⟩
            case measure => simp [intOf]; omega
        · obtain rfl : j = no := by omega
          have HE : Hid (post (.returned (.tuple #[.int .i64 sq, .int .i64 (pl : Nat), .slice ka km kc, .int .i64 (ct : Nat)])) wr) := HPo.out _ _ _ _ _ (by have := HJ.out.1; rw [HN.out.2.1, List.take_length] at this; exact this) (below_any HB.out.1 HJ.out.2)
          go_wp2
          refine bodyPost_ret (v := .tuple #[.int .i64 sq, .int .i64 (pl : Nat), .slice ka km kc, .int .i64 (ct : Nat)]) (by simp [results, Try.results76, go_sem, *]) rfl HE.out

end Go.Proofs.Ytkpckadicjdieab

/-
  The document's slots in use.
-/
namespace Go.Proofs.Ytkpckadicjdieab
open Go.RowKit

set_option maxRecDepth 100000 in
set_option maxHeartbeats 4000000 in
theorem rused_any (n0 : Nat) (us : List Value) (s : St) (k : Int) (w : World) (h : stR.lies n0 w us s) :
    Calls Try.prog 75 #[.agg us.toArray, .int .i64 k] w fun e w' => e = .returned (.int .i64 (uE s k)) ∧ Below w.heap.size w w' := by
  obtain ⟨a, c, b, d, e, f, rfl, hS, hH, hO, hN, m1, m2, m3⟩ := st_viewR h
  obtain ⟨post, hpost⟩ : ∃ post : Ending → World → Prop, post = fun e w' => e = .returned (.int .i64 (uE s k)) ∧ Below w.heap.size w w' := ⟨_, rfl⟩
  have HP : Hid (∀ r w', uE s k = r → Below w.heap.size w w' → post (.returned (.int .i64 r)) w') := fun r w' h1 h2 => by rw [hpost]; exact ⟨by rw [h1], h2⟩
  rw [← hpost]
  clear hpost
  unfold maxLen at m1
  obtain ⟨n, hn⟩ : ∃ n, n = s.1.length := ⟨_, rfl⟩
  obtain ⟨nh, hnh⟩ : ∃ n, n = s.2.1.length := ⟨_, rfl⟩
  obtain ⟨no, hno⟩ : ∃ n, n = s.2.2.1.length := ⟨_, rfl⟩
  obtain ⟨nx, hnx⟩ : ∃ n, n = s.2.2.2 := ⟨_, rfl⟩
  rw [← hn, ← hnh, ← hno, ← hnx] at h ⊢
  rw [← hn] at hS m1
  obtain ⟨W, hW⟩ : ∃ W, W = w.alloc (.cells #[.slice a n c, .slice b nh d, .slice e no f, .int .i64 nx] 26) := ⟨_, rfl⟩
  have hbW : Below w.heap.size w W := by rw [hW]; exact (Below.refl _ w).alloc (Nat.le_refl _) _
  have hB1 : Box W w.heap.size 26 #[.slice a n c, .slice b nh d, .slice e no f, .int .i64 nx] := by rw [hW]; exact Box.new _ _ _
  have HC := rcheckL_any n0 [.slice a n c, .slice b nh d, .slice e no f, .int .i64 nx] s W (stR.below h hbW)
  have HW : Hid (Below w.heap.size w W ∧ Box W w.heap.size 26 #[.slice a n c, .slice b nh d, .slice e no f, .int .i64 nx] ∧ sgsR.lies n0 w [.slice a n c] s.1 ∧ n = s.1.length) := ⟨hbW, hB1, hS, hn⟩
  have hl1 := run_len Try.underlying22 a n c
  obtain ⟨g0, g1, g2, g3, -⟩ := hB1.four
  rw [hW] at g0 g1 g2 g3
  clear h hS hH hO hN m2 m3 hbW hB1 hn hnh hno hnx
  go_enter Try.func75, Try.ntmps75
  go_wp2_with fail
  rw [← hW]
  clear hW g0 g1 g2 g3
  refine HC.mono ?_
  rintro e1 w1 ⟨rfl, hb1⟩
  have hx1 := HW.out.2.1.below hb1 HW.out.2.1.lt
  have HB1 : Hid (Below w.heap.size w w1) := below_any HW.out.1 hb1
  obtain ⟨q0, q1, q2, q3, -⟩ := hx1.four
  clear hx1 hb1 HC
  rcases okE_cases s with ⟨hk, hok⟩ | ⟨hk, hok⟩
  case inr =>
    rw [hk]
    have HE : Hid (post (.returned (.int .i64 9)) w1) := HP.out 9 w1 (by
      have : okB s = false := by cases hb : okB s with | false => rfl | true => exact absurd (ok_iff.1 hb) hok
      unfold uE; rw [if_pos this]) HB1.out
    clear hk hok
    go_wp2
    exact HE.out
  case inl =>
    rw [hk]
    have HOK : Hid (Ok s ∧ okB s = true) := ⟨hok, ok_iff.2 hok⟩
    have HBAD : Hid (usedB s k = false → post (.returned (.int .i64 71)) w1) := fun h => HP.out 71 w1 (by unfold uE; rw [if_neg (by rw [HOK.out.2]; simp), if_pos h]) HB1.out
    clear hk hok
    by_cases h0 : k < 0
    · have HE : Hid (post (.returned (.int .i64 71)) w1) := HBAD.out (by unfold usedB; rw [decide_eq_false (by omega)]; rfl)
      go_wp2
      exact HE.out
    · obtain ⟨i, rfl⟩ : ∃ i : Nat, k = i := ⟨k.toNat, by omega⟩
      by_cases h1 : n ≤ i
      · have h1i : (n : Int) ≤ (i : Int) := by omega
        have HE : Hid (post (.returned (.int .i64 71)) w1) := HBAD.out (by unfold usedB; rw [Int.toNat_natCast, List.getElem?_eq_none (by rw [← HW.out.2.2.2]; exact h1)]; simp)
        go_wp2
        exact HE.out
      · have h1i : ¬ (n : Int) ≤ (i : Int) := by omega
        obtain ⟨p, hp⟩ := get_lt (l := s.1) (k := i) (by rw [← HW.out.2.2.2]; omega)
        obtain ⟨pb, po, x, cap, hix, c0, c1, hL, _⟩ := sgs_atR (sgsR.below HW.out.2.2.1 HB1.out) i p hp
        have HU : Hid (usedB s (i : Int) = !freeB p) := by
          show usedB s (i : Int) = _
          unfold usedB
          rw [Int.toNat_natCast, hp, decide_eq_true (by omega)]
          rfl
        obtain ⟨q, pl⟩ := p
        simp only at c0 c1
        obtain ⟨m, hm⟩ : ∃ m, m = pl.length := ⟨_, rfl⟩
        rw [← hm] at c1
        have HFR : Hid (freeB (q, pl) = (decide (q = 0) && decide (m = 0))) := by show freeB _ = _; rw [hm]; rfl
        have HC := rfree_any q x m cap w1
        rw [← HFR.out] at HC
        cases hfr : freeB (q, pl)
        · rw [hfr] at HC HU
          clear hp hL hm hfr
          go_wp2_with fail
          refine HC.mono ?_
          rintro e2 w2 ⟨rfl, hb2⟩
          have HE : Hid (post (.returned (.int .i64 0)) w2) := HP.out 0 w2 (by unfold uE; rw [if_neg (by rw [HOK.out.2]; simp), if_neg (by rw [HU.out]; simp)]) (below_any HB1.out hb2)
          clear hb2
          go_wp2
          exact HE.out
        · rw [hfr] at HC HU
          clear hp hL hm hfr
          go_wp2_with fail
          refine HC.mono ?_
          rintro e2 w2 ⟨rfl, hb2⟩
          have HE : Hid (post (.returned (.int .i64 71)) w2) := HP.out 71 w2 (by unfold uE; rw [if_neg (by rw [HOK.out.2]; simp), if_pos (by rw [HU.out]; rfl)]) (below_any HB1.out hb2)
          clear hb2
          go_wp2
          exact HE.out


end Go.Proofs.Ytkpckadicjdieab

/-
  The document's live blocks.
-/
namespace Go.Proofs.Ytkpckadicjdieab
open Go.RowKit

/-! A row of blocks of its own whose data lie elsewhere. -/
def BR (w0 w : World) (base : Nat) (v : Value) (L : List Bk) : Prop := ∃ vss : List (List Value), w.ownsRow base 97 3 v L.length vss.flatten ∧ Each (bkR.lies 0 w0) vss L
theorem BR.nil (w0 w : World) (base : Nat) : BR w0 w base (.slice none 0 0) [] := ⟨[], World.ownsRow_nil _ _ _ _, trivial⟩
theorem BR.below {w0 w w' : World} {base : Nat} {v : Value} {L : List Bk} (h : BR w0 w base v L) (hb : Below w.heap.size w w') : BR w0 w' base v L := by
  obtain ⟨vss, h1, h2⟩ := h
  exact ⟨vss, own_below h1 hb, h2⟩
theorem BR.weaken {w0 w : World} {base b2 : Nat} {v : Value} {L : List Bk} (h : BR w0 w base v L) (hb : b2 ≤ base) : BR w0 w b2 v L := by
  obtain ⟨vss, h1, h2⟩ := h
  exact ⟨vss, own_weaken h1 hb, h2⟩
theorem BR.row {w0 w : World} {base : Nat} {v : Value} {L : List Bk} (h : BR w0 w base v L) : ∃ xs, w.ownsRow base 97 3 v L.length xs := let ⟨_, h1, _⟩ := h; ⟨_, h1⟩
theorem BR.shape {w0 w : World} {base : Nat} {v : Value} {L : List Bk} (h : BR w0 w base v L) : ∃ a c, v = .slice a L.length c := let ⟨_, h1⟩ := h.row; own_shape h1
theorem BR.lies {w0 w : World} {base : Nat} {v : Value} {L : List Bk} (h : BR w0 w base v L) (hb : Below w0.heap.size w0 w) : bksR.lies 0 w [v] L := by
  obtain ⟨vss, h1, h2⟩ := h
  exact ⟨v, vss, rfl, (Cells.own h1).weaken (Nat.zero_le _), h2.mono fun _ _ h => bkR.below h hb⟩
theorem BR.push {w0 wr : World} {base : Nat} {v : Value} {L : List Bk} {us : List Value} {b : Bk} (h : BR w0 wr base v L) (hu : bkR.lies 0 w0 us b) (hb : base ≤ wr.heap.size) (hl : L.length ≤ 10000) :
    ∃ g cap w3, (Builtin.append_ #[24, 24] 24 #[v, .slice (some ⟨wr.heap.size, 0, none⟩) 1 1]).run Try.prog (wr.alloc (.cells us.toArray 97)) = .ok (.slice (some ⟨g, 0, none⟩) (L.length + 1) cap) w3 ∧ BR w0 w3 base (.slice (some ⟨g, 0, none⟩) (L.length + 1) cap) (L ++ [b]) ∧ wr.grownBy w3 v.ownBlock := by
  obtain ⟨vss, hown, hE⟩ := h
  obtain ⟨i, hi, hz, hsz, hby⟩ := info_parts Try.info97
  have hul : us.length = 3 := bkR.length hu
  obtain ⟨g, cap, w3, h1, h2, h3, _, _⟩ := run_append_lies (P := Try.prog) (wr.alloc (.cells us.toArray 97)) 24 24 base 97 i _ 3 40 Try.underlying24 hi hz hsz hby rfl (by decide) v L.length vss.flatten (hown.alloc _) ⟨wr.heap.size, 0, none⟩ 1 1 us (by omega)
    (fun j u hj => World.news_of_block (cs := us.toArray) (t := 97) (fr := (0, 0)) (heap_alloc_new wr _) j u (by simpa using hj)) (bkR.ones hu) (by omega) (by unfold maxLen; omega) (by omega) (by simp; omega) (wr.heap.size + 1) (by simp)
  refine ⟨g, cap, w3, h1, ⟨vss ++ [us], by rw [List.length_append, flat_snoc]; exact h2, hE.snoc hu⟩, ?_⟩
  refine ⟨h3.os, h3.tape, h3.output, ?_, fun k hk hne => ?_⟩
  · have := h3.size
    simp at this
    omega
  · rw [h3.block k (by simp; omega) hne, Below.heap_alloc wr _ k hk]
theorem BR.grow {w0 w wr w3 : World} {base : Nat} {v : Value} {L : List Bk} (h : BR w0 wr base v L) (hg : wr.grownBy w3 v.ownBlock) (hb : Below base w wr) (hs : base ≤ wr.heap.size) : Below base w w3 := let ⟨_, h1⟩ := h.row; below_row hb h1 hg hs


set_option maxRecDepth 100000 in
set_option maxHeartbeats 8000000 in
theorem rliveL_any (n0 : Nat) (us : List Value) (s : St) (k : Int) (w : World) (h : stR.lies n0 w us s) :
    Calls Try.prog 47 #[.agg us.toArray, .int .i64 k] w fun e w' => (∃ v', e = .returned (.tuple #[v', .int .i64 (uE s k)]) ∧ bksR.owns w.heap.size w' [v'] (lL s k)) ∧ Below w.heap.size w w' := by
  obtain ⟨a, c, b, d, e, f, rfl, hS, hH, hO, hN, m1, m2, m3⟩ := st_viewR h
  obtain ⟨post, hpost⟩ : ∃ post : Ending → World → Prop, post = fun e w' => (∃ v', e = .returned (.tuple #[v', .int .i64 (uE s k)]) ∧ bksR.owns w.heap.size w' [v'] (lL s k)) ∧ Below w.heap.size w w' := ⟨_, rfl⟩
  have HNO : Hid (∀ r w', uE s k = r → r ≠ 0 → Below w.heap.size w w' → post (.returned (.tuple #[.slice none 0 0, .int .i64 r])) w') := fun r w' h1 h2 h3 => by
    rw [hpost]
    refine ⟨⟨_, by rw [h1], ?_⟩, h3⟩
    unfold lL
    rw [if_neg (by rw [h1]; exact h2)]
    exact Shape.list_nil bkR 24 Try.underlying24 cells24 _ _
  have HYES : Hid (∀ v' w', uE s k = 0 → bksR.owns w.heap.size w' [v'] (lL s k) → Below w.heap.size w w' → post (.returned (.tuple #[v', .int .i64 0])) w') := fun v' w' h1 h2 h3 => by
    rw [hpost]
    exact ⟨⟨v', by rw [h1], h2⟩, h3⟩
  rw [← hpost]
  clear hpost
  obtain ⟨n, hn⟩ : ∃ n, n = s.1.length := ⟨_, rfl⟩
  obtain ⟨nh, hnh⟩ : ∃ n, n = s.2.1.length := ⟨_, rfl⟩
  obtain ⟨no, hno⟩ : ∃ n, n = s.2.2.1.length := ⟨_, rfl⟩
  obtain ⟨nx, hnx⟩ : ∃ n, n = s.2.2.2 := ⟨_, rfl⟩
  rw [← hn, ← hnh, ← hno, ← hnx] at h ⊢
  rw [← hn] at hS
  obtain ⟨W, hW⟩ : ∃ W, W = w.alloc (.cells #[.slice a n c, .slice b nh d, .slice e no f, .int .i64 nx] 26) := ⟨_, rfl⟩
  have hbW : Below w.heap.size w W := by rw [hW]; exact (Below.refl _ w).alloc (Nat.le_refl _) _
  have hB1 : Box W w.heap.size 26 #[.slice a n c, .slice b nh d, .slice e no f, .int .i64 nx] := by rw [hW]; exact Box.new _ _ _
  have HC := rused_any n0 [.slice a n c, .slice b nh d, .slice e no f, .int .i64 nx] s k W (stR.below h hbW)
  have HW : Hid (Below w.heap.size w W ∧ Box W w.heap.size 26 #[.slice a n c, .slice b nh d, .slice e no f, .int .i64 nx] ∧ stR.lies n0 w [.slice a n c, .slice b nh d, .slice e no f, .int .i64 nx] s ∧ sgsR.lies n0 w [.slice a n c] s.1) := ⟨hbW, hB1, h, hS⟩
  obtain ⟨g0, g1, g2, g3, -⟩ := hB1.four
  rw [hW] at g0 g1 g2 g3
  clear h hS hH hO hN m1 m2 m3 hbW hB1 hn hnh hno hnx
  go_enter Try.func47, Try.ntmps47
  go_wp2_with fail
  rw [← hW]
  clear hW g0 g1 g2 g3
  refine HC.mono ?_
  rintro e1 w1 ⟨rfl, hb1⟩
  have HB1 : Hid (Below W.heap.size W w1) := hb1
  obtain ⟨q0, q1, q2, q3, -⟩ := (HW.out.2.1.below hb1 HW.out.2.1.lt).four
  clear hb1 HC
  rcases uE_cases s k with ⟨hu, hok, i, p, hki, hil, hip, hsl⟩ | ⟨hu, hv⟩
  · rw [hu]
    have HU : Hid (uE s k = 0 ∧ lL s k = lvs s p.1 p.2 ∧ Ok s) := ⟨hu, by unfold lL; rw [if_pos hu, hsl], hok⟩
    subst hki
    have HFB : Hid (FitsB (lvs s p.1 p.2)) := ⟨by have := lvs_le s p.1 p.2; have := hok.small p (List.mem_of_getElem? hip); omega, fun t ht => by
      have := may_len (hok.data p (List.mem_of_getElem? hip) t (lvs_mem ht))
      omega⟩
    obtain ⟨pb, po, x, cap, hix, c0, c1, hL, _⟩ := sgs_atR HW.out.2.2.2 i p hip
    obtain ⟨_, _, e0, hLb, hI, _⟩ := sg_viewR hL
    obtain ⟨m, hm⟩ : ∃ m, m = p.2.length := ⟨_, rfl⟩
    have HM : Hid (m = p.2.length) := hm
    have HLB : Hid (bksR.lies n0 w [.slice x m cap] p.2 ∧ m ≤ 8) := ⟨by rw [hm]; simp at e0; obtain ⟨rfl, rfl⟩ := e0; exact hLb, by rw [hm]; exact hok.small p (List.mem_of_getElem? hip)⟩
    have hm8 := HLB.out.2
    have hbw1 := below_any HW.out.1 HB1.out
    have k0 : w1.cell? ⟨pb, po, none⟩ = some (.int .i64 p.1) := by rw [hbw1.cell (cell_lt c0)]; exact c0
    have k1 : w1.cell? ⟨pb, po + 1, none⟩ = some (.slice x m cap) := by rw [hbw1.cell (cell_lt c1), hm]; exact c1
    obtain ⟨WX, hWX⟩ : ∃ V, V = w1.alloc (.cells #[.int .i64 p.1, .slice x m cap] 36) := ⟨_, rfl⟩
    have hbX : Below W.heap.size W WX := by rw [hWX]; exact HB1.out.alloc HB1.out.size _
    have hxX : Box WX w1.heap.size 36 #[.int .i64 p.1, .slice x m cap] := by rw [hWX]; exact Box.new _ _ _
    have HX : Hid (Below W.heap.size W WX ∧ ∀ U, Below WX.heap.size WX U → (U.cell? ⟨w1.heap.size, 0, none⟩ = some (.int .i64 p.1) ∧ U.cell? ⟨w1.heap.size, 1, none⟩ = some (.slice x m cap)) ∧ U.cell? ⟨w.heap.size, 0, none⟩ = some (.slice a n c) ∧ U.cell? ⟨w.heap.size, 1, none⟩ = some (.slice b nh d) ∧ U.cell? ⟨w.heap.size, 2, none⟩ = some (.slice e no f) ∧ U.cell? ⟨w.heap.size, 3, none⟩ = some (.int .i64 nx)) := ⟨hbX, fun U hU => by
      have h1 := (hxX.below hU hxX.lt).two
      have h2 := (HW.out.2.1.below (hbX.trans (hU.mono hbX.size)) HW.out.2.1.lt).four
      exact ⟨⟨h1.1, h1.2.1⟩, h2.1, h2.2.1, h2.2.2.1, h2.2.2.2.1⟩⟩
    have hl3 := run_len Try.underlying24 x m cap
    clear hu hok hil hip hsl hL hLb hI e0 hm hbw1 c0 c1 hbX hxX
    go_upto_region 6 with fail
    rw [← hWX]
    clear hWX hix k0 k1 q0 q1 q2 q3
    go_wp2
    go_loopw [7, 9] (fun v i wr => ∃ j : Nat, j ≤ m ∧ i = .int .i64 j ∧ Hid (BR w wr WX.heap.size v (lvs s p.1 (p.2.take j)) ∧ Below WX.heap.size WX wr)) (fun _ i _ => m - (intOf i).toNat)
    case atStart => exact ⟨0, Nat.zero_le _, rfl, BR.nil _ _ _, Below.refl _ _⟩
    case round =>
      obtain ⟨j, hj, rfl, HJ⟩ := hrel
      obtain ⟨a7, c7, rfl⟩ := HJ.out.1.shape
      obtain ⟨⟨s0', s1'⟩, -⟩ := HX.out.2 wr HJ.out.2
      by_cases hlt : j < m
      · obtain ⟨t, ht⟩ := get_lt (l := p.2) (k := j) (by rw [← HM.out]; exact hlt)
        have hbr : Below w.heap.size w wr := below_any (below_any HW.out.1 HX.out.1) HJ.out.2
        obtain ⟨tb, tof, tx', tcap, hixt, k0, k1, k2, hA, hto, hti, _⟩ := bks_atR HLB.out.1 j t ht
        have g0 : wr.cell? ⟨tb, tof, none⟩ = some (.int .i64 t.1) := by rw [hbr.cell (cell_lt k0)]; exact k0
        have g1 : wr.cell? ⟨tb, tof + 1, none⟩ = some (.int .i64 t.2.1) := by rw [hbr.cell (cell_lt k1)]; exact k1
        have g2 : wr.cell? ⟨tb, tof + 2, none⟩ = some (.slice tx' t.2.2.length tcap) := by rw [hbr.cell (cell_lt k2)]; exact k2
        have HTK : Hid (lvs s p.1 (p.2.take (j + 1)) = if isLive s (p.1, j, t) = true then lvs s p.1 (p.2.take j) ++ [t] else lvs s p.1 (p.2.take j)) := lvs_take ht
        have HLL : Hid ((lvs s p.1 (p.2.take j)).length ≤ 8) := Nat.le_trans (lvs_le _ _ _) (by rw [List.length_take]; omega)
        obtain ⟨ml, hml⟩ : ∃ k, k = t.2.2.length := ⟨_, rfl⟩
        rw [← hml] at g2 hA
        have HUS : Hid (bkR.lies 0 w [.int .i64 t.1, .int .i64 t.2.1, .slice tx' ml tcap] t) := bk_mk (p := t) (hA.weaken (Nat.zero_le _)) hto hti
        have HML : Hid (ml = t.2.2.length) := hml
        obtain ⟨V, hV⟩ : ∃ V, V = wr.alloc (.cells #[.int .i64 t.1, .int .i64 t.2.1, .slice tx' ml tcap] 97) := ⟨_, rfl⟩
        have hbV : Below wr.heap.size wr V := by rw [hV]; exact (Below.refl _ _).alloc (Nat.le_refl _) _
        have hxV : Box V wr.heap.size 97 #[.int .i64 t.1, .int .i64 t.2.1, .slice tx' ml tcap] := by rw [hV]; exact Box.new _ _ _
        have HCL := rlast_any n0 [.slice a n c, .slice b nh d, .slice e no f, .int .i64 nx] s t.1 t.2.1 V (stR.below HW.out.2.2.1 (below_any hbr hbV)) HU.out.2.2
        have HV : Hid (Below wr.heap.size wr V ∧ Box V wr.heap.size 97 #[.int .i64 t.1, .int .i64 t.2.1, .slice tx' ml tcap]) := ⟨hbV, hxV⟩
        obtain ⟨v0, v1, v2, -⟩ := hxV.three
        obtain ⟨-, y0, y1, y2, y3⟩ := HX.out.2 V (HJ.out.2.trans (hbV.mono HJ.out.2.size))
        have hji : (j : Int) < (m : Int) := by omega
        have hlm := run_len Try.underlying46 tx' ml tcap
        clear ht hA hto hti k0 k1 k2 hml hbV hxV hbr
        go_upto_region 10 with fail
        rw [← hV]
        clear hV hixt g0 g1 g2 s0' s1'
        go_wp2_with fail
        refine HCL.mono ?_
        rintro e2 V2 ⟨⟨sq, pl, ct, v2', rfl, hkx⟩, hb2⟩
        obtain ⟨kb, hkn, hka, -, -⟩ := hkx
        obtain ⟨va, vc, rfl, -⟩ := hka.shape
        generalize kb.2.2.length = vm
        have HLT : Hid (isLive s (p.1, j, t) = (decide (sq = p.1) && decide (pl = j) && (!decide (ml = 0) || decide (1 < ct)))) := by
          show isLive s (p.1, j, t) = _
          unfold isLive last
          simp only
          rw [hkn, ← HML.out]
        have hbV2 : Below wr.heap.size wr V2 := HV.out.1.trans (hb2.mono HV.out.1.size)
        have hyV2 := HV.out.2.below hb2 HV.out.2.lt
        have HVV : Hid (Below wr.heap.size wr V2 ∧ True) := ⟨hbV2, trivial⟩
        have HBX : Hid (BR w wr WX.heap.size (.slice a7 (lvs s p.1 (p.2.take j)).length c7) (lvs s p.1 (p.2.take j))) := HJ.out.1
        have HSKIP : Hid (isLive s (p.1, j, t) = false → Hid (BR w V2 WX.heap.size (.slice a7 (lvs s p.1 (p.2.take j)).length c7) (lvs s p.1 (p.2.take (j + 1))) ∧ Below WX.heap.size WX V2)) := fun hl => by
          refine ⟨?_, HJ.out.2.trans (hbV2.mono HJ.out.2.size)⟩
          rw [HTK.out, hl]
          exact HBX.out.below hbV2
        have HPUSH : Hid (isLive s (p.1, j, t) = true → ∀ v3 w6, V2.grownBy w6 (Value.slice a7 (lvs s p.1 (p.2.take j)).length c7).ownBlock → BR w w6 WX.heap.size v3 (lvs s p.1 (p.2.take j) ++ [t]) → BR w w6 WX.heap.size v3 (lvs s p.1 (p.2.take (j + 1))) ∧ Below WX.heap.size WX w6) := fun hl v3 w6 hg h6 => by
          refine ⟨by rw [HTK.out, hl, if_pos rfl]; exact h6, ?_⟩
          exact (HBX.out.below hbV2).grow hg (HJ.out.2.trans (hbV2.mono HJ.out.2.size)) (by have := HJ.out.2.size; have := hbV2.size; omega)
        obtain ⟨b0, b1, b2, -⟩ := hyV2.three
        obtain ⟨⟨s0', s1'⟩, -⟩ := HX.out.2 V2 (HJ.out.2.trans (hbV2.mono HJ.out.2.size))
        clear hbV2 hyV2 hb2 HCL v0 v1 v2 y0 y1 y2 y3 hkn hka
        by_cases h1 : sq = p.1
        · subst h1
          by_cases h2 : pl = j
          · subst h2
            by_cases h3 : ml = 0
            · subst h3
              by_cases h4 : 1 < ct
              · have h4i : (1 : Int) < (ct : Int) := by omega
                have HLIV : Hid (isLive s (p.1, pl, t) = true) := show _ = _ by rw [HLT.out]; simp [h4]
                obtain ⟨gg, cap3, w6, hrun, hbx6, hg6⟩ := (HBX.out.below HVV.out.1).push HUS.out (by have := HJ.out.2.size; have := HVV.out.1.size; omega) (by have := HLL.out; omega)
                have HF : Hid (BR w w6 WX.heap.size (.slice (some ⟨gg, 0, none⟩) ((lvs s p.1 (p.2.take pl)).length + 1) cap3) (lvs s p.1 (p.2.take (pl + 1))) ∧ Below WX.heap.size WX w6) := HPUSH.out HLIV.out _ _ hg6 hbx6
                clear hbx6 hg6
                go_wp2_with (at_builtin; refine list_app rfl _ _ 24 rfl rfl rfl rfl hrun ?_)
                go_roundw
                case rel => exact ⟨pl + 1, by omega, by go_num, HF.out⟩
                case measure => simp [intOf]; omega
              · have h4i : ¬ (1 : Int) < (ct : Int) := by omega
                have h4d : decide ((1 : Int) < (ct : Int)) = false := decide_eq_false h4i
                have HLIV : Hid (isLive s (p.1, pl, t) = false) := show _ = _ by rw [HLT.out]; simp [h4]
                go_wp2
                go_roundw
                case rel => exact ⟨pl + 1, by omega, by go_num, (HSKIP.out HLIV.out).out⟩
                case measure => simp [intOf]; omega
            · have h3i : (0 : Int) < (ml : Int) := by omega
              have HLIV : Hid (isLive s (p.1, pl, t) = true) := show _ = _ by rw [HLT.out]; simp [h3]
              obtain ⟨gg, cap3, w6, hrun, hbx6, hg6⟩ := (HBX.out.below HVV.out.1).push HUS.out (by have := HJ.out.2.size; have := HVV.out.1.size; omega) (by have := HLL.out; omega)
              have HF : Hid (BR w w6 WX.heap.size (.slice (some ⟨gg, 0, none⟩) ((lvs s p.1 (p.2.take pl)).length + 1) cap3) (lvs s p.1 (p.2.take (pl + 1))) ∧ Below WX.heap.size WX w6) := HPUSH.out HLIV.out _ _ hg6 hbx6
              clear hbx6 hg6
              go_wp2_with (at_builtin; refine list_app rfl _ _ 24 rfl rfl rfl rfl hrun ?_)
              go_roundw
              case rel => exact ⟨pl + 1, by omega, by go_num, HF.out⟩
              case measure => simp [intOf]; omega
          · have h2i : ((pl : Int) == (j : Int)) = false := by simp; omega
            have HLIV : Hid (isLive s (p.1, j, t) = false) := show _ = _ by rw [HLT.out]; simp [h2]
            go_wp2
            go_roundw
            case rel => exact ⟨j + 1, by omega, by go_num, (HSKIP.out HLIV.out).out⟩
            case measure => simp [intOf]; omega
        · have h1i : (sq == p.1) = false := by simp [h1]
          have HLIV : Hid (isLive s (p.1, j, t) = false) := show _ = _ by rw [HLT.out]; simp [h1]
          go_wp2
          go_roundw
          case rel => exact ⟨j + 1, by omega, by go_num, (HSKIP.out HLIV.out).out⟩
          case measure => simp [intOf]; omega
      · obtain rfl : j = m := by omega
        have HE0 : Hid (BR w wr WX.heap.size (.slice a7 (lvs s p.1 p.2).length c7) (lvs s p.1 p.2) ∧ Below WX.heap.size WX wr) := by
          show _ ∧ _
          have := HJ.out
          rwa [HM.out, List.take_length] at this
        have hT : p.2.take j = p.2 := by rw [HM.out, List.take_length]
        rw [hT]
        have hbw := below_any (below_any HW.out.1 HX.out.1) HE0.out.2
        have HCB := rown_any 0 (.slice a7 (lvs s p.1 p.2).length c7) (lvs s p.1 p.2) wr (HE0.out.1.lies hbw) HFB.out
        have HBW : Hid (Below w.heap.size w wr) := hbw
        clear hbw HJ
        generalize (lvs s p.1 p.2).length = n2 at HCB
        go_wp2_with fail
        refine HCB.mono ?_
        rintro e3 w3 ⟨⟨v3, rfl, ho3⟩, hb3⟩
        have HE : Hid (post (.returned (.tuple #[v3, .int .i64 0])) w3) := HYES.out v3 w3 HU.out.1 (by rw [HU.out.2.1]; exact bksR.oweaken ho3 HBW.out.size) (below_any HBW.out hb3)
        clear ho3 hb3 HCB
        go_wp2
        exact HE.out
  · have HE : Hid (post (.returned (.tuple #[.slice none 0 0, .int .i64 (uE s k)])) w1) := HNO.out _ w1 rfl hu (below_any HW.out.1 HB1.out)
    generalize uE s k = r at hu hv HE
    have hri : (r == 0) = false := by simp [hu]
    clear hv
    go_wp2
    exact HE.out

end Go.Proofs.Ytkpckadicjdieab

/-
  The kind behind one, as the document finds it.
-/
namespace Go.Proofs.Ytkpckadicjdieab
open Go.RowKit

/-- May a block's kind come behind this one? -/
def cand (ow ix : Int) (b : Bk) : Bool := !(decide (b.1 < ow) || (decide (b.1 = ow) && decide (b.2.1 ≤ ix) && decide (0 < ow)))
/-- The first of the kinds that may. -/
def bstep (ow ix : Int) (r : Int × Int × Bool) (b : Bk) : Int × Int × Bool := if cand ow ix b = true then (if r.2.2 = false ∨ b.1 < r.1 ∨ (b.1 = r.1 ∧ b.2.1 < r.2.1) then (b.1, b.2.1, true) else r) else r
def bst (ow ix : Int) (l : List Bk) : Int × Int × Bool := l.foldl (bstep ow ix) (0, 0, false)
theorem bst_take {ow ix : Int} {l : List Bk} {k : Nat} {b : Bk} (h : l[k]? = some b) : bst ow ix (l.take (k + 1)) = bstep ow ix (bst ow ix (l.take k)) b := by
  unfold bst
  rw [take_snoc h, List.foldl_append]
  rfl
theorem bst_snoc {ow ix : Int} (l : List Bk) (b : Bk) : bst ow ix (l ++ [b]) = bstep ow ix (bst ow ix l) b := by
  unfold bst
  rw [List.foldl_append]
  rfl
/-- What the search tells. -/
def Sought (ow ix : Int) (l : List Bk) (r : Int × Int × Bool) : Prop := (r.2.2 = false ∧ r = (0, 0, false) ∧ ∀ b ∈ l, cand ow ix b = false) ∨ (r.2.2 = true ∧ (∃ b ∈ l, cand ow ix b = true ∧ b.1 = r.1 ∧ b.2.1 = r.2.1) ∧ ∀ b ∈ l, cand ow ix b = true → r.1 < b.1 ∨ (r.1 = b.1 ∧ r.2.1 ≤ b.2.1))
theorem Sought.step {ow ix : Int} {l : List Bk} {r : Int × Int × Bool} (ih : Sought ow ix l r) (t : Bk) : Sought ow ix (l ++ [t]) (bstep ow ix r t) := by
  unfold bstep
  cases hc : cand ow ix t
  · simp only [Bool.false_eq_true, if_false]
    rcases ih with ⟨h1, h2, h3⟩ | ⟨h1, ⟨b, hb, h2⟩, h3⟩
    · refine .inl ⟨h1, h2, fun b hb => ?_⟩
      rcases List.mem_append.1 hb with hb | hb
      · exact h3 b hb
      · rw [List.mem_singleton.1 hb]; exact hc
    · refine .inr ⟨h1, ⟨b, List.mem_append_left _ hb, h2⟩, fun b' hb' hcb => ?_⟩
      rcases List.mem_append.1 hb' with hb' | hb'
      · exact h3 b' hb' hcb
      · rw [List.mem_singleton.1 hb', hc] at hcb; cases hcb
  · simp only [if_true]
    by_cases hs : r.2.2 = false ∨ t.1 < r.1 ∨ (t.1 = r.1 ∧ t.2.1 < r.2.1)
    · rw [if_pos hs]
      refine .inr ⟨rfl, ⟨t, by simp, hc, rfl, rfl⟩, fun b' hb' hcb => ?_⟩
      rcases List.mem_append.1 hb' with hb' | hb'
      · rcases ih with ⟨h1, h2, h3⟩ | ⟨h1, _, h3⟩
        · rw [h3 b' hb'] at hcb; cases hcb
        · have := h3 b' hb' hcb
          rcases hs with hs | hs
          · rw [h1] at hs; cases hs
          · simp only; omega
      · rw [List.mem_singleton.1 hb']; exact .inr ⟨rfl, Int.le_refl _⟩
    · rw [if_neg hs]
      rcases ih with ⟨h1, _⟩ | ⟨h1, ⟨b, hb, h2⟩, h3⟩
      · exact absurd (.inl h1) hs
      · refine .inr ⟨h1, ⟨b, List.mem_append_left _ hb, h2⟩, fun b' hb' hcb => ?_⟩
        rcases List.mem_append.1 hb' with hb' | hb'
        · exact h3 b' hb' hcb
        · rw [List.mem_singleton.1 hb']
          have := hs
          omega
theorem bst_told (ow ix : Int) (l : List Bk) : Sought ow ix l (bst ow ix l) := by
  have : ∀ (m l : List Bk) (r : Int × Int × Bool), Sought ow ix l r → Sought ow ix (l ++ m) (m.foldl (bstep ow ix) r) := by
    intro m
    induction m with
    | nil => intro l r h; simpa using h
    | cons t m ih =>
      intro l r h
      have := ih (l ++ [t]) _ (h.step t)
      simpa using this
  have h := this l [] (0, 0, false) (.inl ⟨rfl, rfl, fun b h => by cases h⟩)
  simpa [bst] using h

/-- All blocks of a store, the open ones first. -/
def blks (l : List Sg) : List Bk := (l.map (·.2)).flatten
theorem blks_take {l : List Sg} {k : Nat} {p : Sg} (h : l[k]? = some p) : blks (l.take (k + 1)) = blks (l.take k) ++ p.2 := by
  unfold blks
  rw [take_snoc h]
  simp
theorem blks_length {l : List Sg} (h : ∀ p ∈ l, p.2.length ≤ 8) : (blks l).length ≤ 8 * l.length := by
  unfold blks
  induction l with
  | nil => simp
  | cons p l ih =>
    simp only [List.map_cons, List.flatten_cons, List.length_append, List.length_cons]
    have h1 := h p (List.mem_cons_self ..)
    have h2 := ih fun q hq => h q (List.mem_cons_of_mem _ hq)
    omega

/-- A row of blocks of its own, of which only the kinds count. -/
def NR (w : World) (base : Nat) (v : Value) (L : List Bk) : Prop := ∃ vss : List (List Value), w.ownsRow base 97 3 v L.length vss.flatten ∧ Each (fun us (b : Bk) => ∃ a m c, us = [.int .i64 b.1, .int .i64 b.2.1, .slice a m c]) vss L
theorem NR.shape {w : World} {base : Nat} {v : Value} {L : List Bk} (h : NR w base v L) : ∃ a c, v = .slice a L.length c := let ⟨_, h1, _⟩ := h; own_shape h1
theorem NR.of {w : World} {base : Nat} {v : Value} {L : List Bk} (h : bksR.owns base w [v] L) : NR w base v L := by
  obtain ⟨v9, vss, hv9, hown, hE⟩ := h
  obtain rfl : v = v9 := by simpa using hv9
  refine ⟨vss, hown, hE.mono fun us b h => ?_⟩
  obtain ⟨a, c, h1, _⟩ := bk_own h
  exact ⟨a, _, c, h1⟩
theorem NR.below {w w' : World} {base : Nat} {v : Value} {L : List Bk} (h : NR w base v L) (hb : Below w.heap.size w w') : NR w' base v L := let ⟨vss, h1, h2⟩ := h; ⟨vss, own_below h1 hb, h2⟩
theorem NR.at {w : World} {base : Nat} {v : Value} {L : List Bk} (h : NR w base v L) (i : Nat) (p : Bk) (hp : L[i]? = some p) :
    ∃ b o a m c, (∀ W, (Instr.indexAt 24 v (.int .i64 i)).run Try.prog W = .ok (.pointer (some ⟨b, o, none⟩)) W) ∧ w.cell? ⟨b, o, none⟩ = some (.int .i64 p.1) ∧ w.cell? ⟨b, o + 1, none⟩ = some (.int .i64 p.2.1) ∧ w.cell? ⟨b, o + 2, none⟩ = some (.slice a m c) := by
  obtain ⟨vss, h1, hE⟩ := h
  obtain ⟨i3, hi3, _, hz31, _⟩ := info_parts Try.info97
  obtain ⟨us, hu, a, m, c, rfl⟩ := hE.get hp
  obtain ⟨b, o, hix, _, hcell⟩ := (Cells.own h1).index (by omega) Try.underlying24 hi3 hz31 i (List.getElem?_eq_some_iff.1 hp).1
  have hs : ∀ us ∈ vss, us.length = 3 := fun us hus => by
    obtain ⟨_, _, _, _, _, rfl⟩ := hE.left hus
    rfl
  exact ⟨b, o, a, m, c, hix, hcell 0 _ (flat_get hs hu rfl), hcell 1 _ (flat_get hs hu rfl), hcell 2 _ (flat_get hs hu rfl)⟩
/-- Many more, that lie elsewhere, behind a row's. -/
theorem NR.many {wr : World} {base n : Nat} {v u : Value} {L M : List Bk} (h : NR wr base v L) (hu : bksR.lies n wr [u] M) (hb : base ≤ wr.heap.size) (hl : L.length + M.length ≤ 100000) :
    ∃ v3 w3, (Builtin.append_ #[24, 24] 24 #[v, u]).run Try.prog wr = .ok v3 w3 ∧ NR w3 base v3 (L ++ M) ∧ wr.grownBy w3 v.ownBlock ∧ ∀ g, v.ownBlock = some g → base ≤ g := by
  obtain ⟨vss, hown, hE⟩ := h
  obtain ⟨i, hi, hz, hsz, hby⟩ := info_parts Try.info97
  obtain ⟨u', uss, hu', hC, hE2⟩ := hu
  obtain rfl : u = u' := by simpa using hu'
  have hE2' : Each (fun us (b : Bk) => ∃ a m c, us = [.int .i64 b.1, .int .i64 b.2.1, .slice a m c]) uss M := hE2.mono fun us b h => by
    obtain ⟨a, c, h1, _⟩ := bk_view h
    exact ⟨a, _, c, h1⟩
  have hap : Each (fun us (b : Bk) => ∃ a m c, us = [.int .i64 b.1, .int .i64 b.2.1, .slice a m c]) (vss ++ uss) (L ++ M) := by
    refine each_of (by rw [List.length_append, List.length_append, hE.length, hE2.length]) fun k a b ha hb => ?_
    by_cases hk : k < vss.length
    · rw [List.getElem?_append_left hk] at ha
      rw [List.getElem?_append_left (by rw [← hE.length]; exact hk)] at hb
      obtain ⟨a', h1, h2⟩ := hE.get hb
      rw [ha] at h1
      obtain rfl := Option.some.inj h1
      exact h2
    · rw [List.getElem?_append_right (by omega)] at ha
      rw [List.getElem?_append_right (by rw [← hE.length]; omega), ← hE.length] at hb
      obtain ⟨a', h1, h2⟩ := hE2'.get hb
      rw [ha] at h1
      obtain rfl := Option.some.inj h1
      exact h2
  obtain ⟨hlen, h0 | ⟨ad, cap, rfl, _, _, _, hcs⟩⟩ := hC
  · obtain ⟨rfl, h0⟩ := h0
    obtain rfl := List.eq_nil_of_length_eq_zero h0
    refine ⟨v, wr, run_append_owned_none (P := Try.prog) (w := wr) base 24 24 97 i 3 Try.underlying24 hi v L.length vss.flatten hown, ⟨vss, by rw [List.append_nil]; exact hown, by rw [List.append_nil]; exact hE⟩, ⟨rfl, rfl, rfl, Nat.le_refl _, fun _ _ _ => rfl⟩, fun g hg => (hown.lt g hg).1⟩
  · obtain ⟨v', w', h1, h2, h3, _⟩ := run_append_own (P := Try.prog) wr base 24 24 97 i _ 3 40 Try.underlying24 hi hz hsz hby rfl (by decide) v L.length vss.flatten hown ad M.length cap uss.flatten hlen hcs (fun x hx => by
      obtain ⟨y, hy, hxy⟩ := List.mem_flatten.1 hx
      obtain ⟨q, _, hq⟩ := hE2.left hy
      exact bkR.ones hq x hxy) (by unfold maxLen; omega) (by omega) hb
    exact ⟨v', w', h1, ⟨vss ++ uss, by rw [List.length_append, List.flatten_append]; exact h2, hap⟩, h3, fun g hg => (hown.lt g hg).1⟩

end Go.Proofs.Ytkpckadicjdieab

/-
  The kind behind one, as the document finds it: the walk.
-/
namespace Go.Proofs.Ytkpckadicjdieab
open Go.RowKit


end Go.Proofs.Ytkpckadicjdieab

/-
  What the document's Get answers, for every store and kind.
-/
namespace Go.Proofs.Ytkpckadicjdieab
open Go.RowKit

theorem KX.none {w : World} {L : List Ver} {o x sq : Int} {pl : Nat} {v : Value} (h : KX w L o x sq pl 0 v) : (kn L o x).1.2.2 = [] := by
  obtain ⟨kb, h1, _⟩ := h
  have h2 := kn_count L o x
  rw [h1] at h2
  have h3 : L.filter (isK o x) = [] := List.eq_nil_of_length_eq_zero h2.symm
  unfold kn
  rw [h3]
  rfl


end Go.Proofs.Ytkpckadicjdieab

/-
  All blocks that are there, as the document tells them.
-/
namespace Go.Proofs.Ytkpckadicjdieab
open Go.RowKit

theorem there_mem {s : St} {b : Bk} (h : isThere s b) : ∃ t ∈ s.2.2.1 ++ blks s.1, t.1 = b.1 ∧ t.2.1 = b.2.1 := by
  obtain ⟨h1, h2⟩ := h
  unfold last kn at h1
  rcases kn_mem ((vers s).filter (isK b.1 b.2.1)) kn0 with e | ⟨y, hy, e⟩
  · rw [e] at h1
    exact absurd h1 h2
  · obtain ⟨hv, hk⟩ := List.mem_filter.1 hy
    have hk' : y.2.2.1 = b.1 ∧ y.2.2.2.1 = b.2.1 := by simpa [isK] using hk
    refine ⟨y.2.2, ?_, hk'⟩
    rcases vers_mem hv with ⟨p, hp, hb, _⟩ | ⟨hb, _⟩
    · refine List.mem_append_right _ ?_
      unfold blks
      exact List.mem_flatten.2 ⟨p.2, List.mem_map.2 ⟨p, hp, rfl⟩, hb⟩
    · exact List.mem_append_left _ hb
theorem all_may {s : St} (h : Ok s) {t : Bk} (ht : t ∈ s.2.2.1 ++ blks s.1) : mayB t = true := by
  rcases List.mem_append.1 ht with ht | ht
  · exact List.all_eq_true.1 h.may t ht
  · unfold blks at ht
    obtain ⟨l, hl, hx⟩ := List.mem_flatten.1 ht
    obtain ⟨p, hp, rfl⟩ := List.mem_map.1 hl
    exact h.data p hp t hx
theorem cand_kind {ow ix : Int} {a b : Bk} (h1 : a.1 = b.1) (h2 : a.2.1 = b.2.1) : cand ow ix a = cand ow ix b := by unfold cand; rw [h1, h2]
theorem cand_false {ow ix : Int} {b : Bk} : cand ow ix b = false ↔ b.1 < ow ∨ (b.1 = ow ∧ b.2.1 ≤ ix ∧ 0 < ow) := by
  unfold cand
  simp only [Bool.not_eq_false', Bool.or_eq_true, Bool.and_eq_true, decide_eq_true_eq]
  constructor
  · rintro (h | ⟨⟨h, h'⟩, h''⟩)
    · exact .inl h
    · exact .inr ⟨h, h', h''⟩
  · rintro (h | ⟨h, h', h''⟩)
    · exact .inl h
    · exact .inr ⟨⟨h, h'⟩, h''⟩
/-- What has been told up to a kind. -/
structure Upto (s : St) (ow ix : Int) (L : List Bk) : Prop where
  up : L.Pairwise kLt
  mem : ∀ b, b ∈ L ↔ isThere s b ∧ cand ow ix b = false
theorem Upto.start {s : St} (h : Ok s) : Upto s 0 0 [] := by
  refine ⟨List.Pairwise.nil, fun b => ⟨(fun hb => by cases hb), fun ⟨h1, h2⟩ => ?_⟩⟩
  obtain ⟨t, ht, e1, _⟩ := there_mem h1
  have := (may_iff.1 (all_may h ht)).1.1
  rcases cand_false.1 h2 with h | h <;> omega
theorem Upto.done {s : St} {ow ix : Int} {L : List Bk} (h : Upto s ow ix L) (hn : ∀ b ∈ s.2.2.1 ++ blks s.1, cand ow ix b = false) : AllOf s L := by
  refine ⟨h.up, fun b => (h.mem b).trans ⟨fun h => h.1, fun hb => ⟨hb, ?_⟩⟩⟩
  obtain ⟨t, ht, e1, e2⟩ := there_mem hb
  rw [← cand_kind e1 e2]
  exact hn t ht
theorem Upto.next {s : St} {ow ix o x : Int} {L : List Bk} (h : Upto s ow ix L) (ho : 1 ≤ o) (hs : ∃ b ∈ s.2.2.1 ++ blks s.1, cand ow ix b = true ∧ b.1 = o ∧ b.2.1 = x) (hm : ∀ b ∈ s.2.2.1 ++ blks s.1, cand ow ix b = true → o < b.1 ∨ (o = b.1 ∧ x ≤ b.2.1)) :
    Upto s o x (if (last s o x).1.2.2 = [] then L else L ++ [(o, x, (last s o x).1.2.2)]) := by
  obtain ⟨b0, hb0, hc0, e1, e2⟩ := hs
  have hc0' : ¬ (o < ow ∨ (o = ow ∧ x ≤ ix ∧ 0 < ow)) := fun c => by
    have := cand_false.2 (by rw [e1, e2]; exact c : b0.1 < ow ∨ (b0.1 = ow ∧ b0.2.1 ≤ ix ∧ 0 < ow))
    rw [hc0] at this
    cases this
  have key : ∀ b, isThere s b ∧ cand o x b = false ↔ b ∈ L ∨ ((last s o x).1.2.2 ≠ [] ∧ b = (o, x, (last s o x).1.2.2)) := fun b => by
    constructor
    · rintro ⟨h1, h2⟩
      cases hc : cand ow ix b
      · exact .inl ((h.mem b).2 ⟨h1, hc⟩)
      · right
        obtain ⟨t, ht, k1, k2⟩ := there_mem h1
        have h3 := hm t ht (by rw [cand_kind k1 k2]; exact hc)
        have h4 := cand_false.1 h2
        have g1 : b.1 = o := by omega
        have g2 : b.2.1 = x := by omega
        obtain ⟨h5, h6⟩ := h1
        rw [g1, g2] at h5
        refine ⟨by rw [← h5]; exact h6, ?_⟩
        obtain ⟨b1, b2, b3⟩ := b
        simp only at g1 g2 h5
        rw [g1, g2, h5]
    · rintro (hb | ⟨hne, rfl⟩)
      · obtain ⟨h1, h2⟩ := (h.mem b).1 hb
        refine ⟨h1, cand_false.2 ?_⟩
        have := cand_false.1 h2
        omega
      · exact ⟨⟨rfl, hne⟩, cand_false.2 (.inr ⟨rfl, Int.le_refl _, by omega⟩)⟩
  by_cases hd : (last s o x).1.2.2 = []
  · rw [if_pos hd]
    exact ⟨h.up, fun b => by rw [key b]; simp [hd]⟩
  · rw [if_neg hd]
    refine ⟨List.pairwise_append.2 ⟨h.up, List.pairwise_singleton _ _, fun b hb c hc => ?_⟩, fun b => by rw [key b]; simp [hd]⟩
    rw [List.mem_singleton.1 hc]
    have := cand_false.1 ((h.mem b).1 hb).2
    unfold kLt
    simp only
    omega
theorem filter_less {α : Type} {p q : α → Bool} : ∀ {l : List α}, (∀ a ∈ l, q a = true → p a = true) → (∃ a ∈ l, p a = true ∧ q a = false) → (l.filter q).length < (l.filter p).length
  | [], _, ⟨a, ha, _⟩ => by cases ha
  | x :: l, h1, ⟨a, ha, hp, hq⟩ => by
    have hle : ∀ {m : List α}, (∀ a ∈ m, q a = true → p a = true) → (m.filter q).length ≤ (m.filter p).length := fun {m} hm => by
      induction m with
      | nil => simp
      | cons y m ih =>
        have := ih fun a ha => hm a (List.mem_cons_of_mem _ ha)
        have hy := hm y (List.mem_cons_self ..)
        cases hqy : q y
        · cases hpy : p y <;> simp [hqy, hpy] <;> omega
        · simp [hqy, hy hqy]; omega
    have hl := hle fun a ha => h1 a (List.mem_cons_of_mem _ ha)
    rcases List.mem_cons.1 ha with rfl | ha
    · simp [hp, hq]; omega
    · have := filter_less (fun a ha => h1 a (List.mem_cons_of_mem _ ha)) ⟨a, ha, hp, hq⟩
      have hx := h1 x (List.mem_cons_self ..)
      cases hqx : q x
      · cases hpx : p x <;> simp [hqx, hpx] <;> omega
      · simp [hqx, hx hqx]; omega


end Go.Proofs.Ytkpckadicjdieab
