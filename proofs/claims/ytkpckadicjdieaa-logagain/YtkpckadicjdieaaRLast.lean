/-
  The last version of a kind, as the document tells it.
-/
import Derived.Test.YtkpckadicjdieaaRLCheck
import Derived.Test.YtkpckadicjdieaaLGet
namespace Go.Proofs.Ytkpckadicjdieaa
open Go.RowKit

/-- What is known of a kind, as the document holds it. -/
def KX (w : World) (L : List Ver) (o x sq : Int) (pl ct : Nat) (v : Value) : Prop := ∃ kb : Bk, kn L o x = (kb, sq, pl, ct) ∧ Arg 0 w v kb.2.2 ∧ I64 sq ∧ ct ≤ L.length
theorem KX.nil (w : World) (o x : Int) : KX w [] o x 0 0 0 (.slice none 0 0) := ⟨(0, 0, []), rfl, .mk ⟨rfl, .inl ⟨rfl, rfl⟩⟩ (fun _ h => by cases h), ⟨by omega, by omega⟩, Nat.le_refl _⟩
theorem KX.skip {w : World} {L : List Ver} {o x sq : Int} {pl ct : Nat} {v : Value} (h : KX w L o x sq pl ct v) {q : Int} {j : Nat} {t : Bk} (hn : ¬ (t.1 = o ∧ t.2.1 = x)) : KX w (L ++ [(q, j, t)]) o x sq pl ct v := by
  obtain ⟨kb, h1, h2, h3, h4⟩ := h
  exact ⟨kb, by rw [kn_other _ _ _ _ (fun c => hn ⟨c.1.symm, c.2.symm⟩)]; exact h1, h2, h3, by rw [List.length_append]; omega⟩
theorem KX.keep {w : World} {L : List Ver} {sq : Int} {pl ct : Nat} {v : Value} {q : Int} {j : Nat} {t : Bk} (h : KX w L t.1 t.2.1 sq pl ct v) (hn : ¬ sq ≤ q) : KX w (L ++ [(q, j, t)]) t.1 t.2.1 sq pl (ct + 1) v := by
  obtain ⟨kb, h1, h2, h3, h4⟩ := h
  refine ⟨kb, ?_, h2, h3, by rw [List.length_append]; simp; omega⟩
  rw [kn_same, h1]
  unfold knStep
  rw [if_neg hn]
theorem KX.over {w : World} {L : List Ver} {sq : Int} {pl ct : Nat} {v u : Value} {q : Int} {j : Nat} {t : Bk} (h : KX w L t.1 t.2.1 sq pl ct v) (hn : sq ≤ q) (hu : Arg 0 w u t.2.2) (hq : I64 q) : KX w (L ++ [(q, j, t)]) t.1 t.2.1 q j (ct + 1) u := by
  obtain ⟨kb, h1, h2, h3, h4⟩ := h
  refine ⟨t, ?_, hu, hq, by rw [List.length_append]; simp; omega⟩
  rw [kn_same, h1]
  unfold knStep
  rw [if_pos hn]
theorem kn_seq : ∀ (m : List Ver) (y : Kn) (b : Int), y.2.1 ≤ b → (∀ v ∈ m, v.1 ≤ b) → (m.foldl knStep y).2.1 ≤ b
  | [], _, _, h, _ => h
  | v :: m, y, b, h, hv => by
    rw [List.foldl_cons]
    refine kn_seq m _ b ?_ fun v' hv' => hv v' (List.mem_cons_of_mem _ hv')
    unfold knStep
    split
    · exact hv v (List.mem_cons_self ..)
    · exact h
theorem seq_le {s : St} (h : Ok s) (j : Nat) (o x : Int) : (kn (segv s.1 ++ plc s.2.2.2 (s.2.2.1.take j)) o x).2.1 ≤ s.2.2.2 := by
  unfold kn
  refine kn_seq _ _ _ (by have := h.next.1; show (0 : Int) ≤ _; omega) fun v hv => ?_
  have hm : v ∈ vers s := by
    rcases List.mem_append.1 (List.mem_filter.1 hv).1 with hm | hm
    · exact List.mem_append_left _ hm
    · refine List.mem_append_right _ ?_
      unfold plc at hm ⊢
      obtain ⟨y, hy, rfl⟩ := List.mem_map.1 hm
      refine List.mem_map.2 ⟨y, ?_, rfl⟩
      obtain ⟨y1, y2⟩ := y
      rw [List.mem_zipIdx_iff_getElem?] at hy ⊢
      rw [List.getElem?_take] at hy
      by_cases c : y2 < j
      · rw [if_pos c] at hy; exact hy
      · rw [if_neg c] at hy; cases hy
  rcases vers_mem hm with ⟨p, hp, hb, e⟩ | ⟨_, e⟩
  · rw [e]
    cases hf : freeB p
    · have := (h.each p hp hf).2; omega
    · have := (free_iff.1 hf).1; have := h.next.1; omega
  · rw [e]; omega

set_option maxRecDepth 100000 in
set_option maxHeartbeats 8000000 in
theorem rlast_any (n0 : Nat) (us : List Value) (s : St) (o x : Int) (w : World) (h : stR.lies n0 w us s) (hok : Ok s) :
    Calls Try.prog 50 #[.agg us.toArray, .int .i64 o, .int .i64 x] w fun e w' => (∃ (sq : Int) (pl ct : Nat) (v : Value), e = .returned (.tuple #[.int .i64 sq, .int .i64 (pl : Nat), v, .int .i64 (ct : Nat)]) ∧ KX w (vers s) o x sq pl ct v) ∧ Below w.heap.size w w' := by
  obtain ⟨a, c, b, d, e, f, rfl, hS, hH, hO, hN, m1, m2, m3⟩ := st_viewR h
  have HSL : Hid (∀ j, (kn (segv s.1 ++ plc s.2.2.2 (s.2.2.1.take j)) o x).2.1 ≤ s.2.2.2) := fun j => seq_le hok j o x
  have HOK : Hid (s.1.length ≤ 64 ∧ s.2.2.1.length ≤ 8 ∧ ∀ p ∈ s.1, p.2.length ≤ 8) := ⟨hok.slots.2, hok.few, hok.small⟩
  obtain ⟨l, hd, op, nx⟩ := s
  simp only at hS hH hO hN m1 m2 m3 HOK HSL ⊢
  obtain ⟨post, hpost⟩ : ∃ post : Ending → World → Prop, post = fun e w' => (∃ (sq : Int) (pl ct : Nat) (v : Value), e = .returned (.tuple #[.int .i64 sq, .int .i64 (pl : Nat), v, .int .i64 (ct : Nat)]) ∧ KX w (vers (l, hd, op, nx)) o x sq pl ct v) ∧ Below w.heap.size w w' := ⟨_, rfl⟩
  have HPo : Hid (∀ sq pl ct v w', KX w (vers (l, hd, op, nx)) o x sq pl ct v → Below w.heap.size w w' → post (.returned (.tuple #[.int .i64 sq, .int .i64 (pl : Nat), v, .int .i64 (ct : Nat)])) w') := fun sq pl ct v w' h1 h2 => by rw [hpost]; exact ⟨⟨sq, pl, ct, v, rfl, h1⟩, h2⟩
  rw [← hpost]
  clear hpost
  obtain ⟨n, hn⟩ : ∃ n, n = l.length := ⟨_, rfl⟩
  obtain ⟨nh, hnh⟩ : ∃ n, n = hd.length := ⟨_, rfl⟩
  obtain ⟨no, hno⟩ : ∃ n, n = op.length := ⟨_, rfl⟩
  have hl1 := run_len Try.underlying22 a n c
  have hl3 := run_len Try.underlying24 e no f
  rw [← hn] at hS HOK ⊢
  rw [← hnh] at ⊢
  rw [← hno] at hO HOK ⊢
  have HN : Hid (n = l.length ∧ no = op.length ∧ I64 nx) := ⟨hn, hno, hN⟩
  have HA : Hid (sgsR.lies n0 w [.slice a n c] l ∧ bksR.lies n0 w [.slice e no f] op) := ⟨hS, hO⟩
  have hn64 := HOK.out.1
  have hno8 := HOK.out.2.1
  obtain ⟨W, hW⟩ : ∃ W, W = w.alloc (.cells #[.slice a n c, .slice b nh d, .slice e no f, .int .i64 nx] 26) := ⟨_, rfl⟩
  have hbW : Below w.heap.size w W := by rw [hW]; exact (Below.refl _ w).alloc (Nat.le_refl _) _
  have hB1 : Box W w.heap.size 26 #[.slice a n c, .slice b nh d, .slice e no f, .int .i64 nx] := by rw [hW]; exact Box.new _ _ _
  have HB : Hid (Below w.heap.size w W ∧ Box W w.heap.size 26 #[.slice a n c, .slice b nh d, .slice e no f, .int .i64 nx]) := ⟨hbW, hB1⟩
  clear h hS hH hO hN m1 m2 m3 hbW hB1 hn hnh hno hok
  go_enter Try.func50, Try.ntmps50
  go_wp2
  rw [← hW]
  clear hW
  go_loopw [10, 11, 12, 13, 14] (fun s10 s11 s12 s13 i wr => ∃ (k : Nat) (sq : Int) (pl ct : Nat) (ka : Option Addr) (km kc : Nat), k ≤ n ∧ i = .int .i64 k ∧ s10 = .int .i64 sq ∧ s11 = .int .i64 (pl : Nat) ∧ s12 = .int .i64 (ct : Nat) ∧ s13 = .slice ka km kc ∧ Hid (KX w (segv (l.take k)) o x sq pl ct (.slice ka km kc) ∧ Below W.heap.size W wr)) (fun _ _ _ _ i _ => n - (intOf i).toNat)
  case atStart => exact ⟨0, 0, 0, 0, none, 0, 0, Nat.zero_le _, rfl, rfl, rfl, rfl, rfl, by simpa [segv] using KX.nil w o x, Below.refl _ _⟩
  case round =>
    obtain ⟨k, sq, pl, ct, ka, km, kc, hk, rfl, rfl, rfl, rfl, rfl, HJ⟩ := hrel
    obtain ⟨z0, z1, z2, z3, -⟩ := (HB.out.2.below HJ.out.2 HB.out.2.lt).four
    by_cases hlt : k < n
    · obtain ⟨p, hp⟩ := get_lt (l := l) (k := k) (by rw [← HN.out.1]; exact hlt)
      have hki : (k : Int) < (n : Int) := by omega
      obtain ⟨pb, po, px, pcap, hix, c0, c1, hL, _⟩ := sgs_atR HA.out.1 k p hp
      obtain ⟨_, _, e0, hLb, hI, _⟩ := sg_viewR hL
      obtain ⟨m, hm⟩ : ∃ m, m = p.2.length := ⟨_, rfl⟩
      have HP : Hid (bksR.lies n0 w [.slice px m pcap] p.2 ∧ m = p.2.length ∧ I64 p.1 ∧ segv (l.take (k + 1)) = segv (l.take k) ++ plc p.1 p.2 ∧ (segv (l.take k)).length ≤ 512) := ⟨by rw [hm]; simp at e0; obtain ⟨rfl, rfl⟩ := e0; exact hLb, hm, hI, segv_take hp, by
        have h1 := segv_length (l := l.take k) fun q hq => HOK.out.2.2 q (List.mem_of_mem_take hq)
        rw [List.length_take] at h1
        omega⟩
      have hm8 : m ≤ 8 := by rw [hm]; exact HOK.out.2.2 p (List.mem_of_getElem? hp)
      have HC : Hid (∀ V, Below W.heap.size W V → (V.cell? ⟨w.heap.size, 0, none⟩ = some (.slice a n c) ∧ V.cell? ⟨w.heap.size, 2, none⟩ = some (.slice e no f) ∧ V.cell? ⟨w.heap.size, 3, none⟩ = some (.int .i64 nx)) ∧ V.cell? ⟨pb, po, none⟩ = some (.int .i64 p.1) ∧ V.cell? ⟨pb, po + 1, none⟩ = some (.slice px m pcap)) := fun V hV => by
        have h1 := (HB.out.2.below hV HB.out.2.lt).four
        have h2 := below_any HB.out.1 hV
        exact ⟨⟨h1.1, h1.2.2.1, h1.2.2.2.1⟩, by rw [h2.cell (cell_lt c0)]; exact c0, by rw [h2.cell (cell_lt c1)]; rw [hm]; exact c1⟩
      have hl5 := run_len Try.underlying24 px m pcap
      clear hp c0 c1 hL hLb hI e0 hm
      go_wp2
      clear z0 z1 z2 z3
      go_loopw [10, 11, 12, 13, 15] (fun s10 s11 s12 s13 i wr => ∃ (j : Nat) (sq : Int) (pl ct : Nat) (ka : Option Addr) (km kc : Nat), j ≤ m ∧ i = .int .i64 j ∧ s10 = .int .i64 sq ∧ s11 = .int .i64 (pl : Nat) ∧ s12 = .int .i64 (ct : Nat) ∧ s13 = .slice ka km kc ∧ Hid (KX w (segv (l.take k) ++ plc p.1 (p.2.take j)) o x sq pl ct (.slice ka km kc) ∧ Below W.heap.size W wr)) (fun _ _ _ _ i _ => m - (intOf i).toNat)
      case atStart => exact ⟨0, sq, pl, ct, ka, km, kc, Nat.zero_le _, rfl, rfl, rfl, rfl, rfl, by simpa [plc] using HJ.out.1, HJ.out.2⟩
      case round =>
        obtain ⟨j, sq, pl, ct, ka, km, kc, hj, rfl, rfl, rfl, rfl, rfl, HJ⟩ := hrel
        obtain ⟨⟨z0, z2, z3⟩, y0, y1⟩ := HC.out wr HJ.out.2
        by_cases hjm : j < m
        · obtain ⟨t, ht⟩ := get_lt (l := p.2) (k := j) (by rw [← HP.out.2.1]; exact hjm)
          obtain ⟨tb, tof, tx', tcap, hixt, k0, k1, k2, hA, hto, hti, _⟩ := bks_atR HP.out.1 j t ht
          have hji : (j : Int) < (m : Int) := by omega
          have hbr := below_any HB.out.1 HJ.out.2
          have g0 : wr.cell? ⟨tb, tof, none⟩ = some (.int .i64 t.1) := by rw [hbr.cell (cell_lt k0)]; exact k0
          have g1 : wr.cell? ⟨tb, tof + 1, none⟩ = some (.int .i64 t.2.1) := by rw [hbr.cell (cell_lt k1)]; exact k1
          have g2 : wr.cell? ⟨tb, tof + 2, none⟩ = some (.slice tx' t.2.2.length tcap) := by rw [hbr.cell (cell_lt k2)]; exact k2
          obtain ⟨ml, hml⟩ : ∃ k, k = t.2.2.length := ⟨_, rfl⟩
          rw [← hml] at g2 hA
          have HT : Hid (plc p.1 (p.2.take (j + 1)) = plc p.1 (p.2.take j) ++ [(p.1, j, t)] ∧ Arg 0 w (.slice tx' ml tcap) t.2.2) := ⟨plc_take ht, hA.weaken (Nat.zero_le _)⟩
          have HCT : Hid (ct ≤ 600) := by
            obtain ⟨_, _, _, _, h4⟩ := HJ.out.1
            show ct ≤ 600
            have := HP.out.2.2.2.2
            rw [List.length_append, plc_length, List.length_take] at h4
            omega
          have hct := HCT.out
          obtain ⟨V, hV⟩ : ∃ V, V = wr.alloc (.cells #[.int .i64 t.1, .int .i64 t.2.1, .slice tx' ml tcap] 29) := ⟨_, rfl⟩
          have hbV : Below W.heap.size W V := by rw [hV]; exact HJ.out.2.alloc HJ.out.2.size _
          have hxV : Box V wr.heap.size 29 #[.int .i64 t.1, .int .i64 t.2.1, .slice tx' ml tcap] := by rw [hV]; exact Box.new _ _ _
          have HV : Hid (Below W.heap.size W V) := hbV
          obtain ⟨v0, v1, v2, -⟩ := hxV.three
          obtain ⟨⟨w0', w2', w3'⟩, x0', x1'⟩ := HC.out V hbV
          clear ht hA hto hti k0 k1 k2 hml hbr hbV hxV
          go_upto_region 10 with fail
          rw [← hV]
          clear hV g0 g1 g2 hixt z0 z2 z3 y0 y1
          by_cases ho : t.1 = o
          · by_cases hx : t.2.1 = x
            · subst ho hx
              by_cases hge : sq ≤ p.1
              · have HF : Hid (KX w (segv (l.take k) ++ plc p.1 (p.2.take (j + 1))) t.1 t.2.1 p.1 j (ct + 1) (.slice tx' ml tcap) ∧ ∀ r, Below W.heap.size W (V.drewN r)) := ⟨by rw [HT.out.1, ← List.append_assoc]; exact HJ.out.1.over hge HT.out.2 HP.out.2.2.1, fun r => below_drewN HV.out r⟩
                go_wp2
                go_quiet (fail)
                go_wp2
                go_roundw
                case rel => exact ⟨j + 1, p.1, j, ct + 1, tx', ml, tcap, by omega, by go_num, rfl, rfl, by go_num, rfl, HF.out.1, HF.out.2 _⟩
                case measure => simp [intOf]; omega
              · have HF : Hid (KX w (segv (l.take k) ++ plc p.1 (p.2.take (j + 1))) t.1 t.2.1 sq pl (ct + 1) (.slice ka km kc) ∧ Below W.heap.size W V) := ⟨by rw [HT.out.1, ← List.append_assoc]; exact HJ.out.1.keep hge, HV.out⟩
                go_wp2
                go_roundw
                case rel => exact ⟨j + 1, sq, pl, ct + 1, ka, km, kc, by omega, by go_num, rfl, rfl, by go_num, rfl, HF.out⟩
                case measure => simp [intOf]; omega
            · have hxi : (t.2.1 == x) = false := by simp [hx]
              have HF : Hid (KX w (segv (l.take k) ++ plc p.1 (p.2.take (j + 1))) o x sq pl ct (.slice ka km kc) ∧ Below W.heap.size W V) := ⟨by rw [HT.out.1, ← List.append_assoc]; exact HJ.out.1.skip (fun c => hx c.2), HV.out⟩
              subst ho
              go_wp2
              go_roundw
              case rel => exact ⟨j + 1, sq, pl, ct, ka, km, kc, by omega, by go_num, rfl, rfl, rfl, rfl, HF.out⟩
              case measure => simp [intOf]; omega
          · have hoi : (t.1 == o) = false := by simp [ho]
            have HF : Hid (KX w (segv (l.take k) ++ plc p.1 (p.2.take (j + 1))) o x sq pl ct (.slice ka km kc) ∧ Below W.heap.size W V) := ⟨by rw [HT.out.1, ← List.append_assoc]; exact HJ.out.1.skip (fun c => ho c.1), HV.out⟩
            go_wp2
            go_roundw
            case rel => exact ⟨j + 1, sq, pl, ct, ka, km, kc, by omega, by go_num, rfl, rfl, rfl, rfl, HF.out⟩
            case measure => simp [intOf]; omega
        · obtain rfl : j = m := by omega
          have HF : Hid (KX w (segv (l.take (k + 1))) o x sq pl ct (.slice ka km kc) ∧ Below W.heap.size W wr) := by
            show _ ∧ _
            have := HJ.out
            rwa [HP.out.2.1, List.take_length, ← HP.out.2.2.2.1] at this
          go_wp2
          go_roundw
          case rel => exact ⟨k + 1, sq, pl, ct, ka, km, kc, by omega, by go_num, rfl, rfl, rfl, rfl, HF.out⟩
          case measure => simp [intOf]; omega
    · obtain rfl : k = n := by omega
      have HJ0 : Hid (KX w (segv l) o x sq pl ct (.slice ka km kc) ∧ Below W.heap.size W wr) := by
        show _ ∧ _
        have := HJ.out
        rwa [HN.out.1, List.take_length] at this
      clear HJ
      go_wp2
      clear z0 z1 z2 z3
      go_loopw [10, 11, 12, 13, 17] (fun s10 s11 s12 s13 i wr => ∃ (j : Nat) (sq : Int) (pl ct : Nat) (ka : Option Addr) (km kc : Nat), j ≤ no ∧ i = .int .i64 j ∧ s10 = .int .i64 sq ∧ s11 = .int .i64 (pl : Nat) ∧ s12 = .int .i64 (ct : Nat) ∧ s13 = .slice ka km kc ∧ Hid (KX w (segv l ++ plc nx (op.take j)) o x sq pl ct (.slice ka km kc) ∧ Below W.heap.size W wr)) (fun _ _ _ _ i _ => no - (intOf i).toNat)
      case atStart => exact ⟨0, sq, pl, ct, ka, km, kc, Nat.zero_le _, rfl, rfl, rfl, rfl, rfl, by simpa [plc] using HJ0.out.1, HJ0.out.2⟩
      case round =>
        obtain ⟨j, sq, pl, ct, ka, km, kc, hj, rfl, rfl, rfl, rfl, rfl, HJ⟩ := hrel
        obtain ⟨z0, z1, z2, z3, -⟩ := (HB.out.2.below HJ.out.2 HB.out.2.lt).four
        by_cases hjm : j < no
        · obtain ⟨t, ht⟩ := get_lt (l := op) (k := j) (by rw [← HN.out.2.1]; exact hjm)
          obtain ⟨tb, tof, tx', tcap, hixt, k0, k1, k2, hA, hto, hti, _⟩ := bks_atR HA.out.2 j t ht
          have hji : (j : Int) < (no : Int) := by omega
          have hbr := below_any HB.out.1 HJ.out.2
          have g0 : wr.cell? ⟨tb, tof, none⟩ = some (.int .i64 t.1) := by rw [hbr.cell (cell_lt k0)]; exact k0
          have g1 : wr.cell? ⟨tb, tof + 1, none⟩ = some (.int .i64 t.2.1) := by rw [hbr.cell (cell_lt k1)]; exact k1
          have g2 : wr.cell? ⟨tb, tof + 2, none⟩ = some (.slice tx' t.2.2.length tcap) := by rw [hbr.cell (cell_lt k2)]; exact k2
          obtain ⟨ml, hml⟩ : ∃ k, k = t.2.2.length := ⟨_, rfl⟩
          rw [← hml] at g2 hA
          have HT : Hid (plc nx (op.take (j + 1)) = plc nx (op.take j) ++ [(nx, j, t)] ∧ Arg 0 w (.slice tx' ml tcap) t.2.2) := ⟨plc_take ht, hA.weaken (Nat.zero_le _)⟩
          have HSQ : Hid (sq ≤ nx) := by
            obtain ⟨_, h1, _⟩ := HJ.out.1
            have h2 := HSL.out j
            rw [h1] at h2
            exact h2
          have HCT : Hid (ct ≤ 600) := by
            obtain ⟨_, _, _, _, h4⟩ := HJ.out.1
            show ct ≤ 600
            have h1 := segv_length (l := l) fun q hq => HOK.out.2.2 q hq
            have := HN.out.1
            rw [List.length_append, plc_length, List.length_take] at h4
            omega
          have hct := HCT.out
          clear ht hA hto hti k0 k1 k2 hml hbr
          by_cases ho : t.1 = o
          · by_cases hx : t.2.1 = x
            · subst ho hx
              have HF : Hid (KX w (segv l ++ plc nx (op.take (j + 1))) t.1 t.2.1 nx j (ct + 1) (.slice tx' ml tcap) ∧ ∀ r, Below W.heap.size W (wr.drewN r)) := ⟨by rw [HT.out.1, ← List.append_assoc]; exact HJ.out.1.over HSQ.out HT.out.2 HN.out.2.2, fun r => below_drewN HJ.out.2 r⟩
              go_wp2
              go_quiet (fail)
              go_wp2
              go_roundw
              case rel => exact ⟨j + 1, nx, j, ct + 1, tx', ml, tcap, by omega, by go_num, rfl, rfl, by go_num, rfl, HF.out.1, HF.out.2 _⟩
              case measure => simp [intOf]; omega
            · have hxi : (t.2.1 == x) = false := by simp [hx]
              have HF : Hid (KX w (segv l ++ plc nx (op.take (j + 1))) o x sq pl ct (.slice ka km kc) ∧ Below W.heap.size W wr) := ⟨by rw [HT.out.1, ← List.append_assoc]; exact HJ.out.1.skip (fun c => hx c.2), HJ.out.2⟩
              subst ho
              go_wp2
              go_roundw
              case rel => exact ⟨j + 1, sq, pl, ct, ka, km, kc, by omega, by go_num, rfl, rfl, rfl, rfl, HF.out⟩
              case measure => simp [intOf]; omega
          · have hoi : (t.1 == o) = false := by simp [ho]
            have HF : Hid (KX w (segv l ++ plc nx (op.take (j + 1))) o x sq pl ct (.slice ka km kc) ∧ Below W.heap.size W wr) := ⟨by rw [HT.out.1, ← List.append_assoc]; exact HJ.out.1.skip (fun c => ho c.1), HJ.out.2⟩
            go_wp2
            go_roundw
            case rel => exact ⟨j + 1, sq, pl, ct, ka, km, kc, by omega, by go_num, rfl, rfl, rfl, rfl, HF.out⟩
            case measure => simp [intOf]; omega
        · obtain rfl : j = no := by omega
          have HE : Hid (post (.returned (.tuple #[.int .i64 sq, .int .i64 (pl : Nat), .slice ka km kc, .int .i64 (ct : Nat)])) wr) := HPo.out _ _ _ _ _ (by have := HJ.out.1; rw [HN.out.2.1, List.take_length] at this; exact this) (below_any HB.out.1 HJ.out.2)
          go_wp2
          refine bodyPost_ret (v := .tuple #[.int .i64 sq, .int .i64 (pl : Nat), .slice ka km kc, .int .i64 (ct : Nat)]) (by simp [results, Try.results50, go_sem, *]) rfl HE.out

end Go.Proofs.Ytkpckadicjdieaa
