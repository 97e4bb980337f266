/-
  What the document's Made makes of a text: its file.
-/
import Derived.Test.YtgflfmpoeamnnaaRText
namespace Go.Proofs.Ytgflfmpoeamnnaa
open Go.RowKit

/-- The first k octets of block i, zeros behind them. -/
def cur (b : List Int) (i k : Nat) : List Int := (List.range 32).map fun q => if q < k then oc b (32 * i + q) else 0
theorem cur_length (b : List Int) (i k : Nat) : (cur b i k).length = 32 := by simp [cur]
theorem cur_get (b : List Int) (i k q : Nat) (h : q < 32) : (cur b i k).getD q 0 = if q < k then oc b (32 * i + q) else 0 := range_get _ _ _ _ h
theorem cur_zero (b : List Int) (i : Nat) : cur b i 0 = zs := alike (by rw [cur_length]; rfl) fun q hq => by
  rw [cur_length] at hq
  rw [cur_get _ _ _ _ hq, if_neg (by omega), zs_get]
theorem cur_set (b : List Int) (i k : Nat) : (cur b i k).set k (oc b (32 * i + k)) = cur b i (k + 1) := by
  refine alike (by rw [List.length_set, cur_length, cur_length]) fun q hq => ?_
  rw [List.length_set, cur_length] at hq
  rw [cur_get _ _ _ _ hq]
  have e := cur_get b i k q hq
  simp only [List.getD_eq_getElem?_getD, List.getElem?_set] at e ⊢
  by_cases h : k = q
  · subst h
    rw [if_pos rfl, if_pos (by rw [cur_length]; exact hq), if_pos (by omega)]
    rfl
  · rw [if_neg h, e]
    by_cases h2 : q < k
    · rw [if_pos h2, if_pos (by omega)]
    · rw [if_neg h2, if_neg (by omega)]
theorem cur_done {b : List Int} {i k : Nat} (h : k = 32 ∨ b.length ≤ 32 * i + k) : cur b i k = tb (oc b) i := tb_of (cur_length _ _ _) fun q hq => by
  rw [cur_get _ _ _ _ hq]
  by_cases h2 : q < k
  · rw [if_pos h2]
  · rw [if_neg h2, oc_out (by omega)]
theorem cur_isz {b : List Int} {i k : Nat} (hk : k < 32) : isz (cur b i (k + 1)) = (isz (cur b i k) && decide (oc b (32 * i + k) = 0)) := by
  rw [Bool.eq_iff_iff]
  simp only [Bool.and_eq_true, decide_eq_true_eq]
  constructor
  · intro h
    refine ⟨isz_of fun q hq => ?_, ?_⟩
    · rw [cur_length] at hq
      have := isz_get h q
      rw [cur_get _ _ _ _ hq] at this ⊢
      by_cases h2 : q < k
      · rw [if_pos (by omega)] at this; rw [if_pos h2]; exact this
      · rw [if_neg h2]
    · have := isz_get h k
      rw [cur_get _ _ _ _ hk, if_pos (by omega)] at this
      exact this
  · rintro ⟨h1, h2⟩
    refine isz_of fun q hq => ?_
    rw [cur_length] at hq
    rw [cur_get _ _ _ _ hq]
    by_cases h3 : q < k
    · have := isz_get h1 q
      rw [cur_get _ _ _ _ hq, if_pos h3] at this
      rw [if_pos (by omega)]; exact this
    · by_cases h4 : q = k
      · rw [if_pos (by omega), h4]; exact h2
      · rw [if_neg (by omega)]
theorem oc_oct {b : List Int} (h : Oct b) (i : Nat) : (Lit.int .u8 (oc b i)).wf = true := getD_oct h i
theorem cur_oct {b : List Int} (h : Oct b) (i k : Nat) : Oct (cur b i k) := fun x hx => by
  obtain ⟨q, _, rfl⟩ := List.mem_map.1 hx
  split
  · exact oc_oct h _
  · decide

theorem RowN.own {w : World} {g base : Nat} {l : List Int} (h : RowN w g l) (hl : l.length = 32) (ho : Oct l) (hb : base ≤ g) : Own1 base w (.slice (some ⟨g, 0, none⟩) 32 32) l := Row.own ⟨h, hl, ho⟩ hb

set_option maxRecDepth 100000 in
set_option maxHeartbeats 4000000 in
theorem made_any (n0 : Nat) (v : Value) (b : List Int) (w : World) (h : Arg n0 w v b) (hlen : b.length ≤ 2432) :
    Calls Try.prog 31 #[v] w fun e w' => (∃ us', e = .returned (.agg us'.toArray) ∧ flR.lies w.heap.size w' us' (mk b)) ∧ Below w.heap.size w w' := by
  obtain ⟨a, c, rfl, _, _, _⟩ := h.shape
  obtain ⟨i6, hi6, hz60, hz61, hz62⟩ := info_parts Try.info62
  have HA : Hid (∀ V, Below w.heap.size w V → Arg n0 V (.slice a b.length c) b) := fun V hV => h.below hV
  obtain ⟨n, hn⟩ : ∃ n, n = b.length := ⟨_, rfl⟩
  have HN : Hid (n = b.length ∧ Oct b) := ⟨hn, h.oct⟩
  rw [← hn] at HA hlen ⊢
  have hl1 := run_len Try.underlying25 a n c
  have HMK : Hid (mk b = ((n : Int), mkL (tb (oc b)) 76)) := by rw [hn]; rfl
  obtain ⟨F, hF⟩ : ∃ F, F = mk b := ⟨_, rfl⟩
  rw [← hF] at HMK ⊢
  have HST : Hid (Below w.heap.size w ((w.alloc (.cells #[.int .i64 0, .slice none 0 0] 24)).alloc (.cells #[.int .i64 (n : Int), .slice none 0 0] 24)) ∧ Box ((w.alloc (.cells #[.int .i64 0, .slice none 0 0] 24)).alloc (.cells #[.int .i64 (n : Int), .slice none 0 0] 24)) w.heap.size 24 #[.int .i64 0, .slice none 0 0] ∧ Box ((w.alloc (.cells #[.int .i64 0, .slice none 0 0] 24)).alloc (.cells #[.int .i64 (n : Int), .slice none 0 0] 24)) (w.heap.size + 1) 24 #[.int .i64 (n : Int), .slice none 0 0]) := by
    refine ⟨((Below.refl _ w).alloc (Nat.le_refl _) _).alloc (by simp) _, (Box.new _ _ _).alloc _, ?_⟩
    have := Box.new (w.alloc (.cells #[.int .i64 0, .slice none 0 0] 24)) 24 #[.int .i64 (n : Int), .slice none 0 0]
    rwa [World.size_alloc] at this
  clear h hn hF
  go_enter Try.func31, Try.ntmps31
  go_wp2
  go_loopw [4] (fun x wr => ∃ (i A : Nat) (v : Value), Hid (A = 32 * i) ∧ A < n + 32 ∧ x = .int .i64 (A : Int) ∧ Box wr w.heap.size 24 #[.int .i64 0, .slice none 0 0] ∧ Box wr (w.heap.size + 1) 24 #[.int .i64 (n : Int), v] ∧ bksR.owns (w.heap.size + 2) wr [v] (mkL (tb (oc b)) i) ∧ Below w.heap.size w wr) (fun x _ => n + 32 - (intOf x).toNat)
  case atStart => exact ⟨0, 0, _, rfl, by omega, rfl, HST.out.2.1, HST.out.2.2, Shape.list_nil bkR 22 Try.underlying22 cells22 _ _, HST.out.1⟩
  case round =>
    obtain ⟨i, A, v, HAI, hAn, rfl, hB0, hB1, hO, hbel⟩ := hrel
    obtain ⟨wo, rfl⟩ : ∃ wo, wo = wr := ⟨_, rfl⟩
    by_cases hlt : A < n
    · have hmk := make32 wo
      have hAi : (A : Int) < (n : Int) := by omega
      have HW : Hid (Box wo w.heap.size 24 #[.int .i64 0, .slice none 0 0] ∧ Box wo (w.heap.size + 1) 24 #[.int .i64 (n : Int), v] ∧ bksR.owns (w.heap.size + 2) wo [v] (mkL (tb (oc b)) i) ∧ Below w.heap.size w wo ∧ w.heap.size + 2 ≤ wo.heap.size) := ⟨hB0, hB1, hO, hbel, hB1.lt⟩
      have HR0 : Hid (RowN (wo.alloc (.cells zeros32.toArray 5)) wo.heap.size zs ∧ Below wo.heap.size wo (wo.alloc (.cells zeros32.toArray 5))) := ⟨(row_new wo).1, (Below.refl _ _).alloc (Nat.le_refl _) _⟩
      clear hB0 hB1 hO hbel
      go_wp2
      go_loopw [6, 7] (fun s x wr => ∃ (k : Nat) (sm : Bool), k ≤ 32 ∧ A + k ≤ n ∧ x = .int .i64 (k : Int) ∧ s = .bool sm ∧ Hid (sm = !isz (cur b i k)) ∧ RowN wr wo.heap.size (cur b i k) ∧ Below wo.heap.size wo wr) (fun _ x _ => 32 - (intOf x).toNat)
      case atStart => exact ⟨0, false, by omega, by omega, rfl, rfl, by rw [cur_zero]; exact (show false = !isz zs by decide), by rw [cur_zero]; exact HR0.out.1, HR0.out.2⟩
      case round =>
        obtain ⟨k, sm, hk, hAk, rfl, rfl, HSM, hrow, hbk⟩ := hrel
        have hk32 : (k : Int) ≤ 32 := by omega
        by_cases h32 : k < 32
        · by_cases hAkn : A + k < n
          · have hAkI : (A : Int) + (k : Int) < (n : Int) := by omega
            obtain ⟨x, hx⟩ := get_lt (l := b) (k := A + k) (by rw [← HN.out.1]; exact hAkn)
            obtain ⟨bx, ox, hixx, _, gx, hxw⟩ := (HA.out wr (below_any HW.out.2.2.2.1 hbk)).at (A + k) x hx
            have hixb : ∀ W, (Instr.indexAt 25 (.slice a n c) (.int .i64 ((A : Int) + (k : Int)))).run Try.prog W = .ok (.pointer (some ⟨bx, ox, none⟩)) W := fun W => by
              have := hixx W
              rwa [show (((A + k : Nat)) : Int) = (A : Int) + (k : Int) by omega] at this
            have hixr := RowN.index (g := wo.heap.size) (m := 32) (k := k) h32
            have hfz := hrow.frozen k
            obtain ⟨y, hy⟩ := get_lt (l := cur b i k) (k := k) (by rw [cur_length]; exact h32)
            have hcy := hrow.cell hy
            have hoc : oc b (32 * i + k) = x := by rw [← HAI.out]; exact oc_some hx
            have hnx : RowN (wr.setCell ⟨wo.heap.size, k, none⟩ (.int .u8 x)) wo.heap.size (cur b i (k + 1)) := by
              rw [← cur_set, hoc]
              exact hrow.set
            have hcx := hnx.cell (k := k) (x := x) (by
              have e := cur_get b i (k + 1) k h32
              rw [if_pos (by omega), hoc] at e
              have hkl : k < (cur b i (k + 1)).length := by rw [cur_length]; exact h32
              rw [List.getElem?_eq_getElem hkl]
              simpa [List.getElem?_eq_getElem hkl] using e)
            have HNX : Hid (RowN (wr.setCell ⟨wo.heap.size, k, none⟩ (.int .u8 x)) wo.heap.size (cur b i (k + 1)) ∧ Below wo.heap.size wo (wr.setCell ⟨wo.heap.size, k, none⟩ (.int .u8 x))) := ⟨hnx, hbk.setCell (p := ⟨wo.heap.size, k, none⟩) (Nat.le_refl _) _⟩
            have HIZ : Hid (isz (cur b i (k + 1)) = (isz (cur b i k) && decide (x = 0))) := by
              show _ = _
              rw [cur_isz h32, hoc]
            clear hixx hx hy hnx hrow hbk hoc
            cases sm
            · by_cases hx0 : x = 0
              · subst hx0
                have HS2 : Hid (false = !isz (cur b i (k + 1))) := by
                  show _ = _
                  rw [HIZ.out]
                  have := HSM.out
                  simp at this
                  simp [this]
                go_wp2
                go_roundw
                case rel => exact ⟨k + 1, false, by omega, by omega, by go_num, rfl, HS2, HNX.out.1, HNX.out.2⟩
                case measure => simp [intOf]; omega
              · have HS2 : Hid (true = !isz (cur b i (k + 1))) := by
                  show _ = _
                  rw [HIZ.out]
                  simp [hx0]
                go_wp2
                go_roundw
                case rel => exact ⟨k + 1, true, by omega, by omega, by go_num, by simp [hx0], HS2, HNX.out.1, HNX.out.2⟩
                case measure => simp [intOf]; omega
            · have HS2 : Hid (true = !isz (cur b i (k + 1))) := by
                show _ = _
                rw [HIZ.out]
                have := HSM.out
                simp at this ⊢
                simp [this]
              go_wp2
              go_roundw
              case rel => exact ⟨k + 1, true, by omega, by omega, by go_num, rfl, HS2, HNX.out.1, HNX.out.2⟩
              case measure => simp [intOf]; omega
          · have hAkI : ¬ (A : Int) + (k : Int) < (n : Int) := by omega
            have HCD : Hid (cur b i k = tb (oc b) i) := cur_done (.inr (by have := HAI.out; have := HN.out.1; omega))
            have hq : (A : Int) / 32 = (i : Int) := by have := HAI.out; omega
            have HSI : Hid (i < 76) := by have := HAI.out; show i < 76; omega
            have HRW : Hid (RowN wr wo.heap.size (tb (oc b) i) ∧ Below wo.heap.size wo wr) := ⟨by rw [← HCD.out]; exact hrow, hbk⟩
            have hX0 := HW.out.1.below hbk HW.out.1.lt
            have hX1 := HW.out.2.1.below hbk HW.out.2.1.lt
            obtain ⟨q0, q1, f0, f1⟩ := hX1.two
            have hO := bksR.obelow HW.out.2.2.1 hbk
            have hMS := mkL_succ (tb (oc b)) i
            have hsm := HSM.out
            rw [HCD.out] at hsm
            clear hrow hbk
            cases sm
            · have hz : isz (tb (oc b) i) = true := by simpa using hsm
              rw [hz, if_pos rfl] at hMS
              have HE : Hid (Box wr w.heap.size 24 #[.int .i64 0, .slice none 0 0] ∧ Box wr (w.heap.size + 1) 24 #[.int .i64 (n : Int), v] ∧ bksR.owns (w.heap.size + 2) wr [v] (mkL (tb (oc b)) (i + 1)) ∧ Below w.heap.size w wr) := ⟨hX0, hX1, by rw [hMS]; exact hO, below_any HW.out.2.2.2.1 HRW.out.2⟩
              clear hX0 hX1 hO hMS hsm q0 q1 f0 f1
              go_wp2
              go_roundw
              case rel => exact ⟨i + 1, A + 32, v, by have := HAI.out; show _ = _; omega, by omega, by go_num, HE.out⟩
              case measure => simp [intOf]; omega
            · have hz : isz (tb (oc b) i) = false := by simpa using hsm
              rw [hz, if_neg (by simp)] at hMS
              obtain ⟨v', vss, hv', hown, hE⟩ := hO
              obtain rfl : v = v' := by simpa using hv'
              obtain ⟨va, vc, rfl⟩ := own_shape hown
              obtain ⟨ml, hml⟩ : ∃ x, x = (mkL (tb (oc b)) i).length := ⟨_, rfl⟩
              have hmlb := mkL_length (tb (oc b)) i
              rw [← hml] at hown hmlb q1 hX1
              have hml2 : ml ≤ 76 := by have := HSI.out; omega
              have HY : Hid (Box wr w.heap.size 24 #[.int .i64 0, .slice none 0 0] ∧ Box wr (w.heap.size + 1) 24 #[.int .i64 (n : Int), .slice va ml vc] ∧ wr.ownsRow (w.heap.size + 2) 62 2 (.slice va ml vc) ml vss.flatten ∧ Each (bkR.owns (w.heap.size + 2) wr) vss (mkL (tb (oc b)) i) ∧ ml = (mkL (tb (oc b)) i).length ∧ mkL (tb (oc b)) (i + 1) = mkL (tb (oc b)) i ++ [((i : Int), tb (oc b) i)] ∧ w.heap.size + 2 ≤ wr.heap.size ∧ Below w.heap.size w wr) := ⟨hX0, hX1, hown, hE, hml, hMS, hX1.lt, below_any HW.out.2.2.2.1 HRW.out.2⟩
              clear hX0 hX1 hMS hsm hown hE hml hmlb hv'
              go_wp2_with (at_builtin; refine wpList_append_lies _ (by rfl) _ _ 22 (by rfl) (w.heap.size + 2) 62 i6 _ 2 32 Try.underlying22 hi6 hz60 hz61 hz62 rfl (by omega) _ ml _ (by rfl) (HY.out.2.2.1.alloc _) ⟨wr.heap.size, 0, none⟩ 1 1 [.int .i64 (i : Int), .slice (some ⟨wo.heap.size, 0, none⟩) 32 32] (by rfl) (by rfl) (World.news_of_block (cs := #[.int .i64 (i : Int), .slice (some ⟨wo.heap.size, 0, none⟩) 32 32]) (t := 62) (fr := (0, 0)) (heap_alloc_new wr _)) (by simp [Value.oneCell']) (by omega) (by unfold maxLen; omega) (by omega) (by have := HY.out.2.2.2.2.2.2.1; simp; omega) (wr.heap.size + 1) (by simp) ?_; intro gg cap3 w3 hown3 hgrow3 hat hltg; have hy0 := (HY.out.1.alloc (.cells #[.int .i64 (i : Int), .slice (some ⟨wo.heap.size, 0, none⟩) 32 32] 62)).grown hgrow3 (row_ne HY.out.2.2.1 (by omega)); have hy1 := (HY.out.2.1.alloc (.cells #[.int .i64 (i : Int), .slice (some ⟨wo.heap.size, 0, none⟩) 32 32] 62)).grown hgrow3 (row_ne HY.out.2.2.1 (by omega)); obtain ⟨y0, y1, z0, z1⟩ := hy1.two)
              obtain ⟨h1, h2, h3, h4, h5, h6, h7, h8⟩ := HY.out
              have hSA : Same (w.heap.size + 2) wr (wr.alloc (.cells #[.int .i64 (i : Int), .slice (some ⟨wo.heap.size, 0, none⟩) 32 32] 62)) := .alloc _ _ _
              have hG3 : bksR.owns (w.heap.size + 2) w3 [.slice (some ⟨gg, 0, none⟩) (ml + 1) cap3] (mkL (tb (oc b)) (i + 1)) := by
                rw [h6]
                refine Shape.list_push (S := bkR) (ht := Try.underlying22) (hc := cells22) (us := [.int .i64 (i : Int), .slice (some ⟨wo.heap.size, 0, none⟩) 32 32]) (by decide) (h4.mono fun _ _ h => bkR.osame h hSA) (by rw [← h5]; exact own_same h3 hSA) ?_ hgrow3 ?_
                · exact bk_omk (p := ((i : Int), tb (oc b) i)) (bytesS.osame (RowN.own HRW.out.1 (tb_length _ _) (by rw [← HCD.out]; exact cur_oct HN.out.2 _ _) HW.out.2.2.2.2) hSA) ⟨by have := HSI.out; omega, by have := HSI.out; omega⟩
                · rw [← h5]; exact hown3
              refine ⟨⟨i + 1, A + 32, _, by have := HAI.out; show _ = _; omega, by omega, by go_num, hy0.other (by omega), hy1.set 1 _, bksR.osame hG3 (.set (by omega)), ?_⟩, ?_⟩
              · exact ((h8.alloc (by omega) _).grown hgrow3 (by simp; omega) (fun t ht => by have := (h3.lt t ht).1; omega)).setCell (p := ⟨w.heap.size + 1, 1, none⟩) (by simp) _
              · simp [intOf]; omega
        · have hk32' : ¬ (k : Int) < 32 := by omega
          have HCD : Hid (cur b i k = tb (oc b) i) := cur_done (.inl (by omega))
          have hq : (A : Int) / 32 = (i : Int) := by have := HAI.out; omega
          have HSI : Hid (i < 76) := by have := HAI.out; show i < 76; omega
          have HRW : Hid (RowN wr wo.heap.size (tb (oc b) i) ∧ Below wo.heap.size wo wr) := ⟨by rw [← HCD.out]; exact hrow, hbk⟩
          have hX0 := HW.out.1.below hbk HW.out.1.lt
          have hX1 := HW.out.2.1.below hbk HW.out.2.1.lt
          obtain ⟨q0, q1, f0, f1⟩ := hX1.two
          have hO := bksR.obelow HW.out.2.2.1 hbk
          have hMS := mkL_succ (tb (oc b)) i
          have hsm := HSM.out
          rw [HCD.out] at hsm
          clear hrow hbk
          cases sm
          · have hz : isz (tb (oc b) i) = true := by simpa using hsm
            rw [hz, if_pos rfl] at hMS
            have HE : Hid (Box wr w.heap.size 24 #[.int .i64 0, .slice none 0 0] ∧ Box wr (w.heap.size + 1) 24 #[.int .i64 (n : Int), v] ∧ bksR.owns (w.heap.size + 2) wr [v] (mkL (tb (oc b)) (i + 1)) ∧ Below w.heap.size w wr) := ⟨hX0, hX1, by rw [hMS]; exact hO, below_any HW.out.2.2.2.1 HRW.out.2⟩
            clear hX0 hX1 hO hMS hsm q0 q1 f0 f1
            go_wp2
            go_roundw
            case rel => exact ⟨i + 1, A + 32, v, by have := HAI.out; show _ = _; omega, by omega, by go_num, HE.out⟩
            case measure => simp [intOf]; omega
          · have hz : isz (tb (oc b) i) = false := by simpa using hsm
            rw [hz, if_neg (by simp)] at hMS
            obtain ⟨v', vss, hv', hown, hE⟩ := hO
            obtain rfl : v = v' := by simpa using hv'
            obtain ⟨va, vc, rfl⟩ := own_shape hown
            obtain ⟨ml, hml⟩ : ∃ x, x = (mkL (tb (oc b)) i).length := ⟨_, rfl⟩
            have hmlb := mkL_length (tb (oc b)) i
            rw [← hml] at hown hmlb q1 hX1
            have hml2 : ml ≤ 76 := by have := HSI.out; omega
            have HY : Hid (Box wr w.heap.size 24 #[.int .i64 0, .slice none 0 0] ∧ Box wr (w.heap.size + 1) 24 #[.int .i64 (n : Int), .slice va ml vc] ∧ wr.ownsRow (w.heap.size + 2) 62 2 (.slice va ml vc) ml vss.flatten ∧ Each (bkR.owns (w.heap.size + 2) wr) vss (mkL (tb (oc b)) i) ∧ ml = (mkL (tb (oc b)) i).length ∧ mkL (tb (oc b)) (i + 1) = mkL (tb (oc b)) i ++ [((i : Int), tb (oc b) i)] ∧ w.heap.size + 2 ≤ wr.heap.size ∧ Below w.heap.size w wr) := ⟨hX0, hX1, hown, hE, hml, hMS, hX1.lt, below_any HW.out.2.2.2.1 HRW.out.2⟩
            clear hX0 hX1 hMS hsm hown hE hml hmlb hv'
            go_wp2_with (at_builtin; refine wpList_append_lies _ (by rfl) _ _ 22 (by rfl) (w.heap.size + 2) 62 i6 _ 2 32 Try.underlying22 hi6 hz60 hz61 hz62 rfl (by omega) _ ml _ (by rfl) (HY.out.2.2.1.alloc _) ⟨wr.heap.size, 0, none⟩ 1 1 [.int .i64 (i : Int), .slice (some ⟨wo.heap.size, 0, none⟩) 32 32] (by rfl) (by rfl) (World.news_of_block (cs := #[.int .i64 (i : Int), .slice (some ⟨wo.heap.size, 0, none⟩) 32 32]) (t := 62) (fr := (0, 0)) (heap_alloc_new wr _)) (by simp [Value.oneCell']) (by omega) (by unfold maxLen; omega) (by omega) (by have := HY.out.2.2.2.2.2.2.1; simp; omega) (wr.heap.size + 1) (by simp) ?_; intro gg cap3 w3 hown3 hgrow3 hat hltg; have hy0 := (HY.out.1.alloc (.cells #[.int .i64 (i : Int), .slice (some ⟨wo.heap.size, 0, none⟩) 32 32] 62)).grown hgrow3 (row_ne HY.out.2.2.1 (by omega)); have hy1 := (HY.out.2.1.alloc (.cells #[.int .i64 (i : Int), .slice (some ⟨wo.heap.size, 0, none⟩) 32 32] 62)).grown hgrow3 (row_ne HY.out.2.2.1 (by omega)); obtain ⟨y0, y1, z0, z1⟩ := hy1.two)
            obtain ⟨h1, h2, h3, h4, h5, h6, h7, h8⟩ := HY.out
            have hSA : Same (w.heap.size + 2) wr (wr.alloc (.cells #[.int .i64 (i : Int), .slice (some ⟨wo.heap.size, 0, none⟩) 32 32] 62)) := .alloc _ _ _
            have hG3 : bksR.owns (w.heap.size + 2) w3 [.slice (some ⟨gg, 0, none⟩) (ml + 1) cap3] (mkL (tb (oc b)) (i + 1)) := by
              rw [h6]
              refine Shape.list_push (S := bkR) (ht := Try.underlying22) (hc := cells22) (us := [.int .i64 (i : Int), .slice (some ⟨wo.heap.size, 0, none⟩) 32 32]) (by decide) (h4.mono fun _ _ h => bkR.osame h hSA) (by rw [← h5]; exact own_same h3 hSA) ?_ hgrow3 ?_
              · exact bk_omk (p := ((i : Int), tb (oc b) i)) (bytesS.osame (RowN.own HRW.out.1 (tb_length _ _) (by rw [← HCD.out]; exact cur_oct HN.out.2 _ _) HW.out.2.2.2.2) hSA) ⟨by have := HSI.out; omega, by have := HSI.out; omega⟩
              · rw [← h5]; exact hown3
            refine ⟨⟨i + 1, A + 32, _, by have := HAI.out; show _ = _; omega, by omega, by go_num, hy0.other (by omega), hy1.set 1 _, bksR.osame hG3 (.set (by omega)), ?_⟩, ?_⟩
            · exact ((h8.alloc (by omega) _).grown hgrow3 (by simp; omega) (fun t ht => by have := (h3.lt t ht).1; omega)).setCell (p := ⟨w.heap.size + 1, 1, none⟩) (by simp) _
            · simp [intOf]; omega
    · have HMO : Hid (mkL (tb (oc b)) i = mkL (tb (oc b)) 76) := by
        refine (mkL_more (by have := HAI.out; omega) fun j h1 h2 => isz_of fun q hq => ?_).symm
        rw [tb_length] at hq
        rw [tb_get _ _ _ hq]
        exact oc_out (by have := HAI.out; have := HN.out.1; omega)
      have hAi : ¬ (A : Int) < (n : Int) := by omega
      obtain ⟨va, vc, _, hv', hown, _⟩ := Shape.list_own (S := bkR) (ht := Try.underlying22) (hc := cells22) hO
      obtain rfl : v = _ := by simpa using hv'
      obtain ⟨ml, hml⟩ : ∃ x, x = (mkL (tb (oc b)) i).length := ⟨_, rfl⟩
      rw [← hml] at hO hB1
      have HE : Hid (bksR.owns (w.heap.size + 2) wo [.slice va ml vc] (mkL (tb (oc b)) 76)) := by
        show bksR.owns _ _ _ _
        rw [← HMO.out]; exact hO
      obtain ⟨q0, q1, _, _⟩ := hB1.two
      obtain ⟨d0, d1, e0, e1⟩ := hB0.two
      have HBL : Hid (Below w.heap.size w wo) := hbel
      clear hown hO hml hv' hB0 hB1 hbel
      go_wp2
      refine bodyPost_ret (v := .agg #[.int .i64 (n : Int), .slice va ml vc]) (by simp [results, Try.results31, go_sem, *]) rfl ⟨⟨[_, _], rfl, ?_⟩, below_set2 HBL.out (by omega) _ _⟩
      rw [HMK.out]
      exact flR.weaken (n := w.heap.size + 2) (flR.keep (fl_mkR (s := ((n : Int), mkL (tb (oc b)) 76)) (bksR.olies HE.out) ⟨by omega, by omega⟩) (.set2 (by omega))) (by omega)

end Go.Proofs.Ytgflfmpoeamnnaa
