/-
  What octets.Hex answers: two digits for each octet; for every octets, in every memory; what was in memory stays.
-/
import Derived.Test.YtiinboedojjbkaaGet
import Derived.Test.YtiinboedojjbkaaOrderMath
import Derived.Deep.RegionHeld3
import Derived.Deep.RegionLaw
import Derived.Deep.AppendLies
import Derived.Deep.DrawnRows
namespace Go.Proofs.Ytiinboedojjbkaa
open Go.RowKit

/-- A digit's letter. -/
def hexc (d : Int) : Int := if d < 10 then 48 + d else 87 + d
/-- Two digits for each octet. -/
def hexs (l : List Int) : List Int := l.flatMap fun x => [hexc (x / 16), hexc (x % 16)]

theorem hexs_length (l : List Int) : (hexs l).length = 2 * l.length := by
  induction l with
  | nil => rfl
  | cons x l ih => simp only [hexs, List.flatMap_cons, List.length_append, List.length_cons, List.length_nil] at ih ⊢; omega

theorem hexs_take (l : List Int) (k : Nat) (h : k < l.length) : hexs (l.take (k + 1)) = hexs (l.take k) ++ [hexc (l.getD k 0 / 16), hexc (l.getD k 0 % 16)] := by
  rw [List.take_succ_eq_append_getElem h, hexs, List.flatMap_append]
  congr 1
  simp [List.getD, List.getElem?_eq_getElem h]

theorem hexs_range (l : List Int) (hr : ∀ x ∈ l, 0 ≤ x ∧ x ≤ 255) : ∀ y ∈ hexs l, 48 ≤ y ∧ y ≤ 102 := by
  intro y hy
  simp only [hexs, List.mem_flatMap] at hy
  obtain ⟨x, hx, hy⟩ := hy
  have := hr x hx
  simp only [List.mem_cons, List.not_mem_nil, or_false] at hy
  rcases hy with rfl | rfl <;> unfold hexc <;> split <;> omega

theorem and15_fin : ∀ x : Fin 256, bits .and .u8 (x.val : Int) 15 = (x.val : Int) % 16 := by decide +kernel
theorem and15 (x : Int) (h0 : 0 ≤ x) (h1 : x ≤ 255) : bits .and .u8 x 15 = x % 16 := by
  have := and15_fin ⟨x.toNat, by omega⟩
  simp only [Int.toNat_of_nonneg h0] at this
  exact this

def sixteen : ByteArray := ⟨#[48, 49, 50, 51, 52, 53, 54, 55, 56, 57, 97, 98, 99, 100, 101, 102]⟩
theorem sixteen_fin : ∀ d : Fin 16, (((⟨#[48, 49, 50, 51, 52, 53, 54, 55, 56, 57, 97, 98, 99, 100, 101, 102]⟩ : ByteArray)[d.val]'d.isLt).toNat : Int) = hexc (d.val : Int) := by decide +kernel
theorem index16 (w : World) (d : Int) (h0 : 0 ≤ d) (h1 : d < 16) : (Instr.index 9 (.string ⟨#[48, 49, 50, 51, 52, 53, 54, 55, 56, 57, 97, 98, 99, 100, 101, 102]⟩) (.int .u8 d)).run Try.prog w = .ok (.int .u8 (hexc d)) w := by
  rw [run_index_string w 9 _ .u8 d Try.underlying9, dif_pos ⟨h0, h1⟩]
  have := sixteen_fin ⟨d.toNat, by omega⟩
  simp only [Int.toNat_of_nonneg h0] at this
  rw [this]

/-- 'append' within the capacity, as one step of a region that draws its order. -/
theorem step_append_fits {P : Program} {ops : Array Oper} {o : Oper} {a : Act} {w : World} {K : Act → World → Prop} {Q : Exit → Act → World → Prop} {E : Prop}
    (hg : o.guard = none) (s x : Operand) (t : TypeId) (hop : o.op = Op.call { callee := Callee.builtin Builtin.append, args := #[s, x], argTypes := #[t, t] })
    (base : Nat) (e : TypeId) (i : TypeInfo) (size : Nat) (h1 : P.underlying t = some (.slice e)) (h2 : P.info? e = some i) (h4 : i.size = size)
    (g k cap : Nat) (xs : List Value) (hs : a.eval s = .slice (some ⟨g, 0, none⟩) k cap) (hown : w.ownsRow base e size (.slice (some ⟨g, 0, none⟩) k cap) k xs) (ad : Addr) (m c : Nat) (news : List Value) (hx : a.eval x = .slice (some ad) m c) (hn : news.length = m * size)
    (hc : ∀ j u, news[j]? = some u → w.cell? (ad.add j) = some u) (h1c : ∀ u ∈ news, u.oneCell' = true) (b1 : k + m ≤ cap)
    (hK : ∀ w', w'.ownsRow base e size (.slice (some ⟨g, 0, none⟩) (k + m) cap) (k + m) (xs ++ news) → w.grownBy w' (some g) → K (a.put o.dst (.slice (some ⟨g, 0, none⟩) (k + m) cap)) w') :
    if Region.wanted o (yielded ops a.tmps) = true then Oper.wp P o a w K Q else E := by
  have hw : Region.wanted o (yielded ops a.tmps) = true := by simp [Region.wanted, hg]
  rw [if_pos hw]
  obtain ⟨w', hrun, r1, r2⟩ := run_append_fits (P := P) w base t o.type e i size h1 h2 h4 g k cap xs hown ad m c news hn hc h1c b1
  unfold Oper.wp
  simp [execOp, hop, resolve, invoke, builtin, hs, hx, hrun, Result.andThen]
  exact hK w' r1 r2

attribute [local go_sem ↓] Go.wp_at_zero Go.wp_at_succ

set_option maxRecDepth 100000 in
set_option maxHeartbeats 1600000 in
theorem hex_some (b off n cap : Nat) (l : List Int) (hl : l.length = n) (w : World) (hn : n ≤ 140737488355328) (hc : At w b off l) (hr : ∀ x ∈ l, 0 ≤ x ∧ x ≤ 255) (hbW : b < w.heap.size) :
    Calls Try.prog 23 #[.slice (some ⟨b, off, none⟩) n cap] w fun e w' => e = .returned (.string (strOfNums (hexs l))) ∧ Below w.heap.size w w' := by
  obtain ⟨i0, hi, hz0, hz1, hz2⟩ := info_parts Try.info5
  have HL : Hid (l.length = n) := hl
  have HC : Hid (At w b off l) := hc
  have HR : Hid (∀ x ∈ l, 0 ≤ x ∧ x ≤ 255) := hr
  clear hl hc hr
  go_enter Try.func23, Try.ntmps23
  go_wp2_with (at_make; refine wpList_make_own _ rfl _ _ 23 rfl w.heap.size 5 i0 (.int .u8 0) 1 Try.underlying23 hi hz0 hz1 _ _ _ (2 * n) rfl rfl (by omega) (by rw [hz2]; omega) (by unfold maxLen; omega) (Nat.le_refl _) ?_; intro w1 hown hgrow)
  have hb0 : Below w.heap.size w w1 := (Below.refl _ _).grown hgrow (Nat.le_refl _) (fun _ h => by cases h)
  clear hgrow
  go_loopw [3, 12] (fun v i wr => ∃ j : Nat, j ≤ n ∧ i = .int .i64 j ∧ v = .slice (some ⟨w.heap.size, 0, none⟩) (2 * j) (2 * n) ∧
      wr.ownsRow w.heap.size 5 1 (.slice (some ⟨w.heap.size, 0, none⟩) (2 * j) (2 * n)) (2 * j) ((hexs (l.take j)).map (Value.int .u8)) ∧ Below w.heap.size w wr) (fun _ i _ => n - (intOf i).toNat)
  case atStart => exact ⟨0, Nat.zero_le _, rfl, rfl, hown, hb0⟩
  case round =>
    obtain ⟨j, hj, rfl, rfl, hown, hbel⟩ := hrel
    by_cases hlt : j < n
    · have hcell : wr.cell? ⟨b, off + j, none⟩ = some (.int .u8 (l.getD j 0)) := by
        rw [hbel.cell (p := ⟨b, off + j, none⟩) hbW]; exact HC.out j (by rw [HL.out]; exact hlt)
      have hx := HR.out (l.getD j 0) (by
        have : j < l.length := by rw [HL.out]; exact hlt
        simp [List.getD, List.getElem?_eq_getElem this])
      have ht := hexs_take l j (by rw [HL.out]; exact hlt)
      obtain ⟨x, hxd⟩ : ∃ x, x = l.getD j 0 := ⟨_, rfl⟩
      rw [← hxd] at hcell hx ht
      obtain ⟨hx0, hx1⟩ := hx
      have hand := and15 x hx0 hx1
      have hi1 := fun w => index16 w (x / 16) (by omega) (by omega)
      have hi2 := fun w => index16 w (x % 16) (by omega) (by omega)
      have HT : Hid (hexs (l.take (j + 1)) = hexs (l.take j) ++ [hexc (x / 16), hexc (x % 16)]) := ht
      clear ht hxd
      go_wp2
      go_region_held3 (fun _ => True) (trivial)
        ((refine step_append_fits (by rfl) _ _ _ (by rfl) w.heap.size 5 i0 1 Try.underlying23 hi hz1 w.heap.size (2 * j) (2 * n) _ (by rfl) ((hown.alloc _).drew)
            ⟨wr.heap.size, 0, none⟩ 2 2 [.int .u8 (hexc (x / 16)), .int .u8 (hexc (x % 16))] (by rfl) (by rfl) (World.news_of_block (cs := #[.int .u8 (hexc (x / 16)), .int .u8 (hexc (x % 16))]) (t := 5) (fr := (0, 0)) (heap_alloc_new wr _)) (by simp [Value.oneCell'])
            (by omega) ?_; intro w3 hown3 hgrow3))
      all_goals
        have hb3 : Below w.heap.size w w3 := ((hbel.alloc (by have := hbel.size; omega) _).drew).grown hgrow3 (by have := hbel.size; simp; omega) (fun k h => by cases h; omega)
        have ho3 : w3.ownsRow w.heap.size 5 1 (.slice (some ⟨w.heap.size, 0, none⟩) (2 * (j + 1)) (2 * n)) (2 * (j + 1)) ((hexs (l.take (j + 1))).map (Value.int .u8)) := by
          rw [HT.out, List.map_append]; exact hown3
        clear hown3 hgrow3 hown hbel hand hi1 hi2
        go_wp2
        go_roundw
        case rel => exact ⟨j + 1, by omega, by go_num, rfl, ho3, hb3⟩
        case measure => simp [intOf]; omega
    · have e : j = n := by omega
      have hcv := conv_bytes (Bytes.own (l := hexs (l.take j)) (v := .slice (some ⟨w.heap.size, 0, none⟩) (2 * j) (2 * n)) (base := w.heap.size) (by rw [hexs_length, List.length_take, HL.out, Nat.min_eq_left (by omega)]; exact hown) (fun y hy => by
        have := hexs_range (l.take j) (fun x hx => HR.out x (List.mem_of_mem_take hx)) y hy
        omega))
      rw [List.take_of_length_le (by rw [HL.out]; omega)] at hcv
      clear e hown
      go_wp2
      go_ret
      exact ⟨rfl, hbel⟩

set_option maxHeartbeats 400000 in
theorem hex_none (a : Option Addr) (cap : Nat) (w : World) :
    Calls Try.prog 23 #[.slice a 0 cap] w fun e w' => e = .returned (.string (strOfNums [])) ∧ Below w.heap.size w w' := by
  obtain ⟨i0, hi, hz0, hz1, hz2⟩ := info_parts Try.info5
  go_enter Try.func23, Try.ntmps23
  go_wp2_with (at_make; refine wpList_make_own _ rfl _ _ 23 rfl w.heap.size 5 i0 (.int .u8 0) 1 Try.underlying23 hi hz0 hz1 _ _ _ 0 rfl rfl (by omega) (by omega) (by unfold maxLen; omega) (Nat.le_refl _) ?_; intro w1 hown hgrow)
  have hb0 : Below w.heap.size w w1 := (Below.refl _ _).grown hgrow (Nat.le_refl _) (fun _ h => by cases h)
  have hcv := conv_bytes (Bytes.own (l := []) hown (by simp))
  clear hgrow hown
  refine wp_loop_rounds 1 ?_
  rw [rounds_succ]
  go_wp2
  go_ret
  exact ⟨rfl, hb0⟩

theorem At.lt {w : World} {b off : Nat} {l : List Int} (h : At w b off l) (h0 : 0 < l.length) : b < w.heap.size := cell_lt (a := ⟨b, off + 0, none⟩) (h 0 h0)

theorem hex_any (v : Value) (l : List Int) (w : World) (h : Arg w v l) (hn : l.length ≤ 140737488355328) :
    Calls Try.prog 23 #[v] w fun e w' => e = .returned (.string (strOfNums (hexs l))) ∧ Below w.heap.size w w' := by
  rcases h.split with ⟨rfl, a, cap, rfl⟩ | ⟨b, off, cap, rfl, hcap, hm, hc, hr⟩
  · exact hex_none a cap w
  · by_cases h0 : l.length = 0
    · obtain rfl := List.eq_nil_of_length_eq_zero h0
      exact hex_none _ cap w
    · exact hex_some b off l.length cap l rfl w hn hc hr (hc.lt (by omega))

end Go.Proofs.Ytiinboedojjbkaa
