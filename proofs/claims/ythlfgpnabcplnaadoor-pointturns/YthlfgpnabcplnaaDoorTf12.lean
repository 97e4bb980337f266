/-
  What bytes.Equal and bytes.Clone answer over octets: whether they are the same; the same octets in a block of its own.
-/
import Derived.Test.YthlfgpnabcplnaaDoorTf11
import Derived.Laws.BytesArg
namespace Go.Proofs.YthlfgpnabcplnaaDoor.W.C
open Go.RowKit

theorem conv_bytes {w : World} {v : Value} {l : List Int} (h : Bytes w v l) : (convert 22 9 v).run Tryd.prog w = .ok (.string (strOfNums l)) w := by
  obtain ⟨⟨a, cap, rfl, hc⟩, _, _⟩ := h
  by_cases h0 : l.length = 0
  · obtain rfl := List.eq_nil_of_length_eq_zero h0
    cases a with
    | none => exact run_convert_bytes_nil w 22 5 Tryd.underlying22 Tryd.underlying5 _ _ 9 Tryd.underlying9
    | some x =>
      rw [run_convert_bytes_string w 22 9 5 _ _ cap Tryd.underlying22 Tryd.underlying5 Tryd.underlying9]
      have := run_bytesToString (P := Tryd.prog) w x 0 cap [] (by simpa using run_loadCells_list (P := Tryd.prog) w x [] (fun j v hj => by simp at hj))
      exact this
  · obtain ⟨b, off, rfl, hcell⟩ := hc h0
    exact run_convert_bytes_arg w 22 5 Tryd.underlying22 Tryd.underlying5 b off l.length cap l rfl hcell 9 Tryd.underlying9

theorem u8_eq (a b : Nat) (ha : a < 256) (hb : b < 256) : (UInt8.ofNat a = UInt8.ofNat b) ↔ a = b := by
  constructor
  · intro h
    have := congrArg UInt8.toNat h
    rwa [UInt8.toNat_ofNat', UInt8.toNat_ofNat', Nat.mod_eq_of_lt ha, Nat.mod_eq_of_lt hb] at this
  · rintro rfl; rfl

theorem octs_inj : ∀ (a b : List Int), Oct a → Oct b → (a.map fun n => UInt8.ofNat n.toNat) = (b.map fun n => UInt8.ofNat n.toNat) → a = b
  | [], [], _, _, _ => rfl
  | [], _ :: _, _, _, h => by cases h
  | _ :: _, [], _, _, h => by cases h
  | x :: a, y :: b, ha, hb, h => by
    have h1 := ha x (List.mem_cons_self ..)
    have h2 := hb y (List.mem_cons_self ..)
    simp only [List.map_cons, List.cons.injEq] at h
    have e := (u8_eq x.toNat y.toNat (by omega) (by omega)).1 h.1
    have t := octs_inj a b (fun z hz => ha z (List.mem_cons_of_mem _ hz)) (fun z hz => hb z (List.mem_cons_of_mem _ hz)) h.2
    rw [t, show x = y by omega]

theorem in_nil (w : World) (d : Nat) (a : Option Addr) (l c : Nat) : (Op.equalIn (d + 1) 22 (.slice a l c) (.slice none 0 0)).run Tryd.prog w = .ok a.isNone w := by
  cases a <;> simp [Op.equalIn, run_underlying Tryd.underlying22]
theorem equal_nil (w : World) (a : Option Addr) (l c : Nat) : (Op.equal 22 (.slice a l c) (.slice none 0 0)).run Tryd.prog w = .ok a.isNone w := in_nil w 9999 a l c
theorem eql_nil (w : World) (a : Option Addr) (l c : Nat) : (binOp .eql 22 (.slice a l c) (.slice none 0 0)).run Tryd.prog w = .ok (.bool a.isNone) w := by
  simp [binOp, equal_nil w a l c]

set_option maxRecDepth 100000 in
set_option maxHeartbeats 400000 in
theorem equal_any (v1 v2 : Value) (a b : List Int) (w : World) (h1 : Bytes w v1 a) (h2 : Bytes w v2 b) :
    Calls Tryd.prog 62 #[v1, v2] w fun e w' => e = .returned (.bool (decide (a = b))) ∧ w = w' := by
  have c1 := conv_bytes h1
  have c2 := conv_bytes h2
  have HD : Hid (((strOfNums a).toList == (strOfNums b).toList) = decide (a = b)) := by
    show _ = _
    rw [ByteArray.toList_eq, ByteArray.toList_eq, strOfNums_data, strOfNums_data]
    by_cases e : a = b
    · subst e; simp
    · have : (a.map fun n => UInt8.ofNat n.toNat) ≠ (b.map fun n => UInt8.ofNat n.toNat) := fun h => e (octs_inj a b h1.2.2 h2.2.2 h)
      rw [decide_eq_false e]
      exact beq_eq_false_iff_ne.2 this
  clear h1 h2
  go_enter Tryd.func62, Tryd.ntmps62
  go_wp2
  go_ret
  exact ⟨congrArg Ending.returned (congrArg Value.bool HD.out), rfl⟩

set_option maxRecDepth 100000 in
set_option maxHeartbeats 400000 in
theorem clone_any (v : Value) (l : List Int) (w : World) (h : Arg w v l) (hs : l.length ≤ 140737488355328) :
    Calls Tryd.prog 57 #[v] w fun e w' => (∃ v', e = .returned v' ∧ w'.ownsRow w.heap.size 5 1 v' l.length (l.map (Value.int .u8))) ∧ Below w.heap.size w w' := by
  obtain ⟨i0, hi, hz0, hz1, hz2⟩ := info_parts Tryd.info5
  rcases h with ⟨rfl, rfl⟩ | ⟨x, cap, rfl, hcap, hm, hc, hr⟩
  · have hq := fun w => eql_nil w none 0 0
    go_enter Tryd.func57, Tryd.ntmps57
    go_wp2
    go_ret
    exact ⟨⟨_, rfl, World.ownsRow_nil _ _ _ _⟩, Below.refl _ _⟩
  · have hnews : ∀ j u, (l.map (Value.int .u8))[j]? = some u → w.cell? (x.add j) = some u := fun j u hj => by
      have hjl : j < l.length := by
        rcases Nat.lt_or_ge j l.length with c | c
        · exact c
        · rw [List.getElem?_eq_none (by simpa using c)] at hj; cases hj
      rw [hc j hjl]
      rw [List.getElem?_map, List.getElem?_eq_getElem hjl] at hj
      simpa [List.getElem?_eq_getElem hjl] using hj
    have HN : Hid (∀ j u, (l.map (Value.int .u8))[j]? = some u → (w.alloc (.cells #[] 5)).cell? (x.add j) = some u) := fun j u hj => by
      have g := hnews j u hj
      rw [((Below.refl w.heap.size w).alloc (Nat.le_refl _) _).cell (cell_lt g)]
      exact g
    clear hc hr hnews
    have hq := fun w => eql_nil w (some x) l.length cap
    go_enter Tryd.func57, Tryd.ntmps57
    go_wp2_with (at_builtin; refine wpList_append_own _ rfl _ _ 22 rfl w.heap.size 5 i0 (.int .u8 0) 1 1 Tryd.underlying22 hi hz0 hz1 hz2 rfl (by decide) (.slice (some ⟨w.heap.size, 0, none⟩) 0 0) 0 [] rfl (World.ownsRow_lit w #[] 0 (Nat.le_refl _) (by unfold maxLen; omega) (by simp)) x l.length cap (l.map (Value.int .u8)) rfl (by simp) HN.out (one_cells l) (by omega) (by omega) (by simp) ?_; intro v' w1 hown hgrow _)
    have hb : Below w.heap.size w w1 := ((Below.refl w.heap.size w).alloc (Nat.le_refl _) (.cells #[] 5)).grown hgrow (by simp) (fun k h => by cases h; exact Nat.le_refl _)
    have hown' : w1.ownsRow w.heap.size 5 1 v' l.length (l.map (Value.int .u8)) := by simpa using hown
    clear hgrow hown
    go_wp2
    go_ret
    exact ⟨⟨v', rfl, hown'⟩, hb⟩

/-- The shape of a slice that the call owns. -/
theorem own_shape {w : World} {base : Nat} {v : Value} {n : Nat} {xs : List Value} (h : w.ownsRow base 5 1 v n xs) : ∃ a cap, v = .slice a n cap := by
  rcases h.2 with ⟨rfl, rfl⟩ | ⟨g, cap, cur, rfl, _⟩
  · exact ⟨none, 0, rfl⟩
  · exact ⟨_, cap, rfl⟩

end Go.Proofs.YthlfgpnabcplnaaDoor.W.C
