import Derived.Test.YthlfgpnabcplnaaGreatDoorTe28
import Derived.Lib.SlBytesConst
/-
  What Flush and Crash make of any disk, and that the statements' example holds.
-/
namespace Go.Proofs.YthlfgpnabcplnaaGreatDoor.Dk
open Go.RowKit Go.Shelf
set_option maxRecDepth 100000

def Bools (n0 : Nat) (w : World) (v : Value) (bl : List Bool) : Prop := Cells n0 w 1 v bl.length (bl.map Value.bool)
theorem Bools.keep {n0 : Nat} {w w' : World} {v : Value} {bl : List Bool} (h : Bools n0 w v bl) (hs : Same n0 w w') : Bools n0 w' v bl := Cells.keep h hs
theorem Bools.below {n0 : Nat} {w w' : World} {v : Value} {bl : List Bool} (h : Bools n0 w v bl) (hb : Below w.heap.size w w') : Bools n0 w' v bl := h.keep (.of_below hb)

/-- The i-th is kept, if there is an i-th, and it is true. -/
def kept (bl : List Bool) (j : Nat) : Bool := bl.getD j false

set_option maxHeartbeats 1000000 in
theorem tells_any (n0 K : Nat) (kv : Value) (bl : List Bool) (j : Nat) (w : World) (h : Bools n0 w kv bl) (hK : One w K 60 kv) :
    Calls Tryz.prog 55 #[.int .i64 (j : Int), .pointer (some ⟨K, 0, none⟩)] w fun e w' => e = .returned (.bool (kept bl j)) ∧ w = w' := by
  obtain ⟨a, cap, rfl, hcap, hm, _⟩ := Cells.shape h
  have hl := run_len Tryz.underlying60 a bl.length cap
  have hc := hK.cell
  have h4 : (Tryz.prog.info? 4).map (fun i => (i.zero, i.size, i.bytes)) = some (some (.bool false), 1, 1) := by kernel_rfl
  obtain ⟨i4, hi4, _, hz4, _⟩ := info_parts h4
  have HH : Hid (Bools n0 w (.slice a bl.length cap) bl) := h
  clear h hK h4
  by_cases hlt : j < bl.length
  · obtain ⟨b, o, cap', hv, _, _, _, hcell⟩ := HH.out.place (by omega) j hlt
    obtain ⟨rfl, _, rfl⟩ := Value.slice.inj hv
    have hix : ∀ W, (Instr.indexAt 60 (.slice (some ⟨b, o, none⟩) bl.length cap) (.int .i64 (j : Int))).run Tryz.prog W = .ok (.pointer (some ⟨b, o + j, none⟩)) W := fun W => by
      have := run_index Tryz.underlying60 hi4 hz4 b o bl.length cap j hlt W
      rwa [Nat.mul_one] at this
    have hce : w.cell? ⟨b, o + j, none⟩ = some (.bool (kept bl j)) := by
      have := hcell 0 (.bool (kept bl j)) (by simp [kept, hlt])
      simpa using this
    obtain ⟨x, hx⟩ : ∃ x, x = kept bl j := ⟨_, rfl⟩
    rw [← hx] at hce ⊢
    have hji : (j : Int) < (bl.length : Int) := by omega
    clear hcell hv hx HH
    go_enter Tryz.func55, Tryz.ntmps55
    go_wp2
    go_ret
    exact ⟨rfl, rfl⟩
  · have hk : kept bl j = false := by simp [kept, List.getElem?_eq_none (Nat.le_of_not_lt hlt)]
    rw [hk]
    have hji : ¬ (j : Int) < (bl.length : Int) := by omega
    clear hk HH
    go_enter Tryz.func55, Tryz.ntmps55
    go_wp2
    go_ret
    exact ⟨rfl, rfl⟩

set_option maxHeartbeats 1000000 in
theorem flush_any (n0 : Nat) (v : Value) (S : St) (w : World) (h : Disk n0 w v S) :
    Calls Tryz.prog 43 #[v] w fun e w' => ∃ v', e = .returned (.tuple #[v', .int .i64 (cerr S)]) ∧ Disk w.heap.size w' v' (stand S fun _ => true) ∧ Below w.heap.size w w' := by
  have HD : Hid (Disk n0 w v S) := h
  obtain ⟨a1, c1, a2, c2, rfl, hL, hW⟩ := h.shape
  obtain ⟨ce, hce⟩ : ∃ x, x = cerr S := ⟨_, rfl⟩
  rw [← hce]
  have HCE : Hid (ce = cerr S) := hce
  clear h hL hW hce
  go_enter Tryz.func43, Tryz.ntmps43
  go_wp2_with fail
  have hb0 : Below w.heap.size w ((w.alloc (.cells #[.slice a1 S.secs.length c1, .slice a2 S.cache.length c2] 50)).alloc (.cells #[.slice none 0 0, .slice none 0 0] 50)) := ((Below.refl _ w).alloc (Nat.le_refl _) _).alloc (by simp) _
  refine (settle_any n0 _ S 78 #[] (fun _ => true) _ (HD.out.below hb0) (enters_of Tryz.func78 (by kernel_rfl) rfl) (fun W j _ => every_any j W)).mono ?_
  rw [← HCE.out]
  rintro e w1 ⟨v', rfl, hD1, hb1⟩
  have hR1 : Box w1 (w.heap.size + 1) 50 (.slice none 0 0) (.slice none 0 0) := by
    have := Box.new (w.alloc (.cells #[.slice a1 S.secs.length c1, .slice a2 S.cache.length c2] 50)) 50 (.slice none 0 0) (.slice none 0 0)
    rw [World.size_alloc] at this
    exact this.below hb1 (by simp)
  obtain ⟨b1, d1, b2, d2, rfl, _, _⟩ := hD1.shape
  have g2 := hR1.cell0
  have g3 := hR1.cell1
  have g4 := hR1.frozen0
  have g5 := hR1.frozen1
  obtain ⟨tn, htn⟩ : ∃ x, x = (stand S fun _ => true).secs.length := ⟨_, rfl⟩
  obtain ⟨tm, htm⟩ : ∃ x, x = (stand S fun _ => true).cache.length := ⟨_, rfl⟩
  rw [← htn, ← htm] at hD1 ⊢
  have HF : Hid (Disk (w.heap.size + 2) w1 (.agg #[.slice b1 tn d1, .slice b2 tm d2]) (stand S fun _ => true) ∧ Below w.heap.size w w1) := by
    refine ⟨?_, below_any hb0 hb1⟩
    simpa using hD1
  clear hD1 hb0 hb1 hR1 htn htm HCE
  go_wp2
  refine bodyPost_ret (v := .tuple #[.agg #[.slice b1 tn d1, .slice b2 tm d2], .int .i64 ce]) (by simp [results, Tryz.results43, go_sem, *]) rfl ⟨_, rfl, ?_, ?_⟩
  · exact Disk.weaken (n0 := w.heap.size + 2) ((HF.out.1.keep (same_set (n := w.heap.size + 2) (B := w.heap.size + 1) (by omega))).keep (same_set (n := w.heap.size + 2) (B := w.heap.size + 1) (by omega))) (by omega)
  · exact below_set2 HF.out.2 (Nat.le_succ _) _ _

set_option maxHeartbeats 1000000 in
theorem crash_any (n0 n1 : Nat) (v kv : Value) (S : St) (bl : List Bool) (w : World) (h : Disk n0 w v S) (hk : Bools n1 w kv bl) :
    Calls Tryz.prog 26 #[v, kv] w fun e w' => ∃ v', e = .returned (.tuple #[v', .int .i64 (cerr S)]) ∧ Disk w.heap.size w' v' (stand S (kept bl)) ∧ Below w.heap.size w w' := by
  have HD : Hid (Disk n0 w v S) := h
  obtain ⟨a1, c1, a2, c2, rfl, hL, hW⟩ := h.shape
  obtain ⟨ka, kc, rfl, _⟩ := Cells.shape hk
  have HK : Hid (Bools n1 w (.slice ka bl.length kc) bl) := hk
  obtain ⟨ce, hce⟩ : ∃ x, x = cerr S := ⟨_, rfl⟩
  rw [← hce]
  have HCE : Hid (ce = cerr S) := hce
  clear h hL hW hce hk
  go_enter Tryz.func26, Tryz.ntmps26
  go_wp2_with fail
  have hb0 : Below w.heap.size w (((w.alloc (.cells #[.slice a1 S.secs.length c1, .slice a2 S.cache.length c2] 50)).alloc (.cells #[.slice ka bl.length kc] 60)).alloc (.cells #[.slice none 0 0, .slice none 0 0] 50)) := (((Below.refl _ w).alloc (Nat.le_refl _) _).alloc (by simp) _).alloc (by simp; omega) _
  have hO0 : One (((w.alloc (.cells #[.slice a1 S.secs.length c1, .slice a2 S.cache.length c2] 50)).alloc (.cells #[.slice ka bl.length kc] 60)).alloc (.cells #[.slice none 0 0, .slice none 0 0] 50)) (w.heap.size + 1) 60 (.slice ka bl.length kc) := by
    have := (One.new (w.alloc (.cells #[.slice a1 S.secs.length c1, .slice a2 S.cache.length c2] 50)) 60 (.slice ka bl.length kc)).alloc (.cells #[.slice none 0 0, .slice none 0 0] 50)
    rw [World.size_alloc] at this
    exact this
  refine (settle_any n0 _ S 55 #[.pointer (some ⟨w.heap.size + 1, 0, none⟩)] (kept bl) _ (HD.out.below hb0) (enters_of Tryz.func55 (by kernel_rfl) rfl) (fun W j hkeep => tells_any n1 (w.heap.size + 1) _ bl j W ((HK.out.below hb0).keep (fun k _ hk => hkeep k hk)) ((hkeep _ hO0.lt).trans hO0))).mono ?_
  rw [← HCE.out]
  rintro e w1 ⟨v', rfl, hD1, hb1⟩
  have hR1 : Box w1 (w.heap.size + 2) 50 (.slice none 0 0) (.slice none 0 0) := by
    have := Box.new ((w.alloc (.cells #[.slice a1 S.secs.length c1, .slice a2 S.cache.length c2] 50)).alloc (.cells #[.slice ka bl.length kc] 60)) 50 (.slice none 0 0) (.slice none 0 0)
    rw [World.size_alloc, World.size_alloc] at this
    exact this.below hb1 (by simp)
  obtain ⟨b1, d1, b2, d2, rfl, _, _⟩ := hD1.shape
  have g2 := hR1.cell0
  have g3 := hR1.cell1
  have g4 := hR1.frozen0
  have g5 := hR1.frozen1
  obtain ⟨tn, htn⟩ : ∃ x, x = (stand S (kept bl)).secs.length := ⟨_, rfl⟩
  obtain ⟨tm, htm⟩ : ∃ x, x = (stand S (kept bl)).cache.length := ⟨_, rfl⟩
  rw [← htn, ← htm] at hD1 ⊢
  have HF : Hid (Disk (w.heap.size + 3) w1 (.agg #[.slice b1 tn d1, .slice b2 tm d2]) (stand S (kept bl)) ∧ Below w.heap.size w w1) := by
    refine ⟨?_, below_any hb0 hb1⟩
    simpa using hD1
  clear hD1 hb0 hb1 hR1 htn htm HCE hO0
  go_wp2
  refine bodyPost_ret (v := .tuple #[.agg #[.slice b1 tn d1, .slice b2 tm d2], .int .i64 ce]) (by simp [results, Tryz.results26, go_sem, *]) rfl ⟨_, rfl, ?_, ?_⟩
  · exact Disk.weaken (n0 := w.heap.size + 3) ((HF.out.1.keep (same_set (n := w.heap.size + 3) (B := w.heap.size + 1 + 1) (by omega))).keep (same_set (n := w.heap.size + 3) (B := w.heap.size + 1 + 1) (by omega))) (by omega)
  · exact below_set2 (B := w.heap.size + 1 + 1) HF.out.2 (by omega) _ _

def S0 : St := ⟨List.replicate 2 zeros, []⟩
def S1 : St := ⟨List.replicate 2 zeros, [(1, pad [97, 98])]⟩
theorem ex1 : perr S0 1 [97, 98] = 0 := by kernel_rfl
theorem ex2 : pst S0 1 [97, 98] = S1 := by kernel_rfl
theorem ex3 : gerr S1 1 1 = 0 := by kernel_rfl
theorem ex4 : gout S1 1 1 = pad [97, 98] := by kernel_rfl
theorem ex5 : cerr S1 = 0 := by kernel_rfl
theorem ex6 : stand S1 (kept []) = S0 := by kernel_rfl
theorem ex7 : gerr S0 1 1 = 0 := by kernel_rfl
theorem ex8 : gout S0 1 1 = zeros := by kernel_rfl

theorem own_at {w : World} {base : Nat} {v : Value} {l : List Int} (h : w.ownsRow base 5 1 v l.length (l.map (Value.int .u8))) (hp : 0 < l.length) : ∃ g cap, v = .slice (some ⟨g, 0, none⟩) l.length cap ∧ w.cell? ⟨g, 0, none⟩ = some (.int .u8 (l.getD 0 0)) := by
  obtain ⟨g, cap, rfl, _⟩ := h.form hp
  refine ⟨g, cap, rfl, ?_⟩
  have := h.cells (g := g) rfl 0 (.int .u8 (l.getD 0 0)) (by simp [hp])
  rwa [add_plain] at this


end Go.Proofs.YthlfgpnabcplnaaGreatDoor.Dk

/-
  Which writes land where only the first ones may; a row in which one slice is put; truths in a row.
-/
namespace Go.Proofs.YthlfgpnabcplnaaGreatDoor.Dk
open Go.RowKit
set_option maxRecDepth 100000

theorem Tryz.info4 : (Tryz.prog.info? 4).map (fun i => (i.zero, i.size, i.bytes)) = some (some (.bool false), 1, 1) := by kernel_rfl

theorem landed_congr (S : St) {f g : Nat → Bool} : ∀ j, (∀ i, i < j → f i = g i) → landed S f j = landed S g j
  | 0, _ => rfl
  | j + 1, h => by rw [landed, landed, landed_congr S j fun i hi => h i (by omega), h j (by omega)]
theorem landed_past (S : St) (bl : List Bool) (k : Nat) : ∀ d, bl.length ≤ k → landed S (kept bl) (k + d) = landed S (kept bl) k
  | 0, _ => rfl
  | d + 1, h => by
    rw [← Nat.add_assoc, landed, landed_past S bl k d h, if_neg]
    · simp
    · unfold kept
      simp [List.getD, List.getElem?_eq_none (show bl.length ≤ k + d by omega)]
theorem stand_congr {S : St} {f g : Nat → Bool} (h : ∀ i, i < S.cache.length → f i = g i) : stand S f = stand S g := by
  unfold stand
  rw [fill_all, fill_all, landed_congr S _ h]

theorem kept_get {bl : List Bool} {k : Nat} {b : Bool} (h : bl[k]? = some b) : kept bl k = b := by simp [kept, List.getD, h]

theorem bools_at {n0 : Nat} {w : World} {v : Value} {bl : List Bool} (h : Bools n0 w v bl) (i : Nat) (b : Bool) (hb : bl[i]? = some b) :
    ∃ g o, (∀ W, (Instr.indexAt 60 v (.int .i64 i)).run Tryz.prog W = .ok (.pointer (some ⟨g, o, none⟩)) W) ∧ w.cell? ⟨g, o, none⟩ = some (.bool b) := by
  obtain ⟨i0, hi0, _, hz, _⟩ := info_parts Tryz.info4
  have hi : i < bl.length := (List.getElem?_eq_some_iff.1 hb).1
  obtain ⟨g, o, cap, rfl, _, _, _, hc⟩ := Cells.place h (by omega) i hi
  refine ⟨g, o + i, fun W => ?_, ?_⟩
  · have := run_index Tryz.underlying60 hi0 hz g o bl.length cap i hi W
    rwa [Nat.mul_one] at this
  · have := hc 0 (.bool b) (by simp [hb])
    simpa using this

/-- One slice put into a row of slices. -/
theorem OwnLists.put {base : Nat} {w : World} {g n cap k : Nat} {ls : List (List Int)} {u : Value} {l : List Int} (hn : n = ls.length) (h : OwnLists base w (.slice (some ⟨g, 0, none⟩) n cap) ls) (hu : Own1 base w u l) :
    OwnLists base (w.setCell ⟨g, k, none⟩ u) (.slice (some ⟨g, 0, none⟩) n cap) (ls.set k l) ∧ w.grownBy (w.setCell ⟨g, k, none⟩ u) (some g) := by
  obtain ⟨us, h1, h2⟩ := h
  subst hn
  have hs := h1.stored k u
  refine ⟨⟨us.set k u, by rw [List.length_set]; exact hs.1, ?_⟩, hs.2⟩
  have keep : ∀ a b, Own1 base w a b → Own1 base (w.setCell ⟨g, k, none⟩ u) a b := fun a b ho => ⟨ho.1.kept hs.2 (own_apart ho.1 h1 (by decide)), ho.2⟩
  exact (h2.mono keep).set k (keep u l hu)
theorem OwnLists.at {base : Nat} {w : World} {v : Value} {ls : List (List Int)} (h : OwnLists base w v ls) (k : Nat) (hk : k < ls.length) :
    ∃ g cap, v = .slice (some ⟨g, 0, none⟩) ls.length cap ∧ base ≤ g ∧ g < w.heap.size ∧ (∀ W, (Instr.indexAt 44 v (.int .i64 k)).run Tryz.prog W = .ok (.pointer (some ⟨g, k, none⟩)) W) ∧ (∃ x, w.cell? ⟨g, k, none⟩ = some x) ∧ w.frozen? ⟨g, k, none⟩ = false ∧ (Value.slice (some ⟨g, 0, none⟩) ls.length cap).ownBlock = some g := by
  obtain ⟨us, h1, h2⟩ := h
  obtain ⟨i0, hi0, _, hz, _⟩ := info_parts Tryz.info22
  obtain ⟨g, cap, rfl, _⟩ := h1.form (by omega)
  have hlt := h1.lt g rfl
  refine ⟨g, cap, rfl, hlt.1, hlt.2, fun W => ?_, ?_, h1.frozenAt k, rfl⟩
  · have := run_index Tryz.underlying44 hi0 hz g 0 ls.length cap k hk W
    rwa [Nat.mul_one, Nat.zero_add] at this
  · have hl : k < us.length := by rw [h2.length]; exact hk
    exact ⟨us[k], by rw [h1.cellAt k (by omega)]; simp [hl]⟩
theorem OwnWrites.beside {base : Nat} {w w' : World} {v vs : Value} {n : Nat} {us : List Value} {ws : List (Int × List Int)} (h : OwnWrites base w 87 v ws) (ho : w.ownsRow base 22 1 vs n us) (hg : w.grownBy w' vs.ownBlock) : OwnWrites base w' 87 v ws := by
  obtain ⟨ps, h1, h2⟩ := h
  exact ⟨ps, h1.kept hg (own_apart h1 ho (by decide)), h2.mono fun a b h => ⟨h.1, ⟨h.2.1.1.kept hg (own_apart h.2.1.1 ho (by decide)), h.2.1.2⟩, h.2.2⟩⟩

end Go.Proofs.YthlfgpnabcplnaaGreatDoor.Dk
