/-
  What Flush and Crash make of any disk, and that the statements' example holds.
-/
import Derived.Test.YtkeaillmcfnnkaaGetAll
import Derived.Lib.SlBytesConst
namespace Go.Proofs.Ytkeaillmcfnnkaa
open Go.RowKit Go.Shelf

def Bools (n0 : Nat) (w : World) (v : Value) (bl : List Bool) : Prop := Cells n0 w 1 v bl.length (bl.map Value.bool)
theorem Bools.keep {n0 : Nat} {w w' : World} {v : Value} {bl : List Bool} (h : Bools n0 w v bl) (hs : Same n0 w w') : Bools n0 w' v bl := Cells.keep h hs
theorem Bools.below {n0 : Nat} {w w' : World} {v : Value} {bl : List Bool} (h : Bools n0 w v bl) (hb : Below w.heap.size w w') : Bools n0 w' v bl := h.keep (.of_below hb)

/-- The i-th is kept, if there is an i-th, and it is true. -/
def kept (bl : List Bool) (j : Nat) : Bool := bl.getD j false

set_option maxHeartbeats 1000000 in
theorem tells_any (n0 K : Nat) (kv : Value) (bl : List Bool) (j : Nat) (w : World) (h : Bools n0 w kv bl) (hK : One w K 27 kv) :
    Calls Try.prog 40 #[.int .i64 (j : Int), .pointer (some ⟨K, 0, none⟩)] w fun e w' => e = .returned (.bool (kept bl j)) ∧ w = w' := by
  obtain ⟨a, cap, rfl, hcap, hm, _⟩ := Cells.shape h
  have hl := run_len Try.underlying27 a bl.length cap
  have hc := hK.cell
  have h4 : (Try.prog.info? 4).map (fun i => (i.zero, i.size, i.bytes)) = some (some (.bool false), 1, 1) := by kernel_rfl
  obtain ⟨i4, hi4, _, hz4, _⟩ := info_parts h4
  have HH : Hid (Bools n0 w (.slice a bl.length cap) bl) := h
  clear h hK h4
  by_cases hlt : j < bl.length
  · obtain ⟨b, o, cap', hv, _, _, _, hcell⟩ := HH.out.place (by omega) j hlt
    obtain ⟨rfl, _, rfl⟩ := Value.slice.inj hv
    have hix : ∀ W, (Instr.indexAt 27 (.slice (some ⟨b, o, none⟩) bl.length cap) (.int .i64 (j : Int))).run Try.prog W = .ok (.pointer (some ⟨b, o + j, none⟩)) W := fun W => by
      have := run_index Try.underlying27 hi4 hz4 b o bl.length cap j hlt W
      rwa [Nat.mul_one] at this
    have hce : w.cell? ⟨b, o + j, none⟩ = some (.bool (kept bl j)) := by
      have := hcell 0 (.bool (kept bl j)) (by simp [kept, hlt])
      simpa using this
    obtain ⟨x, hx⟩ : ∃ x, x = kept bl j := ⟨_, rfl⟩
    rw [← hx] at hce ⊢
    have hji : (j : Int) < (bl.length : Int) := by omega
    clear hcell hv hx HH
    go_enter Try.func40, Try.ntmps40
    go_wp2
    go_ret
    exact ⟨rfl, rfl⟩
  · have hk : kept bl j = false := by simp [kept, List.getElem?_eq_none (Nat.le_of_not_lt hlt)]
    rw [hk]
    have hji : ¬ (j : Int) < (bl.length : Int) := by omega
    clear hk HH
    go_enter Try.func40, Try.ntmps40
    go_wp2
    go_ret
    exact ⟨rfl, rfl⟩

set_option maxHeartbeats 1000000 in
theorem flush_any (n0 : Nat) (v : Value) (S : St) (w : World) (h : Disk n0 w v S) :
    Calls Try.prog 15 #[v] w fun e w' => ∃ v', e = .returned (.tuple #[v', .int .i64 (cerr S)]) ∧ Disk w.heap.size w' v' (stand S fun _ => true) ∧ Below w.heap.size w w' := by
  have HD : Hid (Disk n0 w v S) := h
  obtain ⟨a1, c1, a2, c2, rfl, hL, hW⟩ := h.shape
  obtain ⟨ce, hce⟩ : ∃ x, x = cerr S := ⟨_, rfl⟩
  rw [← hce]
  have HCE : Hid (ce = cerr S) := hce
  clear h hL hW hce
  go_enter Try.func15, Try.ntmps15
  go_wp2_with fail
  have hb0 : Below w.heap.size w ((w.alloc (.cells #[.slice a1 S.secs.length c1, .slice a2 S.cache.length c2] 30)).alloc (.cells #[.slice none 0 0, .slice none 0 0] 30)) := ((Below.refl _ w).alloc (Nat.le_refl _) _).alloc (by simp) _
  refine (settle_any n0 _ S 39 #[] (fun _ => true) _ (HD.out.below hb0) (enters_of Try.func39 (by kernel_rfl) rfl) (fun W j _ => every_any j W)).mono ?_
  rw [← HCE.out]
  rintro e w1 ⟨v', rfl, hD1, hb1⟩
  have hR1 : Box w1 (w.heap.size + 1) 30 (.slice none 0 0) (.slice none 0 0) := by
    have := Box.new (w.alloc (.cells #[.slice a1 S.secs.length c1, .slice a2 S.cache.length c2] 30)) 30 (.slice none 0 0) (.slice none 0 0)
    rw [World.size_alloc] at this
    exact this.below hb1 (by simp)
  obtain ⟨b1, d1, b2, d2, rfl, _, _⟩ := hD1.shape
  have g2 := hR1.cell0
  have g3 := hR1.cell1
  have g4 := hR1.frozen0
  have g5 := hR1.frozen1
  obtain ⟨tn, htn⟩ : ∃ x, x = (stand S fun _ => true).secs.length := ⟨_, rfl⟩
  obtain ⟨tm, htm⟩ : ∃ x, x = (stand S fun _ => true).cache.length := ⟨_, rfl⟩
  rw [← htn, ← htm] at hD1 ⊢
  have HF : Hid (Disk (w.heap.size + 2) w1 (.agg #[.slice b1 tn d1, .slice b2 tm d2]) (stand S fun _ => true) ∧ Below w.heap.size w w1) := by
    refine ⟨?_, below_any hb0 hb1⟩
    simpa using hD1
  clear hD1 hb0 hb1 hR1 htn htm HCE
  go_wp2
  refine bodyPost_ret (v := .tuple #[.agg #[.slice b1 tn d1, .slice b2 tm d2], .int .i64 ce]) (by simp [results, Try.results15, go_sem, *]) rfl ⟨_, rfl, ?_, ?_⟩
  · exact Disk.weaken (n0 := w.heap.size + 2) ((HF.out.1.keep (same_set (n := w.heap.size + 2) (B := w.heap.size + 1) (by omega))).keep (same_set (n := w.heap.size + 2) (B := w.heap.size + 1) (by omega))) (by omega)
  · exact below_set2 HF.out.2 (Nat.le_succ _) _ _

set_option maxHeartbeats 1000000 in
theorem crash_any (n0 n1 : Nat) (v kv : Value) (S : St) (bl : List Bool) (w : World) (h : Disk n0 w v S) (hk : Bools n1 w kv bl) :
    Calls Try.prog 17 #[v, kv] w fun e w' => ∃ v', e = .returned (.tuple #[v', .int .i64 (cerr S)]) ∧ Disk w.heap.size w' v' (stand S (kept bl)) ∧ Below w.heap.size w w' := by
  have HD : Hid (Disk n0 w v S) := h
  obtain ⟨a1, c1, a2, c2, rfl, hL, hW⟩ := h.shape
  obtain ⟨ka, kc, rfl, _⟩ := Cells.shape hk
  have HK : Hid (Bools n1 w (.slice ka bl.length kc) bl) := hk
  obtain ⟨ce, hce⟩ : ∃ x, x = cerr S := ⟨_, rfl⟩
  rw [← hce]
  have HCE : Hid (ce = cerr S) := hce
  clear h hL hW hce hk
  go_enter Try.func17, Try.ntmps17
  go_wp2_with fail
  have hb0 : Below w.heap.size w (((w.alloc (.cells #[.slice a1 S.secs.length c1, .slice a2 S.cache.length c2] 30)).alloc (.cells #[.slice ka bl.length kc] 27)).alloc (.cells #[.slice none 0 0, .slice none 0 0] 30)) := (((Below.refl _ w).alloc (Nat.le_refl _) _).alloc (by simp) _).alloc (by simp; omega) _
  have hO0 : One (((w.alloc (.cells #[.slice a1 S.secs.length c1, .slice a2 S.cache.length c2] 30)).alloc (.cells #[.slice ka bl.length kc] 27)).alloc (.cells #[.slice none 0 0, .slice none 0 0] 30)) (w.heap.size + 1) 27 (.slice ka bl.length kc) := by
    have := (One.new (w.alloc (.cells #[.slice a1 S.secs.length c1, .slice a2 S.cache.length c2] 30)) 27 (.slice ka bl.length kc)).alloc (.cells #[.slice none 0 0, .slice none 0 0] 30)
    rw [World.size_alloc] at this
    exact this
  refine (settle_any n0 _ S 40 #[.pointer (some ⟨w.heap.size + 1, 0, none⟩)] (kept bl) _ (HD.out.below hb0) (enters_of Try.func40 (by kernel_rfl) rfl) (fun W j hkeep => tells_any n1 (w.heap.size + 1) _ bl j W ((HK.out.below hb0).keep (fun k _ hk => hkeep k hk)) ((hkeep _ hO0.lt).trans hO0))).mono ?_
  rw [← HCE.out]
  rintro e w1 ⟨v', rfl, hD1, hb1⟩
  have hR1 : Box w1 (w.heap.size + 2) 30 (.slice none 0 0) (.slice none 0 0) := by
    have := Box.new ((w.alloc (.cells #[.slice a1 S.secs.length c1, .slice a2 S.cache.length c2] 30)).alloc (.cells #[.slice ka bl.length kc] 27)) 30 (.slice none 0 0) (.slice none 0 0)
    rw [World.size_alloc, World.size_alloc] at this
    exact this.below hb1 (by simp)
  obtain ⟨b1, d1, b2, d2, rfl, _, _⟩ := hD1.shape
  have g2 := hR1.cell0
  have g3 := hR1.cell1
  have g4 := hR1.frozen0
  have g5 := hR1.frozen1
  obtain ⟨tn, htn⟩ : ∃ x, x = (stand S (kept bl)).secs.length := ⟨_, rfl⟩
  obtain ⟨tm, htm⟩ : ∃ x, x = (stand S (kept bl)).cache.length := ⟨_, rfl⟩
  rw [← htn, ← htm] at hD1 ⊢
  have HF : Hid (Disk (w.heap.size + 3) w1 (.agg #[.slice b1 tn d1, .slice b2 tm d2]) (stand S (kept bl)) ∧ Below w.heap.size w w1) := by
    refine ⟨?_, below_any hb0 hb1⟩
    simpa using hD1
  clear hD1 hb0 hb1 hR1 htn htm HCE hO0
  go_wp2
  refine bodyPost_ret (v := .tuple #[.agg #[.slice b1 tn d1, .slice b2 tm d2], .int .i64 ce]) (by simp [results, Try.results17, go_sem, *]) rfl ⟨_, rfl, ?_, ?_⟩
  · exact Disk.weaken (n0 := w.heap.size + 3) ((HF.out.1.keep (same_set (n := w.heap.size + 3) (B := w.heap.size + 1 + 1) (by omega))).keep (same_set (n := w.heap.size + 3) (B := w.heap.size + 1 + 1) (by omega))) (by omega)
  · exact below_set2 (B := w.heap.size + 1 + 1) HF.out.2 (by omega) _ _

def S0 : St := ⟨List.replicate 2 zeros, []⟩
def S1 : St := ⟨List.replicate 2 zeros, [(1, pad [97, 98])]⟩
theorem ex1 : perr S0 1 [97, 98] = 0 := by kernel_rfl
theorem ex2 : pst S0 1 [97, 98] = S1 := by kernel_rfl
theorem ex3 : gerr S1 1 1 = 0 := by kernel_rfl
theorem ex4 : gout S1 1 1 = pad [97, 98] := by kernel_rfl
theorem ex5 : cerr S1 = 0 := by kernel_rfl
theorem ex6 : stand S1 (kept []) = S0 := by kernel_rfl
theorem ex7 : gerr S0 1 1 = 0 := by kernel_rfl
theorem ex8 : gout S0 1 1 = zeros := by kernel_rfl

theorem own_at {w : World} {base : Nat} {v : Value} {l : List Int} (h : w.ownsRow base 5 1 v l.length (l.map (Value.int .u8))) (hp : 0 < l.length) : ∃ g cap, v = .slice (some ⟨g, 0, none⟩) l.length cap ∧ w.cell? ⟨g, 0, none⟩ = some (.int .u8 (l.getD 0 0)) := by
  obtain ⟨g, cap, rfl, _⟩ := h.form hp
  refine ⟨g, cap, rfl, ?_⟩
  have := h.cells (g := g) rfl 0 (.int .u8 (l.getD 0 0)) (by simp [hp])
  rwa [add_plain] at this

set_option maxRecDepth 100000 in
set_option maxHeartbeats 2000000 in
theorem alive_any (w : World) : Calls Try.prog 24 #[] w fun e w' => e = .returned (.bool true) ∧ Below w.heap.size w w' := by
  go_enter Try.func24, Try.ntmps24
  go_wp2_with fail
  refine (new_any 2 w (by omega) (by omega)).mono ?_
  rintro e w1 ⟨vg, rfl, hG, hb1⟩
  have hD1 : Disk w.heap.size w1 (.agg #[vg, .slice none 0 0]) S0 := hG.disk
  obtain ⟨a, cap, rfl, _⟩ := hG.lists.shape
  rw [List.length_replicate] at hD1 ⊢
  have HD1 : Hid (Disk w.heap.size w1 (.agg #[.slice a 2 cap, .slice none 0 0]) S0 ∧ Below w.heap.size w w1) := ⟨hD1, hb1⟩
  clear hG hD1 hb1
  obtain ⟨W1, hW1⟩ : ∃ W, W = (w1.alloc (.cells #[.slice a 2 cap, .slice none 0 0] 30)).alloc (.cells #[.int .u8 97, .int .u8 98] 5 (2, 3)) := ⟨_, rfl⟩
  have hconv := Lib.run_convert_bytes_const (P := Try.prog) (w1.alloc (.cells #[.slice a 2 cap, .slice none 0 0] 30)) 26 5 #[.int .u8 97, .int .u8 98] 2 2 Try.underlying26 Try.underlying5
  rw [World.size_alloc] at hconv
  have hbW : Below w1.heap.size w1 W1 := by rw [hW1]; exact ((Below.refl _ _).alloc (Nat.le_refl _) _).alloc (by simp) _
  have hBW : Box W1 w1.heap.size 30 (.slice a 2 cap) (.slice none 0 0) := by rw [hW1]; exact (Box.new w1 30 _ _).alloc _
  have hAW : Arg 0 W1 (.slice (some ⟨w1.heap.size + 1, 0, none⟩) 2 2) [97, 98] := by
    have : W1.heap[w1.heap.size + 1]? = some (.cells #[.int .u8 97, .int .u8 98] 5 (2, 3)) := by
      rw [hW1]
      have := heap_alloc_new (w1.alloc (.cells #[.slice a 2 cap, .slice none 0 0] 30)) (.cells #[.int .u8 97, .int .u8 98] 5 (2, 3))
      rw [World.size_alloc] at this
      exact this
    refine ⟨⟨rfl, .inr ⟨_, 2, rfl, Nat.le_refl _, by unfold maxLen; simp, Nat.zero_le _, fun i u hu => World.news_of_block this i u hu⟩⟩, fun x hx => ?_⟩
    rcases List.mem_cons.1 hx with rfl | hx
    · omega
    · rcases List.mem_cons.1 hx with rfl | hx
      · omega
      · cases hx
  have HW : Hid (Below w.heap.size w W1 ∧ Box W1 w1.heap.size 30 (.slice a 2 cap) (.slice none 0 0)) := ⟨below_any HD1.out.2 hbW, hBW⟩
  have hput := put_any w.heap.size 0 _ _ S0 1 [97, 98] W1 (HD1.out.1.below hbW) (by omega) hAW
  rw [ex1, ex2] at hput
  clear hbW hBW hAW
  go_wp2_with fail
  rw [← hW1]
  refine hput.mono ?_
  rintro e w2 ⟨v2, rfl, hO2, hb2⟩
  clear hput hconv
  obtain ⟨b1, d1, b2, d2, rfl, _, _⟩ := hO2.disk.shape
  have hB2 := HW.out.2.below hb2 HW.out.2.lt
  have hD2 : Disk W1.heap.size w2 (.agg #[.slice b1 2 d1, .slice b2 1 d2]) S1 := hO2.disk
  rw [show S1.secs.length = 2 from rfl, show S1.cache.length = 1 from rfl]
  have g0 := hB2.cell0
  have g1 := hB2.cell1
  have g2 := hB2.frozen0
  have g3 := hB2.frozen1
  obtain ⟨W2, hW2⟩ : ∃ W, W = (w2.setCell ⟨w1.heap.size, 0, none⟩ (.slice b1 2 d1)).setCell ⟨w1.heap.size, 1, none⟩ (.slice b2 1 d2) := ⟨_, rfl⟩
  have HLT : Hid (w.heap.size ≤ w1.heap.size ∧ w1.heap.size < W1.heap.size ∧ W1.heap.size ≤ w2.heap.size) := ⟨HD1.out.2.size, HW.out.2.lt, hb2.size⟩
  have HW2 : Hid (Disk W1.heap.size W2 (.agg #[.slice b1 2 d1, .slice b2 1 d2]) S1 ∧ Below w.heap.size w W2 ∧ Box W2 w1.heap.size 30 (.slice b1 2 d1) (.slice b2 1 d2)) := by
    show _ ∧ _ ∧ _
    rw [hW2]
    exact ⟨(hD2.keep (same_set (by have := HLT.out; omega))).keep (same_set (by have := HLT.out; omega)), below_set2 (below_any HW.out.1 hb2) HLT.out.1 _ _, (hB2.set0 _).set1 _⟩
  have hget := get_any W1.heap.size _ S1 1 W2 HW2.out.1 (by omega)
  rw [ex3, ex4] at hget
  have q0 := HW2.out.2.2.cell0
  have q1 := HW2.out.2.2.cell1
  rw [hW2] at q0 q1
  clear hO2 hb2 hB2 hD2 hW1 HW
  go_wp2_with fail
  rw [← hW2]
  refine hget.mono ?_
  rintro e w3 ⟨v3, rfl, hO3, hb3⟩
  obtain ⟨ga, ca, rfl, hca⟩ := own_at hO3 (by simp [pad])
  have hla := run_len Try.underlying26 (some ⟨ga, 0, none⟩) 64 ca
  rw [show (pad [97, 98]).length = 64 from rfl]
  rw [show (pad [97, 98]).getD 0 0 = 97 from rfl] at hca
  have hB3 := HW2.out.2.2.below hb3 HW2.out.2.2.lt
  have HW3 : Hid (Disk W1.heap.size w3 (.agg #[.slice b1 2 d1, .slice b2 1 d2]) S1 ∧ Below w.heap.size w w3) := ⟨HW2.out.1.below hb3, below_any HW2.out.2.1 hb3⟩
  clear g0 g1 g2 g3 q0 q1 hget hO3 hb3 hW2
  have g0 := hB3.cell0
  have g1 := hB3.cell1
  clear hB3
  go_wp2_with fail
  refine (crash_any W1.heap.size 0 _ (.slice none 0 0) S1 [] w3 HW3.out.1 ⟨rfl, .inl ⟨rfl, rfl⟩⟩).mono ?_
  rw [ex5, ex6]
  rintro e w4 ⟨v4, rfl, hD4, hb4⟩
  obtain ⟨e1, f1, e2, f2, rfl, _, _⟩ := hD4.shape
  rw [show S0.secs.length = 2 from rfl, show S0.cache.length = 0 from rfl] at hD4 ⊢
  have hca4 : w4.cell? ⟨ga, 0, none⟩ = some (.int .u8 97) := by rw [hb4.cell (cell_lt hca)]; exact hca
  obtain ⟨W4, hW4⟩ : ∃ W, W = w4.alloc (.cells #[.slice e1 2 f1, .slice e2 0 f2] 30) := ⟨_, rfl⟩
  have hbW4 : Below w4.heap.size w4 W4 := by rw [hW4]; exact (Below.refl _ _).alloc (Nat.le_refl _) _
  have HW4 : Hid (Disk w3.heap.size W4 (.agg #[.slice e1 2 f1, .slice e2 0 f2]) S0 ∧ Below w.heap.size w W4 ∧ W4.cell? ⟨ga, 0, none⟩ = some (.int .u8 97)) := ⟨hD4.below hbW4, below_any (below_any HW3.out.2 hb4) hbW4, by rw [hbW4.cell (cell_lt hca4)]; exact hca4⟩
  have hget := get_any w3.heap.size _ S0 1 W4 HW4.out.1 (by omega)
  rw [ex7, ex8] at hget
  clear hb4 hD4 hca hca4 hbW4 g0 g1
  go_wp2_with fail
  rw [← hW4]
  refine hget.mono ?_
  rintro e w5 ⟨v5, rfl, hO5, hb5⟩
  obtain ⟨gb, cb, rfl, hcb⟩ := own_at hO5 (by simp [zeros])
  rw [show zeros.length = 64 from rfl]
  rw [show zeros.getD 0 0 = 0 from rfl] at hcb
  have hlb := run_len Try.underlying26 (some ⟨gb, 0, none⟩) 64 cb
  have hca5 : w5.cell? ⟨ga, 0, none⟩ = some (.int .u8 97) := by rw [hb5.cell (cell_lt HW4.out.2.2)]; exact HW4.out.2.2
  have HB5 : Hid (Below w.heap.size w w5) := below_any HW4.out.2.1 hb5
  clear hget hO5 hb5 hW4
  go_wp2_with (go_at_call 20; refine (num_any _ _).mono ?_; rintro e w6 ⟨rfl, rfl⟩)
  go_ret
  exact ⟨rfl, HB5.out⟩

end Go.Proofs.Ytkeaillmcfnnkaa
