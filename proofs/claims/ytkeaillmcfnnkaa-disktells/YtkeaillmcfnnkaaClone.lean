/-
  What clone makes: the same disk in memory of its own.
-/
import Derived.Test.YtkeaillmcfnnkaaBlank
namespace Go.Proofs.Ytkeaillmcfnnkaa
open Go.RowKit

/-- Octets in a block of their own. -/
def Own1 (base : Nat) (w : World) (u : Value) (l : List Int) : Prop := w.ownsRow base 5 1 u l.length (l.map (Value.int .u8)) ∧ Oct l
def OwnLists (base : Nat) (w : World) (v : Value) (ls : List (List Int)) : Prop := ∃ us, w.ownsRow base 26 1 v ls.length us ∧ Each (Own1 base w) us ls
def OwnW1 (base : Nat) (w : World) (p : Int × Value) (q : Int × List Int) : Prop := p.1 = q.1 ∧ Own1 base w p.2 q.2 ∧ -9223372036854775808 ≤ q.1 ∧ q.1 ≤ 9223372036854775807
def OwnWrites (base : Nat) (w : World) (e : TypeId) (v : Value) (ws : List (Int × List Int)) : Prop := ∃ ps, w.ownsRow base e 2 v ws.length (flat ps) ∧ Each (OwnW1 base w) ps ws
def OwnDisk (base : Nat) (w : World) (e : TypeId) (v : Value) (S : St) : Prop := ∃ vs vc, v = .agg #[vs, vc] ∧ OwnLists base w vs S.secs ∧ OwnWrites base w e vc S.cache

theorem own_same {w w' : World} {base : Nat} {e : TypeId} {size : Nat} {v : Value} {n : Nat} {xs : List Value} (h : w.ownsRow base e size v n xs) (hs : Same base w w') : w'.ownsRow base e size v n xs := by
  obtain ⟨h1, h2⟩ := h
  refine ⟨h1, ?_⟩
  rcases h2 with h2 | ⟨g, cap, cur, a, b, c, d⟩
  · exact .inl h2
  · exact .inr ⟨g, cap, cur, a, b, by rw [hs g b (Array.getElem?_eq_some_iff.1 c).1]; exact c, d⟩
theorem own_weaken {w : World} {base n1 : Nat} {e : TypeId} {size : Nat} {v : Value} {n : Nat} {xs : List Value} (h : w.ownsRow base e size v n xs) (hn : n1 ≤ base) : w.ownsRow n1 e size v n xs := by
  obtain ⟨h1, h2⟩ := h
  refine ⟨h1, ?_⟩
  rcases h2 with h2 | ⟨g, cap, cur, a, b, d⟩
  · exact .inl h2
  · exact .inr ⟨g, cap, cur, a, Nat.le_trans hn b, d⟩

theorem Own1.same {base : Nat} {w w' : World} {u : Value} {l : List Int} (h : Own1 base w u l) (hs : Same base w w') : Own1 base w' u l := ⟨own_same h.1 hs, h.2⟩
theorem Own1.weaken {base n1 : Nat} {w : World} {u : Value} {l : List Int} (h : Own1 base w u l) (hn : n1 ≤ base) : Own1 n1 w u l := ⟨own_weaken h.1 hn, h.2⟩
theorem Own1.arg {base : Nat} {w : World} {u : Value} {l : List Int} (h : Own1 base w u l) : Arg base w u l := .own h.1 h.2
theorem OwnLists.same {base : Nat} {w w' : World} {v : Value} {ls : List (List Int)} (h : OwnLists base w v ls) (hs : Same base w w') : OwnLists base w' v ls := by
  obtain ⟨us, h1, h2⟩ := h
  exact ⟨us, own_same h1 hs, h2.mono fun _ _ h => h.same hs⟩
theorem OwnLists.weaken {base n1 : Nat} {w : World} {v : Value} {ls : List (List Int)} (h : OwnLists base w v ls) (hn : n1 ≤ base) : OwnLists n1 w v ls := by
  obtain ⟨us, h1, h2⟩ := h
  exact ⟨us, own_weaken h1 hn, h2.mono fun _ _ h => h.weaken hn⟩
theorem OwnLists.lists {base : Nat} {w : World} {v : Value} {ls : List (List Int)} (h : OwnLists base w v ls) : Lists base w v ls := by
  obtain ⟨us, h1, h2⟩ := h
  exact ⟨us, .own h1, h2.mono fun _ _ h => h.arg⟩
theorem OwnWrites.same {base : Nat} {w w' : World} {e : TypeId} {v : Value} {ws : List (Int × List Int)} (h : OwnWrites base w e v ws) (hs : Same base w w') : OwnWrites base w' e v ws := by
  obtain ⟨us, h1, h2⟩ := h
  exact ⟨us, own_same h1 hs, h2.mono fun _ _ h => ⟨h.1, h.2.1.same hs, h.2.2⟩⟩
theorem OwnWrites.weaken {base n1 : Nat} {w : World} {e : TypeId} {v : Value} {ws : List (Int × List Int)} (h : OwnWrites base w e v ws) (hn : n1 ≤ base) : OwnWrites n1 w e v ws := by
  obtain ⟨us, h1, h2⟩ := h
  exact ⟨us, own_weaken h1 hn, h2.mono fun _ _ h => ⟨h.1, h.2.1.weaken hn, h.2.2⟩⟩
theorem OwnWrites.writes {base : Nat} {w : World} {e : TypeId} {v : Value} {ws : List (Int × List Int)} (h : OwnWrites base w e v ws) : Writes base w v ws := by
  obtain ⟨us, h1, h2⟩ := h
  exact ⟨us, .own h1, h2.mono fun _ _ h => ⟨h.1, h.2.1.arg, h.2.2⟩⟩
theorem OwnDisk.same {base : Nat} {w w' : World} {e : TypeId} {v : Value} {S : St} (h : OwnDisk base w e v S) (hs : Same base w w') : OwnDisk base w' e v S := by
  obtain ⟨vs, vc, h1, h2, h3⟩ := h
  exact ⟨vs, vc, h1, h2.same hs, h3.same hs⟩
theorem OwnDisk.weaken {base n1 : Nat} {w : World} {e : TypeId} {v : Value} {S : St} (h : OwnDisk base w e v S) (hn : n1 ≤ base) : OwnDisk n1 w e v S := by
  obtain ⟨vs, vc, h1, h2, h3⟩ := h
  exact ⟨vs, vc, h1, h2.weaken hn, h3.weaken hn⟩
theorem OwnDisk.disk {base : Nat} {w : World} {e : TypeId} {v : Value} {S : St} (h : OwnDisk base w e v S) : Disk base w v S := by
  obtain ⟨vs, vc, h1, h2, h3⟩ := h
  exact ⟨vs, vc, h1, h2.lists, h3.writes⟩

theorem same_set {n B i : Nat} {w : World} {x : Value} (hB : B < n) : Same n w (w.setCell ⟨B, i, none⟩ x) := fun k hk _ => Below.heap_setCell _ _ _ _ (by simp; omega)
theorem same_alloc (n : Nat) (w : World) (o : Obj) : Same n w (w.alloc o) := fun k _ hk => Below.heap_alloc w o k hk
theorem Same.trans {n : Nat} {a b c : World} (h : Same n a b) (hs : a.heap.size ≤ b.heap.size) (k : Same n b c) : Same n a c := fun i hi hl => (k i hi (by omega)).trans (h i hi hl)

/-- Two rows of unlike elements do not share a block. -/
theorem own_apart {w : World} {b1 b2 : Nat} {e1 e2 : TypeId} {s1 s2 : Nat} {v1 v2 : Value} {n1 n2 : Nat} {x1 x2 : List Value} (h1 : w.ownsRow b1 e1 s1 v1 n1 x1) (h2 : w.ownsRow b2 e2 s2 v2 n2 x2) (he : e1 ≠ e2) : v1.ownBlock = none ∨ v1.ownBlock ≠ v2.ownBlock := by
  rcases h1.2 with ⟨rfl, _⟩ | ⟨g, cap, cur, rfl, _, hg, _⟩
  · exact .inl rfl
  · rcases h2.2 with ⟨rfl, _⟩ | ⟨g', cap', cur', rfl, _, hg', _⟩
    · exact .inr (by simp [Value.ownBlock])
    · refine .inr fun e => ?_
      have : g = g' := by simpa [Value.ownBlock] using e
      subst this
      rw [hg] at hg'
      simp at hg'
      exact he hg'.2

theorem OwnLists.push {base : Nat} {W w3 : World} {v v3 u : Value} {us : List Value} {ls : List (List Int)} {l : List Int} {k : Nat} (hk : ls.length = k) (hE : Each (Own1 base W) us ls) (hown : W.ownsRow base 26 1 v k us) (hu : Own1 base W u l)
    (hg : W.grownBy w3 v.ownBlock) (h3 : w3.ownsRow base 26 1 v3 (k + 1) (us ++ [u])) : OwnLists base w3 v3 (ls ++ [l]) := by
  refine ⟨us ++ [u], by rw [List.length_append, hk]; exact h3, ?_⟩
  have keep : ∀ a b, Own1 base W a b → Own1 base w3 a b := fun a b h => ⟨h.1.kept hg (own_apart h.1 hown (by decide)), h.2⟩
  exact (hE.mono keep).snoc (keep _ _ hu)

theorem OwnWrites.push {base : Nat} {e : TypeId} {W w3 : World} {v v3 u : Value} {ps : List (Int × Value)} {ws : List (Int × List Int)} {s : Int} {l : List Int} {k : Nat} (he : 5 ≠ e) (hk : ws.length = k) (hE : Each (OwnW1 base W) ps ws) (hown : W.ownsRow base e 2 v k (flat ps)) (hu : Own1 base W u l)
    (hs : -9223372036854775808 ≤ s ∧ s ≤ 9223372036854775807)
    (hg : W.grownBy w3 v.ownBlock) (h3 : w3.ownsRow base e 2 v3 (k + 1) (flat ps ++ [.int .i64 s, u])) : OwnWrites base w3 e v3 (ws ++ [(s, l)]) := by
  refine ⟨ps ++ [(s, u)], by rw [List.length_append, hk, flat_snoc]; exact h3, ?_⟩
  have keep : ∀ a b, Own1 base W a b → Own1 base w3 a b := fun a b h => ⟨h.1.kept hg (own_apart h.1 hown he), h.2⟩
  exact (hE.mono fun _ _ h => ⟨h.1, keep _ _ h.2.1, h.2.2⟩).snoc ⟨rfl, keep _ _ hu, hs⟩

/-- A row of other elements stays where one is appended to. -/
theorem OwnLists.beside {base : Nat} {e : TypeId} {size : Nat} {W w3 : World} {v vs : Value} {n : Nat} {xs : List Value} {ls : List (List Int)} (h : OwnLists base W vs ls) (h5 : 5 ≠ e) (h26 : 26 ≠ e) (hown : W.ownsRow base e size v n xs) (hg : W.grownBy w3 v.ownBlock) : OwnLists base w3 vs ls := by
  obtain ⟨us, h1, h2⟩ := h
  exact ⟨us, h1.kept hg (own_apart h1 hown h26), h2.mono fun a b h => ⟨h.1.kept hg (own_apart h.1 hown h5), h.2⟩⟩

theorem take_snoc {α : Type} {l : List α} {k : Nat} {x : α} (h : l[k]? = some x) : l.take (k + 1) = l.take k ++ [x] := by rw [List.take_add_one, h]; rfl

attribute [local go_sem ↓] Go.wp_at_zero Go.wp_at_succ

set_option maxRecDepth 100000 in
set_option maxHeartbeats 8000000 in
theorem clone_any (n0 : Nat) (v : Value) (S : St) (w : World) (h : Disk n0 w v S) (hn : S.secs.length ≤ 2048) (hm : S.cache.length ≤ 4096) (h64 : ∀ l ∈ S.secs, l.length = 64) (hc64 : ∀ q ∈ S.cache, q.2.length = 64) :
    Calls Try.prog 33 #[v] w fun e w' => ∃ v', e = .returned v' ∧ OwnDisk w.heap.size w' 64 v' S ∧ Below w.heap.size w w' := by
  obtain ⟨a1, c1, a2, c2, rfl, hL, hW⟩ := h.shape
  obtain ⟨i6, hi6, hz60, hz61, hz62⟩ := info_parts Try.info64
  obtain ⟨i2, hi2, hz20, hz21, hz22⟩ := info_parts Try.info26
  have HL : Hid (Lists n0 w (.slice a1 S.secs.length c1) S.secs) := hL
  have HW : Hid (Writes n0 w (.slice a2 S.cache.length c2) S.cache) := hW
  obtain ⟨n, hn'⟩ : ∃ n, n = S.secs.length := ⟨_, rfl⟩
  obtain ⟨m, hm'⟩ : ∃ n, n = S.cache.length := ⟨_, rfl⟩
  have HN : Hid (n = S.secs.length) := hn'
  have HM : Hid (m = S.cache.length) := hm'
  rw [← hn'] at HL hn ⊢
  rw [← hm'] at HW hm ⊢
  have H64 : Hid ((∀ l ∈ S.secs, l.length = 64) ∧ ∀ q ∈ S.cache, q.2.length = 64) := ⟨h64, hc64⟩
  clear h hL hW hn' hm' h64 hc64
  have hl1 := run_len Try.underlying22 a1 n c1
  have hl2 := run_len Try.underlying28 a2 m c2
  go_enter Try.func33, Try.ntmps33
  go_wp2
  go_loopw [11] (fun i wr => ∃ (k : Nat) (v : Value), k ≤ n ∧ i = .int .i64 k ∧ Box wr w.heap.size 30 (.slice a1 n c1) (.slice a2 m c2) ∧ Box wr (w.heap.size + 1) 30 (.slice none 0 0) (.slice none 0 0) ∧ Box wr (w.heap.size + 2) 30 v (.slice none 0 0) ∧
    OwnLists (w.heap.size + 3) wr v (S.secs.take k) ∧ Below w.heap.size w wr ∧ w.heap.size + 3 ≤ wr.heap.size) (fun i _ => n - (intOf i).toNat)
  case atStart =>
    refine ⟨0, _, Nat.zero_le _, rfl, ?_, ?_, ?_, ⟨[], World.ownsRow_nil _ _ _ _, trivial⟩, ?_, ?_⟩
    · exact ((Box.new w 30 _ _).alloc _).alloc _
    · have := (Box.new (w.alloc (.cells #[.slice a1 n c1, .slice a2 m c2] 30)) 30 (.slice none 0 0) (.slice none 0 0)).alloc (.cells #[.slice none 0 0, .slice none 0 0] 30)
      simpa using this
    · have := Box.new ((w.alloc (.cells #[.slice a1 n c1, .slice a2 m c2] 30)).alloc (.cells #[.slice none 0 0, .slice none 0 0] 30)) 30 (.slice none 0 0) (.slice none 0 0)
      simpa using this
    · exact (((Below.refl _ w).alloc (Nat.le_refl _) _).alloc (by simp) _).alloc (by simp; omega) _
    · simp
  case round =>
    obtain ⟨k, v, hk, rfl, hB0, hB1, hB2, hO, hbel, hsz⟩ := hrel
    by_cases hlt : k < n
    · obtain ⟨l, hl⟩ := get_lt (l := S.secs) (k := k) (by rw [← HN.out]; exact hlt)
      obtain ⟨b, o, a, cap, hix, _, hc, hA⟩ := (HL.out.below hbel).at k l hl
      have hl64 := H64.out.1 l (List.mem_of_getElem? hl)
      rw [hl64] at hc hA
      have HA : Hid (Arg n0 wr (.slice a 64 cap) l ∧ l.length = 64) := ⟨hA, hl64⟩
      have HTK : Hid (S.secs.take (k + 1) = S.secs.take k ++ [l] ∧ (S.secs.take k).length = k) := ⟨take_snoc hl, by have := HN.out; rw [List.length_take]; omega⟩
      obtain ⟨us, hown, hE⟩ := hO
      rw [HTK.out.2] at hown
      obtain ⟨a', cap', rfl⟩ := own_shape hown
      have hcc := hB2.cell0
      have HBX : Hid (Box wr w.heap.size 30 (.slice a1 n c1) (.slice a2 m c2) ∧ Box wr (w.heap.size + 1) 30 (.slice none 0 0) (.slice none 0 0) ∧ Box wr (w.heap.size + 2) 30 (.slice a' k cap') (.slice none 0 0)) := ⟨hB0, hB1, hB2⟩
      have HE : Hid (Each (Own1 (w.heap.size + 3) wr) us (S.secs.take k)) := hE
      have HBL : Hid (Below w.heap.size w wr) := hbel
      have HO : Hid (wr.ownsRow (w.heap.size + 3) 26 1 (.slice a' k cap') k us) := hown
      clear hA hl hB0 hB1 hB2 hE hbel hown hl64
      have HC : Hid (Calls Try.prog 45 #[.slice a 64 cap] wr.drew fun e w' => (∃ v', e = .returned v' ∧ w'.ownsRow wr.heap.size 5 1 v' 64 (l.map (Value.int .u8))) ∧ Below wr.heap.size wr w') := by
        have := clone_bytes n0 (.slice a 64 cap) l wr.drew (HA.out.1.below (Below.refl _ _).drew) (by have := HA.out.2; omega)
        rw [HA.out.2] at this
        exact this.mono fun e w' h => ⟨h.1, ((Below.refl _ wr).drew).trans h.2⟩
      have hki : (k : Int) < (n : Int) := by omega
      go_wp2
      go_region_law
        (first
          | (go_simp
             with_reducible refine Calls.mono HC.out ?_
             rintro e w2 ⟨⟨u2, rfl, hu2⟩, hb2⟩
             obtain ⟨ux, uc, rfl⟩ := own_shape hu2
             have hcc2 : w2.cell? ⟨w.heap.size + 2, 0, none⟩ = some (.slice a' k cap') := (Box.below (n := wr.heap.size) HBX.out.2.2 hb2 (by omega)).cell0
             have hcc3 : ∀ o, (w2.alloc o).cell? ⟨w.heap.size + 2, 0, none⟩ = some (.slice a' k cap') := fun o => ((Box.below (n := wr.heap.size) HBX.out.2.2 hb2 (by omega)).alloc o).cell0
             try dsimp only)
          | (refine step_append_lies _ (by rfl) _ _ _ (by rfl) (w.heap.size + 3) 26 i2 _ 1 24 Try.underlying22 hi2 hz20 hz21 hz22 rfl (by omega) _ k _ (by rfl) ((own_below HO.out hb2).alloc _) ⟨w2.heap.size, 0, none⟩ 1 1 [.slice ux 64 uc] (by rfl) (by rfl)
              (World.news_of_block (cs := #[.slice ux 64 uc]) (t := 26) (fr := (0, 0)) (heap_alloc_new w2 _)) (by simp [Value.oneCell']) (by omega) (by unfold maxLen; omega) (by omega) (by have := hb2.size; simp; omega) (w2.heap.size + 1) (by simp) ?_; intro gg cap3 w3 hown3 hgrow3 hat hltg
             have hbx0 : Box w3 w.heap.size 30 (.slice a1 n c1) (.slice a2 m c2) := Box.grown ((HBX.out.1.below hb2 (by omega)).alloc _) hgrow3 (row_ne HO.out (by omega))
             have hbx1 : Box w3 (w.heap.size + 1) 30 (.slice none 0 0) (.slice none 0 0) := Box.grown ((HBX.out.2.1.below hb2 (by omega)).alloc _) hgrow3 (row_ne HO.out (by omega))
             have hbx2 : Box w3 (w.heap.size + 2) 30 (.slice a' k cap') (.slice none 0 0) := Box.grown ((HBX.out.2.2.below hb2 (by omega)).alloc _) hgrow3 (row_ne HO.out (by omega))
             have hcc4 := hbx2.cell0
             have hff4 := hbx2.frozen0))
      all_goals
        have hS2 : Same (w.heap.size + 3) wr (w2.alloc (.cells #[.slice ux 64 uc] 26)) := Same.trans (.of_below hb2) hb2.size (same_alloc _ _ _)
        have hG3 : OwnLists (w.heap.size + 3) w3 (.slice (some ⟨gg, 0, none⟩) (k + 1) cap3) (S.secs.take (k + 1)) := by
          rw [HTK.out.1]
          refine OwnLists.push HTK.out.2 (HE.out.mono fun _ _ h => h.same hS2) (own_same HO.out hS2) ⟨?_, HA.out.1.2⟩ hgrow3 hown3
          rw [HA.out.2]
          exact (own_weaken hu2 (by omega)).alloc _
        have hbe3 : Below w.heap.size w w3 := ((HBL.out.trans (hb2.mono (by omega))).alloc (by have := hb2.size; omega) _).grown hgrow3 (by have := hb2.size; simp; omega) (fun j hj => by have := (HO.out.lt j hj).1; omega)
        have HS3 : Hid (w.heap.size + 3 ≤ w3.heap.size) := by
          have := hgrow3.size
          have := hb2.size
          show _ ≤ _
          simp at *
          omega
        have HG3 : Hid (OwnLists (w.heap.size + 3) w3 (.slice (some ⟨gg, 0, none⟩) (k + 1) cap3) (S.secs.take (k + 1))) := hG3
        have HBB : Hid (Box w3 w.heap.size 30 (.slice a1 n c1) (.slice a2 m c2) ∧ Box w3 (w.heap.size + 1) 30 (.slice none 0 0) (.slice none 0 0) ∧ Box w3 (w.heap.size + 2) 30 (.slice a' k cap') (.slice none 0 0)) := ⟨hbx0, hbx1, hbx2⟩
        clear hown3 hgrow3 hat hltg hG3 hS2 hbx0 hbx1 hbx2 hu2 hcc hcc2 hcc3 hix hc
        go_wp2
        go_roundw
        case rel =>
          exact ⟨k + 1, _, by omega, by go_num, HBB.out.1.other (by omega), HBB.out.2.1.other (by omega), HBB.out.2.2.set0 _, HG3.out.same (same_set (by omega)), hbe3.setCell (p := ⟨w.heap.size + 2, 0, none⟩) (Nat.le_add_right _ _) _, by simpa [World.setCell] using HS3.out⟩
        case measure => simp [intOf]; omega
    · obtain rfl : k = n := by omega
      have hTA : S.secs.take k = S.secs := by rw [HN.out]; simp
      rw [hTA] at hO
      clear hTA
      obtain ⟨us, hown, hE⟩ := hO
      rw [← HN.out] at hown
      obtain ⟨va, vc, rfl⟩ := own_shape hown
      have HLS : Hid (OwnLists (w.heap.size + 3) wr (.slice va k vc) S.secs) := ⟨us, by rw [← HN.out]; exact hown, hE⟩
      have hd0 := hB0.cell1
      have HBX : Hid (Box wr w.heap.size 30 (.slice a1 k c1) (.slice a2 m c2) ∧ Box wr (w.heap.size + 1) 30 (.slice none 0 0) (.slice none 0 0) ∧ Box wr (w.heap.size + 2) 30 (.slice va k vc) (.slice none 0 0)) := ⟨hB0, hB1, hB2⟩
      have HBL : Hid (Below w.heap.size w wr) := hbel
      have HSZ : Hid (w.heap.size + 3 ≤ wr.heap.size) := hsz
      clear hown hE hB0 hB1 hB2 hbel
      go_wp2
      go_loopw [26] (fun i wr => ∃ (j : Nat) (v : Value), j ≤ m ∧ i = .int .i64 j ∧ Box wr w.heap.size 30 (.slice a1 k c1) (.slice a2 m c2) ∧ Box wr (w.heap.size + 1) 30 (.slice none 0 0) (.slice none 0 0) ∧ Box wr (w.heap.size + 2) 30 (.slice va k vc) v ∧
        OwnLists (w.heap.size + 3) wr (.slice va k vc) S.secs ∧ OwnWrites (w.heap.size + 3) wr 64 v (S.cache.take j) ∧ Below w.heap.size w wr ∧ w.heap.size + 3 ≤ wr.heap.size) (fun i _ => m - (intOf i).toNat)
      case atStart => exact ⟨0, _, Nat.zero_le _, rfl, HBX.out.1, HBX.out.2.1, HBX.out.2.2, HLS.out, ⟨[], World.ownsRow_nil _ _ _ _, trivial⟩, HBL.out, HSZ.out⟩
      case round =>
        clear HLS HBX HBL HSZ hd0 hsz
        obtain ⟨j, v, hj, rfl, hB0, hB1, hB2, hLS, hO, hbel, hsz⟩ := hrel
        by_cases hlt : j < m
        · obtain ⟨q, hq⟩ := get_lt (l := S.cache) (k := j) (by rw [← HM.out]; exact hlt)
          obtain ⟨b, o, a, cap, hix, _, hc0, hc1, hA, hr⟩ := (HW.out.below hbel).at Try.underlying28 hi6 hz61 j q hq
          have hl64 := H64.out.2 q (List.mem_of_getElem? hq)
          rw [hl64] at hc1 hA
          have HTK : Hid (S.cache.take (j + 1) = S.cache.take j ++ [q] ∧ (S.cache.take j).length = j) := ⟨take_snoc hq, by have := HM.out; rw [List.length_take]; omega⟩
          obtain ⟨s, l⟩ := q
          simp only at hc0 hc1 hA hr hl64
          have HA : Hid (Arg n0 wr (.slice a 64 cap) l ∧ l.length = 64) := ⟨hA, hl64⟩
          obtain ⟨ps, hown, hE⟩ := hO
          rw [HTK.out.2] at hown
          obtain ⟨a', cap', rfl⟩ := own_shape hown
          have HBX : Hid (Box wr w.heap.size 30 (.slice a1 k c1) (.slice a2 m c2) ∧ Box wr (w.heap.size + 1) 30 (.slice none 0 0) (.slice none 0 0) ∧ Box wr (w.heap.size + 2) 30 (.slice va k vc) (.slice a' j cap')) := ⟨hB0, hB1, hB2⟩
          have HE : Hid (Each (OwnW1 (w.heap.size + 3) wr) ps (S.cache.take j)) := hE
          have HLS : Hid (OwnLists (w.heap.size + 3) wr (.slice va k vc) S.secs) := hLS
          have HBL : Hid (Below w.heap.size w wr) := hbel
          have HO : Hid (wr.ownsRow (w.heap.size + 3) 64 2 (.slice a' j cap') j (flat ps)) := hown
          have HRR : Hid (-9223372036854775808 ≤ s ∧ s ≤ 9223372036854775807) := hr
          obtain ⟨W, hW⟩ : ∃ W, W = wr.alloc (.cells #[.int .i64 s, .slice a 64 cap] 64) := ⟨_, rfl⟩
          have HWB : Hid (Below wr.heap.size wr W ∧ W.heap.size = wr.heap.size + 1) := by
            show _ ∧ _
            rw [hW]; exact ⟨(Below.refl _ _).alloc (Nat.le_refl _) _, by simp⟩
          have hw0 : W.cell? ⟨wr.heap.size, 0, none⟩ = some (.int .i64 s) := by rw [hW]; exact (Box.new wr 64 _ _).cell0
          have hw1 : W.cell? ⟨wr.heap.size, 1, none⟩ = some (.slice a 64 cap) := by rw [hW]; exact (Box.new wr 64 _ _).cell1
          have hw2 : W.cell? ⟨w.heap.size + 2, 1, none⟩ = some (.slice a' j cap') := (HBX.out.2.2.below HWB.out.1 (by omega)).cell1
          have HC : Hid (Calls Try.prog 34 #[.int .i64 s, .slice a 64 cap] W.drew fun e w' => ∃ g, e = .returned (.agg #[.int .i64 s, .slice (some ⟨g, 0, none⟩) 64 64]) ∧ w'.ownsRow W.heap.size 5 1 (.slice (some ⟨g, 0, none⟩) 64 64) 64 (l.map (Value.int .u8)) ∧ Below W.heap.size W w') := by
            have := whole_any n0 (.slice a 64 cap) l s W.drew ((HA.out.1.below HWB.out.1).below (Below.refl _ _).drew) (by have := HA.out.2; omega)
            rw [pad_full l HA.out.2] at this
            exact this.mono fun e w' h => by
              obtain ⟨g, h1, h2, h3⟩ := h
              exact ⟨g, h1, h2, ((Below.refl _ W).drew).trans h3⟩
          have hki : (j : Int) < (m : Int) := by omega
          have hd1 := hB0.cell1
          clear hA hq hB0 hB1 hB2 hE hbel hown hl64 hLS
          go_wp2
          rw [← hW]
          clear hW hc0 hc1 hd1
          go_region_law
            (first
              | (go_simp
                 with_reducible refine Calls.mono HC.out ?_
                 rintro e w2 ⟨g2, rfl, hu2, hb2⟩
                 have hcc2 : w2.cell? ⟨w.heap.size + 2, 1, none⟩ = some (.slice a' j cap') := ((HBX.out.2.2.below HWB.out.1 (by omega)).below hb2 (by have := HWB.out.2; omega)).cell1
                 have hcc3 : ∀ o, (w2.alloc o).cell? ⟨w.heap.size + 2, 1, none⟩ = some (.slice a' j cap') := fun o => (((HBX.out.2.2.below HWB.out.1 (by omega)).below hb2 (by have := HWB.out.2; omega)).alloc o).cell1
                 try dsimp only)
              | (refine step_append_lies _ (by rfl) _ _ _ (by rfl) (w.heap.size + 3) 64 i6 _ 2 32 Try.underlying28 hi6 hz60 hz61 hz62 rfl (by omega) _ j _ (by rfl) ((own_below (own_below HO.out HWB.out.1) hb2).alloc _) ⟨w2.heap.size, 0, none⟩ 1 1 [.int .i64 s, .slice (some ⟨g2, 0, none⟩) 64 64] (by rfl) (by rfl)
                  (World.news_of_block (cs := #[.int .i64 s, .slice (some ⟨g2, 0, none⟩) 64 64]) (t := 64) (fr := (0, 0)) (heap_alloc_new w2 _)) (by simp [Value.oneCell']) (by omega) (by unfold maxLen; omega) (by omega) (by have := hb2.size; have := HWB.out.2; simp; omega) (w2.heap.size + 1) (by simp) ?_; intro gg cap3 w3 hown3 hgrow3 hat hltg
                 have hbx0 : Box w3 w.heap.size 30 (.slice a1 k c1) (.slice a2 m c2) := Box.grown (((HBX.out.1.below HWB.out.1 (by omega)).below hb2 (by have := HWB.out.2; omega)).alloc _) hgrow3 (row_ne HO.out (by omega))
                 have hbx1 : Box w3 (w.heap.size + 1) 30 (.slice none 0 0) (.slice none 0 0) := Box.grown (((HBX.out.2.1.below HWB.out.1 (by omega)).below hb2 (by have := HWB.out.2; omega)).alloc _) hgrow3 (row_ne HO.out (by omega))
                 have hbx2 : Box w3 (w.heap.size + 2) 30 (.slice va k vc) (.slice a' j cap') := Box.grown (((HBX.out.2.2.below HWB.out.1 (by omega)).below hb2 (by have := HWB.out.2; omega)).alloc _) hgrow3 (row_ne HO.out (by omega))
                 have hcc4 := hbx2.cell1
                 have hff4 := hbx2.frozen1))
          all_goals
            have hB2 : Below wr.heap.size wr w2 := HWB.out.1.trans (hb2.mono (by have := HWB.out.2; omega))
            have hS2 : Same (w.heap.size + 3) wr (w2.alloc (.cells #[.int .i64 s, .slice (some ⟨g2, 0, none⟩) 64 64] 64)) := Same.trans (.of_below hB2) hB2.size (same_alloc _ _ _)
            have hG3 : OwnWrites (w.heap.size + 3) w3 64 (.slice (some ⟨gg, 0, none⟩) (j + 1) cap3) (S.cache.take (j + 1)) := by
              rw [HTK.out.1]
              refine OwnWrites.push (by decide) HTK.out.2 (HE.out.mono fun _ _ h => ⟨h.1, h.2.1.same hS2, h.2.2⟩) (own_same HO.out hS2) ⟨?_, HA.out.1.2⟩ HRR.out hgrow3 hown3
              rw [HA.out.2]
              exact (own_weaken hu2 (by have := HWB.out.2; omega)).alloc _
            have hL3 : OwnLists (w.heap.size + 3) w3 (.slice va k vc) S.secs := OwnLists.beside (HLS.out.same hS2) (by decide) (by decide) (own_same HO.out hS2) hgrow3
            have hbe3 : Below w.heap.size w w3 := ((HBL.out.trans (hB2.mono (by omega))).alloc (by have := hB2.size; omega) _).grown hgrow3 (by have := hB2.size; simp; omega) (fun j hj => by have := (HO.out.lt j hj).1; omega)
            have HS3 : Hid (w.heap.size + 3 ≤ w3.heap.size) := by
              have := hgrow3.size
              have := hB2.size
              show _ ≤ _
              simp at *
              omega
            have HG3 : Hid (OwnWrites (w.heap.size + 3) w3 64 (.slice (some ⟨gg, 0, none⟩) (j + 1) cap3) (S.cache.take (j + 1)) ∧ OwnLists (w.heap.size + 3) w3 (.slice va k vc) S.secs) := ⟨hG3, hL3⟩
            have HBB : Hid (Box w3 w.heap.size 30 (.slice a1 k c1) (.slice a2 m c2) ∧ Box w3 (w.heap.size + 1) 30 (.slice none 0 0) (.slice none 0 0) ∧ Box w3 (w.heap.size + 2) 30 (.slice va k vc) (.slice a' j cap')) := ⟨hbx0, hbx1, hbx2⟩
            clear hown3 hgrow3 hat hltg hG3 hL3 hS2 hB2 hbx0 hbx1 hbx2 hu2 hcc2 hcc3 hix hw0 hw1 hw2
            go_wp2
            go_roundw
            case rel =>
              exact ⟨j + 1, _, by omega, by go_num, HBB.out.1.other (by omega), HBB.out.2.1.other (by omega), HBB.out.2.2.set1 _, HG3.out.2.same (same_set (by omega)), HG3.out.1.same (same_set (by omega)), hbe3.setCell (p := ⟨w.heap.size + 2, 1, none⟩) (Nat.le_add_right _ _) _, by simpa [World.setCell] using HS3.out⟩
            case measure => simp [intOf]; omega
        · obtain rfl : j = m := by omega
          have hTA : S.cache.take j = S.cache := by rw [HM.out]; simp
          rw [hTA] at hO
          obtain ⟨ps, hown, hE⟩ := hO
          rw [← HM.out] at hown
          obtain ⟨a', cap', rfl⟩ := own_shape hown
          have HO : Hid (OwnLists (w.heap.size + 3) wr (.slice va k vc) S.secs ∧ OwnWrites (w.heap.size + 3) wr 64 (.slice a' j cap') S.cache) := ⟨hLS, ps, by rw [← HM.out]; exact hown, hE⟩
          have hc0 := hB2.cell0
          have hc1 := hB2.cell1
          have hd0 := hB1.cell0
          have hd1 := hB1.cell1
          have hf0 := hB1.frozen0
          have hf1 := hB1.frozen1
          have HBL : Hid (Below w.heap.size w wr) := hbel
          clear hown hE hLS hTA hbel hB0 hB1 hB2
          go_wp2
          refine bodyPost_ret (v := .agg #[.slice va k vc, .slice a' j cap']) (by simp [results, Try.results33, go_sem, *]) rfl ⟨_, rfl, ⟨_, _, rfl, ?_, ?_⟩, ?_⟩
          · exact OwnLists.weaken (base := w.heap.size + 3) ((HO.out.1.same (same_set (by omega))).same (same_set (by omega))) (by omega)
          · exact OwnWrites.weaken (base := w.heap.size + 3) ((HO.out.2.same (same_set (by omega))).same (same_set (by omega))) (by omega)
          · exact below_set2 HBL.out (Nat.le_succ _) _ _

end Go.Proofs.Ytkeaillmcfnnkaa
