import Derived.Test.YtkpckadicjdieabZ11
import Derived.Maps.RangeWalk
import Derived.Maps.OwnSet
/-
  A map of numbers by numbers: what it holds, what is looked up and laid in, how many keys it has.
-/
namespace Go.Proofs.Ytkpckadicjdieab
open Go.RowKit
open Go.Maps (Keyed)

theorem keyed3 : Keyed Try.prog 3 := Maps.int_keyed Try.underlying3
def ik (k : Int) : Lit := .int .i64 k
theorem ik_key {k : Int} (h : I64 k) : keyOf Try.prog 3 (.int .i64 k) = some (ik k) := Maps.keyOf_int_mk Try.underlying3 h.wf
theorem ik_inj {i j : Int} (h : ik i = ik j) : i = j := (Lit.int.inj h).2
theorem ik_is {k : Int} (h : I64 k) : WideAt.IsKeyLit (ik k) := keyed3.key (ik_key h)
theorem zero3 (w : World) : (zeroValue 3).run Try.prog w = .ok (.int .i64 0) w := by
  have h : (Try.prog.info? 3).map (·.zero) = some (some (.int .i64 0)) := by kernel_rfl
  obtain ⟨i, hi, hz⟩ := Option.map_eq_some_iff.1 h
  simp [zeroValue, typeInfo, hi, hz]

/-- The map in block b has these keys, and these numbers for them. -/
def IM (w : World) (b : Nat) (ks : List Int) (M : Int → Int) : Prop := ∃ D : DataW Unit, w.ownsMap Try.prog 3 (plainElem Try.prog 3) b ks.length D ∧ Maps.size D = ks.length ∧ ks.Nodup ∧ (∀ k, I64 k → Maps.has D (ik k) = decide (k ∈ ks)) ∧ (∀ k, I64 k → D.atKey (ik k) (.lit (.int .i64 0)) = .lit (.int .i64 (M k)))

theorem IM.made (w : World) : IM (w.alloc (.map #[] 0)) w.heap.size [] (fun _ => 0) :=
  ⟨_, World.ownsMap_made w Try.prog 3 _, rfl, List.nodup_nil, fun _ _ => rfl, fun _ _ => rfl⟩
theorem IM.lt {w : World} {b : Nat} {ks : List Int} {M : Int → Int} (h : IM w b ks M) : b < w.heap.size := let ⟨_, h1, _⟩ := h; h1.lt
theorem IM.kept {w w' : World} {b : Nat} {ks : List Int} {M : Int → Int} (h : IM w b ks M) (hb : w'.heap[b]? = w.heap[b]?) : IM w' b ks M := by
  obtain ⟨D, ⟨es, clock, h1, h2⟩, r⟩ := h
  exact ⟨D, ⟨es, clock, hb.trans h1, h2⟩, r⟩
theorem IM.below {w w' : World} {b : Nat} {ks : List Int} {M : Int → Int} (h : IM w b ks M) (hb : Below w.heap.size w w') : IM w' b ks M := h.kept (hb.block b h.lt)
theorem IM.look {w : World} {b : Nat} {ks : List Int} {M : Int → Int} (h : IM w b ks M) {k : Int} (hk : I64 k) : (Instr.lookup 90 (.map (some b)) (.int .i64 k) false).run Try.prog w = .ok (.int .i64 (M k)) w ∧ I64 (M k) := by
  obtain ⟨D, h1, _, _, _, h5⟩ := h
  obtain ⟨c, hrun, hc, hw⟩ := h1.lookup_int keyed3 Try.underlying90 Try.underlying3 (zero3 w) (ik_key hk)
  rw [h5 k hk] at hc
  obtain rfl : M k = c := by
    have := DataW.lit.inj hc
    exact (Lit.int.inj this).2
  exact ⟨hrun, bounds_i64 hw⟩
def updI (M : Int → Int) (k x : Int) : Int → Int := fun i => if i = k then x else M i
theorem IM.put {w : World} {b : Nat} {ks : List Int} {M : Int → Int} (h : IM w b ks M) {k x : Int} (hk : I64 k) (hx : I64 x) (hn : ks.length ≤ 1000000) :
    ∃ w', (Instr.mapUpdate 90 (.map (some b)) (.int .i64 k) (.int .i64 x)).run Try.prog w = .ok () w' ∧ IM w' b (if k ∈ ks then ks else ks ++ [k]) (updI M k x) ∧ w.grownBy w' (some b) := by
  obtain ⟨D, h1, h2, h3, h4, h5⟩ := h
  obtain ⟨w', hrun, h6, hg⟩ := h1.update keyed3 Try.underlying90 (by unfold maxLen; omega) (ik_key hk) (plainElem_int Try.underlying3 hx.wf)
  have hD := h1.isMap
  have hT := h1.tidy keyed3
  have hsz : Maps.size (D.put (ik k) (.lit (.int .i64 x))) = (if k ∈ ks then ks else ks ++ [k]).length := by
    rw [Maps.size_put hT, h4 k hk, h2]
    by_cases hm : k ∈ ks
    · simp [hm]
    · simp [hm]
  refine ⟨w', hrun, ⟨_, ?_, hsz, ?_, fun j hj => ?_, fun j hj => ?_⟩, hg⟩
  · obtain ⟨es, clock, a, b', c, d⟩ := h6
    refine ⟨es, clock, a, b', ?_, d⟩
    rw [← hsz, d]
    simp [Maps.size, length_sorted]
  · by_cases hm : k ∈ ks
    · rw [if_pos hm]; exact h3
    · rw [if_neg hm]
      refine List.nodup_append.2 ⟨h3, by simp, fun a ha c hc e => hm ?_⟩
      rw [List.mem_singleton.1 hc] at e
      rw [← e]; exact ha
  · by_cases e : j = k
    · subst e
      rw [Maps.has_put_same hD (ik_is hj)]
      by_cases hm : j ∈ ks
      · simp [hm]
      · simp [hm]
    · rw [Maps.has_put_other (fun c => e (ik_inj c)), h4 j hj]
      by_cases hm : k ∈ ks
      · simp [hm]
      · simp [hm, e]
  · unfold updI
    by_cases e : j = k
    · subst e
      rw [if_pos rfl, Maps.atKey_put_same hD (ik_is hj)]
    · rw [if_neg e, Maps.atKey_put_other (fun c => e (ik_inj c)), h5 j hj]
theorem IM.len {w : World} {b : Nat} {ks : List Int} {M : Int → Int} (h : IM w b ks M) : (Builtin.len_ #[90] 3 #[.map (some b)]).run Try.prog w = .ok (.int .i64 ks.length) w := by
  obtain ⟨D, h1, h2, _⟩ := h
  rw [← h2]
  exact h1.len Try.underlying90 3
theorem IM.nodup {w : World} {b : Nat} {ks : List Int} {M : Int → Int} (h : IM w b ks M) : ks.Nodup := let ⟨_, _, _, h3, _⟩ := h; h3
theorem IM.box {w w' : World} {b B : Nat} {t : TypeId} {cs : Array Value} (hB : Box w B t cs) (hg : w.grownBy w' (some b)) (hne : B ≠ b) : Box w' B t cs := hB.grown hg (fun e => hne (Option.some.inj e))

end Go.Proofs.Ytkpckadicjdieab

/-
  The map of last versions by kinds: what it holds, what is looked up and laid in.
-/
namespace Go.Proofs.Ytkpckadicjdieab
open Go.RowKit
open Go.Maps (Keyed)
set_option maxRecDepth 100000

theorem wideK : (match Try.prog.underlying 80 with | some (.array _ _) | some (.struct _) => true | _ => false) = true := by kernel_rfl
theorem rowK : (80 : TypeId) < Try.prog.types.size := of_decide_eq_true (by kernel_rfl)
theorem typeK : Try.prog.keyTypeAt 3 80 = true := by kernel_rfl
theorem keyedK : Keyed Try.prog 80 := Keyed.of_law (deep_law_laid laidOut (m := 3) (by omega) rowK typeK (by kernel_rfl))
def kv (o i : Int) : Value := .agg #[.int .i64 o, .int .i64 i]
def kk (o i : Int) : Lit := .string (keyBytes [.int .i64 o, .int .i64 i])
theorem cellsK : Try.prog.cellsOf 80 = 2 := by kernel_rfl
theorem cells3 : Try.prog.cellsOf 3 = 1 := by kernel_rfl
theorem keyTypeK : Try.prog.keyType 80 = true := by kernel_rfl
theorem sizeN : Try.prog.types.size = 180 := by kernel_rfl
theorem litK (m : Nat) (x y : Value) : Try.prog.keyLits (m + 2) 80 [x, y] = (Try.prog.keyLits (m + 1) 3 [x]).bind fun l1 => (Try.prog.keyLits (m + 1) 3 [y]).bind fun l2 => some (l1 ++ l2) := by
  conv => lhs; unfold Program.keyLits
  simp only [Try.underlying80]
  simp [cellsK, cells3]
  cases Try.prog.keyLits (m + 1) 3 [x] with
  | none => rfl
  | some l1 =>
    cases Try.prog.keyLits (m + 1) 3 [y] with
    | none => rfl
    | some l2 => simp
theorem lit3 (m : Nat) {o : Int} (h : I64 o) : Try.prog.keyLits (m + 1) 3 [.int .i64 o] = some [.int .i64 o] := by simp [Program.keyLits, Try.underlying3, h.wf]
theorem lit3_inv {m : Nat} {x : Value} {l : List Lit} (h : Try.prog.keyLits (m + 1) 3 [x] = some l) : ∃ o, x = .int .i64 o ∧ I64 o ∧ l = [.int .i64 o] := by
  unfold Program.keyLits at h
  rw [Try.underlying3] at h
  cases x <;> simp at h
  rename_i k n
  obtain ⟨⟨rfl, hw⟩, rfl⟩ := h
  exact ⟨n, rfl, bounds_i64 hw, rfl⟩
theorem keyOfK (v : Value) (hf : v.formed Try.prog 80 = true) : keyOf Try.prog 80 v = (Try.prog.keyLits (Try.prog.types.size + 1) 80 v.cells.toList).map fun ls => .string (keyBytes ls) := by
  unfold keyOf
  simp only [Try.underlying80]
  rw [if_pos (by rw [keyTypeK, hf]; rfl)]
theorem kk_key {o i : Int} (h1 : I64 o) (h2 : I64 i) : keyOf Try.prog 80 (kv o i) = some (kk o i) := by
  rw [keyOfK _ (by unfold kv Value.formed; simp only [Try.underlying80, cellsK]; rfl), sizeN]
  show Option.map _ (Try.prog.keyLits ((180 - 1) + 2) 80 [.int .i64 o, .int .i64 i]) = _
  rw [litK, lit3 _ h1, lit3 _ h2]
  rfl
theorem kk_inv {v : Value} {l : Lit} (h : keyOf Try.prog 80 v = some l) : ∃ o i, v = kv o i ∧ I64 o ∧ I64 i ∧ l = kk o i := by
  have hf : v.formed Try.prog 80 = true := by
    unfold keyOf at h
    simp only [Try.underlying80] at h
    by_cases c : (Try.prog.keyType 80 && v.formed Try.prog 80) = true
    · rw [keyTypeK] at c; simpa using c
    · rw [if_neg c] at h; cases h
  rw [keyOfK v hf, sizeN] at h
  unfold Value.formed at hf
  simp only [Try.underlying80, cellsK] at hf
  cases v with
  | agg cs =>
    obtain ⟨l2⟩ := cs
    match l2, hf with
    | [x, y], _ =>
      replace h : Option.map (fun ls => Lit.string (keyBytes ls)) (Try.prog.keyLits ((180 - 1) + 2) 80 [x, y]) = some l := h
      rw [litK] at h
      cases h1 : Try.prog.keyLits ((180 - 1) + 1) 3 [x] with
      | none => rw [h1] at h; cases h
      | some l1 =>
        cases h2 : Try.prog.keyLits ((180 - 1) + 1) 3 [y] with
        | none => rw [h1, h2] at h; cases h
        | some l2 =>
          obtain ⟨o, rfl, ho, rfl⟩ := lit3_inv h1
          obtain ⟨i, rfl, hi, rfl⟩ := lit3_inv h2
          rw [h1, h2] at h
          exact ⟨o, i, rfl, ho, hi, (Option.some.inj h).symm⟩
  | _ => simp at hf
theorem kk_inj {o i o' i' : Int} (h1 : I64 o) (h2 : I64 i) (h3 : I64 o') (h4 : I64 i') (h : kk o i = kk o' i') : o = o' ∧ i = i' := by
  have e := keyedK.inj (kk_key h1 h2) (by rw [h]; exact kk_key h3 h4)
  simpa [kv] using e

def z0 : Value := .agg #[.int .i64 0, .int .i64 0, .slice none 0 0, .int .i64 0, .int .i64 0, .int .i64 0]
theorem zeroV (w : World) : (zeroValue 82).run Try.prog w = .ok z0 w := by
  have h : (Try.prog.info? 82).map (·.zero) = some (some z0) := by kernel_rfl
  obtain ⟨i, hi, hz⟩ := Option.map_eq_some_iff.1 h
  simp [zeroValue, typeInfo, hi, hz]
/-- Each element reads as itself. -/
def elV (v : Value) : Option (DataW Value × List MemPlace) := some (.held v, [])

/-- What is known of a kind, as a value. -/
def KvAt (w : World) (v : Value) (x : Kn) : Prop := ∃ a c, v = .agg #[.int .i64 x.1.1, .int .i64 x.1.2.1, .slice a x.1.2.2.length c, .int .i64 x.2.1, .int .i64 (x.2.2.1 : Nat), .int .i64 (x.2.2.2 : Nat)] ∧ Arg 0 w (.slice a x.1.2.2.length c) x.1.2.2 ∧ I64 x.1.1 ∧ I64 x.1.2.1 ∧ I64 x.2.1
theorem KvAt.zero (w : World) : KvAt w z0 kn0 := ⟨none, 0, rfl, .mk ⟨rfl, .inl ⟨rfl, rfl⟩⟩ (fun _ h => by cases h), ⟨by show _ ≤ (0 : Int); omega, by show (0 : Int) ≤ _; omega⟩, ⟨by show _ ≤ (0 : Int); omega, by show (0 : Int) ≤ _; omega⟩, ⟨by show _ ≤ (0 : Int); omega, by show (0 : Int) ≤ _; omega⟩⟩

/-- The map in block b holds the last of these versions of each kind; their data lie in the world w0. -/
def LV (w0 w : World) (b : Nat) (l : List Ver) : Prop := ∃ (D : DataW Value) (M : Int → Int → Value), w.ownsMap Try.prog 80 elV b l.length D ∧
  (∀ o i, I64 o → I64 i → D.atKey (kk o i) (.held z0) = .held (M o i) ∧ Maps.has D (kk o i) = decide (0 < (kn l o i).2.2.2) ∧ KvAt w0 (M o i) (kn l o i))
theorem LV.made (w0 w : World) : LV w0 (w.alloc (.map #[] 0)) w.heap.size [] :=
  ⟨_, fun _ _ => z0, World.ownsMap_made w Try.prog 80 elV, fun _ _ _ _ => ⟨rfl, rfl, KvAt.zero w0⟩⟩
theorem LV.lt {w0 w : World} {b : Nat} {l : List Ver} (h : LV w0 w b l) : b < w.heap.size := let ⟨_, _, h1, _⟩ := h; h1.lt
theorem LV.kept {w0 w w' : World} {b : Nat} {l : List Ver} (h : LV w0 w b l) (hb : w'.heap[b]? = w.heap[b]?) : LV w0 w' b l := by
  obtain ⟨D, M, ⟨es, clock, h1, h2⟩, r⟩ := h
  exact ⟨D, M, ⟨es, clock, hb.trans h1, h2⟩, r⟩
theorem LV.below {w0 w w' : World} {b : Nat} {l : List Ver} (h : LV w0 w b l) (hb : Below w.heap.size w w') : LV w0 w' b l := h.kept (hb.block b h.lt)
theorem LV.look {w0 w : World} {b : Nat} {l : List Ver} (h : LV w0 w b l) {o i : Int} (ho : I64 o) (hi : I64 i) :
    ∃ v, (∀ W, W.heap[b]? = w.heap[b]? → (Instr.lookup 77 (.map (some b)) (.agg #[.int .i64 o, .int .i64 i]) false).run Try.prog W = .ok v W) ∧ KvAt w0 v (kn l o i) := by
  obtain ⟨D, M, h1, h2⟩ := h
  refine ⟨M o i, fun W hW => ?_, (h2 o i ho hi).2.2⟩
  have h3 : W.ownsMap Try.prog 80 elV b l.length D := by
    obtain ⟨es, clock, a, r⟩ := h1
    exact ⟨es, clock, hW.trans a, r⟩
  obtain ⟨v, ps, hrun, hv⟩ := h3.lookup keyedK Try.underlying77 (zeroV W) rfl (kk_key ho hi)
  rw [(h2 o i ho hi).1] at hv
  have : v = M o i := by
    have := (Prod.mk.inj (Option.some.inj hv)).1
    exact DataW.held.inj this
  rw [← this]
  exact hrun
theorem LV.put {w0 w : World} {b : Nat} {l : List Ver} (h : LV w0 w b l) {q : Int} {k : Nat} {p : Bk} {v : Value} (ho : I64 p.1) (hi : I64 p.2.1) (hv : KvAt w0 v (knStep (kn l p.1 p.2.1) (q, k, p))) (hn : l.length ≤ 100000) :
    ∃ w', (Instr.mapUpdate 77 (.map (some b)) (.agg #[.int .i64 p.1, .int .i64 p.2.1]) v).run Try.prog w = .ok () w' ∧ LV w0 w' b (l ++ [(q, k, p)]) ∧ w.grownBy w' (some b) := by
  obtain ⟨D, M, h1, h2⟩ := h
  obtain ⟨w', hrun, h3, hg⟩ := h1.update keyedK Try.underlying77 (by unfold maxLen; omega) (kk_key ho hi) (show elV v = some (.held v, []) from rfl)
  have hD := h1.isMap
  refine ⟨w', hrun, ⟨_, fun o i => if o = p.1 ∧ i = p.2.1 then v else M o i, by rw [List.length_append]; exact h3, fun o i h4 h5 => ?_⟩, hg⟩
  by_cases e : o = p.1 ∧ i = p.2.1
  · obtain ⟨rfl, rfl⟩ := e
    rw [kn_same]
    simp only [and_self, if_true]
    refine ⟨Maps.atKey_put_same hD (keyedK.key (kk_key h4 h5)) _ _, ?_, hv⟩
    rw [Maps.has_put_same hD (keyedK.key (kk_key h4 h5))]
    unfold knStep
    split <;> simp
  · rw [kn_other _ _ _ _ e]
    simp only [e, if_false]
    have hne : kk o i ≠ kk p.1 p.2.1 := fun c => e (kk_inj h4 h5 ho hi c)
    refine ⟨?_, ?_, (h2 o i h4 h5).2.2⟩
    · rw [Maps.atKey_put_other hne]
      exact (h2 o i h4 h5).1
    · rw [Maps.has_put_other hne]
      exact (h2 o i h4 h5).2.1

end Go.Proofs.Ytkpckadicjdieab
