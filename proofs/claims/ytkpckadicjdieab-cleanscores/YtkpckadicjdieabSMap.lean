/-
  A map of numbers by numbers: what it holds, what is looked up and laid in, how many keys it has.
-/
import Derived.Test.YtkpckadicjdieabSmall
import Derived.Maps.RangeWalk
import Derived.Maps.OwnSet
namespace Go.Proofs.Ytkpckadicjdieab
open Go.RowKit
open Go.Maps (Keyed)

theorem keyed3 : Keyed Try.prog 3 := Maps.int_keyed Try.underlying3
def ik (k : Int) : Lit := .int .i64 k
theorem ik_key {k : Int} (h : I64 k) : keyOf Try.prog 3 (.int .i64 k) = some (ik k) := Maps.keyOf_int_mk Try.underlying3 h.wf
theorem ik_inj {i j : Int} (h : ik i = ik j) : i = j := (Lit.int.inj h).2
theorem ik_is {k : Int} (h : I64 k) : WideAt.IsKeyLit (ik k) := keyed3.key (ik_key h)
theorem zero3 (w : World) : (zeroValue 3).run Try.prog w = .ok (.int .i64 0) w := by
  have h : (Try.prog.info? 3).map (·.zero) = some (some (.int .i64 0)) := by kernel_rfl
  obtain ⟨i, hi, hz⟩ := Option.map_eq_some_iff.1 h
  simp [zeroValue, typeInfo, hi, hz]

/-- The map in block b has these keys, and these numbers for them. -/
def IM (w : World) (b : Nat) (ks : List Int) (M : Int → Int) : Prop := ∃ D : DataW Unit, w.ownsMap Try.prog 3 (plainElem Try.prog 3) b ks.length D ∧ Maps.size D = ks.length ∧ ks.Nodup ∧ (∀ k, I64 k → Maps.has D (ik k) = decide (k ∈ ks)) ∧ (∀ k, I64 k → D.atKey (ik k) (.lit (.int .i64 0)) = .lit (.int .i64 (M k)))

theorem IM.made (w : World) : IM (w.alloc (.map #[] 0)) w.heap.size [] (fun _ => 0) :=
  ⟨_, World.ownsMap_made w Try.prog 3 _, rfl, List.nodup_nil, fun _ _ => rfl, fun _ _ => rfl⟩
theorem IM.lt {w : World} {b : Nat} {ks : List Int} {M : Int → Int} (h : IM w b ks M) : b < w.heap.size := let ⟨_, h1, _⟩ := h; h1.lt
theorem IM.kept {w w' : World} {b : Nat} {ks : List Int} {M : Int → Int} (h : IM w b ks M) (hb : w'.heap[b]? = w.heap[b]?) : IM w' b ks M := by
  obtain ⟨D, ⟨es, clock, h1, h2⟩, r⟩ := h
  exact ⟨D, ⟨es, clock, hb.trans h1, h2⟩, r⟩
theorem IM.below {w w' : World} {b : Nat} {ks : List Int} {M : Int → Int} (h : IM w b ks M) (hb : Below w.heap.size w w') : IM w' b ks M := h.kept (hb.block b h.lt)
theorem IM.look {w : World} {b : Nat} {ks : List Int} {M : Int → Int} (h : IM w b ks M) {k : Int} (hk : I64 k) : (Instr.lookup 90 (.map (some b)) (.int .i64 k) false).run Try.prog w = .ok (.int .i64 (M k)) w ∧ I64 (M k) := by
  obtain ⟨D, h1, _, _, _, h5⟩ := h
  obtain ⟨c, hrun, hc, hw⟩ := h1.lookup_int keyed3 Try.underlying90 Try.underlying3 (zero3 w) (ik_key hk)
  rw [h5 k hk] at hc
  obtain rfl : M k = c := by
    have := DataW.lit.inj hc
    exact (Lit.int.inj this).2
  exact ⟨hrun, bounds_i64 hw⟩
def updI (M : Int → Int) (k x : Int) : Int → Int := fun i => if i = k then x else M i
theorem IM.put {w : World} {b : Nat} {ks : List Int} {M : Int → Int} (h : IM w b ks M) {k x : Int} (hk : I64 k) (hx : I64 x) (hn : ks.length ≤ 1000000) :
    ∃ w', (Instr.mapUpdate 90 (.map (some b)) (.int .i64 k) (.int .i64 x)).run Try.prog w = .ok () w' ∧ IM w' b (if k ∈ ks then ks else ks ++ [k]) (updI M k x) ∧ w.grownBy w' (some b) := by
  obtain ⟨D, h1, h2, h3, h4, h5⟩ := h
  obtain ⟨w', hrun, h6, hg⟩ := h1.update keyed3 Try.underlying90 (by unfold maxLen; omega) (ik_key hk) (plainElem_int Try.underlying3 hx.wf)
  have hD := h1.isMap
  have hT := h1.tidy keyed3
  have hsz : Maps.size (D.put (ik k) (.lit (.int .i64 x))) = (if k ∈ ks then ks else ks ++ [k]).length := by
    rw [Maps.size_put hT, h4 k hk, h2]
    by_cases hm : k ∈ ks
    · simp [hm]
    · simp [hm]
  refine ⟨w', hrun, ⟨_, ?_, hsz, ?_, fun j hj => ?_, fun j hj => ?_⟩, hg⟩
  · obtain ⟨es, clock, a, b', c, d⟩ := h6
    refine ⟨es, clock, a, b', ?_, d⟩
    rw [← hsz, d]
    simp [Maps.size, length_sorted]
  · by_cases hm : k ∈ ks
    · rw [if_pos hm]; exact h3
    · rw [if_neg hm]
      refine List.nodup_append.2 ⟨h3, by simp, fun a ha c hc e => hm ?_⟩
      rw [List.mem_singleton.1 hc] at e
      rw [← e]; exact ha
  · by_cases e : j = k
    · subst e
      rw [Maps.has_put_same hD (ik_is hj)]
      by_cases hm : j ∈ ks
      · simp [hm]
      · simp [hm]
    · rw [Maps.has_put_other (fun c => e (ik_inj c)), h4 j hj]
      by_cases hm : k ∈ ks
      · simp [hm]
      · simp [hm, e]
  · unfold updI
    by_cases e : j = k
    · subst e
      rw [if_pos rfl, Maps.atKey_put_same hD (ik_is hj)]
    · rw [if_neg e, Maps.atKey_put_other (fun c => e (ik_inj c)), h5 j hj]
theorem IM.len {w : World} {b : Nat} {ks : List Int} {M : Int → Int} (h : IM w b ks M) : (Builtin.len_ #[90] 3 #[.map (some b)]).run Try.prog w = .ok (.int .i64 ks.length) w := by
  obtain ⟨D, h1, h2, _⟩ := h
  rw [← h2]
  exact h1.len Try.underlying90 3
theorem IM.nodup {w : World} {b : Nat} {ks : List Int} {M : Int → Int} (h : IM w b ks M) : ks.Nodup := let ⟨_, _, _, h3, _⟩ := h; h3
theorem IM.box {w w' : World} {b B : Nat} {t : TypeId} {cs : Array Value} (hB : Box w B t cs) (hg : w.grownBy w' (some b)) (hne : B ≠ b) : Box w' B t cs := hB.grown hg (fun e => hne (Option.some.inj e))

end Go.Proofs.Ytkpckadicjdieab
