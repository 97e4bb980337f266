/-
  From what the form reads of the document's disk to what the walks ask of it; and how great it can be.
-/
import Derived.Test.YtkeaillmcfnnkaaOpen2
import Derived.Test.YtkeaillmcfnnkaaOf
import Derived.Deep.SlicePairs
namespace Go.Proofs.Ytkeaillmcfnnkaa
open Go.ChangeShapes Go.WideShapes Go.ChangeAt Go.RowKit Go.Deep

theorem fields60 : ∃ f0 f1 : Field, Try.prog.underlying 60 = some (.struct #[f0, f1]) ∧ f0.offset = 0 ∧ f1.offset = 1 ∧ f0.type = 3 ∧ f1.type = 26 := ⟨_, _, Try.underlying60, rfl, rfl, rfl, rfl⟩
theorem fields25 : ∃ f0 f1 : Field, Try.prog.underlying 25 = some (.struct #[f0, f1]) ∧ f0.offset = 0 ∧ f1.offset = 1 ∧ f0.type = 22 ∧ f1.type = 23 := ⟨_, _, Try.underlying25, rfl, rfl, rfl, rfl⟩
theorem cells60 : Try.prog.cellsOf 60 = 2 := by kernel_rfl
theorem cells25 : Try.prog.cellsOf 25 = 2 := by kernel_rfl
theorem cells22 : Try.prog.cellsOf 22 = 1 := by kernel_rfl
theorem cells23 : Try.prog.cellsOf 23 = 1 := by kernel_rfl

def OctD {H : Type} (l : List Int) (d : DataW H) : Prop := (d = .nil ∧ l = []) ∨ ∃ r, d = .slice (lits .u8 l) r

theorem writes_trod {H : Type} {enc : TypeId × Value → H} {W : World} {fuel : Nat} {cs : List Value} {x : DataW H × List MemPlace} (hf : DataW.trod enc Try.prog W 0 (fun _ => true) true fuel 23 cs = some x) :
    ∃ v ws, cs = [v] ∧ Writes 0 W v ws ∧ ((x.1 = .nil ∧ ws = []) ∨ ∃ (ds rest : List (DataW H)), x.1 = .slice ds rest ∧ Each (fun (q : Int × List Int) d => ∃ d0 d1, d = .agg [d0, d1] ∧ OctD q.2 d1) ws ds) := by
  obtain ⟨f0, f1, hu, o0, o1, t0, t1⟩ := fields60
  rcases open_slice_pairs Try.underlying23 hu cells60 o0 o1 (by rw [t0]; exact cells3) (by rw [t1]; exact cells26) hf with ⟨rfl, rfl⟩ | ⟨a, len, cap, m, n, V0, V1, D0, D1, P0, P1, rfl, _, hl, hm, hmm, rfl, hx⟩
  · exact ⟨_, [], rfl, ⟨[], ⟨rfl, .inl ⟨rfl, rfl⟩⟩, trivial⟩, .inl ⟨rfl, rfl⟩⟩
  · simp only [if_true] at hmm
    subst hmm
    have each : ∀ i, i < len → ∃ q : Int × List Int, V0 i = .int .i64 q.1 ∧ Arg 0 W (V1 i) q.2 ∧ OctD q.2 (D1 i) ∧ -9223372036854775808 ≤ q.1 ∧ q.1 ≤ 9223372036854775807 := fun i hi => by
      obtain ⟨_, _, h3, h4⟩ := hx i (by omega)
      rw [t0] at h3
      rw [t1] at h4
      obtain ⟨z, hz1, _, hz3⟩ := DataW.trod_int Try.underlying3 h3
      obtain ⟨l, v', hv, hA, hD⟩ := arg_trod h4
      obtain rfl : V1 i = v' := by simpa using hv
      exact ⟨(z, l), by simpa using hz1, hA, hD, bounds_i64 hz3⟩
    obtain ⟨q, hq⟩ := choose_lt each
    have hget : ∀ {β : Type} (f : Nat → β) (i : Nat) (y : β), ((List.range len).map f)[i]? = some y → i < len ∧ f i = y := fun f i y hy => by
      have hi : i < len := by
        have := (List.getElem?_eq_some_iff.1 hy).1
        simpa using this
      rw [List.getElem?_map, List.getElem?_range hi] at hy
      exact ⟨hi, by simpa using hy⟩
    refine ⟨_, (List.range len).map q, rfl, ⟨(List.range len).map fun i => ((q i).1, V1 i), ⟨by rw [flat_length]; simp, .inr ⟨a, m, by simp, by simpa using hl, by simp; omega, Nat.zero_le _, fun i u hu' => ?_⟩⟩, each_of (by simp) fun i p y hp hy => ?_⟩, .inr ⟨_, _, rfl, each_of (by simp) fun i y d hy hd => ?_⟩⟩
    · have hlen : i < len * 2 := by
        have := (List.getElem?_eq_some_iff.1 hu').1
        rw [flat_length] at this
        simpa using this
      have hp : ((List.range len).map fun i => ((q i).1, V1 i))[i / 2]? = some ((q (i / 2)).1, V1 (i / 2)) := by
        rw [List.getElem?_map, List.getElem?_range (by omega)]; rfl
      obtain ⟨e0, e1⟩ := flat_get _ _ _ hp
      obtain ⟨x0, x1, _, _⟩ := hx (i / 2) (by omega)
      rcases Nat.mod_two_eq_zero_or_one i with h2 | h2
      · rw [show i = i / 2 * 2 by omega] at hu' ⊢
        rw [e0] at hu'
        rw [← (hq (i / 2) (by omega)).1] at hu'
        rw [x0]; exact hu'
      · rw [show i = i / 2 * 2 + 1 by omega] at hu' ⊢
        rw [e1] at hu'
        rw [x1]; exact hu'
    · obtain ⟨hi, rfl⟩ := hget _ i p hp
      obtain ⟨_, rfl⟩ := hget _ i y hy
      exact ⟨rfl, (hq i hi).2.1, (hq i hi).2.2.2⟩
    · obtain ⟨hi, rfl⟩ := hget _ i y hy
      obtain ⟨_, rfl⟩ := hget _ i d hd
      exact ⟨_, _, rfl, (hq i hi).2.2.1⟩

theorem disk_of {H : Type} {enc : TypeId × Value → H} {W : World} {cs : Array Value} {d : DataW H} {p : List MemPlace} (hc : cs.size = 2)
    (h : DataW.Trod enc Try.prog W 0 (fun _ => true) true 25 (.agg cs) d p) :
    ∃ S d0 d1, Disk 0 W (.agg cs) S ∧ d = .agg [d0, d1] ∧ ((d0 = .nil ∧ S.secs = []) ∨ ∃ (ds rest : List (DataW H)), d0 = .slice ds rest ∧ Each OctD S.secs ds) ∧
      ((d1 = .nil ∧ S.cache = []) ∨ ∃ (ds rest : List (DataW H)), d1 = .slice ds rest ∧ Each (fun (q : Int × List Int) d => ∃ d0 d1, d = .agg [d0, d1] ∧ OctD q.2 d1) S.cache ds) := by
  obtain ⟨f0, f1, hu, o0, o1, t0, t1⟩ := fields25
  obtain ⟨fuel, hf⟩ := h
  obtain ⟨xs, n, _, hxy, hlen, hxl, hfld⟩ := DataW.trod_struct hu hf
  obtain ⟨c0, c1, rfl⟩ : ∃ c0 c1, cs = #[c0, c1] := by
    match cs, hc with
    | ⟨[c0, c1]⟩, _ => exact ⟨c0, c1, rfl⟩
  match xs, hxl with
  | [y0, y1], _ =>
    have g0 := hfld 0 f0 rfl
    have g1 := hfld 1 f1 rfl
    rw [t0, cells22, o0] at g0
    rw [t1, cells23, o1] at g1
    have g0' : DataW.trod enc Try.prog W 0 (fun _ => true) true n 22 [c0] = some y0 := g0
    have g1' : DataW.trod enc Try.prog W 0 (fun _ => true) true n 23 [c1] = some y1 := g1
    obtain ⟨v0, ls, e0, hL, hx0⟩ := lists_trod g0'
    obtain ⟨v1, ws, e1, hW, hx1⟩ := writes_trod g1'
    obtain rfl : c0 = v0 := by simpa using e0
    obtain rfl : c1 = v1 := by simpa using e1
    simp only [Prod.mk.injEq] at hxy
    exact ⟨⟨ls, ws⟩, y0.1, y1.1, ⟨_, _, rfl, hL, hW⟩, by simpa using hxy.1, hx0, hx1⟩

theorem each_left {α β : Type} {R : α → β → Prop} : ∀ {xs : List α} {ys : List β} {a : α}, Each R xs ys → a ∈ xs → ∃ b ∈ ys, R a b
  | x :: xs, y :: ys, a, h, ha => by
    rcases List.mem_cons.1 ha with rfl | h'
    · exact ⟨y, List.mem_cons_self .., h.1⟩
    · obtain ⟨b, hb, hr⟩ := each_left h.2 h'
      exact ⟨b, List.mem_cons_of_mem _ hb, hr⟩
  | [], _, _, _, ha => by cases ha
  | _ :: _, [], _, h, _ => h.elim

theorem weights_all_mem {H : Type} {e : TypeId} : ∀ {ds : List (DataW H)} {d : DataW H}, d ∈ ds → ∀ n ∈ d.weights Try.prog e, n ∈ DataW.weightsAll Try.prog e ds
  | x :: r, d, hd, n, hn => by
    simp only [DataW.weightsAll, List.mem_append]
    rcases List.mem_cons.1 hd with rfl | h
    · exact .inl hn
    · exact .inr (weights_all_mem h n hn)
  | [], _, hd, _, _ => by cases hd

theorem oct_weight {H : Type} {l : List Int} {d : DataW H} (h : OctD l d) (hw : ∀ n ∈ d.weights Try.prog 26, n ≤ reachBytes) : l.length ≤ 140737488355328 := by
  rcases h with ⟨_, rfl⟩ | ⟨r, rfl⟩
  · simp
  · have := hw ((l.length + r.length) * Try.prog.bytesOf 5) (by simp [DataW.weights, Try.underlying26, lits])
    rw [bytes5] at this
    simp only [reachBytes] at this
    omega

theorem bytes26 : Try.prog.bytesOf 26 = 24 := by kernel_rfl
theorem bytes60 : Try.prog.bytesOf 60 = 32 := by kernel_rfl

theorem fits_of {H : Type} {S : St} {d0 d1 : DataW H} (h0 : (d0 = .nil ∧ S.secs = []) ∨ ∃ (ds rest : List (DataW H)), d0 = .slice ds rest ∧ Each OctD S.secs ds)
    (h1 : (d1 = .nil ∧ S.cache = []) ∨ ∃ (ds rest : List (DataW H)), d1 = .slice ds rest ∧ Each (fun (q : Int × List Int) d => ∃ d0 d1, d = .agg [d0, d1] ∧ OctD q.2 d1) S.cache ds)
    (hw : ∀ n ∈ (DataW.agg [d0, d1]).weights Try.prog 25, n ≤ reachBytes) : Fits S := by
  have w0 : ∀ n ∈ d0.weights Try.prog 22, n ≤ reachBytes := fun n hn => hw n (by simp [DataW.weights, DataW.weightsEach, Try.underlying25, hn])
  have w1 : ∀ n ∈ d1.weights Try.prog 23, n ≤ reachBytes := fun n hn => hw n (by simp [DataW.weights, DataW.weightsEach, Try.underlying25, hn])
  have a0 : S.secs.length * 24 ≤ 140737488355328 ∧ ∀ l ∈ S.secs, l.length ≤ 140737488355328 := by
    rcases h0 with ⟨_, e⟩ | ⟨ds, rest, rfl, hE⟩
    · rw [e]; simp
    · constructor
      · have := w0 ((ds.length + rest.length) * Try.prog.bytesOf 26) (by simp [DataW.weights, Try.underlying22])
        rw [bytes26] at this
        simp only [reachBytes] at this
        rw [hE.length]
        omega
      · intro l hl
        obtain ⟨d, hd, ho⟩ := each_left hE hl
        refine oct_weight ho fun n hn => w0 n ?_
        simp only [DataW.weights, Try.underlying22, List.mem_cons, List.mem_append]
        exact .inr (.inl (weights_all_mem hd n hn))
  have a1 : S.cache.length * 32 ≤ 140737488355328 ∧ ∀ q ∈ S.cache, q.2.length ≤ 140737488355328 := by
    rcases h1 with ⟨_, e⟩ | ⟨ds, rest, rfl, hE⟩
    · rw [e]; simp
    · constructor
      · have := w1 ((ds.length + rest.length) * Try.prog.bytesOf 60) (by simp [DataW.weights, Try.underlying23])
        rw [bytes60] at this
        simp only [reachBytes] at this
        rw [hE.length]
        omega
      · intro q hq
        obtain ⟨d, hd, e0, e1, rfl, ho⟩ := each_left hE hq
        refine oct_weight ho fun n hn => w1 n ?_
        simp only [DataW.weights, Try.underlying23, List.mem_cons, List.mem_append]
        refine .inr (.inl (weights_all_mem hd n ?_))
        simp [DataW.weights, DataW.weightsEach, Try.underlying60, hn]
  exact ⟨a0.1, a0.2, a1.1, a1.2⟩

end Go.Proofs.Ytkeaillmcfnnkaa
