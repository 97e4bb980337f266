import Derived.Test.YtkpckadicjdieabZ7
import Derived.OpenShut
import Derived.ShutString
import Derived.ChangeOld
import Derived.SizedLaws
import Derived.Deep.Slices
/-
  Shapes: how a piece of data lies in cells, what keeps it, how it is read by the form, and how great it can be: for numbers, truths, texts, slices of any shape, and structs of any fields.
-/
namespace Go.Proofs.Ytkpckadicjdieab
open Go.ChangeShapes Go.WideShapes Go.ChangeAt Go.RowKit Go.Deep

structure Shape (α : Type) where
  ty : TypeId
  size : Nat
  ids : List TypeId
  lies : Nat → World → List Value → α → Prop
  owns : Nat → World → List Value → α → Prop
  fits : α → Prop
  cells : Try.prog.cellsOf ty = size
  length : ∀ {n w us a}, lies n w us a → us.length = size
  ones : ∀ {n w us a}, lies n w us a → ∀ u ∈ us, u.oneCell' = true
  keep : ∀ {n w w' us a}, lies n w us a → Same n w w' → lies n w' us a
  weaken : ∀ {n m w us a}, lies n w us a → m ≤ n → lies m w us a
  osame : ∀ {n w w' us a}, owns n w us a → Same n w w' → owns n w' us a
  oweaken : ∀ {n m w us a}, owns n w us a → m ≤ n → owns m w us a
  olies : ∀ {n w us a}, owns n w us a → lies n w us a
  ogrown : ∀ {n w w' us a row}, owns n w us a → w.grownBy w' row → Clear w row ids → owns n w' us a
  reads : ∀ {H : Type} {enc : TypeId × Value → H} {W : World} {fuel : Nat} {cs : List Value} {x : DataW H × List MemPlace}, DataW.trod enc Try.prog W 0 (fun _ => true) true fuel ty cs = some x →
    ∃ a, lies 0 W cs a ∧ ((∀ n ∈ x.1.weights Try.prog ty, n ≤ reachBytes) → fits a)

theorem Shape.below {α : Type} (S : Shape α) {n : Nat} {w w' : World} {us : List Value} {a : α} (h : S.lies n w us a) (hb : Below w.heap.size w w') : S.lies n w' us a := S.keep h (.of_below hb)
theorem Shape.obelow {α : Type} (S : Shape α) {n : Nat} {w w' : World} {us : List Value} {a : α} (h : S.owns n w us a) (hb : Below w.heap.size w w') : S.owns n w' us a := S.osame h (.of_below hb)

theorem add_add (x : Addr) (i j : Nat) : (x.add i).add j = x.add (i + j) := by
  obtain ⟨b, o, spot⟩ := x
  by_cases hi : i = 0 <;> by_cases hj : j = 0 <;> simp [Addr.add, hi, hj] <;> omega

/-! One-cell elements. -/

structure Leaf (α : Type) where
  ty : TypeId
  val : α → Value
  ok : α → Prop
  cells : Try.prog.cellsOf ty = 1
  one : ∀ x, (val x).oneCell' = true
  reads : ∀ {H : Type} {enc : TypeId × Value → H} {W : World} {fuel : Nat} {cs : List Value} {x : DataW H × List MemPlace}, DataW.trod enc Try.prog W 0 (fun _ => true) true fuel ty cs = some x → ∃ a, cs = [val a] ∧ ok a

def intL (k : IntKind) (t : TypeId) (ht : Try.prog.underlying t = some (.int k)) (hc : Try.prog.cellsOf t = 1) : Leaf Int where
  ty := t
  val := .int k
  ok x := (Lit.int k x).wf = true
  cells := hc
  one _ := rfl
  reads h := by
    obtain ⟨n, h1, _, h3⟩ := DataW.trod_int ht h
    exact ⟨n, h1, h3⟩

def boolL (t : TypeId) (ht : Try.prog.underlying t = some .bool) (hc : Try.prog.cellsOf t = 1) : Leaf Bool where
  ty := t
  val := .bool
  ok _ := True
  cells := hc
  one _ := rfl
  reads h := by
    obtain ⟨n, h1, _⟩ := DataW.trod_bool ht h
    exact ⟨n, h1, trivial⟩

def Leaf.shape {α : Type} (L : Leaf α) : Shape α where
  ty := L.ty
  size := 1
  ids := []
  lies _ _ us x := us = [L.val x] ∧ L.ok x
  owns _ _ us x := us = [L.val x] ∧ L.ok x
  fits _ := True
  cells := L.cells
  length h := by rw [h.1]; rfl
  ones := fun h u hu => by
    rw [h.1] at hu
    rw [List.mem_singleton.1 hu]
    exact L.one _
  keep h _ := h
  weaken h _ := h
  osame h _ := h
  oweaken h _ := h
  olies h := h
  ogrown h _ _ := h
  reads h := by
    obtain ⟨a, h1, h2⟩ := L.reads h
    exact ⟨a, ⟨h1, h2⟩, fun _ => trivial⟩

theorem weights_all_mem {H : Type} {e : TypeId} : ∀ {ds : List (DataW H)} {d : DataW H}, d ∈ ds → ∀ n ∈ d.weights Try.prog e, n ∈ DataW.weightsAll Try.prog e ds
  | x :: r, d, hd, n, hn => by
    simp only [DataW.weightsAll, List.mem_append]
    rcases List.mem_cons.1 hd with rfl | h
    · exact .inl hn
    · exact .inr (weights_all_mem h n hn)
  | [], _, hd, _, _ => by cases hd

/-! Slices of one-cell elements. -/

def Leaf.row {α : Type} [Inhabited α] (L : Leaf α) (t : TypeId) (ht : Try.prog.underlying t = some (.slice L.ty)) (hc : Try.prog.cellsOf t = 1) : Shape (List α) where
  ty := t
  size := 1
  ids := [L.ty]
  lies n w us l := ∃ v, us = [v] ∧ Cells n w 1 v l.length (l.map L.val) ∧ ∀ x ∈ l, L.ok x
  owns n w us l := ∃ v, us = [v] ∧ w.ownsRow n L.ty 1 v l.length (l.map L.val) ∧ ∀ x ∈ l, L.ok x
  fits l := l.length * Try.prog.bytesOf L.ty ≤ 140737488351232
  cells := hc
  length := fun ⟨v, h, _⟩ => by rw [h]; rfl
  ones := fun ⟨v, h, hC, _⟩ u hu => by
    rw [h] at hu
    obtain rfl : u = v := by simpa using hu
    obtain ⟨a, c, rfl, _⟩ := hC.shape
    rfl
  keep := fun ⟨v, h, hC, hk⟩ hs => ⟨v, h, hC.keep hs, hk⟩
  weaken := fun ⟨v, h, hC, hk⟩ hs => ⟨v, h, hC.weaken hs, hk⟩
  osame := fun ⟨v, h, hC, hk⟩ hs => ⟨v, h, own_same hC hs, hk⟩
  oweaken := fun ⟨v, h, hC, hk⟩ hs => ⟨v, h, own_weaken hC hs, hk⟩
  olies := fun ⟨v, h, hC, hk⟩ => ⟨v, h, .own hC, hk⟩
  ogrown := fun ⟨v, h, hC, hk⟩ hg hcl => ⟨v, h, hC.kept hg (hcl.apart hC (by simp)), hk⟩
  reads {H enc W fuel cs x} hf := by
    rcases open_slice1 ht L.cells hf with ⟨rfl, rfl⟩ | ⟨a, len, cap, m, n, V, D, Pl, rfl, _, hl, hm, hmm, rfl, hx⟩
    · exact ⟨[], ⟨_, rfl, ⟨rfl, .inl ⟨rfl, rfl⟩⟩, fun x hx => by cases hx⟩, fun _ => by simp⟩
    · simp only [if_true] at hmm
      subst hmm
      obtain ⟨A, hA⟩ := choose_lt (n := len) (p := fun i (a : α) => V i = L.val a ∧ L.ok a) (fun i hi => by
        obtain ⟨a, h1, h2⟩ := L.reads (hx i (by omega)).2
        exact ⟨a, by simpa using h1, h2⟩)
      refine ⟨(List.range len).map A, ⟨_, rfl, ⟨by simp, .inr ⟨a, m, by simp, by simpa using hl, by simp; omega, Nat.zero_le _, fun i u hu => ?_⟩⟩, fun x hx => ?_⟩, fun hw => ?_⟩
      · have hi : i < len := by
          have := (List.getElem?_eq_some_iff.1 hu).1
          simpa using this
        rw [List.getElem?_map, List.getElem?_map, List.getElem?_range hi] at hu
        obtain rfl : L.val (A i) = u := by simpa using hu
        rw [← (hA i hi).1]
        exact (hx i (by omega)).1
      · obtain ⟨i, hi, rfl⟩ := List.mem_map.1 hx
        exact (hA i (by simpa using hi)).2
      · have h1 := hw (((List.range len).map D).length * Try.prog.bytesOf L.ty + ((List.range (m - len)).map fun j => D (len + j)).length * Try.prog.bytesOf L.ty) (by
          show _ ∈ DataW.weights Try.prog t (.slice _ _)
          simp only [DataW.weights, ht]
          rw [← Nat.add_mul]
          exact List.mem_cons_self ..)
        simp only [reachBytes, List.length_map, List.length_range] at h1 ⊢
        omega

/-! Slices of any shape. -/

def Shape.list {α : Type} [Inhabited α] (S : Shape α) (t : TypeId) (ht : Try.prog.underlying t = some (.slice S.ty)) (hc : Try.prog.cellsOf t = 1) : Shape (List α) where
  ty := t
  size := 1
  ids := S.ty :: S.ids
  lies n w us ls := ∃ v vss, us = [v] ∧ Cells n w S.size v ls.length vss.flatten ∧ Each (S.lies n w) vss ls
  owns n w us ls := ∃ v vss, us = [v] ∧ w.ownsRow n S.ty S.size v ls.length vss.flatten ∧ Each (S.owns n w) vss ls
  fits ls := ls.length * Try.prog.bytesOf S.ty ≤ 140737488351232 ∧ ∀ x ∈ ls, S.fits x
  cells := hc
  length := fun ⟨v, _, h, _⟩ => by rw [h]; rfl
  ones := fun ⟨v, _, h, hC, _⟩ u hu => by
    rw [h] at hu
    obtain rfl : u = v := by simpa using hu
    obtain ⟨a, c, rfl, _⟩ := hC.shape
    rfl
  keep := fun ⟨v, vss, h, hC, hk⟩ hs => ⟨v, vss, h, hC.keep hs, hk.mono fun _ _ h => S.keep h hs⟩
  weaken := fun ⟨v, vss, h, hC, hk⟩ hs => ⟨v, vss, h, hC.weaken hs, hk.mono fun _ _ h => S.weaken h hs⟩
  osame := fun ⟨v, vss, h, hC, hk⟩ hs => ⟨v, vss, h, own_same hC hs, hk.mono fun _ _ h => S.osame h hs⟩
  oweaken := fun ⟨v, vss, h, hC, hk⟩ hs => ⟨v, vss, h, own_weaken hC hs, hk.mono fun _ _ h => S.oweaken h hs⟩
  olies := fun ⟨v, vss, h, hC, hk⟩ => ⟨v, vss, h, .own hC, hk.mono fun _ _ h => S.olies h⟩
  ogrown := fun ⟨v, vss, h, hC, hk⟩ hg hcl => ⟨v, vss, h, hC.kept hg (hcl.apart hC (by simp)), hk.mono fun _ _ h => S.ogrown h hg (hcl.sub fun e he => List.mem_cons_of_mem _ he)⟩
  reads {H enc W fuel cs x} hf := by
    rcases open_slice ht hf with ⟨rfl, rfl⟩ | ⟨a, len, cap, m, n, D, Pl, rfl, _, hl, hm, hmm, rfl, hx⟩
    · exact ⟨[], ⟨_, [], rfl, ⟨by simp, .inl ⟨rfl, rfl⟩⟩, trivial⟩, fun _ => ⟨by simp, fun x hx => by cases hx⟩⟩
    · simp only [if_true] at hmm
      subst hmm
      rw [S.cells] at hx
      obtain ⟨V, hV⟩ := choose_lt (n := len) (p := fun i (cs' : List Value) => W.cells? 0 (a.add (i * S.size)) S.size = some cs' ∧ DataW.trod enc Try.prog W 0 (fun _ => true) true n S.ty cs' = some (D i, Pl i)) (fun i hi => hx i (by omega))
      obtain ⟨A, hA⟩ := choose_lt (n := len) (p := fun i (x : α) => S.lies 0 W (V i) x ∧ ((∀ n ∈ (D i).weights Try.prog S.ty, n ≤ reachBytes) → S.fits x)) (fun i hi => S.reads (hV i hi).2)
      have hsz : ∀ us ∈ (List.range len).map V, us.length = S.size := fun us hus => by
        obtain ⟨i, hi, rfl⟩ := List.mem_map.1 hus
        exact S.length (hA i (by simpa using hi)).1
      refine ⟨(List.range len).map A, ⟨_, (List.range len).map V, rfl, ⟨by rw [flat_length hsz]; simp, .inr ⟨a, m, by simp, by simpa using hl, by simp; omega, Nat.zero_le _, fun i u hu => ?_⟩⟩, each_of (by simp) fun i p y hp hy => ?_⟩, fun hw => ⟨?_, fun x hx => ?_⟩⟩
      · have hi : i < len * S.size := by
          have := (List.getElem?_eq_some_iff.1 hu).1
          rw [flat_length hsz] at this
          simpa using this
        have hz : 0 < S.size := Nat.pos_of_ne_zero fun e => by rw [e] at hi; omega
        have hd : i / S.size < len := Nat.div_lt_of_lt_mul (by rw [Nat.mul_comm]; exact hi)
        have hr : i % S.size < S.size := Nat.mod_lt _ hz
        have he : i / S.size * S.size + i % S.size = i := by rw [Nat.mul_comm]; exact Nat.div_add_mod ..
        have hget : ((List.range len).map V)[i / S.size]? = some (V (i / S.size)) := by rw [List.getElem?_map, List.getElem?_range hd]; rfl
        have hln : i % S.size < (V (i / S.size)).length := by rw [hsz _ (List.mem_of_getElem? hget)]; exact hr
        have h2 := flat_get hsz hget (List.getElem?_eq_getElem hln)
        rw [he, hu] at h2
        obtain rfl : u = _ := by simpa using h2
        have h3 := (World.cells?_some (hV _ hd).1).2.2 (i % S.size) hr
        rw [List.getElem?_eq_getElem hln] at h3
        rw [← h3, add_add, he]
      · have hi : i < len := by
          have := (List.getElem?_eq_some_iff.1 hp).1
          simpa using this
        rw [List.getElem?_map, List.getElem?_range hi] at hp hy
        obtain rfl : V i = p := by simpa using hp
        obtain rfl : A i = y := by simpa using hy
        exact (hA i hi).1
      · have h1 := hw (((List.range len).map D).length * Try.prog.bytesOf S.ty + ((List.range (m - len)).map fun j => D (len + j)).length * Try.prog.bytesOf S.ty) (by
          show _ ∈ DataW.weights Try.prog t (.slice _ _)
          simp only [DataW.weights, ht]
          rw [← Nat.add_mul]
          exact List.mem_cons_self ..)
        simp only [reachBytes, List.length_map, List.length_range] at h1 ⊢
        omega
      · obtain ⟨i, hi, rfl⟩ := List.mem_map.1 hx
        refine (hA i (by simpa using hi)).2 fun n hn => hw n ?_
        show n ∈ DataW.weights Try.prog t (.slice _ _)
        simp only [DataW.weights, ht, List.mem_cons, List.mem_append]
        exact .inr (.inl (weights_all_mem (List.mem_map.2 ⟨i, hi, rfl⟩) n hn))

/-! Fields, one behind the other; structs. -/

structure Fields (α : Type) where
  tys : List TypeId
  size : Nat
  ids : List TypeId
  lies : Nat → World → List Value → α → Prop
  owns : Nat → World → List Value → α → Prop
  fits : α → Prop
  length : ∀ {n w us a}, lies n w us a → us.length = size
  ones : ∀ {n w us a}, lies n w us a → ∀ u ∈ us, u.oneCell' = true
  keep : ∀ {n w w' us a}, lies n w us a → Same n w w' → lies n w' us a
  weaken : ∀ {n m w us a}, lies n w us a → m ≤ n → lies m w us a
  osame : ∀ {n w w' us a}, owns n w us a → Same n w w' → owns n w' us a
  oweaken : ∀ {n m w us a}, owns n w us a → m ≤ n → owns m w us a
  olies : ∀ {n w us a}, owns n w us a → lies n w us a
  ogrown : ∀ {n w w' us a row}, owns n w us a → w.grownBy w' row → Clear w row ids → owns n w' us a
  offs : Nat → List Nat
  reads : ∀ {H : Type} {enc : TypeId × Value → H} {W : World} {fuel : Nat} {cs : List Value} {fs : List Field} {xs : List (DataW H × List MemPlace)} (o : Nat), fs.map (·.type) = tys → fs.map (·.offset) = offs o → xs.length = fs.length → cs.length = o + size →
    (∀ (i : Nat) (f : Field), fs[i]? = some f → DataW.trod enc Try.prog W 0 (fun _ => true) true fuel f.type ((cs.drop f.offset).take (Try.prog.cellsOf f.type)) = xs[i]?) →
    ∃ a, lies 0 W (cs.drop o) a ∧ ((∀ n ∈ DataW.weightsEach Try.prog tys (xs.map (·.1)), n ≤ reachBytes) → fits a)

def Shape.only {α : Type} (S : Shape α) : Fields α where
  tys := [S.ty]
  size := S.size
  ids := S.ids
  lies := S.lies
  owns := S.owns
  fits := S.fits
  length := S.length
  ones := S.ones
  keep := S.keep
  weaken := S.weaken
  osame := S.osame
  oweaken := S.oweaken
  olies := S.olies
  ogrown := S.ogrown
  offs o := [o]
  reads {H enc W fuel cs fs xs} o h1 h2 h3 h4 h5 := by
    match fs, xs, h1, h2, h3 with
    | [f], [x], h1, h2, _ =>
      have e1 : f.type = S.ty := by simpa using h1
      have e2 : f.offset = o := by simpa using h2
      have h := h5 0 f rfl
      rw [e1, e2, S.cells, List.take_of_length_le (by rw [List.length_drop, h4]; omega)] at h
      obtain ⟨a, ha, hf⟩ := S.reads (x := x) h
      exact ⟨a, ha, fun hw => hf fun n hn => hw n (by simp [DataW.weightsEach, hn])⟩

def Shape.and {α β : Type} (S : Shape α) (F : Fields β) : Fields (α × β) where
  tys := S.ty :: F.tys
  size := S.size + F.size
  ids := S.ids ++ F.ids
  lies n w us p := ∃ u1 u2, us = u1 ++ u2 ∧ S.lies n w u1 p.1 ∧ F.lies n w u2 p.2
  owns n w us p := ∃ u1 u2, us = u1 ++ u2 ∧ S.owns n w u1 p.1 ∧ F.owns n w u2 p.2
  fits p := S.fits p.1 ∧ F.fits p.2
  length := fun ⟨u1, u2, h, h1, h2⟩ => by rw [h, List.length_append, S.length h1, F.length h2]
  ones := fun ⟨u1, u2, h, h1, h2⟩ u hu => by
    rw [h] at hu
    rcases List.mem_append.1 hu with hu | hu
    · exact S.ones h1 u hu
    · exact F.ones h2 u hu
  keep := fun ⟨u1, u2, h, h1, h2⟩ hs => ⟨u1, u2, h, S.keep h1 hs, F.keep h2 hs⟩
  weaken := fun ⟨u1, u2, h, h1, h2⟩ hs => ⟨u1, u2, h, S.weaken h1 hs, F.weaken h2 hs⟩
  osame := fun ⟨u1, u2, h, h1, h2⟩ hs => ⟨u1, u2, h, S.osame h1 hs, F.osame h2 hs⟩
  oweaken := fun ⟨u1, u2, h, h1, h2⟩ hs => ⟨u1, u2, h, S.oweaken h1 hs, F.oweaken h2 hs⟩
  olies := fun ⟨u1, u2, h, h1, h2⟩ => ⟨u1, u2, h, S.olies h1, F.olies h2⟩
  ogrown := fun ⟨u1, u2, h, h1, h2⟩ hg hc => ⟨u1, u2, h, S.ogrown h1 hg (hc.sub fun e he => List.mem_append_left _ he), F.ogrown h2 hg (hc.sub fun e he => List.mem_append_right _ he)⟩
  offs o := o :: F.offs (o + S.size)
  reads {H enc W fuel cs fs xs} o h1 h2 h3 h4 h5 := by
    match fs, xs, h1, h2, h3 with
    | f :: fs, x :: xs, h1, h2, h3 =>
      simp only [List.map_cons, List.cons.injEq] at h1 h2
      have h := h5 0 f rfl
      rw [h1.1, h2.1, S.cells] at h
      obtain ⟨a, ha, hf⟩ := S.reads (x := x) h
      obtain ⟨b, hb, hg⟩ := F.reads (xs := xs) (o + S.size) h1.2 h2.2 (by simpa using h3) (by rw [h4]; omega) (fun i g hi => h5 (i + 1) g (by simpa using hi))
      refine ⟨(a, b), ⟨_, _, ?_, ha, hb⟩, fun hw => ⟨hf fun n hn => hw n ?_, hg fun n hn => hw n ?_⟩⟩
      · rw [← List.drop_drop, List.take_append_drop]
      · simp only [List.map_cons, DataW.weightsEach, List.mem_append]
        exact .inl hn
      · simp only [List.map_cons, DataW.weightsEach, List.mem_append]
        exact .inr hn

def Fields.struct {α : Type} (F : Fields α) (t : TypeId) (ht : ∃ fs : Array Field, Try.prog.underlying t = some (.struct fs) ∧ fs.toList.map (·.type) = F.tys ∧ fs.toList.map (·.offset) = F.offs 0) (hc : Try.prog.cellsOf t = F.size) : Shape α where
  ty := t
  size := F.size
  ids := F.ids
  lies := F.lies
  owns := F.owns
  fits := F.fits
  cells := hc
  length := F.length
  ones := F.ones
  keep := F.keep
  weaken := F.weaken
  osame := F.osame
  oweaken := F.oweaken
  olies := F.olies
  ogrown := F.ogrown
  reads {H enc W fuel cs x} hf := by
    obtain ⟨fs, hu, h1, h2⟩ := ht
    obtain ⟨xs, n, _, rfl, hlen, hxl, hfld⟩ := DataW.trod_struct hu hf
    obtain ⟨a, ha, hf⟩ := F.reads (xs := xs) (fs := fs.toList) 0 h1 h2 (by simpa using hxl) (by rw [hlen, hc]; omega) (fun i f hi => hfld i f (by simpa using hi))
    refine ⟨a, by simpa using ha, fun hw => hf fun n hn => hw n ?_⟩
    simp only [DataW.weights, hu, h1]
    exact hn

/-! What a slice of a shape does. -/

theorem Shape.list_len {α : Type} [Inhabited α] {S : Shape α} {t : TypeId} {ht hc} {n : Nat} {w : World} {us : List Value} {ls : List α} (h : (S.list t ht hc).lies n w us ls) : ∃ a cap, us = [.slice a ls.length cap] ∧ ls.length ≤ cap ∧ ls.length ≤ maxLen ∧ (a = none → ls.length = 0) := by
  obtain ⟨v, _, rfl, hC, _⟩ := h
  obtain ⟨a, c, rfl, r⟩ := hC.shape
  exact ⟨a, c, rfl, r⟩

/-- One element: where it lies, and what it is. -/
theorem Shape.list_at {α : Type} [Inhabited α] {S : Shape α} {t : TypeId} {ht hc} {n : Nat} {w : World} {v : Value} {ls : List α} (h : (S.list t ht hc).lies n w [v] ls) (hz : 0 < S.size) {i0 : TypeInfo} (hi0 : Try.prog.info? S.ty = some i0) (hs : i0.size = S.size) (i : Nat) (x : α) (hx : ls[i]? = some x) :
    ∃ b o us, (∀ W, (Instr.indexAt t v (.int .i64 i)).run Try.prog W = .ok (.pointer (some ⟨b, o, none⟩)) W) ∧ n ≤ b ∧ (∀ j u, us[j]? = some u → w.cell? ⟨b, o + j, none⟩ = some u) ∧ S.lies n w us x := by
  obtain ⟨v', vss, hv, hC, hE⟩ := h
  obtain rfl : v = v' := by simpa using hv
  obtain ⟨us, hu, hl⟩ := hE.get hx
  obtain ⟨b, o, hix, hb, hcell⟩ := hC.index hz ht hi0 hs i (List.getElem?_eq_some_iff.1 hx).1
  refine ⟨b, o, us, hix, hb, fun j u hj => hcell j u ?_, hl⟩
  refine flat_get (fun us' hus => ?_) hu hj
  obtain ⟨_, _, h⟩ := hE.left hus
  exact S.length h

theorem Shape.list_own {α : Type} [Inhabited α] {S : Shape α} {t : TypeId} {ht hc} {n : Nat} {w : World} {us : List Value} {ls : List α} (h : (S.list t ht hc).owns n w us ls) : ∃ a cap vss, us = [.slice a ls.length cap] ∧ w.ownsRow n S.ty S.size (.slice a ls.length cap) ls.length vss ∧ vss.length = ls.length * S.size := by
  obtain ⟨v, vss, rfl, hC, hE⟩ := h
  obtain ⟨a, c, rfl⟩ := own_shape hC
  exact ⟨a, c, _, rfl, hC, hC.1⟩

theorem Shape.list_nil {α : Type} [Inhabited α] (S : Shape α) (t : TypeId) (ht hc) (n : Nat) (w : World) : (S.list t ht hc).owns n w [.slice none 0 0] [] := ⟨_, [], rfl, World.ownsRow_nil _ _ _ _, trivial⟩

/-- One more element, behind the others. -/
theorem Shape.list_push {α : Type} [Inhabited α] {S : Shape α} {t : TypeId} {ht hc} {base : Nat} {W w3 : World} {v v3 : Value} {vss : List (List Value)} {us : List Value} {ls : List α} {x : α} (hid : S.ty ∉ S.ids) (hE : Each (S.owns base W) vss ls) (hown : W.ownsRow base S.ty S.size v ls.length vss.flatten) (hu : S.owns base W us x)
    (hg : W.grownBy w3 v.ownBlock) (h3 : w3.ownsRow base S.ty S.size v3 (ls.length + 1) (vss.flatten ++ us)) : (S.list t ht hc).owns base w3 [v3] (ls ++ [x]) := by
  refine ⟨v3, vss ++ [us], rfl, by rw [List.length_append, flat_snoc]; exact h3, ?_⟩
  have keep : ∀ a b, S.owns base W a b → S.owns base w3 a b := fun a b h => S.ogrown h hg (.own hown hid)
  exact (hE.mono keep).snoc (keep _ _ hu)

theorem Leaf.row_len {α : Type} [Inhabited α] {L : Leaf α} {t : TypeId} {ht hc} {n : Nat} {w : World} {us : List Value} {l : List α} (h : (L.row t ht hc).lies n w us l) : ∃ a cap, us = [.slice a l.length cap] ∧ l.length ≤ cap ∧ l.length ≤ maxLen ∧ (a = none → l.length = 0) := by
  obtain ⟨v, rfl, hC, _⟩ := h
  obtain ⟨a, c, rfl, r⟩ := hC.shape
  exact ⟨a, c, rfl, r⟩

theorem Leaf.row_at {α : Type} [Inhabited α] {L : Leaf α} {t : TypeId} {ht hc} {n : Nat} {w : World} {v : Value} {l : List α} (h : (L.row t ht hc).lies n w [v] l) {i0 : TypeInfo} (hi0 : Try.prog.info? L.ty = some i0) (hs : i0.size = 1) (i : Nat) (x : α) (hx : l[i]? = some x) :
    ∃ b o, (∀ W, (Instr.indexAt t v (.int .i64 i)).run Try.prog W = .ok (.pointer (some ⟨b, o, none⟩)) W) ∧ n ≤ b ∧ w.cell? ⟨b, o, none⟩ = some (L.val x) ∧ L.ok x := by
  obtain ⟨v', hv, hC, hk⟩ := h
  obtain rfl : v = v' := by simpa using hv
  obtain ⟨b, o, hix, hb, hcell⟩ := hC.index (by omega) ht hi0 hs i (List.getElem?_eq_some_iff.1 hx).1
  exact ⟨b, o, hix, hb, hcell 0 _ (by simp [hx]), hk x (List.mem_of_getElem? hx)⟩

end Go.Proofs.Ytkpckadicjdieab

/-
  Two facts of the program on which every frame of a law leans.
-/
namespace Go.Proofs.Ytkpckadicjdieab
open Go.ChangeShapes Go.WideShapes Go.ChangeAt Go.RowKit

theorem own : ownKnob Try.prog.godebug = none := by kernel_rfl
theorem laidOut : laidOutB Try.prog = true := by kernel_rfl

/-- A struct's cells as a list. -/
theorem as_list (cs : Array Value) : ∃ us : List Value, cs = us.toArray := ⟨cs.toList, by simp⟩

end Go.Proofs.Ytkpckadicjdieab

/-
  Numbers, texts and octets as data; how they lie in memory.
-/
namespace Go.Proofs.Ytkpckadicjdieab
open Go.RowKit

theorem Try.info5 : (Try.prog.info? 5).map (fun i => (i.zero, i.size, i.bytes)) = some (some (.int .u8 0), 1, 1) := by kernel_rfl
theorem Try.info3 : (Try.prog.info? 3).map (fun i => (i.zero, i.size, i.bytes)) = some (some (.int .i64 0), 1, 8) := by kernel_rfl
theorem Try.info9 : (Try.prog.info? 9).map (fun i => (i.zero, i.size, i.bytes)) = some (some (.string ⟨#[]⟩), 1, 16) := by kernel_rfl

def I64 (x : Int) : Prop := -9223372036854775808 ≤ x ∧ x ≤ 9223372036854775807
theorem I64.wf {x : Int} (h : I64 x) : (Lit.int .i64 x).wf = true := by
  obtain ⟨h1, h2⟩ := h
  simp [Lit.wf, IntKind.min, IntKind.max, IntKind.signed, IntKind.bits]
  omega
def Oct (l : List Int) : Prop := ∀ x ∈ l, (Lit.int .u8 x).wf = true

def u8L : Leaf Int := intL .u8 5 Try.underlying5 (by kernel_rfl)
def i64L : Leaf Int := intL .i64 3 Try.underlying3 (by kernel_rfl)
def i64S : Shape Int := i64L.shape
def bytesS : Shape (List Int) := u8L.row 46 Try.underlying46 (by kernel_rfl)

def strL : Leaf ByteArray where
  ty := 9
  val := .string
  ok s := s.size ≤ maxLen
  cells := by kernel_rfl
  one _ := rfl
  reads h := by
    obtain ⟨s, h1, _, h3⟩ := DataW.trod_string Try.underlying9 h
    exact ⟨s, h1, h3⟩
def strS : Shape ByteArray := strL.shape

/-! Octets. -/

def Arg (n0 : Nat) (w : World) (v : Value) (l : List Int) : Prop := bytesS.lies n0 w [v] l
theorem Arg.cells {n0 : Nat} {w : World} {v : Value} {l : List Int} (h : Arg n0 w v l) : Cells n0 w 1 v l.length (l.map (Value.int .u8)) := by
  obtain ⟨v', hv, hC, _⟩ := h
  obtain rfl : v = v' := by simpa using hv
  exact hC
theorem Arg.oct {n0 : Nat} {w : World} {v : Value} {l : List Int} (h : Arg n0 w v l) : Oct l := by
  obtain ⟨_, _, _, ho⟩ := h
  exact ho
theorem Arg.mk {n0 : Nat} {w : World} {v : Value} {l : List Int} (hC : Cells n0 w 1 v l.length (l.map (Value.int .u8))) (ho : Oct l) : Arg n0 w v l := ⟨v, rfl, hC, ho⟩
theorem Arg.keep {n0 : Nat} {w w' : World} {v : Value} {l : List Int} (h : Arg n0 w v l) (hs : Same n0 w w') : Arg n0 w' v l := bytesS.keep h hs
theorem Arg.below {n0 : Nat} {w w' : World} {v : Value} {l : List Int} (h : Arg n0 w v l) (hb : Below w.heap.size w w') : Arg n0 w' v l := h.keep (.of_below hb)
theorem Arg.weaken {n0 n1 : Nat} {w : World} {v : Value} {l : List Int} (h : Arg n0 w v l) (hn : n1 ≤ n0) : Arg n1 w v l := bytesS.weaken h hn
theorem Arg.shape {n0 : Nat} {w : World} {v : Value} {l : List Int} (h : Arg n0 w v l) : ∃ a cap, v = .slice a l.length cap ∧ l.length ≤ cap ∧ l.length ≤ maxLen ∧ (a = none → l.length = 0) := h.cells.shape
theorem Arg.split {n0 : Nat} {w : World} {v : Value} {l : List Int} (h : Arg n0 w v l) : (l = [] ∧ ∃ a cap, v = .slice a 0 cap) ∨ (∃ b off cap, v = .slice (some ⟨b, off, none⟩) l.length cap ∧ l.length ≤ cap ∧ l.length ≤ maxLen ∧ n0 ≤ b ∧ ∀ i, i < l.length → w.cell? ⟨b, off + i, none⟩ = some (.int .u8 (l.getD i 0))) := by
  by_cases h0 : l.length = 0
  · obtain ⟨a, cap, hv, _⟩ := h.shape
    exact .inl ⟨List.eq_nil_of_length_eq_zero h0, a, cap, by rw [hv, h0]⟩
  · right
    obtain ⟨b, o, cap, hv, h1, h2, h3, h4⟩ := h.cells.place (by omega) 0 (by omega)
    refine ⟨b, o, cap, hv, h1, h2, h3, fun i hi => ?_⟩
    have := h4 i (.int .u8 (l.getD i 0)) (by simp [hi])
    simpa using this
/-- One octet: where it lies, and what it is. -/
theorem Arg.at {n0 : Nat} {w : World} {v : Value} {l : List Int} (h : Arg n0 w v l) (i : Nat) (x : Int) (hx : l[i]? = some x) :
    ∃ b o, (∀ W, (Instr.indexAt 46 v (.int .i64 i)).run Try.prog W = .ok (.pointer (some ⟨b, o, none⟩)) W) ∧ n0 ≤ b ∧ w.cell? ⟨b, o, none⟩ = some (.int .u8 x) ∧ (Lit.int .u8 x).wf = true := by
  obtain ⟨i0, hi0, _, hz, _⟩ := info_parts Try.info5
  exact Leaf.row_at (L := u8L) (ht := Try.underlying46) (hc := by kernel_rfl) h hi0 hz i x hx

/-- Octets in a block of their own. -/
def Own1 (base : Nat) (w : World) (v : Value) (l : List Int) : Prop := bytesS.owns base w [v] l
theorem Own1.row {base : Nat} {w : World} {v : Value} {l : List Int} (h : Own1 base w v l) : w.ownsRow base 5 1 v l.length (l.map (Value.int .u8)) := by
  obtain ⟨v', hv, hC, _⟩ := h
  obtain rfl : v = v' := by simpa using hv
  exact hC
theorem Own1.mk {base : Nat} {w : World} {v : Value} {l : List Int} (h : w.ownsRow base 5 1 v l.length (l.map (Value.int .u8))) (ho : Oct l) : Own1 base w v l := ⟨v, rfl, h, ho⟩
theorem Own1.arg {base : Nat} {w : World} {v : Value} {l : List Int} (h : Own1 base w v l) : Arg base w v l := bytesS.olies h
theorem Own1.shape {base : Nat} {w : World} {v : Value} {l : List Int} (h : Own1 base w v l) : ∃ a cap, v = .slice a l.length cap := own_shape h.row
theorem Own1.oct {base : Nat} {w : World} {v : Value} {l : List Int} (h : Own1 base w v l) : Oct l := h.arg.oct

theorem get_lt {α : Type} {l : List α} {k : Nat} (h : k < l.length) : ∃ x, l[k]? = some x := ⟨_, List.getElem?_eq_getElem h⟩
theorem take_snoc {α : Type} {l : List α} {k : Nat} {x : α} (h : l[k]? = some x) : l.take (k + 1) = l.take k ++ [x] := by rw [List.take_add_one, h]; rfl
theorem one_cells (l : List Int) : ∀ u ∈ l.map (Value.int .u8), u.oneCell' = true := fun u hu => by
  obtain ⟨y, _, rfl⟩ := List.mem_map.1 hu
  rfl


end Go.Proofs.Ytkpckadicjdieab

/-
  Blocks and segments, the program's and the document's, as data; how they lie in memory.
-/
namespace Go.Proofs.Ytkpckadicjdieab
open Go.RowKit

theorem Try.info48 : (Try.prog.info? 48).map (fun i => (i.zero, i.size, i.bytes)) = some (some (.agg #[.int .i64 0, .int .i64 0, .slice none 0 0]), 3, 40) := by kernel_rfl
theorem Try.info97 : (Try.prog.info? 97).map (fun i => (i.zero, i.size, i.bytes)) = some (some (.agg #[.int .i64 0, .int .i64 0, .slice none 0 0]), 3, 40) := by kernel_rfl

abbrev Bk := Int × Int × List Int
def bkF : Fields Bk := i64S.and (i64S.and bytesS.only)
def bkR : Shape Bk := bkF.struct 97 ⟨_, Try.underlying97, rfl, rfl⟩ (by kernel_rfl)
def bkN : Shape Bk := bkF.struct 48 ⟨_, Try.underlying48, rfl, rfl⟩ (by kernel_rfl)
theorem cells24 : Try.prog.cellsOf 24 = 1 := by kernel_rfl
def bksR : Shape (List Bk) := bkR.list 24 Try.underlying24 cells24
theorem cells29 : Try.prog.cellsOf 29 = 1 := by kernel_rfl
def bksN : Shape (List Bk) := bkN.list 29 Try.underlying29 cells29
abbrev Sg := Int × List Bk
def sgR : Shape Sg := (i64S.and bksR.only).struct 36 ⟨_, Try.underlying36, rfl, rfl⟩ (by kernel_rfl)
def sgN : Shape Sg := (i64S.and bksN.only).struct 45 ⟨_, Try.underlying45, rfl, rfl⟩ (by kernel_rfl)

/-! Blocks. -/

theorem bk_view {n : Nat} {w : World} {us : List Value} {p : Bk} (h : bkF.lies n w us p) : ∃ a cap, us = [.int .i64 p.1, .int .i64 p.2.1, .slice a p.2.2.length cap] ∧ Arg n w (.slice a p.2.2.length cap) p.2.2 ∧ I64 p.1 ∧ I64 p.2.1 := by
  obtain ⟨u1, r, rfl, ⟨rfl, h1⟩, u2, r2, rfl, ⟨rfl, h2⟩, v, rfl, hC, ho⟩ := h
  obtain ⟨a, cap, rfl, _⟩ := hC.shape
  exact ⟨a, cap, rfl, ⟨_, rfl, hC, ho⟩, bounds_i64 h1, bounds_i64 h2⟩
theorem bk_mk {n : Nat} {w : World} {v : Value} {p : Bk} (h : Arg n w v p.2.2) (h1 : I64 p.1) (h2 : I64 p.2.1) : bkF.lies n w [.int .i64 p.1, .int .i64 p.2.1, v] p := ⟨[_], [_, _], rfl, ⟨rfl, h1.wf⟩, [_], [_], rfl, ⟨rfl, h2.wf⟩, h⟩
theorem bk_own {n : Nat} {w : World} {us : List Value} {p : Bk} (h : bkF.owns n w us p) : ∃ a cap, us = [.int .i64 p.1, .int .i64 p.2.1, .slice a p.2.2.length cap] ∧ Own1 n w (.slice a p.2.2.length cap) p.2.2 ∧ I64 p.1 ∧ I64 p.2.1 := by
  obtain ⟨u1, r, rfl, ⟨rfl, h1⟩, u2, r2, rfl, ⟨rfl, h2⟩, v, rfl, hC, ho⟩ := h
  obtain ⟨a, cap, rfl⟩ := own_shape hC
  exact ⟨a, cap, rfl, ⟨_, rfl, hC, ho⟩, bounds_i64 h1, bounds_i64 h2⟩
theorem bk_omk {n : Nat} {w : World} {v : Value} {p : Bk} (h : Own1 n w v p.2.2) (h1 : I64 p.1) (h2 : I64 p.2.1) : bkF.owns n w [.int .i64 p.1, .int .i64 p.2.1, v] p := ⟨[_], [_, _], rfl, ⟨rfl, h1.wf⟩, [_], [_], rfl, ⟨rfl, h2.wf⟩, h⟩

/-! Segments. -/

theorem sg_viewN {n : Nat} {w : World} {us : List Value} {s : Sg} (h : sgN.lies n w us s) : ∃ a cap, us = [.int .i64 s.1, .slice a s.2.length cap] ∧ bksN.lies n w [.slice a s.2.length cap] s.2 ∧ I64 s.1 ∧ s.2.length ≤ maxLen := by
  obtain ⟨u1, u2, rfl, ⟨rfl, h1⟩, h2⟩ := h
  obtain ⟨a, cap, rfl, _, hm, _⟩ := Shape.list_len (S := bkN) (ht := Try.underlying29) (hc := cells29) h2
  exact ⟨a, cap, rfl, h2, bounds_i64 h1, hm⟩
theorem sg_viewR {n : Nat} {w : World} {us : List Value} {s : Sg} (h : sgR.lies n w us s) : ∃ a cap, us = [.int .i64 s.1, .slice a s.2.length cap] ∧ bksR.lies n w [.slice a s.2.length cap] s.2 ∧ I64 s.1 ∧ s.2.length ≤ maxLen := by
  obtain ⟨u1, u2, rfl, ⟨rfl, h1⟩, h2⟩ := h
  obtain ⟨a, cap, rfl, _, hm, _⟩ := Shape.list_len (S := bkR) (ht := Try.underlying24) (hc := cells24) h2
  exact ⟨a, cap, rfl, h2, bounds_i64 h1, hm⟩
theorem sg_mkN {n : Nat} {w : World} {v : Value} {s : Sg} (h : bksN.lies n w [v] s.2) (h1 : I64 s.1) : sgN.lies n w [.int .i64 s.1, v] s := ⟨[_], [_], rfl, ⟨rfl, h1.wf⟩, h⟩
theorem sg_mkR {n : Nat} {w : World} {v : Value} {s : Sg} (h : bksR.lies n w [v] s.2) (h1 : I64 s.1) : sgR.lies n w [.int .i64 s.1, v] s := ⟨[_], [_], rfl, ⟨rfl, h1.wf⟩, h⟩
theorem sg_omkN {n : Nat} {w : World} {v : Value} {s : Sg} (h : bksN.owns n w [v] s.2) (h1 : I64 s.1) : sgN.owns n w [.int .i64 s.1, v] s := ⟨[_], [_], rfl, ⟨rfl, h1.wf⟩, h⟩
theorem sg_omkR {n : Nat} {w : World} {v : Value} {s : Sg} (h : bksR.owns n w [v] s.2) (h1 : I64 s.1) : sgR.owns n w [.int .i64 s.1, v] s := ⟨[_], [_], rfl, ⟨rfl, h1.wf⟩, h⟩
theorem sg_ownN {n : Nat} {w : World} {us : List Value} {s : Sg} (h : sgN.owns n w us s) : ∃ a cap, us = [.int .i64 s.1, .slice a s.2.length cap] ∧ bksN.owns n w [.slice a s.2.length cap] s.2 ∧ I64 s.1 := by
  obtain ⟨u1, u2, rfl, ⟨rfl, h1⟩, h2⟩ := h
  obtain ⟨a, cap, _, rfl, _⟩ := Shape.list_own (S := bkN) (ht := Try.underlying29) (hc := cells29) h2
  exact ⟨a, cap, rfl, h2, bounds_i64 h1⟩
theorem sg_ownR {n : Nat} {w : World} {us : List Value} {s : Sg} (h : sgR.owns n w us s) : ∃ a cap, us = [.int .i64 s.1, .slice a s.2.length cap] ∧ bksR.owns n w [.slice a s.2.length cap] s.2 ∧ I64 s.1 := by
  obtain ⟨u1, u2, rfl, ⟨rfl, h1⟩, h2⟩ := h
  obtain ⟨a, cap, _, rfl, _⟩ := Shape.list_own (S := bkR) (ht := Try.underlying24) (hc := cells24) h2
  exact ⟨a, cap, rfl, h2, bounds_i64 h1⟩
theorem sg_nilN (n : Nat) (w : World) : sgN.lies n w [.int .i64 0, .slice none 0 0] (0, []) := sg_mkN (s := (0, [])) (bksN.olies (Shape.list_nil bkN 29 Try.underlying29 cells29 n w)) ⟨by omega, by omega⟩
theorem sg_nilR (n : Nat) (w : World) : sgR.lies n w [.int .i64 0, .slice none 0 0] (0, []) := sg_mkR (s := (0, [])) (bksR.olies (Shape.list_nil bkR 24 Try.underlying24 cells24 n w)) ⟨by omega, by omega⟩

/-- One block of the blocks: where it lies, and what it is. -/
theorem bks_atN {n : Nat} {w : World} {v : Value} {l : List Bk} (h : bksN.lies n w [v] l) (i : Nat) (p : Bk) (hp : l[i]? = some p) :
    ∃ b o a cap, (∀ W, (Instr.indexAt 29 v (.int .i64 i)).run Try.prog W = .ok (.pointer (some ⟨b, o, none⟩)) W) ∧ w.cell? ⟨b, o, none⟩ = some (.int .i64 p.1) ∧ w.cell? ⟨b, o + 1, none⟩ = some (.int .i64 p.2.1) ∧ w.cell? ⟨b, o + 2, none⟩ = some (.slice a p.2.2.length cap) ∧
      Arg n w (.slice a p.2.2.length cap) p.2.2 ∧ I64 p.1 ∧ I64 p.2.1 ∧ n ≤ b := by
  obtain ⟨i0, hi0, _, hz, _⟩ := info_parts Try.info48
  obtain ⟨b, o, us, hix, hb, hc, hl⟩ := Shape.list_at (S := bkN) (ht := Try.underlying29) (hc := cells29) h (by decide) hi0 hz i p hp
  obtain ⟨a, cap, rfl, hA, h1, h2⟩ := bk_view hl
  exact ⟨b, o, a, cap, hix, hc 0 _ rfl, hc 1 _ rfl, hc 2 _ rfl, hA, h1, h2, hb⟩
theorem bks_atR {n : Nat} {w : World} {v : Value} {l : List Bk} (h : bksR.lies n w [v] l) (i : Nat) (p : Bk) (hp : l[i]? = some p) :
    ∃ b o a cap, (∀ W, (Instr.indexAt 24 v (.int .i64 i)).run Try.prog W = .ok (.pointer (some ⟨b, o, none⟩)) W) ∧ w.cell? ⟨b, o, none⟩ = some (.int .i64 p.1) ∧ w.cell? ⟨b, o + 1, none⟩ = some (.int .i64 p.2.1) ∧ w.cell? ⟨b, o + 2, none⟩ = some (.slice a p.2.2.length cap) ∧
      Arg n w (.slice a p.2.2.length cap) p.2.2 ∧ I64 p.1 ∧ I64 p.2.1 ∧ n ≤ b := by
  obtain ⟨i0, hi0, _, hz, _⟩ := info_parts Try.info97
  obtain ⟨b, o, us, hix, hb, hc, hl⟩ := Shape.list_at (S := bkR) (ht := Try.underlying24) (hc := cells24) h (by decide) hi0 hz i p hp
  obtain ⟨a, cap, rfl, hA, h1, h2⟩ := bk_view hl
  exact ⟨b, o, a, cap, hix, hc 0 _ rfl, hc 1 _ rfl, hc 2 _ rfl, hA, h1, h2, hb⟩

/-- As great as the form reads a segment. -/
def Fits (s : Sg) : Prop := s.2.length * 40 ≤ 140737488351232 ∧ ∀ p ∈ s.2, p.2.2.length ≤ 140737488351232
theorem fits_of {s : Sg} (h : sgR.fits s) : Fits s := by
  obtain ⟨_, h1, h2⟩ := h
  have b62 : Try.prog.bytesOf 97 = 40 := by kernel_rfl
  have b5 : Try.prog.bytesOf 5 = 1 := by kernel_rfl
  refine ⟨?_, fun p hp => ?_⟩
  · have h3 : s.2.length * Try.prog.bytesOf 97 ≤ 140737488351232 := h1
    rwa [b62] at h3
  · obtain ⟨_, _, h4⟩ := h2 p hp
    have h5 : p.2.2.length * Try.prog.bytesOf 5 ≤ 140737488351232 := h4
    rwa [b5, Nat.mul_one] at h5

end Go.Proofs.Ytkpckadicjdieab

/-
  Numbers of errors; copies of octets, and whether two are alike.
-/
namespace Go.Proofs.Ytkpckadicjdieab
open Go.RowKit


/-- What a copy of octets makes: the same ones in a block of its own. -/
def Copies (f : FuncId) : Prop := ∀ (n0 : Nat) (v : Value) (l : List Int) (w : World), Arg n0 w v l → l.length ≤ 140737488355328 →
    Calls Try.prog f #[v] w fun e w' => (∃ v', e = .returned v' ∧ Own1 w.heap.size w' v' l) ∧ Below w.heap.size w w'

set_option maxHeartbeats 400000 in
theorem copy_any : Copies 62 := by
  intro n0 v l w h hs
  obtain ⟨i0, hi, hz0, hz1, hz2⟩ := info_parts Try.info5
  have ho := h.oct
  obtain ⟨hl, h | ⟨x, cap, rfl, hcap, hm, _, hc⟩⟩ := h.cells
  · obtain ⟨rfl, h0⟩ := h
    obtain rfl := List.eq_nil_of_length_eq_zero h0
    go_enter Try.func62, Try.ntmps62
    go_wp2_with (at_builtin; refine wpList_append_own_none rfl _ _ 46 rfl w.heap.size 5 i0 1 Try.underlying46 hi (.slice none 0 0) 0 [] rfl (World.ownsRow_nil _ _ _ _) rfl ?_)
    go_ret
    exact ⟨⟨_, rfl, .mk (World.ownsRow_nil _ _ _ _) ho⟩, Below.refl _ _⟩
  · have hone := one_cells l
    go_enter Try.func62, Try.ntmps62
    go_wp2_with (at_builtin; refine wpList_append_own _ rfl _ _ 46 rfl w.heap.size 5 i0 (.int .u8 0) 1 1 Try.underlying46 hi hz0 hz1 hz2 rfl (by decide) (.slice none 0 0) 0 [] rfl (World.ownsRow_nil _ _ _ _) x l.length cap (l.map (Value.int .u8)) rfl (by simp) hc hone (by omega) (by omega) (Nat.le_refl _) ?_)
    intro v' w1 hown hgrow _
    have hb : Below w.heap.size w w1 := (Below.refl _ _).grown hgrow (Nat.le_refl _) (fun _ h => by cases h)
    clear hgrow hc hone
    go_wp2
    go_ret
    exact ⟨⟨v', rfl, .mk (by simpa using hown) ho⟩, hb⟩

theorem differ {a b : List Int} {k : Nat} (h : a.getD k 0 ≠ b.getD k 0) : a ≠ b := fun e => h (by rw [e])
theorem alike {a b : List Int} (hl : a.length = b.length) (h : ∀ i, i < a.length → a.getD i 0 = b.getD i 0) : a = b := by
  apply List.ext_getElem hl
  intro i h1 h2
  have := h i h1
  simpa [List.getD, List.getElem?_eq_getElem h1, List.getElem?_eq_getElem h2] using this

set_option maxHeartbeats 1000000 in
theorem same_any (n1 n2 : Nat) (v1 v2 : Value) (l1 l2 : List Int) (w : World) (h1 : Arg n1 w v1 l1) (h2 : Arg n2 w v2 l2) :
    Calls Try.prog 14 #[v1, v2] w fun e w' => e = .returned (.bool (decide (l1 = l2))) ∧ ∃ q, w' = w.drewN q := by
  obtain ⟨a1, c1, rfl, _, hm1, _⟩ := h1.shape
  obtain ⟨a2, c2, rfl, _, hm2, _⟩ := h2.shape
  unfold maxLen at hm1 hm2
  have hl1 := run_len Try.underlying46 a1 l1.length c1
  have hl2 := run_len Try.underlying46 a2 l2.length c2
  by_cases hlen : l1.length = l2.length
  case neg =>
    have e : decide (l1 = l2) = false := by
      rw [decide_eq_false_iff_not]
      intro h; exact hlen (by rw [h])
    rw [e]
    have hne : ¬ (l1.length : Int) = (l2.length : Int) := by omega
    clear h1 h2
    go_enter Try.func14, Try.ntmps14
    go_wp2
    go_ret
    exact ⟨rfl, 0, rfl⟩
  rcases h1.split with ⟨rfl, _⟩ | ⟨b1, o1, k1, hv1, _, _, _, e1⟩
  · obtain rfl : l2 = [] := List.eq_nil_of_length_eq_zero (by simpa using hlen.symm)
    clear h1 h2
    go_enter Try.func14, Try.ntmps14
    go_wp2
    refine wp_loop_rounds 1 ?_
    rw [rounds_succ]
    go_wp2
    go_ret
    exact ⟨rfl, 0, rfl⟩
  rcases h2.split with ⟨rfl, _⟩ | ⟨b2, o2, k2, hv2, _, _, _, e2⟩
  · obtain rfl : l1 = [] := List.eq_nil_of_length_eq_zero (by simpa using hlen)
    clear h1 h2
    go_enter Try.func14, Try.ntmps14
    go_wp2
    refine wp_loop_rounds 1 ?_
    rw [rounds_succ]
    go_wp2
    go_ret
    exact ⟨rfl, 0, rfl⟩
  obtain ⟨rfl, _, rfl⟩ := Value.slice.inj hv1
  obtain ⟨rfl, _, rfl⟩ := Value.slice.inj hv2
  obtain ⟨n, hn⟩ : ∃ n, n = l1.length := ⟨_, rfl⟩
  rw [← hlen] at e2 hl2 ⊢
  rw [← hn] at e1 e2 hl1 hl2 hm1 ⊢
  have HE : Hid ((∀ i, i < n → w.cell? ⟨b1, o1 + i, none⟩ = some (.int .u8 (l1.getD i 0))) ∧ ∀ i, i < n → w.cell? ⟨b2, o2 + i, none⟩ = some (.int .u8 (l2.getD i 0))) := ⟨e1, e2⟩
  have HN : Hid (n = l1.length ∧ l1.length = l2.length) := ⟨hn, hlen⟩
  obtain ⟨d, hd⟩ : ∃ d, d = decide (l1 = l2) := ⟨_, rfl⟩
  rw [← hd]
  have HDD : Hid (d = decide (l1 = l2)) := hd
  clear h1 h2 hv1 hv2 hn hlen e1 e2 hl1 hl2 hd
  go_enter Try.func14, Try.ntmps14
  go_wp2
  go_loopw [5] (fun i wr => ∃ k : Nat, k ≤ n ∧ i = .int .i64 k ∧ Hid (∀ i, i < k → l1.getD i 0 = l2.getD i 0) ∧ ∃ q, wr = w.drewN q) (fun i _ => n - (intOf i).toNat)
  case atStart => exact ⟨0, Nat.zero_le _, rfl, fun i hi => by omega, 0, rfl⟩
  case round =>
    obtain ⟨k, hk, rfl, HK, q, rfl⟩ := hrel
    by_cases hlt : k < n
    · have g1 := HE.out.1 k hlt
      have g2 := HE.out.2 k hlt
      have hkn : (k : Int) < (n : Int) := by omega
      obtain ⟨x, hx⟩ : ∃ x, x = l1.getD k 0 := ⟨_, rfl⟩
      obtain ⟨y, hy⟩ : ∃ y, y = l2.getD k 0 := ⟨_, rfl⟩
      rw [← hx] at g1
      rw [← hy] at g2
      have HXY : Hid (x = l1.getD k 0 ∧ y = l2.getD k 0) := ⟨hx, hy⟩
      clear hx hy
      by_cases hxy : x = y
      · subst hxy
        go_wp2
        go_quiet (fail)
        go_wp2
        go_roundw
        case rel =>
          refine ⟨k + 1, by omega, by go_num, fun i hi => ?_, _, rfl⟩
          by_cases e : i < k
          · exact HK.out i e
          · obtain rfl : i = k := by omega
            rw [← HXY.out.1, ← HXY.out.2]
        case measure => simp [intOf]; omega
      · have hdf : d = false := by
          rw [HDD.out, decide_eq_false_iff_not]
          exact differ (by rw [← HXY.out.1, ← HXY.out.2]; exact hxy)
        subst hdf
        go_wp2
        go_quiet (fail)
        go_wp2
        go_ret
        exact ⟨rfl, _, World.drewN_drewN _ _ _⟩
    · obtain rfl : k = n := by omega
      have hdt : d = true := by
        rw [HDD.out, decide_eq_true_eq]
        exact alike HN.out.2 (fun i hi => HK.out i (by rw [HN.out.1]; exact hi))
      subst hdt
      go_wp2
      go_ret
      exact ⟨rfl, q, rfl⟩

/-- How many blocks hold so many octets, and how many indirect ones lead to them. -/
def blkN (s : Int) : Int := (s + 31) / 32
def indM (n : Int) : Int := if 12 < n then 2 + (n - 5) / 8 else if 4 < n then 1 else 0
def blkE (s : Int) : Int := if s < 0 then 4 else if 2432 < s then 107 else 0
def blkV (s : Int) : Int := if 0 ≤ s ∧ s ≤ 2432 then blkN s else 0
def blkM (s : Int) : Int := if 0 ≤ s ∧ s ≤ 2432 then indM (blkN s) else 0

def spnE (o n : Int) : Int := if o < 0 ∨ n < 0 then 4 else if 2432 < o + n then 107 else 0
def spnF (o n : Int) : Int := if spnE o n = 0 then o / 32 else 0
def spnK (o n : Int) : Int := if spnE o n = 0 then (if n = 0 then 0 else (o + n + 31) / 32 - o / 32) else 0

end Go.Proofs.Ytkpckadicjdieab

/-
  Stores, the program's and the document's, as data; how they lie in memory.
-/
namespace Go.Proofs.Ytkpckadicjdieab
open Go.RowKit

theorem Try.info4 : (Try.prog.info? 4).map (fun i => (i.zero, i.size, i.bytes)) = some (some (.bool false), 1, 1) := by kernel_rfl
theorem Try.info45 : (Try.prog.info? 45).map (fun i => (i.zero, i.size, i.bytes)) = some (some (.agg #[.int .i64 0, .slice none 0 0]), 2, 32) := by kernel_rfl
theorem Try.info36 : (Try.prog.info? 36).map (fun i => (i.zero, i.size, i.bytes)) = some (some (.agg #[.int .i64 0, .slice none 0 0]), 2, 32) := by kernel_rfl

def bL : Leaf Bool := boolL 4 Try.underlying4 (by kernel_rfl)
theorem cells23 : Try.prog.cellsOf 23 = 1 := by kernel_rfl
def boolsS : Shape (List Bool) := bL.row 23 Try.underlying23 cells23
theorem cells28 : Try.prog.cellsOf 28 = 1 := by kernel_rfl
def sgsN : Shape (List Sg) := sgN.list 28 Try.underlying28 cells28
theorem cells22 : Try.prog.cellsOf 22 = 1 := by kernel_rfl
def sgsR : Shape (List Sg) := sgR.list 22 Try.underlying22 cells22
/-- A store: its segments, what is held, what is open, the next number. -/
abbrev St := List Sg × List Bool × List Bk × Int
def stN : Shape St := (sgsN.and (boolsS.and (bksN.and i64S.only))).struct 31 ⟨_, Try.underlying31, rfl, rfl⟩ (by kernel_rfl)
def stR : Shape St := (sgsR.and (boolsS.and (bksR.and i64S.only))).struct 26 ⟨_, Try.underlying26, rfl, rfl⟩ (by kernel_rfl)

theorem st_viewN {n : Nat} {w : World} {us : List Value} {s : St} (h : stN.lies n w us s) : ∃ a c b d e f, us = [.slice a s.1.length c, .slice b s.2.1.length d, .slice e s.2.2.1.length f, .int .i64 s.2.2.2] ∧ sgsN.lies n w [.slice a s.1.length c] s.1 ∧ boolsS.lies n w [.slice b s.2.1.length d] s.2.1 ∧ bksN.lies n w [.slice e s.2.2.1.length f] s.2.2.1 ∧ I64 s.2.2.2 ∧ s.1.length ≤ maxLen ∧ s.2.1.length ≤ maxLen ∧ s.2.2.1.length ≤ maxLen := by
  obtain ⟨u1, r, rfl, h1, u2, r2, rfl, h2, u3, r3, rfl, h3, rfl, h4⟩ := h
  obtain ⟨a, c, rfl, _, m1, _⟩ := Shape.list_len (S := sgN) (ht := Try.underlying28) (hc := cells28) h1
  obtain ⟨b, d, rfl, _, m2, _⟩ := Leaf.row_len (L := bL) (ht := Try.underlying23) (hc := cells23) h2
  obtain ⟨e, f, rfl, _, m3, _⟩ := Shape.list_len (S := bkN) (ht := Try.underlying29) (hc := cells29) h3
  exact ⟨a, c, b, d, e, f, rfl, h1, h2, h3, bounds_i64 h4, m1, m2, m3⟩
theorem st_viewR {n : Nat} {w : World} {us : List Value} {s : St} (h : stR.lies n w us s) : ∃ a c b d e f, us = [.slice a s.1.length c, .slice b s.2.1.length d, .slice e s.2.2.1.length f, .int .i64 s.2.2.2] ∧ sgsR.lies n w [.slice a s.1.length c] s.1 ∧ boolsS.lies n w [.slice b s.2.1.length d] s.2.1 ∧ bksR.lies n w [.slice e s.2.2.1.length f] s.2.2.1 ∧ I64 s.2.2.2 ∧ s.1.length ≤ maxLen ∧ s.2.1.length ≤ maxLen ∧ s.2.2.1.length ≤ maxLen := by
  obtain ⟨u1, r, rfl, h1, u2, r2, rfl, h2, u3, r3, rfl, h3, rfl, h4⟩ := h
  obtain ⟨a, c, rfl, _, m1, _⟩ := Shape.list_len (S := sgR) (ht := Try.underlying22) (hc := cells22) h1
  obtain ⟨b, d, rfl, _, m2, _⟩ := Leaf.row_len (L := bL) (ht := Try.underlying23) (hc := cells23) h2
  obtain ⟨e, f, rfl, _, m3, _⟩ := Shape.list_len (S := bkR) (ht := Try.underlying24) (hc := cells24) h3
  exact ⟨a, c, b, d, e, f, rfl, h1, h2, h3, bounds_i64 h4, m1, m2, m3⟩
theorem st_mkN {n : Nat} {w : World} {v1 v2 v3 : Value} {s : St} (h1 : sgsN.lies n w [v1] s.1) (h2 : boolsS.lies n w [v2] s.2.1) (h3 : bksN.lies n w [v3] s.2.2.1) (h4 : I64 s.2.2.2) : stN.lies n w [v1, v2, v3, .int .i64 s.2.2.2] s := ⟨[_], [_, _, _], rfl, h1, [_], [_, _], rfl, h2, [_], [_], rfl, h3, rfl, h4.wf⟩
theorem st_mkR {n : Nat} {w : World} {v1 v2 v3 : Value} {s : St} (h1 : sgsR.lies n w [v1] s.1) (h2 : boolsS.lies n w [v2] s.2.1) (h3 : bksR.lies n w [v3] s.2.2.1) (h4 : I64 s.2.2.2) : stR.lies n w [v1, v2, v3, .int .i64 s.2.2.2] s := ⟨[_], [_, _, _], rfl, h1, [_], [_, _], rfl, h2, [_], [_], rfl, h3, rfl, h4.wf⟩
theorem st_omkN {n : Nat} {w : World} {v1 v2 v3 : Value} {s : St} (h1 : sgsN.owns n w [v1] s.1) (h2 : boolsS.owns n w [v2] s.2.1) (h3 : bksN.owns n w [v3] s.2.2.1) (h4 : I64 s.2.2.2) : stN.owns n w [v1, v2, v3, .int .i64 s.2.2.2] s := ⟨[_], [_, _, _], rfl, h1, [_], [_, _], rfl, h2, [_], [_], rfl, h3, rfl, h4.wf⟩
theorem st_omkR {n : Nat} {w : World} {v1 v2 v3 : Value} {s : St} (h1 : sgsR.owns n w [v1] s.1) (h2 : boolsS.owns n w [v2] s.2.1) (h3 : bksR.owns n w [v3] s.2.2.1) (h4 : I64 s.2.2.2) : stR.owns n w [v1, v2, v3, .int .i64 s.2.2.2] s := ⟨[_], [_, _, _], rfl, h1, [_], [_, _], rfl, h2, [_], [_], rfl, h3, rfl, h4.wf⟩
theorem st_ownN {n : Nat} {w : World} {us : List Value} {s : St} (h : stN.owns n w us s) : ∃ a c b d e f, us = [.slice a s.1.length c, .slice b s.2.1.length d, .slice e s.2.2.1.length f, .int .i64 s.2.2.2] ∧ sgsN.owns n w [.slice a s.1.length c] s.1 ∧ boolsS.owns n w [.slice b s.2.1.length d] s.2.1 ∧ bksN.owns n w [.slice e s.2.2.1.length f] s.2.2.1 ∧ I64 s.2.2.2 := by
  obtain ⟨u1, r, rfl, h1, u2, r2, rfl, h2, u3, r3, rfl, h3, rfl, h4⟩ := h
  obtain ⟨a, c, _, rfl, _⟩ := Shape.list_own (S := sgN) (ht := Try.underlying28) (hc := cells28) h1
  obtain ⟨b, d, rfl, _⟩ := Leaf.row_len (L := bL) (ht := Try.underlying23) (hc := cells23) (boolsS.olies h2)
  obtain ⟨e, f, _, rfl, _⟩ := Shape.list_own (S := bkN) (ht := Try.underlying29) (hc := cells29) h3
  exact ⟨a, c, b, d, e, f, rfl, h1, h2, h3, bounds_i64 h4⟩
theorem st_nilN (n : Nat) (w : World) : stN.owns n w [.slice none 0 0, .slice none 0 0, .slice none 0 0, .int .i64 0] ([], [], [], 0) :=
  st_omkN (s := ([], [], [], 0)) (Shape.list_nil sgN 28 Try.underlying28 cells28 n w) ⟨_, rfl, World.ownsRow_nil _ _ _ _, fun _ h => by cases h⟩ (Shape.list_nil bkN 29 Try.underlying29 cells29 n w) ⟨by show _ ≤ (0 : Int); omega, by show (0 : Int) ≤ _; omega⟩
theorem st_nilR (n : Nat) (w : World) : stR.owns n w [.slice none 0 0, .slice none 0 0, .slice none 0 0, .int .i64 0] ([], [], [], 0) :=
  st_omkR (s := ([], [], [], 0)) (Shape.list_nil sgR 22 Try.underlying22 cells22 n w) ⟨_, rfl, World.ownsRow_nil _ _ _ _, fun _ h => by cases h⟩ (Shape.list_nil bkR 24 Try.underlying24 cells24 n w) ⟨by show _ ≤ (0 : Int); omega, by show (0 : Int) ≤ _; omega⟩

/-- One segment of the segments: where it lies, and what it is. -/
theorem sgs_atN {n : Nat} {w : World} {v : Value} {l : List Sg} (h : sgsN.lies n w [v] l) (i : Nat) (p : Sg) (hp : l[i]? = some p) :
    ∃ b o a cap, (∀ W, (Instr.indexAt 28 v (.int .i64 i)).run Try.prog W = .ok (.pointer (some ⟨b, o, none⟩)) W) ∧ w.cell? ⟨b, o, none⟩ = some (.int .i64 p.1) ∧ w.cell? ⟨b, o + 1, none⟩ = some (.slice a p.2.length cap) ∧
      sgN.lies n w [.int .i64 p.1, .slice a p.2.length cap] p ∧ n ≤ b := by
  obtain ⟨i0, hi0, _, hz, _⟩ := info_parts Try.info45
  obtain ⟨b, o, us, hix, hb, hc, hl⟩ := Shape.list_at (S := sgN) (ht := Try.underlying28) (hc := cells28) h (by decide) hi0 hz i p hp
  obtain ⟨a, cap, rfl, _⟩ := sg_viewN hl
  exact ⟨b, o, a, cap, hix, hc 0 _ rfl, hc 1 _ rfl, hl, hb⟩
theorem sgs_atR {n : Nat} {w : World} {v : Value} {l : List Sg} (h : sgsR.lies n w [v] l) (i : Nat) (p : Sg) (hp : l[i]? = some p) :
    ∃ b o a cap, (∀ W, (Instr.indexAt 22 v (.int .i64 i)).run Try.prog W = .ok (.pointer (some ⟨b, o, none⟩)) W) ∧ w.cell? ⟨b, o, none⟩ = some (.int .i64 p.1) ∧ w.cell? ⟨b, o + 1, none⟩ = some (.slice a p.2.length cap) ∧
      sgR.lies n w [.int .i64 p.1, .slice a p.2.length cap] p ∧ n ≤ b := by
  obtain ⟨i0, hi0, _, hz, _⟩ := info_parts Try.info36
  obtain ⟨b, o, us, hix, hb, hc, hl⟩ := Shape.list_at (S := sgR) (ht := Try.underlying22) (hc := cells22) h (by decide) hi0 hz i p hp
  obtain ⟨a, cap, rfl, _⟩ := sg_viewR hl
  exact ⟨b, o, a, cap, hix, hc 0 _ rfl, hc 1 _ rfl, hl, hb⟩
theorem bools_at {n : Nat} {w : World} {v : Value} {l : List Bool} (h : boolsS.lies n w [v] l) (i : Nat) (p : Bool) (hp : l[i]? = some p) :
    ∃ b o, (∀ W, (Instr.indexAt 23 v (.int .i64 i)).run Try.prog W = .ok (.pointer (some ⟨b, o, none⟩)) W) ∧ n ≤ b ∧ w.cell? ⟨b, o, none⟩ = some (.bool p) := by
  obtain ⟨i0, hi0, _, hz, _⟩ := info_parts Try.info4
  obtain ⟨b, o, h1, h2, h3, _⟩ := Leaf.row_at (L := bL) (ht := Try.underlying23) (hc := cells23) h hi0 hz i p hp
  exact ⟨b, o, h1, h2, h3⟩

/-- As great as the form reads a store. -/
def FitsL (s : St) : Prop := (s.1.length * 32 ≤ 140737488351232 ∧ ∀ p ∈ s.1, Fits p) ∧ s.2.1.length ≤ 140737488351232 ∧ s.2.2.1.length * 40 ≤ 140737488351232 ∧ ∀ p ∈ s.2.2.1, p.2.2.length ≤ 140737488351232
theorem fits_st {s : St} (h : stR.fits s) : FitsL s := by
  obtain ⟨⟨h1, h2⟩, h3, ⟨h4, h5⟩, _⟩ := h
  have b80 : Try.prog.bytesOf 36 = 32 := by kernel_rfl
  have b29 : Try.prog.bytesOf 97 = 40 := by kernel_rfl
  have b5 : Try.prog.bytesOf 5 = 1 := by kernel_rfl
  have b4 : Try.prog.bytesOf 4 = 1 := by kernel_rfl
  refine ⟨⟨?_, fun p hp => fits_of (h2 p hp)⟩, ?_, ?_, fun p hp => ?_⟩
  · have h9 : s.1.length * Try.prog.bytesOf 36 ≤ 140737488351232 := h1
    rwa [b80] at h9
  · have h9 : s.2.1.length * Try.prog.bytesOf 4 ≤ 140737488351232 := h3
    rwa [b4, Nat.mul_one] at h9
  · have h9 : s.2.2.1.length * Try.prog.bytesOf 97 ≤ 140737488351232 := h4
    rwa [b29] at h9
  · obtain ⟨_, _, h8⟩ := h5 p hp
    have h9 : p.2.2.length * Try.prog.bytesOf 5 ≤ 140737488351232 := h8
    rwa [b5, Nat.mul_one] at h9

/-! Variables of four cells. -/
theorem Box.four {w : World} {B : Nat} {t : TypeId} {u v x y : Value} (h : Box w B t #[u, v, x, y]) : w.cell? ⟨B, 0, none⟩ = some u ∧ w.cell? ⟨B, 1, none⟩ = some v ∧ w.cell? ⟨B, 2, none⟩ = some x ∧ w.cell? ⟨B, 3, none⟩ = some y ∧ w.frozen? ⟨B, 0, none⟩ = false ∧ w.frozen? ⟨B, 1, none⟩ = false ∧ w.frozen? ⟨B, 2, none⟩ = false ∧ w.frozen? ⟨B, 3, none⟩ = false := ⟨h.cell 0 rfl, h.cell 1 rfl, h.cell 2 rfl, h.cell 3 rfl, h.frozen 0, h.frozen 1, h.frozen 2, h.frozen 3⟩
theorem below_set4 {B n : Nat} {w W : World} (h : Below n w W) (hn : n ≤ B) (u v x y : Value) : Below n w ((((W.setCell ⟨B, 0, none⟩ u).setCell ⟨B, 1, none⟩ v).setCell ⟨B, 2, none⟩ x).setCell ⟨B, 3, none⟩ y) := (below_set3 h hn u v x).setCell (p := ⟨B, 3, none⟩) hn y
theorem Same.set4 {n B : Nat} {w : World} {u v x y : Value} (hB : B < n) : Same n w ((((w.setCell ⟨B, 0, none⟩ u).setCell ⟨B, 1, none⟩ v).setCell ⟨B, 2, none⟩ x).setCell ⟨B, 3, none⟩ y) := Same.trans (.set3 hB) (by simp [World.setCell]) (.set hB)

end Go.Proofs.Ytkpckadicjdieab

/-
  What Check answers, the program's (by a closure) and the document's.
-/
namespace Go.Proofs.Ytkpckadicjdieab
open Go.RowKit

/-- May a block stand in a segment? -/
def mayB (p : Bk) : Bool := decide (1 ≤ p.1) && decide (p.1 ≤ 2147483647) && decide (0 ≤ p.2.1) && decide (p.2.1 ≤ 255) && decide (p.2.2.length ≤ 32)
theorem may_iff {p : Bk} : mayB p = true ↔ (1 ≤ p.1 ∧ p.1 ≤ 2147483647) ∧ (0 ≤ p.2.1 ∧ p.2.1 ≤ 255) ∧ p.2.2.length ≤ 32 := by
  simp only [mayB, Bool.and_eq_true, decide_eq_true_eq]
  constructor
  · rintro ⟨⟨⟨⟨a, b⟩, c⟩, d⟩, e⟩; exact ⟨⟨a, b⟩, ⟨c, d⟩, e⟩
  · rintro ⟨⟨a, b⟩, ⟨c, d⟩, e⟩; exact ⟨⟨⟨⟨a, b⟩, c⟩, d⟩, e⟩
/-- May a segment be? -/
def Chk (s : Sg) : Prop := (1 ≤ s.1 ∧ s.1 ≤ 1099511627776) ∧ (1 ≤ s.2.length ∧ s.2.length ≤ 8) ∧ s.2.all mayB = true
abbrev chkB (s : Sg) : Bool := decide ((1 ≤ s.1 ∧ s.1 ≤ 1099511627776) ∧ (1 ≤ s.2.length ∧ s.2.length ≤ 8) ∧ s.2.all mayB = true)
def cerr (s : Sg) : Int := if chkB s = true then 0 else 9
theorem cerr_ok {s : Sg} (h : Chk s) : cerr s = 0 := if_pos (by simp only [chkB, decide_eq_true_eq]; exact h)
theorem cerr_bad {s : Sg} (h : ¬ Chk s) : cerr s = 9 := if_neg (by simp only [chkB, decide_eq_true_eq]; exact h)
theorem cerr_zero {s : Sg} : cerr s = 0 ↔ Chk s := by
  constructor
  · intro h
    by_cases hc : Chk s
    · exact hc
    · rw [cerr_bad hc] at h; exact absurd h (by decide)
  · exact cerr_ok
theorem take_step {l : List Bk} {k : Nat} {p : Bk} (h : (l.take k).all mayB = true) (hp : l[k]? = some p) (h1 : mayB p = true) : (l.take (k + 1)).all mayB = true := by
  rw [take_snoc hp, List.all_append, h]
  simp [h1]
theorem take_all {l : List Bk} (h : (l.take l.length).all mayB = true) : l.all mayB = true := by rwa [List.take_length] at h
theorem all_not {l : List Bk} {k : Nat} {p : Bk} (hp : l[k]? = some p) (h : mayB p = false) : l.all mayB = false := by
  rw [List.all_eq_false]
  exact ⟨p, List.mem_of_getElem? hp, by rw [h]; decide⟩

set_option maxRecDepth 100000 in
set_option maxHeartbeats 2000000 in
theorem mayNot_any (x : Option Addr) (cap : Nat) (p : Bk) (hm : p.2.2.length ≤ maxLen) (w : World) :
    Calls Try.prog 72 #[.agg #[.int .i64 p.1, .int .i64 p.2.1, .slice x p.2.2.length cap]] w fun e w' => e = .returned (.bool (!mayB p)) ∧ Below w.heap.size w w' := by
  obtain ⟨o, i, d⟩ := p
  simp only at hm ⊢
  have HB : Hid (Below w.heap.size w (w.alloc (.cells #[.int .i64 o, .int .i64 i, .slice x d.length cap] 48))) := (Below.refl _ w).alloc (Nat.le_refl _) _
  have hl := run_len Try.underlying46 x d.length cap
  unfold maxLen at hm
  obtain ⟨r, hr⟩ : ∃ r, r = !mayB (o, i, d) := ⟨_, rfl⟩
  have HR : Hid (r = !mayB (o, i, d)) := hr
  rw [← hr]
  clear hr
  have hno : ∀ q : Prop, [Decidable q] → (mayB (o, i, d) = true → q) → ¬ q → r = true := fun q _ h1 h2 => by
    rw [HR.out]
    cases h : mayB (o, i, d)
    · rfl
    · exact absurd (h1 h) h2
  have HNO : Hid (¬ mayB (o, i, d) = true → r = true) := fun h => by rw [HR.out]; simpa using h
  clear hno
  by_cases h1 : o < 1
  · obtain rfl : r = true := HNO.out fun h => by have := (may_iff.1 h).1.1; simp only at this; omega
    go_enter Try.func72, Try.ntmps72
    go_wp2
    go_ret
    exact ⟨rfl, HB.out⟩
  by_cases h2 : 2147483647 < o
  · obtain rfl : r = true := HNO.out fun h => by have := (may_iff.1 h).1.2; simp only at this; omega
    go_enter Try.func72, Try.ntmps72
    go_wp2
    go_ret
    exact ⟨rfl, HB.out⟩
  by_cases h3 : i < 0
  · obtain rfl : r = true := HNO.out fun h => by have := (may_iff.1 h).2.1.1; simp only at this; omega
    go_enter Try.func72, Try.ntmps72
    go_wp2
    go_ret
    exact ⟨rfl, HB.out⟩
  by_cases h4 : 255 < i
  · obtain rfl : r = true := HNO.out fun h => by have := (may_iff.1 h).2.1.2; simp only at this; omega
    go_enter Try.func72, Try.ntmps72
    go_wp2
    go_ret
    exact ⟨rfl, HB.out⟩
  obtain ⟨n, hn⟩ : ∃ n, n = d.length := ⟨_, rfl⟩
  have HN : Hid (n = d.length) := hn
  rw [← hn] at HB hl hm ⊢
  clear hn
  by_cases h5 : 32 < n
  · obtain rfl : r = true := HNO.out fun h => by have h9 := (may_iff.1 h).2.2; have := HN.out; simp only at h9; omega
    have h5i : (32 : Int) < (n : Int) := by omega
    go_enter Try.func72, Try.ntmps72
    go_wp2
    go_ret
    exact ⟨rfl, HB.out⟩
  obtain rfl : r = false := by
    rw [HR.out, may_iff.2 ⟨⟨by simp only; omega, by simp only; omega⟩, ⟨by simp only; omega, by simp only; omega⟩, by have := HN.out; simp only; omega⟩]; rfl
  have h5i : ¬ (32 : Int) < (n : Int) := by omega
  go_enter Try.func72, Try.ntmps72
  go_wp2
  go_ret
  exact ⟨rfl, HB.out⟩

/-- The closure of Check, as a value. -/
def wrongV : Value := .func (.func 72) #[] #[]

set_option maxRecDepth 100000 in
set_option maxHeartbeats 2000000 in
theorem index_any (n0 : Nat) (v : Value) (l : List Bk) (w : World) (h : bksN.lies n0 w [v] l) :
    Calls Try.prog 95 #[v, wrongV] w fun e w' => (∃ r : Int, e = .returned (.int .i64 r) ∧ ((r = -1 ∧ l.all mayB = true) ∨ (0 ≤ r ∧ l.all mayB = false))) ∧ Below w.heap.size w w' := by
  obtain ⟨a, c, hv, _, hm, _⟩ := Shape.list_len (S := bkN) (ht := Try.underlying29) (hc := cells29) h
  obtain rfl : v = _ := by simpa using hv
  have HL : Hid (bksN.lies n0 w [.slice a l.length c] l) := h
  obtain ⟨n, hn⟩ : ∃ n, n = l.length := ⟨_, rfl⟩
  have HN : Hid (n = l.length) := hn
  rw [← hn] at HL hm ⊢
  unfold maxLen at hm
  have hl1 := run_len Try.underlying29 a n c
  clear h hv hn
  unfold wrongV
  go_enter Try.func95, Try.ntmps95
  go_wp2
  go_loopw [8] (fun i wr => ∃ k : Nat, k ≤ n ∧ i = .int .i64 k ∧ Hid ((l.take k).all mayB = true) ∧ Below w.heap.size w wr) (fun i _ => n - (intOf i).toNat)
  case atStart => exact ⟨0, Nat.zero_le _, rfl, by show _ = _; simp, Below.refl _ _⟩
  case round =>
    obtain ⟨k, hk, rfl, HK, hbel⟩ := hrel
    by_cases hlt : k < n
    · obtain ⟨p, hp⟩ := get_lt (l := l) (k := k) (by rw [← HN.out]; exact hlt)
      obtain ⟨b, o, x, cap, hix, g0, g1, g2, hA, _⟩ := bks_atN (bksN.below HL.out hbel) k p hp
      have HP : Hid (l[k]? = some p) := hp
      have HB : Hid (Below w.heap.size w wr) := hbel
      have hki : (k : Int) < (n : Int) := by omega
      have HC := mayNot_any x cap p (by obtain ⟨_, _, _, _, h1, _⟩ := hA.shape; exact h1) wr
      clear hp hbel hA
      cases hok : mayB p
      · rw [hok] at HC
        have HA : Hid (l.all mayB = false) := all_not HP.out hok
        go_wp2_with fail
        refine HC.mono ?_
        rintro e w2 ⟨rfl, hb2⟩
        go_wp2
        go_ret
        exact ⟨⟨k, rfl, .inr ⟨by omega, HA.out⟩⟩, below_any HB.out hb2⟩
      · rw [hok] at HC
        have HK2 : Hid ((l.take (k + 1)).all mayB = true) := take_step HK.out HP.out hok
        go_wp2_with fail
        refine HC.mono ?_
        rintro e w2 ⟨rfl, hb2⟩
        have HB2 : Hid (Below w.heap.size w w2) := below_any HB.out hb2
        clear hb2
        go_wp2
        go_roundw
        case rel => exact ⟨k + 1, by omega, by go_num, HK2, HB2.out⟩
        case measure => simp [intOf]; omega
    · obtain rfl : k = n := by omega
      have HA : Hid (l.all mayB = true) := take_all (by rw [← HN.out]; exact HK.out)
      clear HK
      go_wp2
      go_ret
      exact ⟨⟨-1, rfl, .inl ⟨rfl, HA.out⟩⟩, hbel⟩

set_option maxHeartbeats 1000000 in
theorem contains_any (n0 : Nat) (v : Value) (l : List Bk) (w : World) (h : bksN.lies n0 w [v] l) :
    Calls Try.prog 73 #[v, wrongV] w fun e w' => e = .returned (.bool (!l.all mayB)) ∧ Below w.heap.size w w' := by
  have HC := index_any n0 v l w h
  clear h
  unfold wrongV at HC ⊢
  obtain ⟨al, hal⟩ : ∃ x, x = l.all mayB := ⟨_, rfl⟩
  rw [← hal] at HC ⊢
  clear hal
  go_enter Try.func73, Try.ntmps73
  go_wp2_with fail
  refine HC.mono ?_
  rintro e w2 ⟨⟨r, rfl, hr⟩, hb2⟩
  rcases hr with ⟨rfl, rfl⟩ | ⟨h0, rfl⟩
  · go_wp2
    go_ret
    exact ⟨rfl, hb2⟩
  · go_wp2
    go_ret
    exact ⟨by simp, hb2⟩

set_option maxRecDepth 100000 in
set_option maxHeartbeats 2000000 in
theorem check_any (n0 : Nat) (us : List Value) (s : Sg) (w : World) (h : sgN.lies n0 w us s) :
    Calls Try.prog 42 #[.agg us.toArray] w fun e w' => e = .returned (.int .i64 (cerr s)) ∧ Below w.heap.size w w' := by
  obtain ⟨a, c, rfl, hL, hi, hm⟩ := sg_viewN h
  obtain ⟨q, l⟩ := s
  simp only at hL hi hm
  unfold maxLen at hm
  obtain ⟨W, hW⟩ : ∃ W, W = w.alloc (.cells #[.int .i64 q, .slice a l.length c] 45) := ⟨_, rfl⟩
  have hb : Below w.heap.size w W := by rw [hW]; exact (Below.refl _ w).alloc (Nat.le_refl _) _
  have hP : Box W w.heap.size 45 #[.int .i64 q, .slice a l.length c] := by rw [hW]; exact Box.new w _ _
  have HC := contains_any n0 (.slice a l.length c) l W (bksN.below hL hb)
  unfold wrongV at HC
  have HW : Hid (Below w.heap.size w W) := hb
  obtain ⟨ce, hce⟩ : ∃ x, x = cerr (q, l) := ⟨_, rfl⟩
  have HCB : Hid (¬ Chk (q, l) → ce = 9) := fun h => by rw [hce]; exact cerr_bad h
  have HCO : Hid (Chk (q, l) → ce = 0) := fun h => by rw [hce]; exact cerr_ok h
  rw [← hce]
  obtain ⟨al, hal⟩ : ∃ x, x = l.all mayB := ⟨_, rfl⟩
  have HAL : Hid (al = l.all mayB) := hal
  rw [← hal] at HC
  obtain ⟨n, hn⟩ : ∃ n, n = l.length := ⟨_, rfl⟩
  have HN : Hid (n = l.length) := hn
  rw [← hn] at HC hW hP hm
  simp only
  rw [← hn]
  have hl1 := run_len Try.underlying29 a n c
  obtain ⟨g0, g1, _, _⟩ := hP.two
  clear h hL hb hce hP hal hn
  by_cases h1 : q < 1
  · obtain rfl : ce = 9 := HCB.out fun h => by have := h.1.1; simp only at this; omega
    rw [hW] at HW
    clear HC g0 g1 hW
    go_enter Try.func42, Try.ntmps42
    go_wp2
    go_ret
    exact ⟨rfl, HW.out⟩
  by_cases h2 : 1099511627776 < q
  · obtain rfl : ce = 9 := HCB.out fun h => by have := h.1.2; simp only at this; omega
    rw [hW] at HW
    clear HC g0 g1 hW
    go_enter Try.func42, Try.ntmps42
    go_wp2
    go_ret
    exact ⟨rfl, HW.out⟩
  by_cases h3 : n < 1
  · obtain rfl : ce = 9 := HCB.out fun h => by have h9 := h.2.1.1; have := HN.out; simp only at h9; omega
    have h3i : (n : Int) < 1 := by omega
    rw [hW] at HW
    clear HC g0 g1 hW
    go_enter Try.func42, Try.ntmps42
    go_wp2
    go_ret
    exact ⟨rfl, HW.out⟩
  have h3i : ¬ (n : Int) < 1 := by omega
  by_cases h4 : 8 < n
  · obtain rfl : ce = 9 := HCB.out fun h => by have h9 := h.2.1.2; have := HN.out; simp only at h9; omega
    have h4i : (8 : Int) < (n : Int) := by omega
    rw [hW] at HW
    clear HC g0 g1 hW
    go_enter Try.func42, Try.ntmps42
    go_wp2
    go_ret
    exact ⟨rfl, HW.out⟩
  have h4i : ¬ (8 : Int) < (n : Int) := by omega
  rw [hW] at g0 g1
  cases h5 : al
  · obtain rfl : ce = 9 := HCB.out fun h => by have := h.2.2; rw [← HAL.out, h5] at this; cases this
    rw [h5] at HC
    go_enter Try.func42, Try.ntmps42
    go_wp2_with fail
    rw [← hW]
    clear hW
    refine HC.mono ?_
    rintro e w2 ⟨rfl, hb2⟩
    go_wp2
    go_ret
    exact ⟨rfl, below_any HW.out hb2⟩
  · obtain rfl : ce = 0 := HCO.out ⟨⟨by simp only; omega, by simp only; omega⟩, ⟨by have := HN.out; simp only; omega, by have := HN.out; simp only; omega⟩, by rw [← HAL.out]; exact h5⟩
    rw [h5] at HC
    go_enter Try.func42, Try.ntmps42
    go_wp2_with fail
    rw [← hW]
    clear hW
    refine HC.mono ?_
    rintro e w2 ⟨rfl, hb2⟩
    go_wp2
    go_ret
    exact ⟨rfl, below_any HW.out hb2⟩

end Go.Proofs.Ytkpckadicjdieab

/-
  Plain mathematics: which stores may be; versions, the last one of each kind.
-/
namespace Go.Proofs.Ytkpckadicjdieab
open Go.RowKit

/-- A slot without a segment. -/
def freeB (p : Sg) : Bool := decide (p.1 = 0) && decide (p.2.length = 0)
theorem free_iff {p : Sg} : freeB p = true ↔ p.1 = 0 ∧ p.2.length = 0 := by simp [freeB]
/-- The numbers of the segments. -/
def seqs (l : List Sg) : List Int := (l.filter fun p => !freeB p).map (·.1)
/-- May a store be? -/
structure Ok (s : St) : Prop where
  slots : 1 ≤ s.1.length ∧ s.1.length ≤ 64
  held : s.2.1.length = s.1.length
  next : 1 ≤ s.2.2.2 ∧ s.2.2.2 ≤ 1099511627776
  few : s.2.2.1.length ≤ 8
  may : s.2.2.1.all mayB = true
  each : ∀ p ∈ s.1, freeB p = false → Chk p ∧ p.1 < s.2.2.2
  apart : (seqs s.1).Nodup
theorem seqs_snoc (l : List Sg) (p : Sg) : seqs (l ++ [p]) = if freeB p = true then seqs l else seqs l ++ [p.1] := by
  unfold seqs
  rw [List.filter_append]
  cases h : freeB p <;> simp [h]
theorem seqs_take {l : List Sg} {k : Nat} {p : Sg} (h : l[k]? = some p) : seqs (l.take (k + 1)) = if freeB p = true then seqs (l.take k) else seqs (l.take k) ++ [p.1] := by rw [take_snoc h, seqs_snoc]
theorem nodup_of_take {l : List Sg} {k : Nat} (h : (seqs l).Nodup) : (seqs (l.take k)).Nodup := by
  unfold seqs at *
  have h1 : ((l.take k).filter fun p => !freeB p).map (·.1) <+: (l.filter fun p => !freeB p).map (·.1) := by
    refine List.IsPrefix.map _ ?_
    exact List.IsPrefix.filter _ (List.take_prefix k l)
  exact h.sublist h1.sublist

/-- Each version: its number, its place, the block. -/
abbrev Ver := Int × Nat × Bk
def plc (q : Int) (l : List Bk) : List Ver := l.zipIdx.map fun p => (q, p.2, p.1)
theorem plc_snoc (q : Int) (l : List Bk) (b : Bk) : plc q (l ++ [b]) = plc q l ++ [(q, l.length, b)] := by simp [plc, List.zipIdx_append]
theorem plc_take {q : Int} {l : List Bk} {k : Nat} {b : Bk} (h : l[k]? = some b) : plc q (l.take (k + 1)) = plc q (l.take k) ++ [(q, k, b)] := by
  have hk := (List.getElem?_eq_some_iff.1 h).1
  rw [take_snoc h, plc_snoc, List.length_take, Nat.min_eq_left (by omega)]
def segv (l : List Sg) : List Ver := (l.map fun p => plc p.1 p.2).flatten
theorem segv_snoc (l : List Sg) (p : Sg) : segv (l ++ [p]) = segv l ++ plc p.1 p.2 := by simp [segv]
theorem segv_take {l : List Sg} {k : Nat} {p : Sg} (h : l[k]? = some p) : segv (l.take (k + 1)) = segv (l.take k) ++ plc p.1 p.2 := by rw [take_snoc h, segv_snoc]
def vers (s : St) : List Ver := segv s.1 ++ plc s.2.2.2 s.2.2.1
/-- What is known of a kind: the block, its number, its place, of how many versions it is the last. -/
abbrev Kn := Bk × Int × Nat × Nat
def kn0 : Kn := ((0, 0, []), 0, 0, 0)
def knStep (v : Kn) (x : Ver) : Kn := if v.2.1 ≤ x.1 then (x.2.2, x.1, x.2.1, v.2.2.2 + 1) else (v.1, v.2.1, v.2.2.1, v.2.2.2 + 1)
def isK (o i : Int) (x : Ver) : Bool := decide (x.2.2.1 = o) && decide (x.2.2.2.1 = i)
def kn (l : List Ver) (o i : Int) : Kn := (l.filter (isK o i)).foldl knStep kn0
theorem kn_nil (o i : Int) : kn [] o i = kn0 := rfl
theorem kn_snoc (l : List Ver) (x : Ver) (o i : Int) : kn (l ++ [x]) o i = if isK o i x = true then knStep (kn l o i) x else kn l o i := by
  unfold kn
  rw [List.filter_append, List.foldl_append]
  cases h : isK o i x <;> simp [h]
theorem kn_same (l : List Ver) (q : Int) (k : Nat) (b : Bk) : kn (l ++ [(q, k, b)]) b.1 b.2.1 = knStep (kn l b.1 b.2.1) (q, k, b) := by
  rw [kn_snoc, if_pos (by simp [isK])]
theorem kn_other (l : List Ver) (q : Int) (k : Nat) (b : Bk) {o i : Int} (h : ¬ (o = b.1 ∧ i = b.2.1)) : kn (l ++ [(q, k, b)]) o i = kn l o i := by
  rw [kn_snoc, if_neg]
  simp only [isK, Bool.and_eq_true, decide_eq_true_eq]
  exact fun e => h ⟨e.1.symm, e.2.symm⟩
def last (s : St) (o i : Int) : Kn := kn (vers s) o i

end Go.Proofs.Ytkpckadicjdieab

/-
  The document's stores as four values.
-/
namespace Go.Proofs.Ytkpckadicjdieab
open Go.RowKit

theorem st_flatL {n : Nat} {w : World} {us : List Value} {s : St} (h : stR.lies n w us s) : ∃ a n1 c b n2 d e n3 f q, us = [.slice a n1 c, .slice b n2 d, .slice e n3 f, .int .i64 q] := by
  obtain ⟨a, c, b, d, e, f, h, _⟩ := st_viewR h
  exact ⟨a, _, c, b, _, d, e, _, f, _, h⟩
theorem st_flatR {n : Nat} {w : World} {us : List Value} {s : St} (h : stR.owns n w us s) : ∃ a n1 c b n2 d e n3 f q, us = [.slice a n1 c, .slice b n2 d, .slice e n3 f, .int .i64 q] := st_flatL (stR.olies h)

end Go.Proofs.Ytkpckadicjdieab

/-
  What the document's Check answers.
-/
namespace Go.Proofs.Ytkpckadicjdieab
open Go.RowKit

set_option maxRecDepth 100000 in
set_option maxHeartbeats 2000000 in
theorem rmay_any (x : Option Addr) (cap : Nat) (p : Bk) (hm : p.2.2.length ≤ maxLen) (w : World) :
    Calls Try.prog 46 #[.agg #[.int .i64 p.1, .int .i64 p.2.1, .slice x p.2.2.length cap]] w fun e w' => e = .returned (.bool (mayB p)) ∧ Below w.heap.size w w' := by
  obtain ⟨o, i, d⟩ := p
  simp only at hm ⊢
  have HB : Hid (Below w.heap.size w (w.alloc (.cells #[.int .i64 o, .int .i64 i, .slice x d.length cap] 97))) := (Below.refl _ w).alloc (Nat.le_refl _) _
  have hl := run_len Try.underlying46 x d.length cap
  unfold maxLen at hm
  obtain ⟨r, hr⟩ : ∃ r, r = mayB (o, i, d) := ⟨_, rfl⟩
  have HR : Hid (r = mayB (o, i, d)) := hr
  rw [← hr]
  clear hr
  have HNO : Hid (¬ mayB (o, i, d) = true → r = false) := fun h => by rw [HR.out]; simpa using h
  by_cases h1 : 1 ≤ o
  case neg =>
    obtain rfl : r = false := HNO.out fun h => by have := (may_iff.1 h).1.1; simp only at this; omega
    go_enter Try.func46, Try.ntmps46
    go_wp2
    go_ret
    exact ⟨rfl, HB.out⟩
  by_cases h2 : o ≤ 2147483647
  case neg =>
    obtain rfl : r = false := HNO.out fun h => by have := (may_iff.1 h).1.2; simp only at this; omega
    go_enter Try.func46, Try.ntmps46
    go_wp2
    go_ret
    exact ⟨rfl, HB.out⟩
  by_cases h3 : 0 ≤ i
  case neg =>
    obtain rfl : r = false := HNO.out fun h => by have := (may_iff.1 h).2.1.1; simp only at this; omega
    go_enter Try.func46, Try.ntmps46
    go_wp2
    go_ret
    exact ⟨rfl, HB.out⟩
  by_cases h4 : i ≤ 255
  case neg =>
    obtain rfl : r = false := HNO.out fun h => by have := (may_iff.1 h).2.1.2; simp only at this; omega
    go_enter Try.func46, Try.ntmps46
    go_wp2
    go_ret
    exact ⟨rfl, HB.out⟩
  obtain ⟨n, hn⟩ : ∃ n, n = d.length := ⟨_, rfl⟩
  have HN : Hid (n = d.length) := hn
  rw [← hn] at HB hl hm ⊢
  clear hn
  by_cases h5 : n ≤ 32
  case neg =>
    obtain rfl : r = false := HNO.out fun h => by have h9 := (may_iff.1 h).2.2; have := HN.out; simp only at h9; omega
    have h5i : ¬ (n : Int) ≤ 32 := by omega
    go_enter Try.func46, Try.ntmps46
    go_wp2
    go_ret
    exact ⟨rfl, HB.out⟩
  obtain rfl : r = true := by
    rw [HR.out, may_iff.2 ⟨⟨by simp only; omega, by simp only; omega⟩, ⟨by simp only; omega, by simp only; omega⟩, by have := HN.out; simp only; omega⟩]
  have h5i : (n : Int) ≤ 32 := by omega
  go_enter Try.func46, Try.ntmps46
  go_wp2
  go_ret
  exact ⟨rfl, HB.out⟩


set_option maxRecDepth 100000 in
set_option maxHeartbeats 2000000 in
theorem rcheck_any (n0 : Nat) (us : List Value) (s : Sg) (w : World) (h : sgR.lies n0 w us s) :
    Calls Try.prog 45 #[.agg us.toArray] w fun e w' => e = .returned (.int .i64 (cerr s)) ∧ Below w.heap.size w w' := by
  obtain ⟨a, c, rfl, hL, hi, hm⟩ := sg_viewR h
  obtain ⟨q, l⟩ := s
  simp only at hL hi hm
  unfold maxLen at hm
  obtain ⟨W, hW⟩ : ∃ W, W = w.alloc (.cells #[.int .i64 q, .slice a l.length c] 36) := ⟨_, rfl⟩
  have hb : Below w.heap.size w W := by rw [hW]; exact (Below.refl _ w).alloc (Nat.le_refl _) _
  have hP : Box W w.heap.size 36 #[.int .i64 q, .slice a l.length c] := by rw [hW]; exact Box.new w _ _
  have HW : Hid (Below w.heap.size w W ∧ bksR.lies n0 W [.slice a l.length c] l ∧ Box W w.heap.size 36 #[.int .i64 q, .slice a l.length c]) := ⟨hb, bksR.below hL hb, hP⟩
  obtain ⟨ce, hce⟩ : ∃ x, x = cerr (q, l) := ⟨_, rfl⟩
  have HCB : Hid (¬ Chk (q, l) → ce = 9) := fun h => by rw [hce]; exact cerr_bad h
  have HCO : Hid (Chk (q, l) → ce = 0) := fun h => by rw [hce]; exact cerr_ok h
  rw [← hce]
  obtain ⟨n, hn⟩ : ∃ n, n = l.length := ⟨_, rfl⟩
  have HN : Hid (n = l.length) := hn
  rw [← hn] at HW hW hm
  simp only
  rw [← hn]
  have hl1 := run_len Try.underlying24 a n c
  clear h hL hb hce hP hn
  by_cases h1 : q < 1
  · obtain rfl : ce = 9 := HCB.out fun h => by have := h.1.1; simp only at this; omega
    rw [hW] at HW
    clear hW
    go_enter Try.func45, Try.ntmps45
    go_wp2
    go_ret
    exact ⟨rfl, HW.out.1⟩
  by_cases h2 : 1099511627776 < q
  · obtain rfl : ce = 9 := HCB.out fun h => by have := h.1.2; simp only at this; omega
    rw [hW] at HW
    clear hW
    go_enter Try.func45, Try.ntmps45
    go_wp2
    go_ret
    exact ⟨rfl, HW.out.1⟩
  by_cases h3 : n < 1
  · obtain rfl : ce = 9 := HCB.out fun h => by have h9 := h.2.1.1; have := HN.out; simp only at h9; omega
    have h3i : (n : Int) < 1 := by omega
    rw [hW] at HW
    clear hW
    go_enter Try.func45, Try.ntmps45
    go_wp2
    go_ret
    exact ⟨rfl, HW.out.1⟩
  have h3i : ¬ (n : Int) < 1 := by omega
  by_cases h4 : 8 < n
  · obtain rfl : ce = 9 := HCB.out fun h => by have h9 := h.2.1.2; have := HN.out; simp only at h9; omega
    have h4i : (8 : Int) < (n : Int) := by omega
    rw [hW] at HW
    clear hW
    go_enter Try.func45, Try.ntmps45
    go_wp2
    go_ret
    exact ⟨rfl, HW.out.1⟩
  have h4i : ¬ (8 : Int) < (n : Int) := by omega
  obtain ⟨g0, g1, -, -⟩ := HW.out.2.2.two
  rw [hW] at g0 g1
  go_enter Try.func45, Try.ntmps45
  go_wp2
  rw [← hW]
  clear hW g0 g1
  go_loopw [3] (fun i wr => ∃ k : Nat, k ≤ n ∧ i = .int .i64 k ∧ Hid ((l.take k).all mayB = true) ∧ Hid (Below W.heap.size W wr)) (fun i _ => n - (intOf i).toNat)
  case atStart => exact ⟨0, Nat.zero_le _, rfl, by show _ = _; simp, Below.refl _ _⟩
  case round =>
    obtain ⟨k, hk, rfl, HK, HB⟩ := hrel
    obtain ⟨g0, g1, -, -⟩ := (HW.out.2.2.below HB.out HW.out.2.2.lt).two
    by_cases hlt : k < n
    · obtain ⟨p, hp⟩ := get_lt (l := l) (k := k) (by rw [← HN.out]; exact hlt)
      obtain ⟨b, o, x, cap, hix, c0, c1, c2, hA, _⟩ := bks_atR (bksR.below HW.out.2.1 HB.out) k p hp
      have HP : Hid (l[k]? = some p) := hp
      have hki : (k : Int) < (n : Int) := by omega
      have HC := rmay_any x cap p (by obtain ⟨_, _, _, _, h1, _⟩ := hA.shape; exact h1) wr
      clear hp hA
      cases hok : mayB p
      · rw [hok] at HC
        obtain rfl : ce = 9 := HCB.out fun h => by have h9 := h.2.2; simp only at h9; rw [all_not HP.out hok] at h9; cases h9
        go_wp2_with fail
        refine HC.mono ?_
        rintro e w2 ⟨rfl, hb2⟩
        have HB2 : Hid (Below w.heap.size w w2) := below_any (below_any HW.out.1 HB.out) hb2
        go_wp2
        go_ret
        exact ⟨rfl, HB2.out⟩
      · rw [hok] at HC
        have HK2 : Hid ((l.take (k + 1)).all mayB = true) := take_step HK.out HP.out hok
        go_wp2_with fail
        refine HC.mono ?_
        rintro e w2 ⟨rfl, hb2⟩
        have HB2 : Hid (Below W.heap.size W w2) := below_any HB.out hb2
        clear hb2 g0 g1 c0 c1 c2
        go_wp2
        go_roundw
        case rel => exact ⟨k + 1, by omega, by go_num, HK2, HB2⟩
        case measure => simp [intOf]; omega
    · obtain rfl : k = n := by omega
      obtain rfl : ce = 0 := HCO.out ⟨⟨by simp only; omega, by simp only; omega⟩, ⟨by have := HN.out; simp only; omega, by have := HN.out; simp only; omega⟩, take_all (by rw [← HN.out]; exact HK.out)⟩
      clear HK
      go_wp2
      go_ret
      exact ⟨rfl, below_any HW.out.1 HB.out⟩

end Go.Proofs.Ytkpckadicjdieab
