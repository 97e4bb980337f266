/-
  Shapes: how a piece of data lies in cells, what keeps it, how it is read by the form, and how great it can be: for numbers, truths, texts, slices of any shape, and structs of any fields.
-/
import Derived.Test.YthlfgpnabcplnaaDoorTf7
import Derived.OpenShut
import Derived.ShutString
import Derived.ChangeOld
import Derived.SizedLaws
import Derived.Deep.Slices
namespace Go.Proofs.YthlfgpnabcplnaaDoor
open Go.ChangeShapes Go.WideShapes Go.ChangeAt Go.RowKit Go.Deep

structure Shape (α : Type) where
  ty : TypeId
  size : Nat
  ids : List TypeId
  lies : Nat → World → List Value → α → Prop
  owns : Nat → World → List Value → α → Prop
  fits : α → Prop
  cells : Tryd.prog.cellsOf ty = size
  length : ∀ {n w us a}, lies n w us a → us.length = size
  ones : ∀ {n w us a}, lies n w us a → ∀ u ∈ us, u.oneCell' = true
  keep : ∀ {n w w' us a}, lies n w us a → Same n w w' → lies n w' us a
  weaken : ∀ {n m w us a}, lies n w us a → m ≤ n → lies m w us a
  osame : ∀ {n w w' us a}, owns n w us a → Same n w w' → owns n w' us a
  oweaken : ∀ {n m w us a}, owns n w us a → m ≤ n → owns m w us a
  olies : ∀ {n w us a}, owns n w us a → lies n w us a
  ogrown : ∀ {n w w' us a row}, owns n w us a → w.grownBy w' row → Clear w row ids → owns n w' us a
  reads : ∀ {H : Type} {enc : TypeId × Value → H} {W : World} {fuel : Nat} {cs : List Value} {x : DataW H × List MemPlace}, DataW.trod enc Tryd.prog W 0 (fun _ => true) true fuel ty cs = some x →
    ∃ a, lies 0 W cs a ∧ ((∀ n ∈ x.1.weights Tryd.prog ty, n ≤ reachBytes) → fits a)

theorem Shape.below {α : Type} (S : Shape α) {n : Nat} {w w' : World} {us : List Value} {a : α} (h : S.lies n w us a) (hb : Below w.heap.size w w') : S.lies n w' us a := S.keep h (.of_below hb)
theorem Shape.obelow {α : Type} (S : Shape α) {n : Nat} {w w' : World} {us : List Value} {a : α} (h : S.owns n w us a) (hb : Below w.heap.size w w') : S.owns n w' us a := S.osame h (.of_below hb)

theorem add_add (x : Addr) (i j : Nat) : (x.add i).add j = x.add (i + j) := by
  obtain ⟨b, o, spot⟩ := x
  by_cases hi : i = 0 <;> by_cases hj : j = 0 <;> simp [Addr.add, hi, hj] <;> omega

/-! One-cell elements. -/

structure Leaf (α : Type) where
  ty : TypeId
  val : α → Value
  ok : α → Prop
  cells : Tryd.prog.cellsOf ty = 1
  one : ∀ x, (val x).oneCell' = true
  reads : ∀ {H : Type} {enc : TypeId × Value → H} {W : World} {fuel : Nat} {cs : List Value} {x : DataW H × List MemPlace}, DataW.trod enc Tryd.prog W 0 (fun _ => true) true fuel ty cs = some x → ∃ a, cs = [val a] ∧ ok a

def intL (k : IntKind) (t : TypeId) (ht : Tryd.prog.underlying t = some (.int k)) (hc : Tryd.prog.cellsOf t = 1) : Leaf Int where
  ty := t
  val := .int k
  ok x := (Lit.int k x).wf = true
  cells := hc
  one _ := rfl
  reads h := by
    obtain ⟨n, h1, _, h3⟩ := DataW.trod_int ht h
    exact ⟨n, h1, h3⟩

def boolL (t : TypeId) (ht : Tryd.prog.underlying t = some .bool) (hc : Tryd.prog.cellsOf t = 1) : Leaf Bool where
  ty := t
  val := .bool
  ok _ := True
  cells := hc
  one _ := rfl
  reads h := by
    obtain ⟨n, h1, _⟩ := DataW.trod_bool ht h
    exact ⟨n, h1, trivial⟩

def Leaf.shape {α : Type} (L : Leaf α) : Shape α where
  ty := L.ty
  size := 1
  ids := []
  lies _ _ us x := us = [L.val x] ∧ L.ok x
  owns _ _ us x := us = [L.val x] ∧ L.ok x
  fits _ := True
  cells := L.cells
  length h := by rw [h.1]; rfl
  ones := fun h u hu => by
    rw [h.1] at hu
    rw [List.mem_singleton.1 hu]
    exact L.one _
  keep h _ := h
  weaken h _ := h
  osame h _ := h
  oweaken h _ := h
  olies h := h
  ogrown h _ _ := h
  reads h := by
    obtain ⟨a, h1, h2⟩ := L.reads h
    exact ⟨a, ⟨h1, h2⟩, fun _ => trivial⟩

theorem weights_all_mem {H : Type} {e : TypeId} : ∀ {ds : List (DataW H)} {d : DataW H}, d ∈ ds → ∀ n ∈ d.weights Tryd.prog e, n ∈ DataW.weightsAll Tryd.prog e ds
  | x :: r, d, hd, n, hn => by
    simp only [DataW.weightsAll, List.mem_append]
    rcases List.mem_cons.1 hd with rfl | h
    · exact .inl hn
    · exact .inr (weights_all_mem h n hn)
  | [], _, hd, _, _ => by cases hd

/-! Slices of one-cell elements. -/

def Leaf.row {α : Type} [Inhabited α] (L : Leaf α) (t : TypeId) (ht : Tryd.prog.underlying t = some (.slice L.ty)) (hc : Tryd.prog.cellsOf t = 1) : Shape (List α) where
  ty := t
  size := 1
  ids := [L.ty]
  lies n w us l := ∃ v, us = [v] ∧ Cells n w 1 v l.length (l.map L.val) ∧ ∀ x ∈ l, L.ok x
  owns n w us l := ∃ v, us = [v] ∧ w.ownsRow n L.ty 1 v l.length (l.map L.val) ∧ ∀ x ∈ l, L.ok x
  fits l := l.length * Tryd.prog.bytesOf L.ty ≤ 140737488351232
  cells := hc
  length := fun ⟨v, h, _⟩ => by rw [h]; rfl
  ones := fun ⟨v, h, hC, _⟩ u hu => by
    rw [h] at hu
    obtain rfl : u = v := by simpa using hu
    obtain ⟨a, c, rfl, _⟩ := hC.shape
    rfl
  keep := fun ⟨v, h, hC, hk⟩ hs => ⟨v, h, hC.keep hs, hk⟩
  weaken := fun ⟨v, h, hC, hk⟩ hs => ⟨v, h, hC.weaken hs, hk⟩
  osame := fun ⟨v, h, hC, hk⟩ hs => ⟨v, h, own_same hC hs, hk⟩
  oweaken := fun ⟨v, h, hC, hk⟩ hs => ⟨v, h, own_weaken hC hs, hk⟩
  olies := fun ⟨v, h, hC, hk⟩ => ⟨v, h, .own hC, hk⟩
  ogrown := fun ⟨v, h, hC, hk⟩ hg hcl => ⟨v, h, hC.kept hg (hcl.apart hC (by simp)), hk⟩
  reads {H enc W fuel cs x} hf := by
    rcases open_slice1 ht L.cells hf with ⟨rfl, rfl⟩ | ⟨a, len, cap, m, n, V, D, Pl, rfl, _, hl, hm, hmm, rfl, hx⟩
    · exact ⟨[], ⟨_, rfl, ⟨rfl, .inl ⟨rfl, rfl⟩⟩, fun x hx => by cases hx⟩, fun _ => by simp⟩
    · simp only [if_true] at hmm
      subst hmm
      obtain ⟨A, hA⟩ := choose_lt (n := len) (p := fun i (a : α) => V i = L.val a ∧ L.ok a) (fun i hi => by
        obtain ⟨a, h1, h2⟩ := L.reads (hx i (by omega)).2
        exact ⟨a, by simpa using h1, h2⟩)
      refine ⟨(List.range len).map A, ⟨_, rfl, ⟨by simp, .inr ⟨a, m, by simp, by simpa using hl, by simp; omega, Nat.zero_le _, fun i u hu => ?_⟩⟩, fun x hx => ?_⟩, fun hw => ?_⟩
      · have hi : i < len := by
          have := (List.getElem?_eq_some_iff.1 hu).1
          simpa using this
        rw [List.getElem?_map, List.getElem?_map, List.getElem?_range hi] at hu
        obtain rfl : L.val (A i) = u := by simpa using hu
        rw [← (hA i hi).1]
        exact (hx i (by omega)).1
      · obtain ⟨i, hi, rfl⟩ := List.mem_map.1 hx
        exact (hA i (by simpa using hi)).2
      · have h1 := hw (((List.range len).map D).length * Tryd.prog.bytesOf L.ty + ((List.range (m - len)).map fun j => D (len + j)).length * Tryd.prog.bytesOf L.ty) (by
          show _ ∈ DataW.weights Tryd.prog t (.slice _ _)
          simp only [DataW.weights, ht]
          rw [← Nat.add_mul]
          exact List.mem_cons_self ..)
        simp only [reachBytes, List.length_map, List.length_range] at h1 ⊢
        omega

/-! Slices of any shape. -/

def Shape.list {α : Type} [Inhabited α] (S : Shape α) (t : TypeId) (ht : Tryd.prog.underlying t = some (.slice S.ty)) (hc : Tryd.prog.cellsOf t = 1) : Shape (List α) where
  ty := t
  size := 1
  ids := S.ty :: S.ids
  lies n w us ls := ∃ v vss, us = [v] ∧ Cells n w S.size v ls.length vss.flatten ∧ Each (S.lies n w) vss ls
  owns n w us ls := ∃ v vss, us = [v] ∧ w.ownsRow n S.ty S.size v ls.length vss.flatten ∧ Each (S.owns n w) vss ls
  fits ls := ls.length * Tryd.prog.bytesOf S.ty ≤ 140737488351232 ∧ ∀ x ∈ ls, S.fits x
  cells := hc
  length := fun ⟨v, _, h, _⟩ => by rw [h]; rfl
  ones := fun ⟨v, _, h, hC, _⟩ u hu => by
    rw [h] at hu
    obtain rfl : u = v := by simpa using hu
    obtain ⟨a, c, rfl, _⟩ := hC.shape
    rfl
  keep := fun ⟨v, vss, h, hC, hk⟩ hs => ⟨v, vss, h, hC.keep hs, hk.mono fun _ _ h => S.keep h hs⟩
  weaken := fun ⟨v, vss, h, hC, hk⟩ hs => ⟨v, vss, h, hC.weaken hs, hk.mono fun _ _ h => S.weaken h hs⟩
  osame := fun ⟨v, vss, h, hC, hk⟩ hs => ⟨v, vss, h, own_same hC hs, hk.mono fun _ _ h => S.osame h hs⟩
  oweaken := fun ⟨v, vss, h, hC, hk⟩ hs => ⟨v, vss, h, own_weaken hC hs, hk.mono fun _ _ h => S.oweaken h hs⟩
  olies := fun ⟨v, vss, h, hC, hk⟩ => ⟨v, vss, h, .own hC, hk.mono fun _ _ h => S.olies h⟩
  ogrown := fun ⟨v, vss, h, hC, hk⟩ hg hcl => ⟨v, vss, h, hC.kept hg (hcl.apart hC (by simp)), hk.mono fun _ _ h => S.ogrown h hg (hcl.sub fun e he => List.mem_cons_of_mem _ he)⟩
  reads {H enc W fuel cs x} hf := by
    rcases open_slice ht hf with ⟨rfl, rfl⟩ | ⟨a, len, cap, m, n, D, Pl, rfl, _, hl, hm, hmm, rfl, hx⟩
    · exact ⟨[], ⟨_, [], rfl, ⟨by simp, .inl ⟨rfl, rfl⟩⟩, trivial⟩, fun _ => ⟨by simp, fun x hx => by cases hx⟩⟩
    · simp only [if_true] at hmm
      subst hmm
      rw [S.cells] at hx
      obtain ⟨V, hV⟩ := choose_lt (n := len) (p := fun i (cs' : List Value) => W.cells? 0 (a.add (i * S.size)) S.size = some cs' ∧ DataW.trod enc Tryd.prog W 0 (fun _ => true) true n S.ty cs' = some (D i, Pl i)) (fun i hi => hx i (by omega))
      obtain ⟨A, hA⟩ := choose_lt (n := len) (p := fun i (x : α) => S.lies 0 W (V i) x ∧ ((∀ n ∈ (D i).weights Tryd.prog S.ty, n ≤ reachBytes) → S.fits x)) (fun i hi => S.reads (hV i hi).2)
      have hsz : ∀ us ∈ (List.range len).map V, us.length = S.size := fun us hus => by
        obtain ⟨i, hi, rfl⟩ := List.mem_map.1 hus
        exact S.length (hA i (by simpa using hi)).1
      refine ⟨(List.range len).map A, ⟨_, (List.range len).map V, rfl, ⟨by rw [flat_length hsz]; simp, .inr ⟨a, m, by simp, by simpa using hl, by simp; omega, Nat.zero_le _, fun i u hu => ?_⟩⟩, each_of (by simp) fun i p y hp hy => ?_⟩, fun hw => ⟨?_, fun x hx => ?_⟩⟩
      · have hi : i < len * S.size := by
          have := (List.getElem?_eq_some_iff.1 hu).1
          rw [flat_length hsz] at this
          simpa using this
        have hz : 0 < S.size := Nat.pos_of_ne_zero fun e => by rw [e] at hi; omega
        have hd : i / S.size < len := Nat.div_lt_of_lt_mul (by rw [Nat.mul_comm]; exact hi)
        have hr : i % S.size < S.size := Nat.mod_lt _ hz
        have he : i / S.size * S.size + i % S.size = i := by rw [Nat.mul_comm]; exact Nat.div_add_mod ..
        have hget : ((List.range len).map V)[i / S.size]? = some (V (i / S.size)) := by rw [List.getElem?_map, List.getElem?_range hd]; rfl
        have hln : i % S.size < (V (i / S.size)).length := by rw [hsz _ (List.mem_of_getElem? hget)]; exact hr
        have h2 := flat_get hsz hget (List.getElem?_eq_getElem hln)
        rw [he, hu] at h2
        obtain rfl : u = _ := by simpa using h2
        have h3 := (World.cells?_some (hV _ hd).1).2.2 (i % S.size) hr
        rw [List.getElem?_eq_getElem hln] at h3
        rw [← h3, add_add, he]
      · have hi : i < len := by
          have := (List.getElem?_eq_some_iff.1 hp).1
          simpa using this
        rw [List.getElem?_map, List.getElem?_range hi] at hp hy
        obtain rfl : V i = p := by simpa using hp
        obtain rfl : A i = y := by simpa using hy
        exact (hA i hi).1
      · have h1 := hw (((List.range len).map D).length * Tryd.prog.bytesOf S.ty + ((List.range (m - len)).map fun j => D (len + j)).length * Tryd.prog.bytesOf S.ty) (by
          show _ ∈ DataW.weights Tryd.prog t (.slice _ _)
          simp only [DataW.weights, ht]
          rw [← Nat.add_mul]
          exact List.mem_cons_self ..)
        simp only [reachBytes, List.length_map, List.length_range] at h1 ⊢
        omega
      · obtain ⟨i, hi, rfl⟩ := List.mem_map.1 hx
        refine (hA i (by simpa using hi)).2 fun n hn => hw n ?_
        show n ∈ DataW.weights Tryd.prog t (.slice _ _)
        simp only [DataW.weights, ht, List.mem_cons, List.mem_append]
        exact .inr (.inl (weights_all_mem (List.mem_map.2 ⟨i, hi, rfl⟩) n hn))

/-! Fields, one behind the other; structs. -/

structure Fields (α : Type) where
  tys : List TypeId
  size : Nat
  ids : List TypeId
  lies : Nat → World → List Value → α → Prop
  owns : Nat → World → List Value → α → Prop
  fits : α → Prop
  length : ∀ {n w us a}, lies n w us a → us.length = size
  ones : ∀ {n w us a}, lies n w us a → ∀ u ∈ us, u.oneCell' = true
  keep : ∀ {n w w' us a}, lies n w us a → Same n w w' → lies n w' us a
  weaken : ∀ {n m w us a}, lies n w us a → m ≤ n → lies m w us a
  osame : ∀ {n w w' us a}, owns n w us a → Same n w w' → owns n w' us a
  oweaken : ∀ {n m w us a}, owns n w us a → m ≤ n → owns m w us a
  olies : ∀ {n w us a}, owns n w us a → lies n w us a
  ogrown : ∀ {n w w' us a row}, owns n w us a → w.grownBy w' row → Clear w row ids → owns n w' us a
  offs : Nat → List Nat
  reads : ∀ {H : Type} {enc : TypeId × Value → H} {W : World} {fuel : Nat} {cs : List Value} {fs : List Field} {xs : List (DataW H × List MemPlace)} (o : Nat), fs.map (·.type) = tys → fs.map (·.offset) = offs o → xs.length = fs.length → cs.length = o + size →
    (∀ (i : Nat) (f : Field), fs[i]? = some f → DataW.trod enc Tryd.prog W 0 (fun _ => true) true fuel f.type ((cs.drop f.offset).take (Tryd.prog.cellsOf f.type)) = xs[i]?) →
    ∃ a, lies 0 W (cs.drop o) a ∧ ((∀ n ∈ DataW.weightsEach Tryd.prog tys (xs.map (·.1)), n ≤ reachBytes) → fits a)

def Shape.only {α : Type} (S : Shape α) : Fields α where
  tys := [S.ty]
  size := S.size
  ids := S.ids
  lies := S.lies
  owns := S.owns
  fits := S.fits
  length := S.length
  ones := S.ones
  keep := S.keep
  weaken := S.weaken
  osame := S.osame
  oweaken := S.oweaken
  olies := S.olies
  ogrown := S.ogrown
  offs o := [o]
  reads {H enc W fuel cs fs xs} o h1 h2 h3 h4 h5 := by
    match fs, xs, h1, h2, h3 with
    | [f], [x], h1, h2, _ =>
      have e1 : f.type = S.ty := by simpa using h1
      have e2 : f.offset = o := by simpa using h2
      have h := h5 0 f rfl
      rw [e1, e2, S.cells, List.take_of_length_le (by rw [List.length_drop, h4]; omega)] at h
      obtain ⟨a, ha, hf⟩ := S.reads (x := x) h
      exact ⟨a, ha, fun hw => hf fun n hn => hw n (by simp [DataW.weightsEach, hn])⟩

def Shape.and {α β : Type} (S : Shape α) (F : Fields β) : Fields (α × β) where
  tys := S.ty :: F.tys
  size := S.size + F.size
  ids := S.ids ++ F.ids
  lies n w us p := ∃ u1 u2, us = u1 ++ u2 ∧ S.lies n w u1 p.1 ∧ F.lies n w u2 p.2
  owns n w us p := ∃ u1 u2, us = u1 ++ u2 ∧ S.owns n w u1 p.1 ∧ F.owns n w u2 p.2
  fits p := S.fits p.1 ∧ F.fits p.2
  length := fun ⟨u1, u2, h, h1, h2⟩ => by rw [h, List.length_append, S.length h1, F.length h2]
  ones := fun ⟨u1, u2, h, h1, h2⟩ u hu => by
    rw [h] at hu
    rcases List.mem_append.1 hu with hu | hu
    · exact S.ones h1 u hu
    · exact F.ones h2 u hu
  keep := fun ⟨u1, u2, h, h1, h2⟩ hs => ⟨u1, u2, h, S.keep h1 hs, F.keep h2 hs⟩
  weaken := fun ⟨u1, u2, h, h1, h2⟩ hs => ⟨u1, u2, h, S.weaken h1 hs, F.weaken h2 hs⟩
  osame := fun ⟨u1, u2, h, h1, h2⟩ hs => ⟨u1, u2, h, S.osame h1 hs, F.osame h2 hs⟩
  oweaken := fun ⟨u1, u2, h, h1, h2⟩ hs => ⟨u1, u2, h, S.oweaken h1 hs, F.oweaken h2 hs⟩
  olies := fun ⟨u1, u2, h, h1, h2⟩ => ⟨u1, u2, h, S.olies h1, F.olies h2⟩
  ogrown := fun ⟨u1, u2, h, h1, h2⟩ hg hc => ⟨u1, u2, h, S.ogrown h1 hg (hc.sub fun e he => List.mem_append_left _ he), F.ogrown h2 hg (hc.sub fun e he => List.mem_append_right _ he)⟩
  offs o := o :: F.offs (o + S.size)
  reads {H enc W fuel cs fs xs} o h1 h2 h3 h4 h5 := by
    match fs, xs, h1, h2, h3 with
    | f :: fs, x :: xs, h1, h2, h3 =>
      simp only [List.map_cons, List.cons.injEq] at h1 h2
      have h := h5 0 f rfl
      rw [h1.1, h2.1, S.cells] at h
      obtain ⟨a, ha, hf⟩ := S.reads (x := x) h
      obtain ⟨b, hb, hg⟩ := F.reads (xs := xs) (o + S.size) h1.2 h2.2 (by simpa using h3) (by rw [h4]; omega) (fun i g hi => h5 (i + 1) g (by simpa using hi))
      refine ⟨(a, b), ⟨_, _, ?_, ha, hb⟩, fun hw => ⟨hf fun n hn => hw n ?_, hg fun n hn => hw n ?_⟩⟩
      · rw [← List.drop_drop, List.take_append_drop]
      · simp only [List.map_cons, DataW.weightsEach, List.mem_append]
        exact .inl hn
      · simp only [List.map_cons, DataW.weightsEach, List.mem_append]
        exact .inr hn

def Fields.struct {α : Type} (F : Fields α) (t : TypeId) (ht : ∃ fs : Array Field, Tryd.prog.underlying t = some (.struct fs) ∧ fs.toList.map (·.type) = F.tys ∧ fs.toList.map (·.offset) = F.offs 0) (hc : Tryd.prog.cellsOf t = F.size) : Shape α where
  ty := t
  size := F.size
  ids := F.ids
  lies := F.lies
  owns := F.owns
  fits := F.fits
  cells := hc
  length := F.length
  ones := F.ones
  keep := F.keep
  weaken := F.weaken
  osame := F.osame
  oweaken := F.oweaken
  olies := F.olies
  ogrown := F.ogrown
  reads {H enc W fuel cs x} hf := by
    obtain ⟨fs, hu, h1, h2⟩ := ht
    obtain ⟨xs, n, _, rfl, hlen, hxl, hfld⟩ := DataW.trod_struct hu hf
    obtain ⟨a, ha, hf⟩ := F.reads (xs := xs) (fs := fs.toList) 0 h1 h2 (by simpa using hxl) (by rw [hlen, hc]; omega) (fun i f hi => hfld i f (by simpa using hi))
    refine ⟨a, by simpa using ha, fun hw => hf fun n hn => hw n ?_⟩
    simp only [DataW.weights, hu, h1]
    exact hn

/-! What a slice of a shape does. -/

theorem Shape.list_len {α : Type} [Inhabited α] {S : Shape α} {t : TypeId} {ht hc} {n : Nat} {w : World} {us : List Value} {ls : List α} (h : (S.list t ht hc).lies n w us ls) : ∃ a cap, us = [.slice a ls.length cap] ∧ ls.length ≤ cap ∧ ls.length ≤ maxLen ∧ (a = none → ls.length = 0) := by
  obtain ⟨v, _, rfl, hC, _⟩ := h
  obtain ⟨a, c, rfl, r⟩ := hC.shape
  exact ⟨a, c, rfl, r⟩

/-- One element: where it lies, and what it is. -/
theorem Shape.list_at {α : Type} [Inhabited α] {S : Shape α} {t : TypeId} {ht hc} {n : Nat} {w : World} {v : Value} {ls : List α} (h : (S.list t ht hc).lies n w [v] ls) (hz : 0 < S.size) {i0 : TypeInfo} (hi0 : Tryd.prog.info? S.ty = some i0) (hs : i0.size = S.size) (i : Nat) (x : α) (hx : ls[i]? = some x) :
    ∃ b o us, (∀ W, (Instr.indexAt t v (.int .i64 i)).run Tryd.prog W = .ok (.pointer (some ⟨b, o, none⟩)) W) ∧ n ≤ b ∧ (∀ j u, us[j]? = some u → w.cell? ⟨b, o + j, none⟩ = some u) ∧ S.lies n w us x := by
  obtain ⟨v', vss, hv, hC, hE⟩ := h
  obtain rfl : v = v' := by simpa using hv
  obtain ⟨us, hu, hl⟩ := hE.get hx
  obtain ⟨b, o, hix, hb, hcell⟩ := hC.index hz ht hi0 hs i (List.getElem?_eq_some_iff.1 hx).1
  refine ⟨b, o, us, hix, hb, fun j u hj => hcell j u ?_, hl⟩
  refine flat_get (fun us' hus => ?_) hu hj
  obtain ⟨_, _, h⟩ := hE.left hus
  exact S.length h

theorem Shape.list_own {α : Type} [Inhabited α] {S : Shape α} {t : TypeId} {ht hc} {n : Nat} {w : World} {us : List Value} {ls : List α} (h : (S.list t ht hc).owns n w us ls) : ∃ a cap vss, us = [.slice a ls.length cap] ∧ w.ownsRow n S.ty S.size (.slice a ls.length cap) ls.length vss ∧ vss.length = ls.length * S.size := by
  obtain ⟨v, vss, rfl, hC, hE⟩ := h
  obtain ⟨a, c, rfl⟩ := own_shape hC
  exact ⟨a, c, _, rfl, hC, hC.1⟩

theorem Shape.list_nil {α : Type} [Inhabited α] (S : Shape α) (t : TypeId) (ht hc) (n : Nat) (w : World) : (S.list t ht hc).owns n w [.slice none 0 0] [] := ⟨_, [], rfl, World.ownsRow_nil _ _ _ _, trivial⟩

/-- One more element, behind the others. -/
theorem Shape.list_push {α : Type} [Inhabited α] {S : Shape α} {t : TypeId} {ht hc} {base : Nat} {W w3 : World} {v v3 : Value} {vss : List (List Value)} {us : List Value} {ls : List α} {x : α} (hid : S.ty ∉ S.ids) (hE : Each (S.owns base W) vss ls) (hown : W.ownsRow base S.ty S.size v ls.length vss.flatten) (hu : S.owns base W us x)
    (hg : W.grownBy w3 v.ownBlock) (h3 : w3.ownsRow base S.ty S.size v3 (ls.length + 1) (vss.flatten ++ us)) : (S.list t ht hc).owns base w3 [v3] (ls ++ [x]) := by
  refine ⟨v3, vss ++ [us], rfl, by rw [List.length_append, flat_snoc]; exact h3, ?_⟩
  have keep : ∀ a b, S.owns base W a b → S.owns base w3 a b := fun a b h => S.ogrown h hg (.own hown hid)
  exact (hE.mono keep).snoc (keep _ _ hu)

theorem Leaf.row_len {α : Type} [Inhabited α] {L : Leaf α} {t : TypeId} {ht hc} {n : Nat} {w : World} {us : List Value} {l : List α} (h : (L.row t ht hc).lies n w us l) : ∃ a cap, us = [.slice a l.length cap] ∧ l.length ≤ cap ∧ l.length ≤ maxLen ∧ (a = none → l.length = 0) := by
  obtain ⟨v, rfl, hC, _⟩ := h
  obtain ⟨a, c, rfl, r⟩ := hC.shape
  exact ⟨a, c, rfl, r⟩

theorem Leaf.row_at {α : Type} [Inhabited α] {L : Leaf α} {t : TypeId} {ht hc} {n : Nat} {w : World} {v : Value} {l : List α} (h : (L.row t ht hc).lies n w [v] l) {i0 : TypeInfo} (hi0 : Tryd.prog.info? L.ty = some i0) (hs : i0.size = 1) (i : Nat) (x : α) (hx : l[i]? = some x) :
    ∃ b o, (∀ W, (Instr.indexAt t v (.int .i64 i)).run Tryd.prog W = .ok (.pointer (some ⟨b, o, none⟩)) W) ∧ n ≤ b ∧ w.cell? ⟨b, o, none⟩ = some (L.val x) ∧ L.ok x := by
  obtain ⟨v', hv, hC, hk⟩ := h
  obtain rfl : v = v' := by simpa using hv
  obtain ⟨b, o, hix, hb, hcell⟩ := hC.index (by omega) ht hi0 hs i (List.getElem?_eq_some_iff.1 hx).1
  exact ⟨b, o, hix, hb, hcell 0 _ (by simp [hx]), hk x (List.mem_of_getElem? hx)⟩

end Go.Proofs.YthlfgpnabcplnaaDoor
