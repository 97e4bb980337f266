/-
  Entries, the program's and the document's, and octets, as data; how they lie in memory.
-/
import Derived.Test.YthppbmbhoedphaaFrame
namespace Go.Proofs.Ythppbmbhoedphaa
open Go.RowKit

theorem Try.info5 : (Try.prog.info? 5).map (fun i => (i.zero, i.size, i.bytes)) = some (some (.int .u8 0), 1, 1) := by kernel_rfl
theorem Try.info3 : (Try.prog.info? 3).map (fun i => (i.zero, i.size, i.bytes)) = some (some (.int .i64 0), 1, 8) := by kernel_rfl
theorem Try.info24 : (Try.prog.info? 24).map (fun i => (i.zero, i.size, i.bytes)) = some (some (.agg #[.string ⟨#[]⟩, .int .i64 0]), 2, 24) := by kernel_rfl
theorem Try.info34 : (Try.prog.info? 34).map (fun i => (i.zero, i.size, i.bytes)) = some (some (.agg #[.string ⟨#[]⟩, .int .i64 0]), 2, 24) := by kernel_rfl

def I64 (x : Int) : Prop := -9223372036854775808 ≤ x ∧ x ≤ 9223372036854775807
theorem I64.wf {x : Int} (h : I64 x) : (Lit.int .i64 x).wf = true := by
  obtain ⟨h1, h2⟩ := h
  simp [Lit.wf, IntKind.min, IntKind.max, IntKind.signed, IntKind.bits]
  omega
def Oct (l : List Int) : Prop := ∀ x ∈ l, (Lit.int .u8 x).wf = true

def u8L : Leaf Int := intL .u8 5 Try.underlying5 (by kernel_rfl)
def i64L : Leaf Int := intL .i64 3 Try.underlying3 (by kernel_rfl)
def strL : Leaf ByteArray where
  ty := 9
  val := .string
  ok s := s.size ≤ maxLen
  cells := by kernel_rfl
  one _ := rfl
  reads h := by
    obtain ⟨s, h1, _, h3⟩ := DataW.trod_string Try.underlying9 h
    exact ⟨s, h1, h3⟩
def i64S : Shape Int := i64L.shape
def strS : Shape ByteArray := strL.shape
def bytesS : Shape (List Int) := u8L.row 47 Try.underlying47 (by kernel_rfl)
def intsS : Shape (List Int) := i64L.row 58 Try.underlying58 (by kernel_rfl)

/-- An entry: its name, its number. -/
abbrev En := ByteArray × Int
def enF : Fields En := strS.and i64S.only
def enR : Shape En := enF.struct 24 ⟨_, Try.underlying24, rfl, rfl⟩ (by kernel_rfl)
def enN : Shape En := enF.struct 34 ⟨_, Try.underlying34, rfl, rfl⟩ (by kernel_rfl)
theorem cells22 : Try.prog.cellsOf 22 = 1 := by kernel_rfl
def ensR : Shape (List En) := enR.list 22 Try.underlying22 cells22

/-! Octets. -/

def Arg (n0 : Nat) (w : World) (v : Value) (l : List Int) : Prop := bytesS.lies n0 w [v] l
theorem Arg.cells {n0 : Nat} {w : World} {v : Value} {l : List Int} (h : Arg n0 w v l) : Cells n0 w 1 v l.length (l.map (Value.int .u8)) := by
  obtain ⟨v', hv, hC, _⟩ := h
  obtain rfl : v = v' := by simpa using hv
  exact hC
theorem Arg.oct {n0 : Nat} {w : World} {v : Value} {l : List Int} (h : Arg n0 w v l) : Oct l := by
  obtain ⟨_, _, _, ho⟩ := h
  exact ho
theorem Arg.mk {n0 : Nat} {w : World} {v : Value} {l : List Int} (hC : Cells n0 w 1 v l.length (l.map (Value.int .u8))) (ho : Oct l) : Arg n0 w v l := ⟨v, rfl, hC, ho⟩
theorem Arg.keep {n0 : Nat} {w w' : World} {v : Value} {l : List Int} (h : Arg n0 w v l) (hs : Same n0 w w') : Arg n0 w' v l := bytesS.keep h hs
theorem Arg.below {n0 : Nat} {w w' : World} {v : Value} {l : List Int} (h : Arg n0 w v l) (hb : Below w.heap.size w w') : Arg n0 w' v l := h.keep (.of_below hb)
theorem Arg.weaken {n0 n1 : Nat} {w : World} {v : Value} {l : List Int} (h : Arg n0 w v l) (hn : n1 ≤ n0) : Arg n1 w v l := bytesS.weaken h hn
theorem Arg.shape {n0 : Nat} {w : World} {v : Value} {l : List Int} (h : Arg n0 w v l) : ∃ a cap, v = .slice a l.length cap ∧ l.length ≤ cap ∧ l.length ≤ maxLen ∧ (a = none → l.length = 0) := h.cells.shape
theorem Arg.split {n0 : Nat} {w : World} {v : Value} {l : List Int} (h : Arg n0 w v l) : (l = [] ∧ ∃ a cap, v = .slice a 0 cap) ∨ (∃ b off cap, v = .slice (some ⟨b, off, none⟩) l.length cap ∧ l.length ≤ cap ∧ l.length ≤ maxLen ∧ n0 ≤ b ∧ ∀ i, i < l.length → w.cell? ⟨b, off + i, none⟩ = some (.int .u8 (l.getD i 0))) := by
  by_cases h0 : l.length = 0
  · obtain ⟨a, cap, hv, _⟩ := h.shape
    exact .inl ⟨List.eq_nil_of_length_eq_zero h0, a, cap, by rw [hv, h0]⟩
  · right
    obtain ⟨b, o, cap, hv, h1, h2, h3, h4⟩ := h.cells.place (by omega) 0 (by omega)
    refine ⟨b, o, cap, hv, h1, h2, h3, fun i hi => ?_⟩
    have := h4 i (.int .u8 (l.getD i 0)) (by simp [hi])
    simpa using this
/-- One octet: where it lies, and what it is. -/
theorem Arg.at {n0 : Nat} {w : World} {v : Value} {l : List Int} (h : Arg n0 w v l) (i : Nat) (x : Int) (hx : l[i]? = some x) :
    ∃ b o, (∀ W, (Instr.indexAt 47 v (.int .i64 i)).run Try.prog W = .ok (.pointer (some ⟨b, o, none⟩)) W) ∧ n0 ≤ b ∧ w.cell? ⟨b, o, none⟩ = some (.int .u8 x) ∧ (Lit.int .u8 x).wf = true := by
  obtain ⟨i0, hi0, _, hz, _⟩ := info_parts Try.info5
  exact Leaf.row_at (L := u8L) (ht := Try.underlying47) (hc := by kernel_rfl) h hi0 hz i x hx

/-- Octets in a block of their own. -/
def Own1 (base : Nat) (w : World) (v : Value) (l : List Int) : Prop := bytesS.owns base w [v] l
theorem Own1.row {base : Nat} {w : World} {v : Value} {l : List Int} (h : Own1 base w v l) : w.ownsRow base 5 1 v l.length (l.map (Value.int .u8)) := by
  obtain ⟨v', hv, hC, _⟩ := h
  obtain rfl : v = v' := by simpa using hv
  exact hC
theorem Own1.mk {base : Nat} {w : World} {v : Value} {l : List Int} (h : w.ownsRow base 5 1 v l.length (l.map (Value.int .u8))) (ho : Oct l) : Own1 base w v l := ⟨v, rfl, h, ho⟩
theorem Own1.arg {base : Nat} {w : World} {v : Value} {l : List Int} (h : Own1 base w v l) : Arg base w v l := bytesS.olies h
theorem Own1.shape {base : Nat} {w : World} {v : Value} {l : List Int} (h : Own1 base w v l) : ∃ a cap, v = .slice a l.length cap := own_shape h.row
theorem Own1.oct {base : Nat} {w : World} {v : Value} {l : List Int} (h : Own1 base w v l) : Oct l := h.arg.oct

/-! Entries. -/

/-- An entry's two cells. -/
def ev (p : En) : List Value := [.string p.1, .int .i64 p.2]
def evs (l : List En) : List Value := (l.map ev).flatten
def EOk (p : En) : Prop := p.1.size ≤ maxLen ∧ I64 p.2
def EOks (l : List En) : Prop := ∀ p ∈ l, EOk p
theorem ev_len (l : List En) : ∀ us ∈ l.map ev, us.length = 2 := fun us h => by
  obtain ⟨p, _, rfl⟩ := List.mem_map.1 h
  rfl
theorem evs_length (l : List En) : (evs l).length = l.length * 2 := by
  unfold evs
  rw [flat_length (ev_len l), List.length_map]
theorem evs_append (a b : List En) : evs (a ++ b) = evs a ++ evs b := by simp [evs]
theorem evs_one (l : List En) : ∀ u ∈ evs l, u.oneCell' = true := fun u hu => by
  obtain ⟨us, h1, h2⟩ := List.mem_flatten.1 hu
  obtain ⟨p, _, rfl⟩ := List.mem_map.1 h1
  simp only [ev, List.mem_cons, List.not_mem_nil, or_false] at h2
  rcases h2 with rfl | rfl <;> rfl
theorem evs_at {l : List En} {i : Nat} {p : En} (h : l[i]? = some p) : (evs l)[i * 2]? = some (.string p.1) ∧ (evs l)[i * 2 + 1]? = some (.int .i64 p.2) := by
  have hg : (l.map ev)[i]? = some (ev p) := by rw [List.getElem?_map, h]; rfl
  exact ⟨flat_get (j := 0) (ev_len l) hg rfl, flat_get (j := 1) (ev_len l) hg rfl⟩
theorem evs_take (l : List En) (k : Nat) : evs (l.take k) = (evs l).take (k * 2) := by
  induction l generalizing k with
  | nil => simp [evs]
  | cons p r ih =>
    cases k with
    | zero => simp [evs]
    | succ k =>
      rw [List.take_succ_cons, show evs (p :: r.take k) = ev p ++ evs (r.take k) from by simp [evs], ih, show evs (p :: r) = ev p ++ evs r from by simp [evs], Nat.succ_mul]
      simp [ev]
theorem evs_drop (l : List En) (k : Nat) : evs (l.drop k) = (evs l).drop (k * 2) := by
  induction l generalizing k with
  | nil => simp [evs]
  | cons p r ih =>
    cases k with
    | zero => simp
    | succ k =>
      rw [List.drop_succ_cons, ih, show evs (p :: r) = ev p ++ evs r from by simp [evs], Nat.succ_mul]
      simp [ev]

/-- A slice shows these entries, in blocks from n on. -/
def ArgE (n : Nat) (w : World) (v : Value) (l : List En) : Prop := Cells n w 2 v l.length (evs l) ∧ EOks l
theorem ArgE.keep {n : Nat} {w w' : World} {v : Value} {l : List En} (h : ArgE n w v l) (hs : Same n w w') : ArgE n w' v l := ⟨h.1.keep hs, h.2⟩
theorem ArgE.below {n : Nat} {w w' : World} {v : Value} {l : List En} (h : ArgE n w v l) (hb : Below w.heap.size w w') : ArgE n w' v l := h.keep (.of_below hb)
theorem ArgE.weaken {n m : Nat} {w : World} {v : Value} {l : List En} (h : ArgE n w v l) (hn : m ≤ n) : ArgE m w v l := ⟨h.1.weaken hn, h.2⟩
theorem ArgE.shape {n : Nat} {w : World} {v : Value} {l : List En} (h : ArgE n w v l) : ∃ a cap, v = .slice a l.length cap ∧ l.length ≤ cap ∧ l.length ≤ maxLen ∧ (a = none → l.length = 0) := h.1.shape
theorem ArgE.nil (n : Nat) (w : World) : ArgE n w (.slice none 0 0) [] := ⟨⟨rfl, .inl ⟨rfl, rfl⟩⟩, fun _ h => by cases h⟩
theorem ArgE.at {n : Nat} {w : World} {v : Value} {l : List En} (h : ArgE n w v l) {t e : TypeId} (ht : Try.prog.underlying t = some (.slice e)) {i0 : TypeInfo} (hi0 : Try.prog.info? e = some i0) (hs : i0.size = 2) (i : Nat) (p : En) (hp : l[i]? = some p) :
    ∃ b o, (∀ W, (Instr.indexAt t v (.int .i64 i)).run Try.prog W = .ok (.pointer (some ⟨b, o, none⟩)) W) ∧ n ≤ b ∧ w.cell? ⟨b, o, none⟩ = some (.string p.1) ∧ w.cell? ⟨b, o + 1, none⟩ = some (.int .i64 p.2) := by
  obtain ⟨b, o, hix, hb, hc⟩ := h.1.index (by omega) ht hi0 hs i (List.getElem?_eq_some_iff.1 hp).1
  exact ⟨b, o, hix, hb, hc 0 _ (evs_at hp).1, hc 1 _ (evs_at hp).2⟩
/-- One entry of the document's: where it lies, and what it is. -/
theorem ArgE.atR {n : Nat} {w : World} {v : Value} {l : List En} (h : ArgE n w v l) (i : Nat) (p : En) (hp : l[i]? = some p) :
    ∃ b o, (∀ W, (Instr.indexAt 22 v (.int .i64 i)).run Try.prog W = .ok (.pointer (some ⟨b, o, none⟩)) W) ∧ n ≤ b ∧ w.cell? ⟨b, o, none⟩ = some (.string p.1) ∧ w.cell? ⟨b, o + 1, none⟩ = some (.int .i64 p.2) := by
  obtain ⟨i0, hi0, _, hz, _⟩ := info_parts Try.info24
  exact h.at Try.underlying22 hi0 hz i p hp
/-- One of the program's. -/
theorem ArgE.atN {n : Nat} {w : World} {v : Value} {l : List En} (h : ArgE n w v l) (i : Nat) (p : En) (hp : l[i]? = some p) :
    ∃ b o, (∀ W, (Instr.indexAt 25 v (.int .i64 i)).run Try.prog W = .ok (.pointer (some ⟨b, o, none⟩)) W) ∧ n ≤ b ∧ w.cell? ⟨b, o, none⟩ = some (.string p.1) ∧ w.cell? ⟨b, o + 1, none⟩ = some (.int .i64 p.2) := by
  obtain ⟨i0, hi0, _, hz, _⟩ := info_parts Try.info34
  exact h.at Try.underlying25 hi0 hz i p hp

/-- Entries in a block of their own, of cells of type t. -/
def OwnE (t : TypeId) (base : Nat) (w : World) (v : Value) (l : List En) : Prop := w.ownsRow base t 2 v l.length (evs l) ∧ EOks l
theorem OwnE.arg {t : TypeId} {base : Nat} {w : World} {v : Value} {l : List En} (h : OwnE t base w v l) : ArgE base w v l := ⟨.own h.1, h.2⟩
theorem OwnE.below {t : TypeId} {base : Nat} {w w' : World} {v : Value} {l : List En} (h : OwnE t base w v l) (hb : Below w.heap.size w w') : OwnE t base w' v l := ⟨own_below h.1 hb, h.2⟩
theorem OwnE.same {t : TypeId} {base : Nat} {w w' : World} {v : Value} {l : List En} (h : OwnE t base w v l) (hs : Same base w w') : OwnE t base w' v l := ⟨own_same h.1 hs, h.2⟩
theorem OwnE.weaken {t : TypeId} {base m : Nat} {w : World} {v : Value} {l : List En} (h : OwnE t base w v l) (hn : m ≤ base) : OwnE t m w v l := ⟨own_weaken h.1 hn, h.2⟩
theorem OwnE.shape {t : TypeId} {base : Nat} {w : World} {v : Value} {l : List En} (h : OwnE t base w v l) : ∃ a cap, v = .slice a l.length cap := own_shape h.1
theorem OwnE.nil (t : TypeId) (base : Nat) (w : World) : OwnE t base w (.slice none 0 0) [] := ⟨World.ownsRow_nil _ _ _ _, fun _ h => by cases h⟩

/-! From the form's reading. -/

theorem en_view {n : Nat} {w : World} {us : List Value} {p : En} (h : enF.lies n w us p) : us = ev p ∧ EOk p := by
  obtain ⟨u1, r, rfl, ⟨rfl, h1⟩, ⟨rfl, h2⟩⟩ := h
  exact ⟨rfl, h1, bounds_i64 h2⟩
theorem each_ev {n : Nat} {w : World} : ∀ {vss : List (List Value)} {l : List En}, Each (enF.lies n w) vss l → vss = l.map ev ∧ EOks l
  | [], [], _ => ⟨rfl, fun _ h => by cases h⟩
  | us :: vss, p :: l, h => by
    obtain ⟨rfl, hp⟩ := en_view h.1
    obtain ⟨rfl, hl⟩ := each_ev h.2
    refine ⟨rfl, fun q hq => ?_⟩
    rcases List.mem_cons.1 hq with rfl | hq
    · exact hp
    · exact hl q hq
  | [], _ :: _, h => h.elim
  | _ :: _, [], h => h.elim
theorem args_of {n : Nat} {w : World} {v : Value} {l : List En} (h : ensR.lies n w [v] l) : ArgE n w v l := by
  obtain ⟨v', vss, hv, hC, hE⟩ := h
  obtain rfl : v = v' := by simpa using hv
  obtain ⟨rfl, ho⟩ := each_ev hE
  exact ⟨hC, ho⟩
theorem fits_of {l : List En} (h : ensR.fits l) : l.length * 24 ≤ 140737488351232 := by
  have b24 : Try.prog.bytesOf 24 = 24 := by kernel_rfl
  have h3 : l.length * Try.prog.bytesOf 24 ≤ 140737488351232 := h.1
  rwa [b24] at h3
theorem bytes_fit {l : List Int} (h : bytesS.fits l) : l.length ≤ 140737488351232 := by
  have b5 : Try.prog.bytesOf 5 = 1 := by kernel_rfl
  have h3 : l.length * Try.prog.bytesOf 5 ≤ 140737488351232 := h
  rwa [b5, Nat.mul_one] at h3

theorem get_lt {α : Type} {l : List α} {k : Nat} (h : k < l.length) : ∃ x, l[k]? = some x := ⟨_, List.getElem?_eq_getElem h⟩
theorem take_snoc {α : Type} {l : List α} {k : Nat} {x : α} (h : l[k]? = some x) : l.take (k + 1) = l.take k ++ [x] := by rw [List.take_add_one, h]; rfl
theorem one_cells (l : List Int) : ∀ u ∈ l.map (Value.int .u8), u.oneCell' = true := fun u hu => by
  obtain ⟨y, _, rfl⟩ := List.mem_map.1 hu
  rfl
theorem EOks.snoc {l : List En} {p : En} (h : EOks l) (hp : EOk p) : EOks (l ++ [p]) := fun q hq => by
  rcases List.mem_append.1 hq with hq | hq
  · exact h q hq
  · rw [List.mem_singleton.1 hq]; exact hp
theorem EOks.take {l : List En} (h : EOks l) (k : Nat) : EOks (l.take k) := fun q hq => h q (List.mem_of_mem_take hq)
theorem EOks.drop {l : List En} (h : EOks l) (k : Nat) : EOks (l.drop k) := fun q hq => h q (List.mem_of_mem_drop hq)
theorem EOks.append {l m : List En} (h : EOks l) (k : EOks m) : EOks (l ++ m) := fun q hq => (List.mem_append.1 hq).elim (h q) (k q)
theorem EOks.get {l : List En} (h : EOks l) {i : Nat} {p : En} (hp : l[i]? = some p) : EOk p := h p (List.mem_of_getElem? hp)

end Go.Proofs.Ythppbmbhoedphaa
