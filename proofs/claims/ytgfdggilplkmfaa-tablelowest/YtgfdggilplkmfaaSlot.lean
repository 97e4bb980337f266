/-
  Slots, the program's and the document's, as data; how they lie in memory.
-/
import Derived.Test.YtgfdggilplkmfaaFrame
namespace Go.Proofs.Ytgfdggilplkmfaa
open Go.RowKit

theorem Try.info3 : (Try.prog.info? 3).map (fun i => (i.zero, i.size, i.bytes)) = some (some (.int .i64 0), 1, 8) := by kernel_rfl
theorem Try.info55 : (Try.prog.info? 55).map (fun i => (i.zero, i.size, i.bytes)) = some (some (.agg #[.int .i64 0, .int .i64 0]), 2, 16) := by kernel_rfl
theorem Try.info57 : (Try.prog.info? 57).map (fun i => (i.zero, i.size, i.bytes)) = some (some (.agg #[.int .i64 0, .int .i64 0]), 2, 16) := by kernel_rfl

def I64 (x : Int) : Prop := -9223372036854775808 ≤ x ∧ x ≤ 9223372036854775807
theorem I64.wf {x : Int} (h : I64 x) : (Lit.int .i64 x).wf = true := by
  obtain ⟨h1, h2⟩ := h
  simp [Lit.wf, IntKind.min, IntKind.max, IntKind.signed, IntKind.bits]
  omega
def i64L : Leaf Int := intL .i64 3 Try.underlying3 (by kernel_rfl)
def i64S : Shape Int := i64L.shape

/-- A slot: the number of its segment, how many blocks are live. -/
abbrev Sl := Int × Int
def slF : Fields Sl := i64S.and i64S.only
def slR : Shape Sl := slF.struct 55 ⟨_, Try.underlying55, rfl, rfl⟩ (by kernel_rfl)
theorem cells22 : Try.prog.cellsOf 22 = 1 := by kernel_rfl
def slsR : Shape (List Sl) := slR.list 22 Try.underlying22 cells22

/-- A slot's two cells. -/
def ev (p : Sl) : List Value := [.int .i64 p.1, .int .i64 p.2]
def evs (l : List Sl) : List Value := (l.map ev).flatten
def EOk (p : Sl) : Prop := I64 p.1 ∧ I64 p.2
def EOks (l : List Sl) : Prop := ∀ p ∈ l, EOk p
theorem ev_len (l : List Sl) : ∀ us ∈ l.map ev, us.length = 2 := fun us h => by
  obtain ⟨p, _, rfl⟩ := List.mem_map.1 h
  rfl
theorem evs_length (l : List Sl) : (evs l).length = l.length * 2 := by
  unfold evs
  rw [flat_length (ev_len l), List.length_map]
theorem evs_append (a b : List Sl) : evs (a ++ b) = evs a ++ evs b := by simp [evs]
theorem evs_one (l : List Sl) : ∀ u ∈ evs l, u.oneCell' = true := fun u hu => by
  obtain ⟨us, h1, h2⟩ := List.mem_flatten.1 hu
  obtain ⟨p, _, rfl⟩ := List.mem_map.1 h1
  simp only [ev, List.mem_cons, List.not_mem_nil, or_false] at h2
  rcases h2 with rfl | rfl <;> rfl
theorem evs_at {l : List Sl} {i : Nat} {p : Sl} (h : l[i]? = some p) : (evs l)[i * 2]? = some (.int .i64 p.1) ∧ (evs l)[i * 2 + 1]? = some (.int .i64 p.2) := by
  have hg : (l.map ev)[i]? = some (ev p) := by rw [List.getElem?_map, h]; rfl
  exact ⟨flat_get (j := 0) (ev_len l) hg rfl, flat_get (j := 1) (ev_len l) hg rfl⟩
theorem evs_set (l : List Sl) (i : Nat) (p : Sl) : evs (l.set i p) = ((evs l).set (i * 2) (.int .i64 p.1)).set (i * 2 + 1) (.int .i64 p.2) := by
  induction l generalizing i with
  | nil => simp [evs]
  | cons q r ih =>
    cases i with
    | zero => simp [evs, ev]
    | succ i =>
      rw [List.set_cons_succ, show evs (q :: r.set i p) = ev q ++ evs (r.set i p) from by simp [evs], ih, show evs (q :: r) = ev q ++ evs r from by simp [evs], Nat.succ_mul]
      simp [ev]

/-- A slice shows these slots, in blocks from n on. -/
def ArgE (n : Nat) (w : World) (v : Value) (l : List Sl) : Prop := Cells n w 2 v l.length (evs l) ∧ EOks l
theorem ArgE.keep {n : Nat} {w w' : World} {v : Value} {l : List Sl} (h : ArgE n w v l) (hs : Same n w w') : ArgE n w' v l := ⟨h.1.keep hs, h.2⟩
theorem ArgE.below {n : Nat} {w w' : World} {v : Value} {l : List Sl} (h : ArgE n w v l) (hb : Below w.heap.size w w') : ArgE n w' v l := h.keep (.of_below hb)
theorem ArgE.weaken {n m : Nat} {w : World} {v : Value} {l : List Sl} (h : ArgE n w v l) (hn : m ≤ n) : ArgE m w v l := ⟨h.1.weaken hn, h.2⟩
theorem ArgE.shape {n : Nat} {w : World} {v : Value} {l : List Sl} (h : ArgE n w v l) : ∃ a cap, v = .slice a l.length cap ∧ l.length ≤ cap ∧ l.length ≤ maxLen ∧ (a = none → l.length = 0) := h.1.shape
theorem ArgE.nil (n : Nat) (w : World) : ArgE n w (.slice none 0 0) [] := ⟨⟨rfl, .inl ⟨rfl, rfl⟩⟩, fun _ h => by cases h⟩
theorem ArgE.at {n : Nat} {w : World} {v : Value} {l : List Sl} (h : ArgE n w v l) {t e : TypeId} (ht : Try.prog.underlying t = some (.slice e)) {i0 : TypeInfo} (hi0 : Try.prog.info? e = some i0) (hs : i0.size = 2) (i : Nat) (p : Sl) (hp : l[i]? = some p) :
    ∃ b o, (∀ W, (Instr.indexAt t v (.int .i64 i)).run Try.prog W = .ok (.pointer (some ⟨b, o, none⟩)) W) ∧ n ≤ b ∧ w.cell? ⟨b, o, none⟩ = some (.int .i64 p.1) ∧ w.cell? ⟨b, o + 1, none⟩ = some (.int .i64 p.2) := by
  obtain ⟨b, o, hix, hb, hc⟩ := h.1.index (by omega) ht hi0 hs i (List.getElem?_eq_some_iff.1 hp).1
  exact ⟨b, o, hix, hb, hc 0 _ (evs_at hp).1, hc 1 _ (evs_at hp).2⟩
/-- One slot of the document's: where it lies, and what it is. -/
theorem ArgE.atR {n : Nat} {w : World} {v : Value} {l : List Sl} (h : ArgE n w v l) (i : Nat) (p : Sl) (hp : l[i]? = some p) :
    ∃ b o, (∀ W, (Instr.indexAt 22 v (.int .i64 i)).run Try.prog W = .ok (.pointer (some ⟨b, o, none⟩)) W) ∧ n ≤ b ∧ w.cell? ⟨b, o, none⟩ = some (.int .i64 p.1) ∧ w.cell? ⟨b, o + 1, none⟩ = some (.int .i64 p.2) := by
  obtain ⟨i0, hi0, _, hz, _⟩ := info_parts Try.info55
  exact h.at Try.underlying22 hi0 hz i p hp
/-- One of the program's. -/
theorem ArgE.atN {n : Nat} {w : World} {v : Value} {l : List Sl} (h : ArgE n w v l) (i : Nat) (p : Sl) (hp : l[i]? = some p) :
    ∃ b o, (∀ W, (Instr.indexAt 23 v (.int .i64 i)).run Try.prog W = .ok (.pointer (some ⟨b, o, none⟩)) W) ∧ n ≤ b ∧ w.cell? ⟨b, o, none⟩ = some (.int .i64 p.1) ∧ w.cell? ⟨b, o + 1, none⟩ = some (.int .i64 p.2) := by
  obtain ⟨i0, hi0, _, hz, _⟩ := info_parts Try.info57
  exact h.at Try.underlying23 hi0 hz i p hp

/-- Slots in a block of their own, of cells of type t. -/
def OwnE (t : TypeId) (base : Nat) (w : World) (v : Value) (l : List Sl) : Prop := w.ownsRow base t 2 v l.length (evs l) ∧ EOks l
theorem OwnE.arg {t : TypeId} {base : Nat} {w : World} {v : Value} {l : List Sl} (h : OwnE t base w v l) : ArgE base w v l := ⟨.own h.1, h.2⟩
theorem OwnE.below {t : TypeId} {base : Nat} {w w' : World} {v : Value} {l : List Sl} (h : OwnE t base w v l) (hb : Below w.heap.size w w') : OwnE t base w' v l := ⟨own_below h.1 hb, h.2⟩
theorem OwnE.same {t : TypeId} {base : Nat} {w w' : World} {v : Value} {l : List Sl} (h : OwnE t base w v l) (hs : Same base w w') : OwnE t base w' v l := ⟨own_same h.1 hs, h.2⟩
theorem OwnE.weaken {t : TypeId} {base m : Nat} {w : World} {v : Value} {l : List Sl} (h : OwnE t base w v l) (hn : m ≤ base) : OwnE t m w v l := ⟨own_weaken h.1 hn, h.2⟩
theorem OwnE.shape {t : TypeId} {base : Nat} {w : World} {v : Value} {l : List Sl} (h : OwnE t base w v l) : ∃ a cap, v = .slice a l.length cap := own_shape h.1
theorem OwnE.nil (t : TypeId) (base : Nat) (w : World) : OwnE t base w (.slice none 0 0) [] := ⟨World.ownsRow_nil _ _ _ _, fun _ h => by cases h⟩

/-! From the form's reading. -/

theorem en_view {n : Nat} {w : World} {us : List Value} {p : Sl} (h : slF.lies n w us p) : us = ev p ∧ EOk p := by
  obtain ⟨u1, r, rfl, ⟨rfl, h1⟩, ⟨rfl, h2⟩⟩ := h
  exact ⟨rfl, bounds_i64 h1, bounds_i64 h2⟩
theorem each_ev {n : Nat} {w : World} : ∀ {vss : List (List Value)} {l : List Sl}, Each (slF.lies n w) vss l → vss = l.map ev ∧ EOks l
  | [], [], _ => ⟨rfl, fun _ h => by cases h⟩
  | us :: vss, p :: l, h => by
    obtain ⟨rfl, hp⟩ := en_view h.1
    obtain ⟨rfl, hl⟩ := each_ev h.2
    refine ⟨rfl, fun q hq => ?_⟩
    rcases List.mem_cons.1 hq with rfl | hq
    · exact hp
    · exact hl q hq
  | [], _ :: _, h => h.elim
  | _ :: _, [], h => h.elim
theorem args_of {n : Nat} {w : World} {v : Value} {l : List Sl} (h : slsR.lies n w [v] l) : ArgE n w v l := by
  obtain ⟨v', vss, hv, hC, hE⟩ := h
  obtain rfl : v = v' := by simpa using hv
  obtain ⟨rfl, ho⟩ := each_ev hE
  exact ⟨hC, ho⟩
theorem fits_of {l : List Sl} (h : slsR.fits l) : l.length * 16 ≤ 140737488351232 := by
  have b24 : Try.prog.bytesOf 55 = 16 := by kernel_rfl
  have h3 : l.length * Try.prog.bytesOf 55 ≤ 140737488351232 := h.1
  rwa [b24] at h3
theorem EOks.snoc {l : List Sl} {p : Sl} (h : EOks l) (hp : EOk p) : EOks (l ++ [p]) := fun q hq => by
  rcases List.mem_append.1 hq with hq | hq
  · exact h q hq
  · rw [List.mem_singleton.1 hq]; exact hp
theorem EOks.get {l : List Sl} (h : EOks l) {i : Nat} {p : Sl} (hp : l[i]? = some p) : EOk p := h p (List.mem_of_getElem? hp)
theorem EOks.set {l : List Sl} (h : EOks l) (i : Nat) {p : Sl} (hp : EOk p) : EOks (l.set i p) := fun q hq => by
  rcases List.mem_or_eq_of_mem_set hq with hq | rfl
  · exact h q hq
  · exact hp
theorem get_lt {α : Type} {l : List α} {k : Nat} (h : k < l.length) : ∃ x, l[k]? = some x := ⟨_, List.getElem?_eq_getElem h⟩
theorem take_snoc {α : Type} {l : List α} {k : Nat} {x : α} (h : l[k]? = some x) : l.take (k + 1) = l.take k ++ [x] := by rw [List.take_add_one, h]; rfl

end Go.Proofs.Ytgfdggilplkmfaa
