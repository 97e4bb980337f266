/-
  Facts of the program on which every frame of a law leans: what the listed variable holds, and a world in which it does.
  Numbers, texts and octets as data; how they lie in memory.
  Entries, the program's and the document's, and octets, as data; how they lie in memory.
  Blocks and files, the program's and the document's, as data; how they lie in memory.
  What the small functions answer in every memory: numbers of errors, octets copied and alike, how many blocks there are and which ones octets lie in.
  Files as plain mathematics: blocks of a text, the one file of a text, which files may be, and that a file that may be is the one of its text.
  What isZero, start, inside, mayStand answer, and cmp.Compare.
  Texts and lists of texts as data; how they lie in memory.
  Paths as plain lists of octets: the parts between slashes, texts with a slash ahead of each; and that one leads to the other.
-/
import Derived.Test.YtopcefhncildnaaGreatDoorZ09
import Derived.LaidLaws
import Derived.LaidHandle
import Derived.Stop.Joined
set_option maxRecDepth 100000
set_option maxHeartbeats 2000000
namespace Go.Proofs.YtopcefhncildnaaGreatDoor
open Go.ChangeShapes Go.WideShapes Go.ChangeAt Go.RowKit
theorem own : ownKnob Tryz.prog.godebug = none := by kernel_rfl
theorem laidOut : laidOutB Tryz.prog = true := by kernel_rfl
theorem as_list (cs : Array Value) : ∃ us : List Value, cs = us.toArray := ⟨cs.toList, by simp⟩
abbrev listed : List (String × DataW Unit) := [("errors.errorType", Rows.laid_errors_errorType)]
def Glob (w : World) : Prop := w.cell? ⟨0, 0, none⟩ = some (.iface 363 (.agg #[.pointer (some ⟨2, 108, none⟩)]))
theorem Glob.below {n : Nat} {w w' : World} (h : Glob w) (hb : Below n w w') (hn : 0 < n) : Glob w' := by
 unfold Glob
 rw [hb.cell (p := ⟨0, 0, none⟩) hn]
 exact h
theorem Glob.lt {w : World} (h : Glob w) : 0 < w.heap.size := cell_lt h
theorem et : Tryz.prog.globalNamed "errors.errorType" = some 0 := by kernel_rfl
theorem rt : (Tryz.prog.cutTypes.find? (·.1 == "internal/reflectlite.rtype")).map (·.2) = some 363 := by kernel_rfl
theorem typesSize : Tryz.prog.types.size = 446 := by kernel_rfl
theorem oneRow : ((List.range 446).filter fun t => Tryz.prog.rowNamed t [101, 114, 114, 111, 114]) = [108] := by kernel_rfl
theorem handle_of_laid {W : World} (h : laidMetH Tryz.prog listed W) : Glob W := by
 have h' : laidMet Tryz.prog [] W ∧ handlesMet Tryz.prog listed W := h
 obtain ⟨name, u, ty, e1, e2, e3, e4, e5⟩ := h'.2 _ (List.mem_singleton.2 rfl)
 have en : name = [101, 114, 114, 111, 114] := (Option.some.inj e1).symm
 subst en
 obtain rfl := Option.some.inj (rt.symm.trans e2)
 have hm : ty ∈ (List.range 446).filter fun t => Tryz.prog.rowNamed t [101, 114, 114, 111, 114] := List.mem_filter.2 ⟨List.mem_range.2 (by rw [← typesSize]; exact e3), e4⟩
 rw [oneRow] at hm
 obtain rfl := List.mem_singleton.1 hm
 have hh : typeHandle Tryz.prog 108 = .pointer (some ⟨2, 108, none⟩) := by kernel_rfl
 rw [hh] at e5
 have := World.var?_cell et e5 0
 simpa [Glob] using this
def laidOf (w0 : World) : World :=
 { w0 with heap := w0.heap.modify 0 fun
     | .cells _ t frozen => .cells #[.iface 363 (.agg #[.pointer (some ⟨2, 108, none⟩)])] t frozen
     | o => o }
theorem laidWorld_met (os : Os) (args : Array Value) : laidMetH Tryz.prog listed ((laidOf (World.holding Tryz.prog os ⟨#[], #[], []⟩)).forCall (fun _ _ => 0) ⟨#[], args, []⟩).memory :=
 laidMetH_of_parts (laidMet_nil _ _) (by kernel_rfl)
end Go.Proofs.YtopcefhncildnaaGreatDoor
namespace Go.Proofs.YtopcefhncildnaaGreatDoor
open Go.RowKit
theorem Tryz.info5 : (Tryz.prog.info? 5).map (fun i => (i.zero, i.size, i.bytes)) = some (some (.int .u8 0), 1, 1) := by kernel_rfl
theorem Tryz.info3 : (Tryz.prog.info? 3).map (fun i => (i.zero, i.size, i.bytes)) = some (some (.int .i64 0), 1, 8) := by kernel_rfl
theorem Tryz.info9 : (Tryz.prog.info? 9).map (fun i => (i.zero, i.size, i.bytes)) = some (some (.string ⟨#[]⟩), 1, 16) := by kernel_rfl
def I64 (x : Int) : Prop := -9223372036854775808 ≤ x ∧ x ≤ 9223372036854775807
theorem I64.wf {x : Int} (h : I64 x) : (Lit.int .i64 x).wf = true := by
 obtain ⟨h1, h2⟩ := h
 simp [Lit.wf, IntKind.min, IntKind.max, IntKind.signed, IntKind.bits]
 omega
def Oct (l : List Int) : Prop := ∀ x ∈ l, (Lit.int .u8 x).wf = true
def u8L : Leaf Int := intL .u8 5 Tryz.underlying5 (by kernel_rfl)
def i64L : Leaf Int := intL .i64 3 Tryz.underlying3 (by kernel_rfl)
def i64S : Shape Int := i64L.shape
def bytesS : Shape (List Int) := u8L.row 25 Tryz.underlying25 (by kernel_rfl)
def strL : Leaf ByteArray where
 ty := 9
 val := .string
 ok s := s.size ≤ maxLen
 cells := by kernel_rfl
 one _ := rfl
 reads h := by
   obtain ⟨s, h1, _, h3⟩ := DataW.trod_string Tryz.underlying9 h
   exact ⟨s, h1, h3⟩
def strS : Shape ByteArray := strL.shape
def Arg (n0 : Nat) (w : World) (v : Value) (l : List Int) : Prop := bytesS.lies n0 w [v] l
theorem Arg.cells {n0 : Nat} {w : World} {v : Value} {l : List Int} (h : Arg n0 w v l) : Cells n0 w 1 v l.length (l.map (Value.int .u8)) := by
 obtain ⟨v', hv, hC, _⟩ := h
 obtain rfl : v = v' := by simpa using hv
 exact hC
theorem Arg.oct {n0 : Nat} {w : World} {v : Value} {l : List Int} (h : Arg n0 w v l) : Oct l := by
 obtain ⟨_, _, _, ho⟩ := h
 exact ho
theorem Arg.mk {n0 : Nat} {w : World} {v : Value} {l : List Int} (hC : Cells n0 w 1 v l.length (l.map (Value.int .u8))) (ho : Oct l) : Arg n0 w v l := ⟨v, rfl, hC, ho⟩
theorem Arg.keep {n0 : Nat} {w w' : World} {v : Value} {l : List Int} (h : Arg n0 w v l) (hs : Same n0 w w') : Arg n0 w' v l := bytesS.keep h hs
theorem Arg.below {n0 : Nat} {w w' : World} {v : Value} {l : List Int} (h : Arg n0 w v l) (hb : Below w.heap.size w w') : Arg n0 w' v l := h.keep (.of_below hb)
theorem Arg.weaken {n0 n1 : Nat} {w : World} {v : Value} {l : List Int} (h : Arg n0 w v l) (hn : n1 ≤ n0) : Arg n1 w v l := bytesS.weaken h hn
theorem Arg.shape {n0 : Nat} {w : World} {v : Value} {l : List Int} (h : Arg n0 w v l) : ∃ a cap, v = .slice a l.length cap ∧ l.length ≤ cap ∧ l.length ≤ maxLen ∧ (a = none → l.length = 0) := h.cells.shape
theorem Arg.split {n0 : Nat} {w : World} {v : Value} {l : List Int} (h : Arg n0 w v l) : (l = [] ∧ ∃ a cap, v = .slice a 0 cap) ∨ (∃ b off cap, v = .slice (some ⟨b, off, none⟩) l.length cap ∧ l.length ≤ cap ∧ l.length ≤ maxLen ∧ n0 ≤ b ∧ ∀ i, i < l.length → w.cell? ⟨b, off + i, none⟩ = some (.int .u8 (l.getD i 0))) := by
 by_cases h0 : l.length = 0
 · obtain ⟨a, cap, hv, _⟩ := h.shape
   exact .inl ⟨List.eq_nil_of_length_eq_zero h0, a, cap, by rw [hv, h0]⟩
 · right
   obtain ⟨b, o, cap, hv, h1, h2, h3, h4⟩ := h.cells.place (by omega) 0 (by omega)
   refine ⟨b, o, cap, hv, h1, h2, h3, fun i hi => ?_⟩
   have := h4 i (.int .u8 (l.getD i 0)) (by simp [hi])
   simpa using this
theorem Arg.at {n0 : Nat} {w : World} {v : Value} {l : List Int} (h : Arg n0 w v l) (i : Nat) (x : Int) (hx : l[i]? = some x) :
   ∃ b o, (∀ W, (Instr.indexAt 25 v (.int .i64 i)).run Tryz.prog W = .ok (.pointer (some ⟨b, o, none⟩)) W) ∧ n0 ≤ b ∧ w.cell? ⟨b, o, none⟩ = some (.int .u8 x) ∧ (Lit.int .u8 x).wf = true := by
 obtain ⟨i0, hi0, _, hz, _⟩ := info_parts Tryz.info5
 exact Leaf.row_at (L := u8L) (ht := Tryz.underlying25) (hc := by kernel_rfl) h hi0 hz i x hx
def Own1 (base : Nat) (w : World) (v : Value) (l : List Int) : Prop := bytesS.owns base w [v] l
theorem Own1.row {base : Nat} {w : World} {v : Value} {l : List Int} (h : Own1 base w v l) : w.ownsRow base 5 1 v l.length (l.map (Value.int .u8)) := by
 obtain ⟨v', hv, hC, _⟩ := h
 obtain rfl : v = v' := by simpa using hv
 exact hC
theorem Own1.mk {base : Nat} {w : World} {v : Value} {l : List Int} (h : w.ownsRow base 5 1 v l.length (l.map (Value.int .u8))) (ho : Oct l) : Own1 base w v l := ⟨v, rfl, h, ho⟩
theorem Own1.arg {base : Nat} {w : World} {v : Value} {l : List Int} (h : Own1 base w v l) : Arg base w v l := bytesS.olies h
theorem Own1.shape {base : Nat} {w : World} {v : Value} {l : List Int} (h : Own1 base w v l) : ∃ a cap, v = .slice a l.length cap := own_shape h.row
theorem Own1.oct {base : Nat} {w : World} {v : Value} {l : List Int} (h : Own1 base w v l) : Oct l := h.arg.oct
theorem get_lt {α : Type} {l : List α} {k : Nat} (h : k < l.length) : ∃ x, l[k]? = some x := ⟨_, List.getElem?_eq_getElem h⟩
theorem take_snoc {α : Type} {l : List α} {k : Nat} {x : α} (h : l[k]? = some x) : l.take (k + 1) = l.take k ++ [x] := by rw [List.take_add_one, h]; rfl
theorem one_cells (l : List Int) : ∀ u ∈ l.map (Value.int .u8), u.oneCell' = true := fun u hu => by
 obtain ⟨y, _, rfl⟩ := List.mem_map.1 hu
 rfl
end Go.Proofs.YtopcefhncildnaaGreatDoor
namespace Go.Proofs.YtopcefhncildnaaGreatDoor.D
open Go.RowKit
theorem Tryz.info49 : (Tryz.prog.info? 49).map (fun i => (i.zero, i.size, i.bytes)) = some (some (.agg #[.string ⟨#[]⟩, .int .i64 0]), 2, 24) := by kernel_rfl
abbrev En := ByteArray × Int
def enF : Fields En := strS.and i64S.only
def enR : Shape En := enF.struct 162 ⟨_, Tryz.underlying162, rfl, rfl⟩ (by kernel_rfl)
def enN : Shape En := enF.struct 49 ⟨_, Tryz.underlying49, rfl, rfl⟩ (by kernel_rfl)
def ev (p : En) : List Value := [.string p.1, .int .i64 p.2]
def evs (l : List En) : List Value := (l.map ev).flatten
def EOk (p : En) : Prop := p.1.size ≤ maxLen ∧ I64 p.2
def EOks (l : List En) : Prop := ∀ p ∈ l, EOk p
theorem ev_len (l : List En) : ∀ us ∈ l.map ev, us.length = 2 := fun us h => by
 obtain ⟨p, _, rfl⟩ := List.mem_map.1 h
 rfl
theorem evs_at {l : List En} {i : Nat} {p : En} (h : l[i]? = some p) : (evs l)[i * 2]? = some (.string p.1) ∧ (evs l)[i * 2 + 1]? = some (.int .i64 p.2) := by
 have hg : (l.map ev)[i]? = some (ev p) := by rw [List.getElem?_map, h]; rfl
 exact ⟨flat_get (j := 0) (ev_len l) hg rfl, flat_get (j := 1) (ev_len l) hg rfl⟩
theorem evs_take (l : List En) (k : Nat) : evs (l.take k) = (evs l).take (k * 2) := by
 induction l generalizing k with
 | nil => simp [evs]
 | cons p r ih => (
 cases k with
 | zero => simp [evs]
 | succ k =>
   rw [List.take_succ_cons, show evs (p :: r.take k) = ev p ++ evs (r.take k) from by simp [evs], ih, show evs (p :: r) = ev p ++ evs r from by simp [evs], Nat.succ_mul]
   simp [ev])
theorem evs_drop (l : List En) (k : Nat) : evs (l.drop k) = (evs l).drop (k * 2) := by
 induction l generalizing k with
 | nil => simp [evs]
 | cons p r ih => (
 cases k with
 | zero => simp
 | succ k =>
   rw [List.drop_succ_cons, ih, show evs (p :: r) = ev p ++ evs r from by simp [evs], Nat.succ_mul]
   simp [ev])
def ArgE (n : Nat) (w : World) (v : Value) (l : List En) : Prop := Cells n w 2 v l.length (evs l) ∧ EOks l
theorem ArgE.keep {n : Nat} {w w' : World} {v : Value} {l : List En} (h : ArgE n w v l) (hs : Same n w w') : ArgE n w' v l := ⟨h.1.keep hs, h.2⟩
theorem ArgE.below {n : Nat} {w w' : World} {v : Value} {l : List En} (h : ArgE n w v l) (hb : Below w.heap.size w w') : ArgE n w' v l := h.keep (.of_below hb)
theorem ArgE.weaken {n m : Nat} {w : World} {v : Value} {l : List En} (h : ArgE n w v l) (hn : m ≤ n) : ArgE m w v l := ⟨h.1.weaken hn, h.2⟩
theorem ArgE.shape {n : Nat} {w : World} {v : Value} {l : List En} (h : ArgE n w v l) : ∃ a cap, v = .slice a l.length cap ∧ l.length ≤ cap ∧ l.length ≤ maxLen ∧ (a = none → l.length = 0) := h.1.shape
theorem ArgE.nil (n : Nat) (w : World) : ArgE n w (.slice none 0 0) [] := ⟨⟨rfl, .inl ⟨rfl, rfl⟩⟩, fun _ h => by cases h⟩
theorem ArgE.at {n : Nat} {w : World} {v : Value} {l : List En} (h : ArgE n w v l) {t e : TypeId} (ht : Tryz.prog.underlying t = some (.slice e)) {i0 : TypeInfo} (hi0 : Tryz.prog.info? e = some i0) (hs : i0.size = 2) (i : Nat) (p : En) (hp : l[i]? = some p) :
   ∃ b o, (∀ W, (Instr.indexAt t v (.int .i64 i)).run Tryz.prog W = .ok (.pointer (some ⟨b, o, none⟩)) W) ∧ n ≤ b ∧ w.cell? ⟨b, o, none⟩ = some (.string p.1) ∧ w.cell? ⟨b, o + 1, none⟩ = some (.int .i64 p.2) := by
 obtain ⟨b, o, hix, hb, hc⟩ := h.1.index (by omega) ht hi0 hs i (List.getElem?_eq_some_iff.1 hp).1
 exact ⟨b, o, hix, hb, hc 0 _ (evs_at hp).1, hc 1 _ (evs_at hp).2⟩
theorem ArgE.atN {n : Nat} {w : World} {v : Value} {l : List En} (h : ArgE n w v l) (i : Nat) (p : En) (hp : l[i]? = some p) :
   ∃ b o, (∀ W, (Instr.indexAt 42 v (.int .i64 i)).run Tryz.prog W = .ok (.pointer (some ⟨b, o, none⟩)) W) ∧ n ≤ b ∧ w.cell? ⟨b, o, none⟩ = some (.string p.1) ∧ w.cell? ⟨b, o + 1, none⟩ = some (.int .i64 p.2) := by
 obtain ⟨i0, hi0, _, hz, _⟩ := info_parts Tryz.info49
 exact h.at Tryz.underlying42 hi0 hz i p hp
def OwnE (t : TypeId) (base : Nat) (w : World) (v : Value) (l : List En) : Prop := w.ownsRow base t 2 v l.length (evs l) ∧ EOks l
theorem OwnE.arg {t : TypeId} {base : Nat} {w : World} {v : Value} {l : List En} (h : OwnE t base w v l) : ArgE base w v l := ⟨.own h.1, h.2⟩
theorem OwnE.below {t : TypeId} {base : Nat} {w w' : World} {v : Value} {l : List En} (h : OwnE t base w v l) (hb : Below w.heap.size w w') : OwnE t base w' v l := ⟨own_below h.1 hb, h.2⟩
theorem OwnE.same {t : TypeId} {base : Nat} {w w' : World} {v : Value} {l : List En} (h : OwnE t base w v l) (hs : Same base w w') : OwnE t base w' v l := ⟨own_same h.1 hs, h.2⟩
theorem OwnE.weaken {t : TypeId} {base m : Nat} {w : World} {v : Value} {l : List En} (h : OwnE t base w v l) (hn : m ≤ base) : OwnE t m w v l := ⟨own_weaken h.1 hn, h.2⟩
theorem OwnE.shape {t : TypeId} {base : Nat} {w : World} {v : Value} {l : List En} (h : OwnE t base w v l) : ∃ a cap, v = .slice a l.length cap := own_shape h.1
theorem OwnE.nil (t : TypeId) (base : Nat) (w : World) : OwnE t base w (.slice none 0 0) [] := ⟨World.ownsRow_nil _ _ _ _, fun _ h => by cases h⟩
theorem en_view {n : Nat} {w : World} {us : List Value} {p : En} (h : enF.lies n w us p) : us = ev p ∧ EOk p := by
 obtain ⟨u1, r, rfl, ⟨rfl, h1⟩, ⟨rfl, h2⟩⟩ := h
 exact ⟨rfl, h1, bounds_i64 h2⟩
theorem each_ev {n : Nat} {w : World} : ∀ {vss : List (List Value)} {l : List En}, Each (enF.lies n w) vss l → vss = l.map ev ∧ EOks l
 | [], [], _ => ⟨rfl, fun _ h => by cases h⟩
 | us :: vss, p :: l, h => by (
 obtain ⟨rfl, hp⟩ := en_view h.1
 obtain ⟨rfl, hl⟩ := each_ev h.2
 refine ⟨rfl, fun q hq => ?_⟩
 rcases List.mem_cons.1 hq with rfl | hq
 · exact hp
 · exact hl q hq)
 | [], _ :: _, h => h.elim
 | _ :: _, [], h => h.elim
theorem EOks.snoc {l : List En} {p : En} (h : EOks l) (hp : EOk p) : EOks (l ++ [p]) := fun q hq => by
 rcases List.mem_append.1 hq with hq | hq
 · exact h q hq
 · rw [List.mem_singleton.1 hq]; exact hp
theorem EOks.take {l : List En} (h : EOks l) (k : Nat) : EOks (l.take k) := fun q hq => h q (List.mem_of_mem_take hq)
theorem EOks.drop {l : List En} (h : EOks l) (k : Nat) : EOks (l.drop k) := fun q hq => h q (List.mem_of_mem_drop hq)
theorem EOks.append {l m : List En} (h : EOks l) (k : EOks m) : EOks (l ++ m) := fun q hq => (List.mem_append.1 hq).elim (h q) (k q)
theorem EOks.get {l : List En} (h : EOks l) {i : Nat} {p : En} (hp : l[i]? = some p) : EOk p := h p (List.mem_of_getElem? hp)
end Go.Proofs.YtopcefhncildnaaGreatDoor.D
namespace Go.Proofs.YtopcefhncildnaaGreatDoor.F
open Go.RowKit
theorem Tryz.info51 : (Tryz.prog.info? 51).map (fun i => (i.zero, i.size, i.bytes)) = some (some (.agg #[.int .i64 0, .slice none 0 0]), 2, 32) := by kernel_rfl
abbrev Bk := Int × List Int
def bkF : Fields Bk := i64S.and bytesS.only
def bkR : Shape Bk := bkF.struct 163 ⟨_, Tryz.underlying163, rfl, rfl⟩ (by kernel_rfl)
def bkN : Shape Bk := bkF.struct 51 ⟨_, Tryz.underlying51, rfl, rfl⟩ (by kernel_rfl)
theorem cells97 : Tryz.prog.cellsOf 97 = 1 := by kernel_rfl
def bksR : Shape (List Bk) := bkR.list 97 Tryz.underlying97 cells97
theorem cells43 : Tryz.prog.cellsOf 43 = 1 := by kernel_rfl
def bksN : Shape (List Bk) := bkN.list 43 Tryz.underlying43 cells43
abbrev Fl := Int × List Bk
def flR : Shape Fl := (i64S.and bksR.only).struct 99 ⟨_, Tryz.underlying99, rfl, rfl⟩ (by kernel_rfl)
def flN : Shape Fl := (i64S.and bksN.only).struct 45 ⟨_, Tryz.underlying45, rfl, rfl⟩ (by kernel_rfl)
theorem bk_view {n : Nat} {w : World} {us : List Value} {p : Bk} (h : bkF.lies n w us p) : ∃ a cap, us = [.int .i64 p.1, .slice a p.2.length cap] ∧ Arg n w (.slice a p.2.length cap) p.2 ∧ I64 p.1 := by
 obtain ⟨u1, r, rfl, ⟨rfl, h1⟩, v, rfl, hC, ho⟩ := h
 obtain ⟨a, cap, rfl, _⟩ := hC.shape
 exact ⟨a, cap, rfl, ⟨_, rfl, hC, ho⟩, bounds_i64 h1⟩
theorem bk_omk {n : Nat} {w : World} {v : Value} {p : Bk} (h : Own1 n w v p.2) (h1 : I64 p.1) : bkF.owns n w [.int .i64 p.1, v] p := ⟨[_], [_], rfl, ⟨rfl, h1.wf⟩, h⟩
theorem fl_viewN {n : Nat} {w : World} {us : List Value} {s : Fl} (h : flN.lies n w us s) : ∃ a cap, us = [.int .i64 s.1, .slice a s.2.length cap] ∧ bksN.lies n w [.slice a s.2.length cap] s.2 ∧ I64 s.1 ∧ s.2.length ≤ maxLen := by
 obtain ⟨u1, u2, rfl, ⟨rfl, h1⟩, h2⟩ := h
 obtain ⟨a, cap, rfl, _, hm, _⟩ := Shape.list_len (S := bkN) (ht := Tryz.underlying43) (hc := cells43) h2
 exact ⟨a, cap, rfl, h2, bounds_i64 h1, hm⟩
theorem fl_mkN {n : Nat} {w : World} {v : Value} {s : Fl} (h : bksN.lies n w [v] s.2) (h1 : I64 s.1) : flN.lies n w [.int .i64 s.1, v] s := ⟨[_], [_], rfl, ⟨rfl, h1.wf⟩, h⟩
theorem fl_mkR {n : Nat} {w : World} {v : Value} {s : Fl} (h : bksR.lies n w [v] s.2) (h1 : I64 s.1) : flR.lies n w [.int .i64 s.1, v] s := ⟨[_], [_], rfl, ⟨rfl, h1.wf⟩, h⟩
theorem fl_omkN {n : Nat} {w : World} {v : Value} {s : Fl} (h : bksN.owns n w [v] s.2) (h1 : I64 s.1) : flN.owns n w [.int .i64 s.1, v] s := ⟨[_], [_], rfl, ⟨rfl, h1.wf⟩, h⟩
theorem bks_atN {n : Nat} {w : World} {v : Value} {l : List Bk} (h : bksN.lies n w [v] l) (i : Nat) (p : Bk) (hp : l[i]? = some p) :
   ∃ b o a cap, (∀ W, (Instr.indexAt 43 v (.int .i64 i)).run Tryz.prog W = .ok (.pointer (some ⟨b, o, none⟩)) W) ∧ w.cell? ⟨b, o, none⟩ = some (.int .i64 p.1) ∧ w.cell? ⟨b, o + 1, none⟩ = some (.slice a p.2.length cap) ∧
     Arg n w (.slice a p.2.length cap) p.2 ∧ I64 p.1 ∧ n ≤ b := by
 obtain ⟨i0, hi0, _, hz, _⟩ := info_parts Tryz.info51
 obtain ⟨b, o, us, hix, hb, hc, hl⟩ := Shape.list_at (S := bkN) (ht := Tryz.underlying43) (hc := cells43) h (by decide) hi0 hz i p hp
 obtain ⟨a, cap, rfl, hA, h1⟩ := bk_view hl
 exact ⟨b, o, a, cap, hix, hc 0 _ rfl, hc 1 _ rfl, hA, h1, hb⟩
end Go.Proofs.YtopcefhncildnaaGreatDoor.F
namespace Go.Proofs.YtopcefhncildnaaGreatDoor.F
open Go.RowKit
theorem num_any (x : Int) (w : World) : Calls Tryz.prog 17 #[.int .i64 x] w fun e w' => e = .returned (.int .i64 x) ∧ w = w' := by
 go_enter Tryz.func17, Tryz.ntmps17
 go_wp2
 go_ret
 exact ⟨rfl, rfl⟩
def Copies (f : FuncId) : Prop := ∀ (n0 : Nat) (v : Value) (l : List Int) (w : World), Arg n0 w v l → l.length ≤ 140737488355328 →
   Calls Tryz.prog f #[v] w fun e w' => (∃ v', e = .returned v' ∧ Own1 w.heap.size w' v' l) ∧ Below w.heap.size w w'
theorem copy_any : Copies 11 := by
 intro n0 v l w h hs
 obtain ⟨i0, hi, hz0, hz1, hz2⟩ := info_parts Tryz.info5
 have ho := h.oct
 obtain ⟨hl, h | ⟨x, cap, rfl, hcap, hm, _, hc⟩⟩ := h.cells
 · obtain ⟨rfl, h0⟩ := h
   obtain rfl := List.eq_nil_of_length_eq_zero h0
   go_enter Tryz.func11, Tryz.ntmps11
   go_wp2_with (at_builtin; refine wpList_append_own_none rfl _ _ 25 rfl w.heap.size 5 i0 1 Tryz.underlying25 hi (.slice none 0 0) 0 [] rfl (World.ownsRow_nil _ _ _ _) rfl ?_)
   go_ret
   exact ⟨⟨_, rfl, .mk (World.ownsRow_nil _ _ _ _) ho⟩, Below.refl _ _⟩
 · have hone := one_cells l
   go_enter Tryz.func11, Tryz.ntmps11
   go_wp2_with (at_builtin; refine wpList_append_own _ rfl _ _ 25 rfl w.heap.size 5 i0 (.int .u8 0) 1 1 Tryz.underlying25 hi hz0 hz1 hz2 rfl (by decide) (.slice none 0 0) 0 [] rfl (World.ownsRow_nil _ _ _ _) x l.length cap (l.map (Value.int .u8)) rfl (by simp) hc hone (by omega) (by omega) (Nat.le_refl _) ?_)
   intro v' w1 hown hgrow _
   have hb : Below w.heap.size w w1 := (Below.refl _ _).grown hgrow (Nat.le_refl _) (fun _ h => by cases h)
   clear hgrow hc hone
   go_wp2
   go_ret
   exact ⟨⟨v', rfl, .mk (by simpa using hown) ho⟩, hb⟩
theorem differ {a b : List Int} {k : Nat} (h : a.getD k 0 ≠ b.getD k 0) : a ≠ b := fun e => h (by rw [e])
theorem alike {a b : List Int} (hl : a.length = b.length) (h : ∀ i, i < a.length → a.getD i 0 = b.getD i 0) : a = b := by
 apply List.ext_getElem hl
 intro i h1 h2
 have := h i h1
 simpa [List.getD, List.getElem?_eq_getElem h1, List.getElem?_eq_getElem h2] using this
theorem same_any (n1 n2 : Nat) (v1 v2 : Value) (l1 l2 : List Int) (w : World) (h1 : Arg n1 w v1 l1) (h2 : Arg n2 w v2 l2) :
   Calls Tryz.prog 27 #[v1, v2] w fun e w' => e = .returned (.bool (decide (l1 = l2))) ∧ ∃ q, w' = w.drewN q := by
 obtain ⟨a1, c1, rfl, _, hm1, _⟩ := h1.shape
 obtain ⟨a2, c2, rfl, _, hm2, _⟩ := h2.shape
 unfold maxLen at hm1 hm2
 have hl1 := run_len Tryz.underlying25 a1 l1.length c1
 have hl2 := run_len Tryz.underlying25 a2 l2.length c2
 by_cases hlen : l1.length = l2.length
 case neg => (
 have e : decide (l1 = l2) = false := by
   rw [decide_eq_false_iff_not]
   intro h; exact hlen (by rw [h])
 rw [e]
 have hne : ¬ (l1.length : Int) = (l2.length : Int) := by omega
 clear h1 h2
 go_enter Tryz.func27, Tryz.ntmps27
 go_wp2
 go_ret
 exact ⟨rfl, 0, rfl⟩)
 rcases h1.split with ⟨rfl, _⟩ | ⟨b1, o1, k1, hv1, _, _, _, e1⟩
 · obtain rfl : l2 = [] := List.eq_nil_of_length_eq_zero (by simpa using hlen.symm)
   clear h1 h2
   go_enter Tryz.func27, Tryz.ntmps27
   go_wp2
   refine wp_loop_rounds 1 ?_
   rw [rounds_succ]
   go_wp2
   go_ret
   exact ⟨rfl, 0, rfl⟩
 rcases h2.split with ⟨rfl, _⟩ | ⟨b2, o2, k2, hv2, _, _, _, e2⟩
 · obtain rfl : l1 = [] := List.eq_nil_of_length_eq_zero (by simpa using hlen)
   clear h1 h2
   go_enter Tryz.func27, Tryz.ntmps27
   go_wp2
   refine wp_loop_rounds 1 ?_
   rw [rounds_succ]
   go_wp2
   go_ret
   exact ⟨rfl, 0, rfl⟩
 obtain ⟨rfl, _, rfl⟩ := Value.slice.inj hv1
 obtain ⟨rfl, _, rfl⟩ := Value.slice.inj hv2
 obtain ⟨n, hn⟩ := exa (l1.length)
 rw [← hlen] at e2 hl2 ⊢
 rw [← hn] at e1 e2 hl1 hl2 hm1 ⊢
 have HE : Hid ((∀ i, i < n → w.cell? ⟨b1, o1 + i, none⟩ = some (.int .u8 (l1.getD i 0))) ∧ ∀ i, i < n → w.cell? ⟨b2, o2 + i, none⟩ = some (.int .u8 (l2.getD i 0))) := ⟨e1, e2⟩
 have HN : Hid (n = l1.length ∧ l1.length = l2.length) := ⟨hn, hlen⟩
 obtain ⟨d, hd⟩ := exa (decide (l1 = l2))
 rw [← hd]
 have HDD : Hid (d = decide (l1 = l2)) := hd
 clear h1 h2 hv1 hv2 hn hlen e1 e2 hl1 hl2 hd
 go_enter Tryz.func27, Tryz.ntmps27
 go_wp2
 go_loopw [5] (fun i wr => ∃ k : Nat, k ≤ n ∧ i = .int .i64 k ∧ Hid (∀ i, i < k → l1.getD i 0 = l2.getD i 0) ∧ ∃ q, wr = w.drewN q) (fun i _ => n - (intOf i).toNat)
 case atStart => exact ⟨0, Nat.zero_le _, rfl, fun i hi => by omega, 0, rfl⟩
 case round => (
 obtain ⟨k, hk, rfl, HK, q, rfl⟩ := hrel
 by_cases hlt : k < n
 · have g1 := HE.out.1 k hlt
   have g2 := HE.out.2 k hlt
   have hkn : (k : Int) < (n : Int) := by omega
   obtain ⟨x, hx⟩ := exa (l1.getD k 0)
   obtain ⟨y, hy⟩ := exa (l2.getD k 0)
   rw [← hx] at g1
   rw [← hy] at g2
   have HXY : Hid (x = l1.getD k 0 ∧ y = l2.getD k 0) := ⟨hx, hy⟩
   clear hx hy
   by_cases hxy : x = y
   · subst hxy
     go_wp2
     go_quiet (fail)
     go_wp2
     go_roundw
     case rel => (
 refine ⟨k + 1, by omega, by go_num, fun i hi => ?_, _, rfl⟩
 by_cases e : i < k
 · exact HK.out i e
 · obtain rfl : i = k := by omega
   rw [← HXY.out.1, ← HXY.out.2])
     case measure => simp [intOf]; omega
   · have hdf : d = false := by
       rw [HDD.out, decide_eq_false_iff_not]
       exact differ (by rw [← HXY.out.1, ← HXY.out.2]; exact hxy)
     subst hdf
     go_wp2
     go_quiet (fail)
     go_wp2
     go_ret
     exact ⟨rfl, _, World.drewN_drewN _ _ _⟩
 · obtain rfl : k = n := by omega
   have hdt : d = true := by (
 rw [HDD.out, decide_eq_true_eq]
 exact alike HN.out.2 (fun i hi => HK.out i (by rw [HN.out.1]; exact hi)))
   subst hdt
   go_wp2
   go_ret
   exact ⟨rfl, q, rfl⟩)
def blkN (s : Int) : Int := (s + 31) / 32
def indM (n : Int) : Int := if 12 < n then 2 + (n - 5) / 8 else if 4 < n then 1 else 0
def blkE (s : Int) : Int := if s < 0 then 4 else if 2432 < s then 107 else 0
def blkV (s : Int) : Int := if 0 ≤ s ∧ s ≤ 2432 then blkN s else 0
def blkM (s : Int) : Int := if 0 ≤ s ∧ s ≤ 2432 then indM (blkN s) else 0
theorem parts_any (x n : Int) (w : World) (hx : 0 ≤ x ∧ x ≤ 100000) (hn : 1 ≤ n ∧ n ≤ 100000) : Calls Tryz.prog 171 #[.int .i64 x, .int .i64 n] w fun e w' => e = .returned (.int .i64 ((x + n - 1) / n)) ∧ w = w' := by
 have hd : (0 : Int) ≤ (x + n - 1) / n ∧ (x + n - 1) / n ≤ 1000000 := by (
 refine ⟨Int.ediv_nonneg (by omega) (by omega), ?_⟩
 have := Int.ediv_le_self n (show 0 ≤ x + n - 1 by omega)
 omega)
 have hn0 : ¬ n = 0 := by omega
 go_enter Tryz.func171, Tryz.ntmps171
 go_wp2
 go_ret
 exact ⟨rfl, rfl⟩
theorem indirect_any (n : Int) (w : World) (hn : 0 ≤ n ∧ n ≤ 76) : Calls Tryz.prog 233 #[.int .i64 n] w fun e w' => e = .returned (.int .i64 (indM n)) ∧ w = w' := by
 unfold indM
 by_cases h1 : 12 < n
 · rw [if_pos h1]
   have HP := parts_any (n - 12) 8 w (by omega) (by omega)
   rw [show (n - 12 + 8 - 1) / 8 = (n - 5) / 8 by omega] at HP
   have hd : 0 ≤ (n - 5) / 8 ∧ (n - 5) / 8 ≤ 9 := by omega
   obtain ⟨d, hdd⟩ := exa ((n - 5) / 8)
   rw [← hdd] at hd HP ⊢
   clear hdd
   go_enter Tryz.func233, Tryz.ntmps233
   go_wp2_with fail
   refine HP.mono ?_
   rintro e w1 ⟨rfl, rfl⟩
   go_wp2
   go_ret
   exact ⟨by go_num, rfl⟩
 · rw [if_neg h1]
   by_cases h2 : 4 < n
   · rw [if_pos h2]
     go_enter Tryz.func233, Tryz.ntmps233
     go_wp2
     go_ret
     exact ⟨rfl, rfl⟩
   · rw [if_neg h2]
     go_enter Tryz.func233, Tryz.ntmps233
     go_wp2
     go_ret
     exact ⟨rfl, rfl⟩
def Blockss (f : FuncId) : Prop := ∀ (s : Int) (w : World), I64 s → Calls Tryz.prog f #[.int .i64 s] w fun e w' => e = .returned (.tuple #[.int .i64 (blkV s), .int .i64 (blkM s), .int .i64 (blkE s)]) ∧ w = w'
theorem blk_low {s : Int} (h : s < 0) : blkV s = 0 ∧ blkM s = 0 ∧ blkE s = 4 := ⟨if_neg (by omega), if_neg (by omega), if_pos h⟩
theorem blk_high {s : Int} (h : 2432 < s) : blkV s = 0 ∧ blkM s = 0 ∧ blkE s = 107 := ⟨if_neg (by omega), if_neg (by omega), by unfold blkE; rw [if_neg (by omega), if_pos h]⟩
theorem blk_in {s : Int} (h : 0 ≤ s ∧ s ≤ 2432) : blkV s = blkN s ∧ blkM s = indM (blkN s) ∧ blkE s = 0 := ⟨if_pos h, if_pos h, by unfold blkE; rw [if_neg (by omega), if_neg (by omega)]⟩
theorem blkN_in {s : Int} (h : 0 ≤ s ∧ s ≤ 2432) : 0 ≤ blkN s ∧ blkN s ≤ 76 := by unfold blkN; omega
theorem blocks_any : Blockss 166 := by
 intro s w hs
 unfold I64 at hs
 by_cases h0 : s < 0
 · obtain ⟨e1, e2, e3⟩ := blk_low h0
   rw [e1, e2, e3]
   go_enter Tryz.func166, Tryz.ntmps166
   go_wp2
   go_ret3
   exact ⟨rfl, rfl⟩
 · by_cases h1 : 2432 < s
   · obtain ⟨e1, e2, e3⟩ := blk_high h1
     rw [e1, e2, e3]
     go_enter Tryz.func166, Tryz.ntmps166
     go_wp2
     go_ret3
     exact ⟨rfl, rfl⟩
   · obtain ⟨e1, e2, e3⟩ := blk_in (s := s) (by omega)
     rw [e1, e2, e3]
     have HP := parts_any s 32 w (by omega) (by omega)
     rw [show (s + 32 - 1) / 32 = blkN s by unfold blkN; omega] at HP
     have HI := indirect_any (blkN s) w (blkN_in (by omega))
     obtain ⟨n, hn⟩ := exa (blkN s)
     rw [← hn] at HP HI ⊢
     clear hn e1 e2 e3
     go_enter Tryz.func166, Tryz.ntmps166
     go_wp2_with fail
     refine HP.mono ?_
     rintro e w1 ⟨rfl, rfl⟩
     go_wp2_with fail
     refine HI.mono ?_
     rintro e w1 ⟨rfl, rfl⟩
     go_wp2
     go_ret3
     exact ⟨rfl, rfl⟩
end Go.Proofs.YtopcefhncildnaaGreatDoor.F
namespace Go.Proofs.YtopcefhncildnaaGreatDoor.F
def zs : List Int := List.replicate 32 0
def isz (l : List Int) : Bool := l.all fun x => x == 0
def tb (o : Nat → Int) (j : Nat) : List Int := (List.range 32).map fun k => o (32 * j + k)
def mkL (T : Nat → List Int) (n : Nat) : List Bk := ((List.range n).filter fun j => !isz (T j)).map fun (j : Nat) => ((j : Int), T j)
def oc (t : List Int) (i : Nat) : Int := t.getD i 0
def mk (t : List Int) : Fl := ((t.length : Int), mkL (tb (oc t)) 76)
def ins (i s : Int) : Nat := (min (max (s - 32 * i) 0) 32).toNat
def stand (b : Bk) (s : Int) : Bool := decide (b.2.length = 32) && !isz b.2 && isz (b.2.drop (ins b.1 s))
def okB (s : Int) : Int → List Bk → Bool
 | _, [] => true
 | next, b :: r => decide (next ≤ b.1) && decide (b.1 < blkN s) && stand b s && okB s (b.1 + 1) r
def chk (f : Fl) : Bool := decide (0 ≤ f.1 ∧ f.1 ≤ 2432) && okB f.1 0 f.2
def cerr (f : Fl) : Int := if chk f then 0 else 9
def bd (bs : List Bk) (j : Nat) : List Int := ((bs.find? fun b => b.1 == (j : Int)).map fun b => b.2).getD zs
def oct (f : Fl) (i : Nat) : Int := (bd f.2 (i / 32)).getD (i % 32) 0
def txt (f : Fl) : List Int := (List.range f.1.toNat).map (oct f)
theorem isz_iff {l : List Int} : isz l = true ↔ ∀ x ∈ l, x = 0 := by simp [isz]
theorem isz_get {l : List Int} (h : isz l = true) (i : Nat) : l.getD i 0 = 0 := by
 by_cases hi : i < l.length
 · simp only [List.getD_eq_getElem?_getD, List.getElem?_eq_getElem hi, Option.getD_some]
   exact isz_iff.1 h _ (List.getElem_mem hi)
 · simp [List.getElem?_eq_none (Nat.le_of_not_lt hi)]
theorem isz_of {l : List Int} (h : ∀ i, i < l.length → l.getD i 0 = 0) : isz l = true := by
 rw [isz_iff]
 intro x hx
 obtain ⟨i, hi, rfl⟩ := List.mem_iff_getElem.1 hx
 have := h i hi
 simpa [List.getElem?_eq_getElem hi] using this
theorem isz_not {l : List Int} (h : isz l = false) : ∃ i, i < l.length ∧ l.getD i 0 ≠ 0 := by
 by_cases hx : ∀ i, i < l.length → l.getD i 0 = 0
 · rw [isz_of hx] at h; cases h
 · have ⟨i, hi⟩ := Classical.not_forall.1 hx
   have ⟨h1, h2⟩ := Classical.not_imp.1 hi
   exact ⟨i, h1, h2⟩
theorem zs_get (i : Nat) : zs.getD i 0 = 0 := isz_get (by decide) i
theorem tb_length (o : Nat → Int) (j : Nat) : (tb o j).length = 32 := by simp [tb]
theorem range_get {α : Type} (g : Nat → α) (n i : Nat) (d : α) (h : i < n) : ((List.range n).map g).getD i d = g i := by simp [h]
theorem range_out {α : Type} (g : Nat → α) (n i : Nat) (d : α) (h : n ≤ i) : ((List.range n).map g).getD i d = d := by simp [h]
theorem tb_get (o : Nat → Int) (j k : Nat) (h : k < 32) : (tb o j).getD k 0 = o (32 * j + k) := range_get _ _ _ _ h
def Rise (l : List Bk) : Prop := l.Pairwise fun a b => a.1 < b.1
theorem rise_unique : ∀ {l1 l2 : List Bk}, Rise l1 → Rise l2 → (∀ p, p ∈ l1 ↔ p ∈ l2) → l1 = l2
 | [], [], _, _, _ => rfl
 | [], b :: _, _, _, h => by have := (h b).2 (List.mem_cons_self ..); cases this
 | a :: _, [], _, _, h => by have := (h a).1 (List.mem_cons_self ..); cases this
 | a :: r, b :: s, h1, h2, h => by (
 obtain ⟨h3, h4⟩ := List.pairwise_cons.1 h1
 obtain ⟨h5, h6⟩ := List.pairwise_cons.1 h2
 have hab : a = b := by (
 rcases List.mem_cons.1 ((h a).1 (List.mem_cons_self ..)) with e | e
 · exact e
 · rcases List.mem_cons.1 ((h b).2 (List.mem_cons_self ..)) with e' | e'
   · exact e'.symm
   · have := h5 a e; have := h3 b e'; omega)
 subst hab
 congr 1
 refine rise_unique h4 h6 fun p => ⟨fun hp => ?_, fun hp => ?_⟩
 · rcases List.mem_cons.1 ((h p).1 (List.mem_cons_of_mem _ hp)) with e | e
   · subst e; have := h3 p hp; omega
   · exact e
 · rcases List.mem_cons.1 ((h p).2 (List.mem_cons_of_mem _ hp)) with e | e
   · subst e; have := h5 p hp; omega
   · exact e)
theorem mem_mkL {T : Nat → List Int} {n : Nat} {p : Bk} : p ∈ mkL T n ↔ ∃ j, j < n ∧ isz (T j) = false ∧ p = ((j : Int), T j) := by
 simp only [mkL, List.mem_map, List.mem_filter, List.mem_range, Bool.not_eq_true']
 constructor
 · rintro ⟨j, ⟨h1, h2⟩, rfl⟩; exact ⟨j, h1, h2, rfl⟩
 · rintro ⟨j, h1, h2, rfl⟩; exact ⟨j, ⟨h1, h2⟩, rfl⟩
theorem rise_mkL (T : Nat → List Int) (n : Nat) : Rise (mkL T n) := by
 unfold Rise mkL
 rw [List.pairwise_map]
 refine List.Pairwise.filter _ ?_
 exact List.pairwise_lt_range.imp fun h => Int.ofNat_lt.2 h
theorem mkL_more {T : Nat → List Int} {n m : Nat} (hnm : n ≤ m) (h : ∀ j, n ≤ j → j < m → isz (T j) = true) : mkL T m = mkL T n :=
 rise_unique (rise_mkL _ _) (rise_mkL _ _) fun p => by (
 rw [mem_mkL, mem_mkL]
 constructor
 · rintro ⟨j, h1, h2, rfl⟩
   by_cases hj : j < n
   · exact ⟨j, hj, h2, rfl⟩
   · rw [h j (by omega) h1] at h2; cases h2
 · rintro ⟨j, h1, h2, rfl⟩; exact ⟨j, by omega, h2, rfl⟩)
theorem bd_none {l : List Bk} {j : Nat} (h : ∀ p ∈ l, p.1 ≠ (j : Int)) : bd l j = zs := by
 unfold bd
 rw [List.find?_eq_none.2 (fun p hp => by simpa using h p hp)]
 rfl
theorem bd_snoc {l : List Bk} {x : Bk} (h : ∀ p ∈ l, p.1 ≠ x.1) (j : Nat) : bd (l ++ [x]) j = if x.1 = (j : Int) then x.2 else bd l j := by
 by_cases e : x.1 = (j : Int)
 · rw [if_pos e]
   unfold bd
   rw [List.find?_append, List.find?_eq_none.2 (fun p hp => by have := h p hp; rw [e] at this; simpa using this)]
   simp [e]
 · rw [if_neg e]
   unfold bd
   rw [List.find?_append]
   simp [e]
theorem okB_iff {s : Int} : ∀ {l : List Bk} {next : Int}, okB s next l = true ↔ ((∀ b ∈ l, next ≤ b.1 ∧ b.1 < blkN s ∧ stand b s = true) ∧ Rise l)
 | [], next => by simp [okB, Rise]
 | b :: r, next => by (
 simp only [okB, Bool.and_eq_true, decide_eq_true_eq, okB_iff (l := r), Rise, List.pairwise_cons, List.mem_cons]
 constructor
 · rintro ⟨⟨⟨h1, h2⟩, h3⟩, h4, h5⟩
   refine ⟨?_, fun a ha => by have := (h4 a ha).1; omega, h5⟩
   rintro p (rfl | hp)
   · exact ⟨h1, h2, h3⟩
   · obtain ⟨h6, h7, h8⟩ := h4 p hp
     exact ⟨by omega, h7, h8⟩
 · rintro ⟨h1, h2, h3⟩
   obtain ⟨h4, h5, h6⟩ := h1 b (.inl rfl)
   exact ⟨⟨⟨h4, h5⟩, h6⟩, fun p hp => ⟨by have := h2 p hp; omega, (h1 p (.inr hp)).2⟩, h3⟩)
theorem stand_iff {b : Bk} {s : Int} : stand b s = true ↔ (b.2.length = 32 ∧ isz b.2 = false ∧ isz (b.2.drop (ins b.1 s)) = true) := by
 simp [stand, and_assoc]
theorem chk_iff {f : Fl} : chk f = true ↔ ((0 ≤ f.1 ∧ f.1 ≤ 2432) ∧ (∀ b ∈ f.2, 0 ≤ b.1 ∧ b.1 < blkN f.1 ∧ b.2.length = 32 ∧ isz b.2 = false ∧ isz (b.2.drop (ins b.1 f.1)) = true) ∧ Rise f.2) := by
 simp only [chk, Bool.and_eq_true, decide_eq_true_eq, okB_iff, stand_iff]
theorem chk_key {f : Fl} (h : chk f = true) {b : Bk} (hb : b ∈ f.2) : 0 ≤ b.1 ∧ b.1 < 76 ∧ b.2.length = 32 := by
 obtain ⟨h1, h2, _⟩ := chk_iff.1 h
 obtain ⟨h3, h4, h5, _⟩ := h2 b hb
 have := (blkN_in h1).2
 exact ⟨h3, by omega, h5⟩
theorem oct_out {f : Fl} (h : chk f = true) {i : Nat} (hi : f.1 ≤ i) : oct f i = 0 := by
 unfold oct bd
 cases hf : f.2.find? fun b => b.1 == ((i / 32 : Nat) : Int) with
 | none => simp only [Option.map_none, Option.getD_none]; exact zs_get _
 | some b => (
 obtain ⟨_, h2, _⟩ := chk_iff.1 h
 obtain ⟨h3, h4, h5, _, h6⟩ := h2 b (List.mem_of_find?_eq_some hf)
 have hk : b.1 = ((i / 32 : Nat) : Int) := by have := List.find?_some hf; simpa using this
 simp only [Option.map_some, Option.getD_some]
 have hle : ins b.1 f.1 ≤ i % 32 := by unfold ins; omega
 have := isz_get h6 (i % 32 - ins b.1 f.1)
 simp only [List.getD_eq_getElem?_getD, List.getElem?_drop] at this
 rw [Nat.add_sub_of_le hle] at this
 simpa using this)
theorem txt_length (f : Fl) : (txt f).length = f.1.toNat := by simp [txt]
theorem txt_get {f : Fl} (h : chk f = true) (i : Nat) : oc (txt f) i = oct f i := by
 unfold oc txt
 by_cases hi : i < f.1.toNat
 · exact range_get _ _ _ _ hi
 · rw [range_out _ _ _ _ (by omega)]
   exact (oct_out h (by omega)).symm
theorem oc_out {t : List Int} {i : Nat} (h : t.length ≤ i) : oc t i = 0 := by
 unfold oc
 simp [List.getElem?_eq_none h]
theorem chk_mk {t : List Int} (h : t.length ≤ 2432) : chk (mk t) = true := by
 rw [chk_iff]
 refine ⟨⟨by simp [mk], by simp [mk]; omega⟩, fun b hb => ?_, rise_mkL _ _⟩
 obtain ⟨j, h1, h2, rfl⟩ := mem_mkL.1 hb
 obtain ⟨k, hk, hne⟩ := isz_not h2
 rw [tb_length] at hk
 rw [tb_get _ _ _ hk] at hne
 have hlt : 32 * j + k < t.length := Nat.lt_of_not_le fun hh => hne (oc_out hh)
 refine ⟨by simp, ?_, tb_length _ _, h2, ?_⟩
 · show (j : Int) < blkN (t.length : Int)
   unfold blkN; omega
 · refine isz_of fun i hi => ?_
   rw [List.length_drop, tb_length] at hi
   have hi' : ins (j : Int) (t.length : Int) + i < 32 := by (
 have hi2 : i < 32 - ins (j : Int) (t.length : Int) := hi
 omega)
   show ((tb (oc t) j).drop (ins (j : Int) (t.length : Int))).getD i 0 = 0
   have e := tb_get (oc t) j _ hi'
   simp only [List.getD_eq_getElem?_getD, List.getElem?_drop] at e ⊢
   rw [e]
   refine oc_out ?_
   unfold ins at hi' ⊢
   omega
end Go.Proofs.YtopcefhncildnaaGreatDoor.F
namespace Go.Proofs.YtopcefhncildnaaGreatDoor.F
open Go.RowKit
def someV : Value := .func (.func 236) #[] #[]
theorem some_any (x : Int) (w : World) : Calls Tryz.prog 236 #[.int .u8 x] w fun e w' => e = .returned (.bool (decide (x ≠ 0))) ∧ w = w' := by
 by_cases h : x = 0
 · rw [decide_eq_false (by simpa using h)]
   go_enter Tryz.func236, Tryz.ntmps236
   go_wp2
   go_ret
   exact ⟨rfl, rfl⟩
 · rw [decide_eq_true (by simpa using h)]
   go_enter Tryz.func236, Tryz.ntmps236
   go_wp2
   go_ret
   exact ⟨by simp [h], rfl⟩
theorem isz_take_all {l : List Int} (h : isz (l.take l.length) = true) : isz l = true := by simpa using h
theorem isz_take_step {l : List Int} {k : Nat} (h : isz (l.take k) = true) (hx : l[k]? = some 0) : isz (l.take (k + 1)) = true := by
 rw [take_snoc hx, isz, List.all_append]
 simp only [isz] at h
 rw [h]; rfl
theorem isz_some {l : List Int} {k : Nat} {x : Int} (hx : l[k]? = some x) (h : x ≠ 0) : isz l = false := by
 rw [← Bool.not_eq_true]
 intro hz
 exact h (isz_iff.1 hz x (List.mem_of_getElem? hx))
theorem index_any (n0 : Nat) (v : Value) (l : List Int) (w : World) (h : Arg n0 w v l) :
   Calls Tryz.prog 282 #[v, someV] w fun e w' => (∃ r : Int, e = .returned (.int .i64 r) ∧ ((r = -1 ∧ isz l = true) ∨ (0 ≤ r ∧ isz l = false))) ∧ w = w' := by
 obtain ⟨a, c, rfl, _, hm, _⟩ := h.shape
 have HL : Hid (Arg n0 w (.slice a l.length c) l) := h
 obtain ⟨n, hn⟩ := exa (l.length)
 have HN : Hid (n = l.length) := hn
 rw [← hn] at HL hm ⊢
 unfold maxLen at hm
 have hl1 := run_len Tryz.underlying25 a n c
 clear h hn
 unfold someV
 go_enter Tryz.func282, Tryz.ntmps282
 go_wp2
 go_loopw [8] (fun i wr => ∃ k : Nat, k ≤ n ∧ i = .int .i64 k ∧ Hid (isz (l.take k) = true) ∧ w = wr) (fun i _ => n - (intOf i).toNat)
 case atStart => exact ⟨0, Nat.zero_le _, rfl, by show _ = _; simp [isz], rfl⟩
 case round => (
 obtain ⟨k, hk, rfl, HK, rfl⟩ := hrel
 by_cases hlt : k < n
 · obtain ⟨x, hx⟩ := get_lt (l := l) (k := k) (by rw [← HN.out]; exact hlt)
   obtain ⟨b, o, hix, _, g0, _⟩ := HL.out.at k x hx
   have HX : Hid (l[k]? = some x) := hx
   clear hx
   have hki : (k : Int) < (n : Int) := by omega
   have HC := some_any x w
   by_cases h0 : x = 0
   · subst h0
     rw [decide_eq_false (by simp)] at HC
     have HK2 : Hid (isz (l.take (k + 1)) = true) := isz_take_step HK.out HX.out
     go_wp2_with fail
     refine HC.mono ?_
     rintro e w2 ⟨rfl, rfl⟩
     go_wp2
     go_roundw
     case rel => exact ⟨k + 1, by omega, by go_num, HK2, trivial⟩
     case measure => simp [intOf]; omega
   · rw [decide_eq_true (by simpa using h0)] at HC
     have HA : Hid (isz l = false) := isz_some HX.out h0
     go_wp2_with fail
     refine HC.mono ?_
     rintro e w2 ⟨rfl, rfl⟩
     go_wp2
     go_ret
     exact ⟨⟨k, rfl, .inr ⟨by omega, HA.out⟩⟩, rfl⟩
 · obtain rfl : k = n := by omega
   have HA : Hid (isz l = true) := isz_take_all (by rw [← HN.out]; exact HK.out)
   clear HK
   go_wp2
   go_ret
   exact ⟨⟨-1, rfl, .inl ⟨rfl, HA.out⟩⟩, rfl⟩)
theorem contains_any (n0 : Nat) (v : Value) (l : List Int) (w : World) (h : Arg n0 w v l) :
   Calls Tryz.prog 235 #[v, someV] w fun e w' => e = .returned (.bool (!isz l)) ∧ w = w' := by
 have HC := index_any n0 v l w h
 clear h
 unfold someV at HC ⊢
 obtain ⟨al, hal⟩ := exa (isz l)
 rw [← hal] at HC ⊢
 clear hal
 go_enter Tryz.func235, Tryz.ntmps235
 go_wp2_with fail
 refine HC.mono ?_
 rintro e w2 ⟨⟨r, rfl, hr⟩, rfl⟩
 rcases hr with ⟨rfl, rfl⟩ | ⟨h0, rfl⟩
 · go_wp2
   go_ret
   exact ⟨rfl, rfl⟩
 · go_wp2
   go_ret
   exact ⟨by simp, rfl⟩
theorem zero_any (n0 : Nat) (v : Value) (l : List Int) (w : World) (h : Arg n0 w v l) :
   Calls Tryz.prog 168 #[v] w fun e w' => e = .returned (.bool (isz l)) ∧ w = w' := by
 have HC := contains_any n0 v l w h
 clear h
 unfold someV at HC
 obtain ⟨al, hal⟩ := exa (isz l)
 rw [← hal] at HC ⊢
 clear hal
 go_enter Tryz.func168, Tryz.ntmps168
 go_wp2_with fail
 refine HC.mono ?_
 rintro e w2 ⟨rfl, rfl⟩
 go_wp2
 go_ret
 exact ⟨by simp, rfl⟩
theorem start_any (x : Int) (w : World) (h : 0 ≤ x ∧ x ≤ 1000) : Calls Tryz.prog 103 #[.int .i64 x] w fun e w' => e = .returned (.int .i64 (32 * x)) ∧ w = w' := by
 go_enter Tryz.func103, Tryz.ntmps103
 go_wp2
 go_ret
 exact ⟨by go_num, rfl⟩
theorem inside_any (x s : Int) (w : World) (h : 0 ≤ x ∧ x ≤ 1000) (hs : 0 ≤ s ∧ s ≤ 100000) : Calls Tryz.prog 234 #[.int .i64 x, .int .i64 s] w fun e w' => e = .returned (.int .i64 (ins x s)) ∧ w = w' := by
 have HC := start_any x w h
 obtain ⟨m, hm⟩ := exa (32 * x)
 rw [← hm] at HC
 have hmb : 0 ≤ m ∧ m ≤ 32000 := by omega
 by_cases h1 : s - m < 0
 · rw [show ((ins x s : Nat) : Int) = 0 by unfold ins; omega]
   clear hm
   go_enter Tryz.func234, Tryz.ntmps234
   go_wp2_with fail
   refine HC.mono ?_
   rintro e w2 ⟨rfl, rfl⟩
   go_wp2
   go_ret
   exact ⟨rfl, rfl⟩
 · by_cases h2 : s - m < 32
   · rw [show ((ins x s : Nat) : Int) = s - m by unfold ins; omega]
     clear hm
     go_enter Tryz.func234, Tryz.ntmps234
     go_wp2_with fail
     refine HC.mono ?_
     rintro e w2 ⟨rfl, rfl⟩
     go_wp2
     go_ret
     exact ⟨by go_num, rfl⟩
   · rw [show ((ins x s : Nat) : Int) = 32 by unfold ins; omega]
     clear hm
     by_cases h3 : s - m = 32
     · go_enter Tryz.func234, Tryz.ntmps234
       go_wp2_with fail
       refine HC.mono ?_
       rintro e w2 ⟨rfl, rfl⟩
       go_wp2
       go_ret
       exact ⟨by go_num, rfl⟩
     · have h4 : 32 < s - m := by omega
       go_enter Tryz.func234, Tryz.ntmps234
       go_wp2_with fail
       refine HC.mono ?_
       rintro e w2 ⟨rfl, rfl⟩
       go_wp2
       go_ret
       exact ⟨by go_num, rfl⟩
end Go.Proofs.YtopcefhncildnaaGreatDoor.F
namespace Go.Proofs.YtopcefhncildnaaGreatDoor.P
open Go.RowKit
def textsS : Shape (List ByteArray) := strL.row 57 Tryz.underlying57 (by kernel_rfl)
def tv (l : List ByteArray) : List Value := l.map Value.string
def TOk (l : List ByteArray) : Prop := ∀ s ∈ l, s.size ≤ maxLen
theorem TOk.snoc {l : List ByteArray} {s : ByteArray} (h : TOk l) (hs : s.size ≤ maxLen) : TOk (l ++ [s]) := fun q hq => by
 rcases List.mem_append.1 hq with hq | hq
 · exact h q hq
 · rw [List.mem_singleton.1 hq]; exact hs
theorem TOk.take {l : List ByteArray} (h : TOk l) (k : Nat) : TOk (l.take k) := fun q hq => h q (List.mem_of_mem_take hq)
theorem TOk.get {l : List ByteArray} (h : TOk l) {i : Nat} {p : ByteArray} (hp : l[i]? = some p) : p.size ≤ maxLen := h p (List.mem_of_getElem? hp)
def ArgT (n : Nat) (w : World) (v : Value) (l : List ByteArray) : Prop := Cells n w 1 v l.length (tv l) ∧ TOk l
theorem ArgT.keep {n : Nat} {w w' : World} {v : Value} {l : List ByteArray} (h : ArgT n w v l) (hs : Same n w w') : ArgT n w' v l := ⟨h.1.keep hs, h.2⟩
theorem ArgT.below {n : Nat} {w w' : World} {v : Value} {l : List ByteArray} (h : ArgT n w v l) (hb : Below w.heap.size w w') : ArgT n w' v l := h.keep (.of_below hb)
theorem ArgT.weaken {n m : Nat} {w : World} {v : Value} {l : List ByteArray} (h : ArgT n w v l) (hn : m ≤ n) : ArgT m w v l := ⟨h.1.weaken hn, h.2⟩
theorem ArgT.shape {n : Nat} {w : World} {v : Value} {l : List ByteArray} (h : ArgT n w v l) : ∃ a cap, v = .slice a l.length cap ∧ l.length ≤ cap ∧ l.length ≤ maxLen ∧ (a = none → l.length = 0) := h.1.shape
theorem ArgT.nil (n : Nat) (w : World) : ArgT n w (.slice none 0 0) [] := ⟨⟨rfl, .inl ⟨rfl, rfl⟩⟩, fun _ h => by cases h⟩
theorem ArgT.at {n : Nat} {w : World} {v : Value} {l : List ByteArray} (h : ArgT n w v l) (i : Nat) (p : ByteArray) (hp : l[i]? = some p) :
   ∃ b o, (∀ W, (Instr.indexAt 57 v (.int .i64 i)).run Tryz.prog W = .ok (.pointer (some ⟨b, o, none⟩)) W) ∧ n ≤ b ∧ w.cell? ⟨b, o, none⟩ = some (.string p) := by
 obtain ⟨i0, hi0, _, hz, _⟩ := info_parts Tryz.info9
 obtain ⟨b, o, hix, hb, hc⟩ := h.1.index (by omega) Tryz.underlying57 hi0 hz i (List.getElem?_eq_some_iff.1 hp).1
 exact ⟨b, o, hix, hb, hc 0 _ (by simp [tv, hp])⟩
theorem ArgT.split {n : Nat} {w : World} {v : Value} {l : List ByteArray} (h : ArgT n w v l) : (l = [] ∧ v = .slice none 0 0) ∨ (l = [] ∧ ∃ a cap, v = .slice (some a) 0 cap) ∨ (∃ b off cap, v = .slice (some ⟨b, off, none⟩) l.length cap ∧ l.length ≤ cap ∧ l.length ≤ maxLen ∧ n ≤ b ∧ l ≠ [] ∧ ∀ (i : Nat) x, l[i]? = some x → w.cell? ⟨b, off + i, none⟩ = some (.string x)) := by
 by_cases h0 : l.length = 0
 · have e := List.eq_nil_of_length_eq_zero h0
   obtain ⟨_, ⟨hv, _⟩ | ⟨x, cap, hv, _⟩⟩ := h.1
   · exact .inl ⟨e, hv⟩
   · exact .inr (.inl ⟨e, x, cap, by rw [hv, h0]⟩)
 · refine .inr (.inr ?_)
   obtain ⟨b, o, cap, hv, h1, h2, h3, h4⟩ := h.1.place (by omega) 0 (by omega)
   refine ⟨b, o, cap, hv, h1, h2, h3, fun e => h0 (by rw [e]; rfl), fun i x hx => ?_⟩
   have := h4 i (.string x) (by simp [tv, hx])
   simpa using this
def OwnT (base : Nat) (w : World) (v : Value) (l : List ByteArray) : Prop := w.ownsRow base 9 1 v l.length (tv l) ∧ TOk l
theorem OwnT.arg {base : Nat} {w : World} {v : Value} {l : List ByteArray} (h : OwnT base w v l) : ArgT base w v l := ⟨.own h.1, h.2⟩
theorem OwnT.below {base : Nat} {w w' : World} {v : Value} {l : List ByteArray} (h : OwnT base w v l) (hb : Below w.heap.size w w') : OwnT base w' v l := ⟨own_below h.1 hb, h.2⟩
theorem OwnT.same {base : Nat} {w w' : World} {v : Value} {l : List ByteArray} (h : OwnT base w v l) (hs : Same base w w') : OwnT base w' v l := ⟨own_same h.1 hs, h.2⟩
theorem OwnT.weaken {base m : Nat} {w : World} {v : Value} {l : List ByteArray} (h : OwnT base w v l) (hn : m ≤ base) : OwnT m w v l := ⟨own_weaken h.1 hn, h.2⟩
theorem OwnT.shape {base : Nat} {w : World} {v : Value} {l : List ByteArray} (h : OwnT base w v l) : ∃ a cap, v = .slice a l.length cap := own_shape h.1
theorem OwnT.nil (base : Nat) (w : World) : OwnT base w (.slice none 0 0) [] := ⟨World.ownsRow_nil _ _ _ _, fun _ h => by cases h⟩
end Go.Proofs.YtopcefhncildnaaGreatDoor.P
namespace Go.Proofs.YtopcefhncildnaaGreatDoor.P
def flush (cur : List UInt8) : List (List UInt8) := if cur = [] then [] else [cur]
def prtsGo : List UInt8 → List UInt8 → List (List UInt8)
 | [], cur => flush cur
 | c :: r, cur => if c = 47 then flush cur ++ prtsGo r [] else prtsGo r (cur ++ [c])
def prts (s : List UInt8) : List (List UInt8) := prtsGo s []
theorem flush_ne {c : List UInt8} (h : c ≠ []) : flush c = [c] := if_neg h
theorem prtsGo_plain {a : List UInt8} (ha : (47 : UInt8) ∉ a) (cur : List UInt8) : prtsGo a cur = flush (cur ++ a) := by
 induction a generalizing cur with
 | nil => simp [prtsGo]
 | cons c r ih => (
 have hc : c ≠ 47 := fun e => ha (by rw [e]; exact List.mem_cons_self ..)
 rw [prtsGo, if_neg hc, ih (fun h => ha (List.mem_cons_of_mem _ h))]
 simp)
theorem prtsGo_slash {a : List UInt8} (ha : (47 : UInt8) ∉ a) (r cur : List UInt8) : prtsGo (a ++ 47 :: r) cur = flush (cur ++ a) ++ prts r := by
 induction a generalizing cur with
 | nil => simp [prtsGo, prts]
 | cons c t ih => (
 have hc : c ≠ 47 := fun e => ha (by rw [e]; exact List.mem_cons_self ..)
 rw [List.cons_append, prtsGo, if_neg hc, ih (fun h => ha (List.mem_cons_of_mem _ h))]
 simp)
theorem prts_plain {a : List UInt8} (ha : (47 : UInt8) ∉ a) : prts a = flush a := by rw [prts, prtsGo_plain ha]; rfl
theorem prts_slash {a : List UInt8} (ha : (47 : UInt8) ∉ a) (r : List UInt8) : prts (a ++ 47 :: r) = flush a ++ prts r := by rw [prts, prtsGo_slash ha]; rfl
theorem prtsGo_count (a cur : List UInt8) : (prtsGo a cur).length ≤ a.length + cur.length := by
 induction a generalizing cur with
 | nil => (
 rw [prtsGo, flush]
 split
 · simp
 · rename_i h
   have := List.length_pos_iff.2 h
   simp; omega)
 | cons c r ih => (
 rw [prtsGo]
 split
 · have := ih []
   rw [flush]
   split
   · simp; simp at this; omega
   · rename_i h
     have h2 := List.length_pos_iff.2 h
     simp; simp at this; omega
 · have := ih (cur ++ [c])
   simp at this ⊢
   omega)
theorem prts_count (a : List UInt8) : (prts a).length ≤ a.length := by have := prtsGo_count a []; simpa [prts] using this
end Go.Proofs.YtopcefhncildnaaGreatDoor.P
