/-
  What errors.As answers where the error is nil, or a fault, and the target is a variable of that type; so what numberOf answers.
  What errors.Is answers of no error, and of a fault, asked for what is missing; so what isMissing answers.
  What errors.As answers where the error is a refusal that wraps a fault; so what numberOf answers.
  What errors.As answers where the error is nil, or a fault, and the target is a variable of that type; so what numberOf answers.
  What numberOf answers: 0 of no error, and a fault's own number.
-/
import Derived.Test.YtopcefhncildnaaGreatDoorZ11
import Derived.LaidEql
import Derived.Stop.Asserts
import Derived.RowKitTokens
set_option maxRecDepth 100000
set_option maxHeartbeats 4000000
namespace Go.Proofs.YtopcefhncildnaaGreatDoor
open Go.RowKit Go.Extern.Stop Go.Stop Go.Extern
theorem as_nil (t : Value) (w : World) :
   Calls Tryz.prog 163 #[.nilIface, t] w fun e w' => e = .returned (.bool false) ∧ w = w' := by
 go_enter Tryz.func163, Tryz.ntmps163
 go_wp2
 go_ret
 exact ⟨rfl, rfl⟩
theorem valueOfP (t : Addr) (w : World) : (ReflectliteValue.unpack (.iface 243 (.pointer (some t)))).run Tryz.prog w
   = .ok (.agg #[.pointer (some ⟨2, 243, none⟩), .pointer (some ⟨w.heap.size, 0, none⟩), .int .u64 150]) (w.alloc (.cells #[.pointer (some t)] 243)) := by kernel_rfl
theorem typeP (a : Addr) (w : World) : (ReflectliteValue.methodAny (ReflectliteValue.valueError "reflectlite.Value.Type" 0) (fun t _ _ _ => ReflectliteType.toType t) #[.agg #[.pointer (some ⟨2, 243, none⟩), .pointer (some a), .int .u64 150]]).run Tryz.prog w
   = .ok (.iface 363 (.agg #[.pointer (some ⟨2, 243, none⟩)])) w := by kernel_rfl
theorem methodKind (h : Value) (w : World) : (Go.method 546 363 (.agg #[h]) "Kind").run Tryz.prog w = .ok (346, h) w := by kernel_rfl
theorem kindP (w : World) : ((ReflectliteType.abiMethod fun t => Functor.map (fun a : Nat => Value.int IntKind.u8 (a : Int)) (Rtype.kind t)) #[.pointer (some ⟨2, 243, none⟩)]).run Tryz.prog w = .ok (.int .u8 22) w := by kernel_rfl
theorem kindF (w : World) : ((ReflectliteType.abiMethod fun t => Functor.map (fun a : Nat => Value.int IntKind.u8 (a : Int)) (Rtype.kind t)) #[.pointer (some ⟨2, 236, none⟩)]).run Tryz.prog w = .ok (.int .u8 25) w := by kernel_rfl
theorem partsP (a : Addr) (w : World) : (ReflectliteValue.parts (.agg #[.pointer (some ⟨2, 243, none⟩), .pointer (some a), .int .u64 150])).run Tryz.prog w = .ok (some (243, a, 150)) w := by kernel_rfl
theorem isNilP (a p : Addr) (W : World) (ha : W.cell? a = some (.pointer (some p))) :
   (ReflectliteValue.method (ReflectliteValue.valueError "reflectlite.Value.IsNil" 0) ReflectliteValue.isNil #[.agg #[.pointer (some ⟨2, 243, none⟩), .pointer (some a), .int .u64 150]]).run Tryz.prog W = .ok (.bool false) W := by
 refine (Sem.run_bind (P := Tryz.prog) (w := W) (ReflectliteValue.parts (.agg #[.pointer (some ⟨2, 243, none⟩), .pointer (some a), .int .u64 150])) _).trans ?_
 simp only [partsP, Result.andThen]
 simp [ReflectliteValue.isNil, loadVar, isAgg, underlying, Tryz.underlying243, ha, Result.andThen]
theorem methodElem (h : Value) (w : World) : (Go.method 546 363 (.agg #[h]) "Elem").run Tryz.prog w = .ok (360, .agg #[h]) w := by kernel_rfl
theorem methodImplements (h : Value) (w : World) : (Go.method 546 363 (.agg #[h]) "Implements").run Tryz.prog w = .ok (361, .agg #[h]) w := by kernel_rfl
theorem methodAssignableTo (h : Value) (w : World) : (Go.method 546 363 (.agg #[h]) "AssignableTo").run Tryz.prog w = .ok (358, .agg #[h]) w := by kernel_rfl
theorem elemP (w : World) : (ReflectliteType.method ReflectliteType.elem #[.agg #[.pointer (some ⟨2, 243, none⟩)]]).run Tryz.prog w = .ok (.iface 363 (.agg #[.pointer (some ⟨2, 236, none⟩)])) w := by kernel_rfl
theorem implementsF (w : World) : (ReflectliteType.relation "Implements" ReflectliteType.implements_ #[.agg #[.pointer (some ⟨2, 236, none⟩)], .iface 363 (.agg #[.pointer (some ⟨2, 108, none⟩)])]).run Tryz.prog w = .ok (.bool true) w := by kernel_rfl
theorem typeOfF (v : Value) (w : World) : (ReflectliteType.typeOf #[.iface 236 v]).run Tryz.prog w = .ok (.iface 363 (.agg #[.pointer (some ⟨2, 236, none⟩)])) w := by kernel_rfl
theorem assignableF (w : World) : (ReflectliteType.relation "AssignableTo" ReflectliteType.assignableTo #[.agg #[.pointer (some ⟨2, 236, none⟩)], .iface 363 (.agg #[.pointer (some ⟨2, 236, none⟩)])]).run Tryz.prog w = .ok (.bool true) w := by kernel_rfl
theorem valueOfF (k : Int) (s : ByteArray) (w : World) : (ReflectliteValue.unpack (.iface 236 (.agg #[.int .i64 k, .string s]))).run Tryz.prog w
   = .ok (.agg #[.pointer (some ⟨2, 236, none⟩), .pointer (some ⟨w.heap.size, 0, none⟩), .int .u64 153]) (w.alloc (.cells #[.int .i64 k, .string s] 236)) := by kernel_rfl
theorem typeOfR (v : Value) (w : World) : (ReflectliteType.typeOf #[.iface 238 v]).run Tryz.prog w = .ok (.iface 363 (.agg #[.pointer (some ⟨2, 238, none⟩)])) w := by kernel_rfl
theorem assignableR (w : World) : (ReflectliteType.relation "AssignableTo" ReflectliteType.assignableTo #[.agg #[.pointer (some ⟨2, 238, none⟩)], .iface 363 (.agg #[.pointer (some ⟨2, 236, none⟩)])]).run Tryz.prog w = .ok (.bool false) w := by kernel_rfl
theorem elemOfP (w : World) : (Rtype.elem? 243).run Tryz.prog w = .ok (some 236) w := by kernel_rfl
theorem mkF (p : Addr) (w : World) : (ReflectliteValue.mk 236 p ReflectliteValue.flagAddr).run Tryz.prog w = .ok (.agg #[.pointer (some ⟨2, 236, none⟩), .pointer (some p), .int .u64 409]) w := by kernel_rfl
theorem elemVP (a p : Addr) (W : World) (ha : W.cell? a = some (.pointer (some p))) :
   (ReflectliteValue.method (ReflectliteValue.valueError "reflectlite.Value.Elem" 0) ReflectliteValue.elem #[.agg #[.pointer (some ⟨2, 243, none⟩), .pointer (some a), .int .u64 150]]).run Tryz.prog W
     = .ok (.agg #[.pointer (some ⟨2, 236, none⟩), .pointer (some p), .int .u64 409]) W := by
 refine (Sem.run_bind (P := Tryz.prog) (w := W) (ReflectliteValue.parts (.agg #[.pointer (some ⟨2, 243, none⟩), .pointer (some a), .int .u64 150])) _).trans ?_
 simp only [partsP, Result.andThen]
 simp [ReflectliteValue.elem, loadVar, isAgg, underlying, Tryz.underlying243, ha, Result.andThen, elemOfP, mkF]
theorem partsFa (a : Addr) (w : World) : (ReflectliteValue.parts (.agg #[.pointer (some ⟨2, 236, none⟩), .pointer (some a), .int .u64 409])).run Tryz.prog w = .ok (some (236, a, 409)) w := by kernel_rfl
theorem partsF (a : Addr) (w : World) : (ReflectliteValue.parts (.agg #[.pointer (some ⟨2, 236, none⟩), .pointer (some a), .int .u64 153])).run Tryz.prog w = .ok (some (236, a, 153)) w := by kernel_rfl
theorem directF (w : World) : (Rtype.directlyAssignable 236 236).run Tryz.prog w = .ok true w := by kernel_rfl
theorem setF (T B : Nat) (k : Int) (s : ByteArray) (o0 o1 : Value) (W : World) (hb : Box W B 236 #[.int .i64 k, .string s]) (ht : Box W T 236 #[o0, o1]) :
   (ReflectliteValue.set #[.agg #[.pointer (some ⟨2, 236, none⟩), .pointer (some ⟨T, 0, none⟩), .int .u64 409], .agg #[.pointer (some ⟨2, 236, none⟩), .pointer (some ⟨B, 0, none⟩), .int .u64 153]]).run Tryz.prog W
     = .ok (.tuple #[]) ((W.setCell ⟨T, 0, none⟩ (.int .i64 k)).setCell ⟨T, 1, none⟩ (.string s)) := by
 refine (Sem.run_bind (P := Tryz.prog) (w := W) (ReflectliteValue.parts (.agg #[.pointer (some ⟨2, 236, none⟩), .pointer (some ⟨T, 0, none⟩), .int .u64 409])) _).trans ?_
 simp only [partsFa, Result.andThen]
 refine (Sem.run_bind (P := Tryz.prog) (w := W) (ReflectliteValue.parts (.agg #[.pointer (some ⟨2, 236, none⟩), .pointer (some ⟨B, 0, none⟩), .int .u64 153])) _).trans ?_
 simp only [partsF, Result.andThen]
 simp [ReflectliteValue.flagAddr, loadVar, isAgg, underlying, Tryz.underlying236, Result.andThen]
 obtain ⟨b0, b1, _, _⟩ := hb.two
 have hl : (loadCells ⟨B, 0, none⟩ 2).run Tryz.prog W = .ok #[.int .i64 k, .string s] W := by (
 have := run_loadCells_list (P := Tryz.prog) W ⟨B, 0, none⟩ [.int .i64 k, .string s] (fun j v hj => by
   match j, hj with
   | 0, hj => (
 obtain rfl : Value.int .i64 k = v := by simpa using hj
 simpa [Addr.add] using b0)
   | 1, hj => (
 obtain rfl : Value.string s = v := by simpa using hj
 simpa [Addr.add] using b1)
   | j + 2, hj => simp at hj)
 simpa using this)
 rw [hl]
 simp only [directF, if_true]
 have ht1 := ht.set 0 (.int .i64 k)
 obtain ⟨t0, _, f0, _⟩ := ht.two
 have t1 := ht1.cell 1 (u := o1) rfl
 have f1 := ht1.frozen 1
 simp [storeVar, Value.cells, storeCells, Addr.add, Result.andThen]
 rw [run_store Tryz.prog W ⟨T, 0, none⟩ _ _ (by rfl)]
 simp only [t0, f0]
 simp
 rw [run_store Tryz.prog _ ⟨T, 1, none⟩ _ _ (by rfl)]
 simp [t1, f1]
abbrev fltV (k : Int) (s : ByteArray) : Value := .iface 236 (.agg #[.int .i64 k, .string s])
abbrev refV (ns : Value) (k : Int) (s : ByteArray) : Value := .iface 238 (.agg #[ns, fltV k s])
theorem unwrap_any (a : Option Addr) (l c : Nat) (k : Int) (s : ByteArray) (w : World) : Calls Tryz.prog 352 #[.agg #[.slice a l c, fltV k s]] w fun e w' => e = .returned (fltV k s) ∧ Below w.heap.size w w' := by
 have HB : Hid (Below w.heap.size w (w.alloc (.cells #[.slice a l c, fltV k s] 238))) := (Below.refl _ w).alloc (Nat.le_refl _) _
 go_enter Tryz.func352, Tryz.ntmps352
 go_wp2
 go_ret
 exact ⟨rfl, HB.out⟩
theorem noAsR (v : Value) (xT : TypeId) (w : World) : (Instr.typeAssert (.iface 238 v) xT 368 true).run Tryz.prog w = .ok (.tuple #[.nilIface, .bool false]) w := run_typeAssert_lacksB Tryz.underlying368 (by kernel_rfl) (by kernel_rfl) v xT w
theorem hasUnwrapR (v : Value) (xT : TypeId) (w : World) : (Instr.typeAssert (.iface 238 v) xT 371 true).run Tryz.prog w = .ok (.tuple #[.iface 238 v, .bool true]) w := run_typeAssert_hasB Tryz.underlying371 (by kernel_rfl) v xT w
theorem methodUnwrap (v : Value) (w : World) : (Go.method 546 238 v "Unwrap").run Tryz.prog w = .ok (352, v) w := by kernel_rfl
theorem hasIsF (v : Value) (xT : TypeId) (w : World) : (Instr.typeAssert (.iface 236 v) xT 411 true).run Tryz.prog w = .ok (.tuple #[.iface 236 v, .bool true]) w := run_typeAssert_hasB Tryz.underlying411 (by kernel_rfl) v xT w
theorem noUnwrapF (v : Value) (xT : TypeId) (w : World) : (Instr.typeAssert (.iface 236 v) xT 371 true).run Tryz.prog w = .ok (.tuple #[.nilIface, .bool false]) w := run_typeAssert_lacksB Tryz.underlying371 (by kernel_rfl) (by kernel_rfl) v xT w
theorem noUnwrapsF (v : Value) (xT : TypeId) (w : World) : (Instr.typeAssert (.iface 236 v) xT 373 true).run Tryz.prog w = .ok (.tuple #[.nilIface, .bool false]) w := run_typeAssert_lacksB Tryz.underlying373 (by kernel_rfl) (by kernel_rfl) v xT w
theorem methodIs (v : Value) (w : World) : (Go.method 546 236 v "Is").run Tryz.prog w = .ok (350, v) w := by kernel_rfl
theorem methodComparable (h : Value) (w : World) : (Go.method 546 363 (.agg #[h]) "Comparable").run Tryz.prog w = .ok (359, .agg #[h]) w := by kernel_rfl
end Go.Proofs.YtopcefhncildnaaGreatDoor
namespace Go.Proofs.YtopcefhncildnaaGreatDoor
open Go.RowKit Go.Extern.Stop Go.Stop Go.Extern
theorem eql_not (s : ByteArray) (w : World) : (binOp .eql 108 (fltV 103 s) (fltV 101 ⟨#[]⟩)).run Tryz.prog w = .ok (.bool false) w := by kernel_rfl
theorem eql_like (b : UInt8) (t : List UInt8) (w : World) : (binOp .eql 108 (fltV 101 ⟨⟨b :: t⟩⟩) (fltV 101 ⟨#[]⟩)).run Tryz.prog w = .ok (.bool false) w := by kernel_rfl
theorem assertF (v : Value) (w : World) : (Instr.typeAssert (.iface 236 v) 108 236 true).run Tryz.prog w = .ok (.tuple #[v, .bool true]) w := by kernel_rfl
theorem comparable_is (w : World) : (ReflectliteType.method (fun t => do Rtype.noPackHeld "Comparable" t; Functor.map (fun a : TypeInfo => Value.bool a.comparable) (typeInfo t)) #[.agg #[.pointer (some ⟨2, 236, none⟩)]]).run Tryz.prog w = .ok (.bool true) w := by kernel_rfl
theorem Is_any (k : Int) (s : ByteArray) (w : World) : Calls Tryz.prog 350 #[.agg #[.int .i64 k, .string s], fltV 101 ⟨#[]⟩] w fun e w' => e = .returned (.bool (k == 101)) ∧ Below w.heap.size w w' := by
 have HB : Hid (Below w.heap.size w ((w.alloc (.cells #[.int .i64 k, .string s] 236)).alloc (.cells #[.int .i64 101, .string ⟨#[]⟩] 236))) := ((Below.refl _ w).alloc (Nat.le_refl _) _).alloc (by simp) _
 have ha := assertF (.agg #[.int .i64 101, .string ⟨#[]⟩])
 go_enter Tryz.func350, Tryz.ntmps350
 go_wp2
 go_ret
 exact ⟨by show Ending.returned (.bool (101 == k)) = _; rw [Bool.beq_comm], HB.out⟩
theorem is_any (k : Int) (hk : k = 101 ∨ k = 103) (s : ByteArray) (hs : s.data.toList ≠ []) (w : World) : Calls Tryz.prog 313 #[fltV k s, fltV 101 ⟨#[]⟩, .bool true] w fun e w' => e = .returned (.bool (k == 101)) ∧ Below w.heap.size w w' := by
 have he : ∀ w, (binOp .eql 108 (fltV k s) (fltV 101 ⟨#[]⟩)).run Tryz.prog w = .ok (.bool false) w := fun w => by (
 rcases hk with rfl | rfl
 · obtain ⟨⟨l⟩⟩ := s
   cases l with
   | nil => exact absurd rfl hs
   | cons b t => exact eql_like b t w
 · exact eql_not s w)
 have hI := hasIsF (.agg #[.int .i64 k, .string s])
 have mI := methodIs (.agg #[.int .i64 k, .string s])
 have HI := Is_any k s
 have nU := noUnwrapF (.agg #[.int .i64 k, .string s])
 have nUs := noUnwrapsF (.agg #[.int .i64 k, .string s])
 clear hs
 rcases hk with rfl | rfl
 · go_enter Tryz.func313, Tryz.ntmps313
   go_wp2
   refine wp_loop_rounds 1 ?_
   rw [rounds_succ]
   go_wp2_with (go_at_call 350; refine (HI _).mono ?_; rintro e w1 ⟨rfl, hb1⟩)
   go_ret
   exact ⟨rfl, hb1⟩
 · go_enter Tryz.func313, Tryz.ntmps313
   go_wp2
   refine wp_loop_rounds 1 ?_
   rw [rounds_succ]
   go_wp2_with (go_at_call 350; refine (HI _).mono ?_; rintro e w1 ⟨rfl, hb1⟩)
   go_ret
   exact ⟨rfl, hb1⟩
theorem missing_flt (k : Int) (hk : k = 101 ∨ k = 103) (s : ByteArray) (hs : s.data.toList ≠ []) (w : World) : Calls Tryz.prog 239 #[fltV k s] w fun e w' => e = .returned (.bool (k == 101)) ∧ Below w.heap.size w w' := by
 have HS : Hid (∀ W, Calls Tryz.prog 293 #[fltV k s, fltV 101 ⟨#[]⟩] W fun e w' => e = .returned (.bool (k == 101)) ∧ Below W.heap.size W w') := fun W => by (
 have HI := is_any k hk s hs W
 have h10 := @run_callFunc_extern Tryz.prog 279 _ ReflectliteType.typeOf Tryz.func279 (by kernel_rfl) (by kernel_rfl) (by kernel_rfl) (by kernel_rfl)
 have h45 := @run_callFunc_extern Tryz.prog 359 _ (ReflectliteType.method (fun t => do Rtype.noPackHeld "Comparable" t; pure (.bool (← typeInfo t).comparable))) Tryz.func359 (by kernel_rfl) (by kernel_rfl) (by kernel_rfl) (by kernel_rfl)
 have tO := typeOfF
 have mC := methodComparable
 have cI := comparable_is
 generalize (k == 101) = t at HI ⊢
 go_enter Tryz.func293, Tryz.ntmps293
 go_wp2_with (go_at_call 313; refine HI.mono ?_; rintro e w1 ⟨rfl, hb1⟩)
 go_ret
 exact ⟨rfl, hb1⟩)
 generalize (k == 101) = t at HS ⊢
 go_enter Tryz.func239, Tryz.ntmps239
 go_wp2_with (go_at_call 293; refine (HS.out _).mono ?_; rintro e w1 ⟨rfl, hb1⟩)
 go_ret
 exact ⟨rfl, hb1⟩
theorem missing_nil (w : World) : Calls Tryz.prog 239 #[.nilIface] w fun e w' => e = .returned (.bool false) ∧ w = w' := by
 have HS : Hid (∀ W, Calls Tryz.prog 293 #[.nilIface, fltV 101 ⟨#[]⟩] W fun e w' => e = .returned (.bool false) ∧ W = w') := fun W => by (
 have he := fun W => run_eql_iface_nil_left (P := Tryz.prog) W 236 (.agg #[.int .i64 101, .string ⟨#[]⟩]) Tryz.underlying108
 go_enter Tryz.func293, Tryz.ntmps293
 go_wp2
 go_ret
 exact ⟨rfl, rfl⟩)
 go_enter Tryz.func239, Tryz.ntmps239
 go_wp2_with (go_at_call 293; refine (HS.out _).mono ?_; rintro e w1 ⟨rfl, rfl⟩)
 go_ret
 exact ⟨rfl, rfl⟩
theorem refuse_ok (v : Value) (w : World) : Calls Tryz.prog 90 #[.int .i64 0, v] w fun e w' => e = .returned .nilIface ∧ w = w' := by
 go_enter Tryz.func90, Tryz.ntmps90
 go_wp2
 go_ret
 exact ⟨rfl, rfl⟩
theorem refuse_bad (k : Int) (hk : k ≠ 0) (a : Option Addr) (l c : Nat) (w : World) : Calls Tryz.prog 90 #[.int .i64 k, .slice a l c] w fun e w' => e = .returned (refV (.slice a l c) k ⟨#[]⟩) ∧ w = w' := by
 go_enter Tryz.func90, Tryz.ntmps90
 go_wp2
 go_ret
 exact ⟨rfl, rfl⟩
end Go.Proofs.YtopcefhncildnaaGreatDoor
namespace Go.Proofs.YtopcefhncildnaaGreatDoor
open Go.RowKit Go.Extern.Stop Go.Stop Go.Extern
theorem as_hit (a : Option Addr) (l c : Nat) (k : Int) (s : ByteArray) (T : Nat) (o0 o1 : Value) (A : Addr) (w : World) (ht : Box w T 236 #[o0, o1]) (hA : w.cell? A = some (.pointer (some ⟨T, 0, none⟩))) :
   Calls Tryz.prog 231 #[refV (.slice a l c) k s, .iface 243 (.pointer (some ⟨T, 0, none⟩)), .agg #[.pointer (some ⟨2, 243, none⟩), .pointer (some A), .int .u64 150], .iface 363 (.agg #[.pointer (some ⟨2, 236, none⟩)])] w fun ev w' => ev = .returned (.bool true) ∧ ∃ W, Below w.heap.size w W ∧ w' = (W.setCell ⟨T, 0, none⟩ (.int .i64 k)).setCell ⟨T, 1, none⟩ (.string s) := by
 have h10 := @run_callFunc_extern Tryz.prog 279 _ ReflectliteType.typeOf Tryz.func279 (by kernel_rfl) (by kernel_rfl) (by kernel_rfl) (by kernel_rfl)
 have h35 := @run_callFunc_extern Tryz.prog 358 _ (ReflectliteType.relation "AssignableTo" ReflectliteType.assignableTo) Tryz.func358 (by kernel_rfl) (by kernel_rfl) (by kernel_rfl) (by kernel_rfl)
 have tO := typeOfF
 have tR := typeOfR
 have mA := methodAssignableTo
 have a25 := assignableF
 have aR := assignableR
 have nA := noAsR
 have hU := hasUnwrapR
 have mU := methodUnwrap
 have HU := unwrap_any a l c k s
 have h6 := @run_callFunc_extern Tryz.prog 228 _ (fun args => ReflectliteValue.unpack (args.getD 0 (.tuple #[]))) Tryz.func228 (by kernel_rfl) (by kernel_rfl) (by kernel_rfl) (by kernel_rfl)
 have h11 := @run_callFunc_extern Tryz.prog 280 _ (ReflectliteValue.method (ReflectliteValue.valueError "reflectlite.Value.Elem" 0) ReflectliteValue.elem) Tryz.func280 (by kernel_rfl) (by kernel_rfl) (by kernel_rfl) (by kernel_rfl)
 have h12 := @run_callFunc_extern Tryz.prog 281 _ ReflectliteValue.set Tryz.func281 (by kernel_rfl) (by kernel_rfl) (by kernel_rfl) (by kernel_rfl)
 have v25 := valueOfF k s
 obtain ⟨W, hW⟩ := exa (w.alloc (.cells #[.pointer (some ⟨2, 243, none⟩), .pointer (some A), .int .u64 150] 316))
 have HW : Hid (Below w.heap.size w W ∧ Box W w.heap.size 316 #[.pointer (some ⟨2, 243, none⟩), .pointer (some A), .int .u64 150] ∧ Box w T 236 #[o0, o1] ∧ w.cell? A = some (.pointer (some ⟨T, 0, none⟩))) := ⟨by rw [hW]; exact (Below.refl _ w).alloc (Nat.le_refl _) _, by rw [hW]; exact Box.new _ _ _, ht, hA⟩
 clear ht hA
 go_enter Tryz.func231, Tryz.ntmps231
 go_wp2
 refine wp_loop_rounds 2 ?_
 rw [rounds_succ]
 go_wp2_with (go_at_call 352; rw [← hW]; refine (HU _).mono ?_; rintro e w1 ⟨rfl, hb1⟩)
 have hB1 := below_any HW.out.1 hb1
 have HB1 : Hid (Below w.heap.size w w1) := hB1
 obtain ⟨g0, g1, g2, -, -, -⟩ := (HW.out.2.1.below hb1 HW.out.2.1.lt).three
 have hT1 := HW.out.2.2.1.below hB1 HW.out.2.2.1.lt
 have hA1 : w1.cell? A = some (.pointer (some ⟨T, 0, none⟩)) := by rw [hB1.cell (p := A) (cell_lt HW.out.2.2.2)]; exact HW.out.2.2.2
 have el := elemVP A ⟨T, 0, none⟩ w1 hA1
 have st := setF T w1.heap.size k s o0 o1 (w1.alloc (.cells #[.int .i64 k, .string s] 236)) (Box.new _ _ _) (hT1.alloc _)
 clear hb1 hB1 hT1 hA1 HU nA hU mU tR aR
 rw [rounds_succ]
 go_wp2
 go_ret
 exact ⟨rfl, _, HB1.out.alloc HB1.out.size _, rfl⟩
theorem As_nil (t : Value) (w : World) : Calls Tryz.prog 163 #[.nilIface, t] w fun e w' => e = .returned (.bool false) ∧ w = w' := by
 go_enter Tryz.func163, Tryz.ntmps163
 go_wp2
 go_ret
 exact ⟨rfl, rfl⟩
theorem As_hit (a : Option Addr) (l c : Nat) (k : Int) (s : ByteArray) (T : Nat) (o0 o1 : Value) (w : World) (hg : Glob w) (ht : Box w T 236 #[o0, o1]) :
   Calls Tryz.prog 163 #[refV (.slice a l c) k s, .iface 243 (.pointer (some ⟨T, 0, none⟩))] w fun ev w' => ev = .returned (.bool true) ∧ ∃ W, Below w.heap.size w W ∧ w' = (W.setCell ⟨T, 0, none⟩ (.int .i64 k)).setCell ⟨T, 1, none⟩ (.string s) := by
 have h6 := @run_callFunc_extern Tryz.prog 228 _ (fun args => ReflectliteValue.unpack (args.getD 0 (.tuple #[]))) Tryz.func228 (by kernel_rfl) (by kernel_rfl) (by kernel_rfl) (by kernel_rfl)
 have h7 := @run_callFunc_extern Tryz.prog 229 _ (ReflectliteValue.methodAny (ReflectliteValue.valueError "reflectlite.Value.Type" 0) (fun t _ _ _ => ReflectliteType.toType t)) Tryz.func229 (by kernel_rfl) (by kernel_rfl) (by kernel_rfl) (by kernel_rfl)
 have h8 := @run_callFunc_extern Tryz.prog 230 _ (ReflectliteValue.method (ReflectliteValue.valueError "reflectlite.Value.IsNil" 0) ReflectliteValue.isNil) Tryz.func230 (by kernel_rfl) (by kernel_rfl) (by kernel_rfl) (by kernel_rfl)
 have h27 := @run_callFunc_extern Tryz.prog 346 _ (ReflectliteType.abiMethod fun t => do pure (.int .u8 (← Rtype.kind t))) Tryz.func346 (by kernel_rfl) (by kernel_rfl) (by kernel_rfl) (by kernel_rfl)
 have h37 := @run_callFunc_extern Tryz.prog 360 _ (ReflectliteType.method ReflectliteType.elem) Tryz.func360 (by kernel_rfl) (by kernel_rfl) (by kernel_rfl) (by kernel_rfl)
 have h38 := @run_callFunc_extern Tryz.prog 361 _ (ReflectliteType.relation "Implements" ReflectliteType.implements_) Tryz.func361 (by kernel_rfl) (by kernel_rfl) (by kernel_rfl) (by kernel_rfl)
 have f6 := valueOfP
 have f7 := typeP
 have mK := methodKind
 have mE := methodElem
 have mI := methodImplements
 have k27 := kindP
 have k25 := kindF
 have e27 := elemP
 have i25 := implementsF
 obtain ⟨W1, hW1⟩ := exa (w.alloc (.cells #[.pointer (some ⟨T, 0, none⟩)] 243))
 obtain ⟨W, hW⟩ := exa (W1.alloc (.cells #[.pointer (some ⟨2, 243, none⟩), .pointer (some ⟨w.heap.size, 0, none⟩), .int .u64 150] 316))
 have hb1 : Below w.heap.size w W1 := by rw [hW1]; exact (Below.refl _ w).alloc (Nat.le_refl _) _
 have hbW : Below w.heap.size w W := by rw [hW]; exact hb1.alloc hb1.size _
 have hgW : Glob W := hg.below hbW hg.lt
 have hcA : W.cell? ⟨w.heap.size, 0, none⟩ = some (.pointer (some ⟨T, 0, none⟩)) := by
   rw [hW, hW1]
   exact ((Box.new w 243 #[.pointer (some ⟨T, 0, none⟩)]).alloc _).cell 0 rfl
 have hBV : Box W (w.heap.size + 1) 316 #[.pointer (some ⟨2, 243, none⟩), .pointer (some ⟨w.heap.size, 0, none⟩), .int .u64 150] := by (
 rw [hW]
 have := Box.new W1 316 #[.pointer (some ⟨2, 243, none⟩), .pointer (some ⟨w.heap.size, 0, none⟩), .int .u64 150]
 rw [hW1] at this ⊢
 simpa using this)
 have n8 := isNilP ⟨w.heap.size, 0, none⟩ ⟨T, 0, none⟩ W hcA
 unfold Glob at hgW
 obtain ⟨g0, g1, g2, -, -, -⟩ := hBV.three
 have HA := as_hit a l c k s T o0 o1 ⟨w.heap.size, 0, none⟩ W (ht.below hbW ht.lt) hcA
 have HW : Hid (Below w.heap.size w W) := hbW
 rw [hW, hW1] at n8 hgW g0 g1 g2
 clear hg ht hb1 hbW hcA hBV
 go_enter Tryz.func163, Tryz.ntmps163
 go_wp2_with (go_at_call 231; rw [← hW1, ← hW]; refine HA.mono ?_; rintro e w1 ⟨rfl, V, hbV, rfl⟩)
 go_ret
 exact ⟨rfl, V, below_any HW.out hbV, rfl⟩
theorem numberOf_nil (w : World) : Calls Tryz.prog 96 #[.nilIface] w fun e w' => e = .returned (.int .i64 0) ∧ Below w.heap.size w w' := by
 have HA := As_nil (.iface 243 (.pointer (some ⟨w.heap.size, 0, none⟩))) (w.alloc (.cells #[.int .i64 0, .string ⟨#[]⟩] 236))
 have HB : Hid (Below w.heap.size w (w.alloc (.cells #[.int .i64 0, .string ⟨#[]⟩] 236))) := (Below.refl _ w).alloc (Nat.le_refl _) _
 go_enter Tryz.func96, Tryz.ntmps96
 go_wp2_with fail
 refine HA.mono ?_
 rintro e w1 ⟨rfl, rfl⟩
 go_wp2
 go_ret
 exact ⟨rfl, HB.out⟩
theorem numberOf_ref (a : Option Addr) (l c : Nat) (k : Int) (s : ByteArray) (w : World) (hg : Glob w) : Calls Tryz.prog 96 #[refV (.slice a l c) k s] w fun e w' => e = .returned (.int .i64 k) ∧ Below w.heap.size w w' := by
 obtain ⟨W, hW⟩ := exa (w.alloc (.cells #[.int .i64 0, .string ⟨#[]⟩] 236))
 have hb : Below w.heap.size w W := by rw [hW]; exact (Below.refl _ w).alloc (Nat.le_refl _) _
 have hP : Box W w.heap.size 236 #[.int .i64 0, .string ⟨#[]⟩] := by rw [hW]; exact Box.new w 236 _
 have HA := As_hit a l c k s w.heap.size _ _ W (hg.below hb hg.lt) hP
 have HW : Hid (Below w.heap.size w W ∧ Box W w.heap.size 236 #[.int .i64 0, .string ⟨#[]⟩]) := ⟨hb, hP⟩
 clear hb hP hg
 go_enter Tryz.func96, Tryz.ntmps96
 go_wp2_with fail
 rw [← hW]
 clear hW
 refine HA.mono ?_
 rintro e w1 ⟨rfl, V, hbV, hw1⟩
 have hPV := ((HW.out.2.below hbV HW.out.2.lt).set 0 (.int .i64 k)).set 1 (.string s)
 have g0 : w1.cell? ⟨w.heap.size, 0, none⟩ = some (.int .i64 k) := by rw [hw1]; exact hPV.cell 0 (u := .int .i64 k) rfl
 have HB : Hid (Below w.heap.size w w1) := by (
 show Below _ _ _
 rw [hw1]
 exact below_set2 (below_any HW.out.1 hbV) (Nat.le_refl _) _ _)
 clear hPV hw1 hbV
 go_wp2
 go_ret
 exact ⟨rfl, HB.out⟩
end Go.Proofs.YtopcefhncildnaaGreatDoor
namespace Go.Proofs.YtopcefhncildnaaGreatDoor.W
open Go.RowKit Go.Extern.Stop Go.Stop Go.Extern
theorem as_nil (t : Value) (w : World) :
   Calls Tryz.prog 163 #[.nilIface, t] w fun e w' => e = .returned (.bool false) ∧ w = w' := by
 go_enter Tryz.func163, Tryz.ntmps163
 go_wp2
 go_ret
 exact ⟨rfl, rfl⟩
theorem valueOfP (t : Addr) (w : World) : (ReflectliteValue.unpack (.iface 282 (.pointer (some t)))).run Tryz.prog w
   = .ok (.agg #[.pointer (some ⟨2, 282, none⟩), .pointer (some ⟨w.heap.size, 0, none⟩), .int .u64 150]) (w.alloc (.cells #[.pointer (some t)] 282)) := by kernel_rfl
theorem typeP (a : Addr) (w : World) : (ReflectliteValue.methodAny (ReflectliteValue.valueError "reflectlite.Value.Type" 0) (fun t _ _ _ => ReflectliteType.toType t) #[.agg #[.pointer (some ⟨2, 282, none⟩), .pointer (some a), .int .u64 150]]).run Tryz.prog w
   = .ok (.iface 363 (.agg #[.pointer (some ⟨2, 282, none⟩)])) w := by kernel_rfl
theorem methodKind (h : Value) (w : World) : (Go.method 546 363 (.agg #[h]) "Kind").run Tryz.prog w = .ok (346, h) w := by kernel_rfl
theorem kindP (w : World) : ((ReflectliteType.abiMethod fun t => Functor.map (fun a : Nat => Value.int IntKind.u8 (a : Int)) (Rtype.kind t)) #[.pointer (some ⟨2, 282, none⟩)]).run Tryz.prog w = .ok (.int .u8 22) w := by kernel_rfl
theorem kindF (w : World) : ((ReflectliteType.abiMethod fun t => Functor.map (fun a : Nat => Value.int IntKind.u8 (a : Int)) (Rtype.kind t)) #[.pointer (some ⟨2, 281, none⟩)]).run Tryz.prog w = .ok (.int .u8 25) w := by kernel_rfl
theorem partsP (a : Addr) (w : World) : (ReflectliteValue.parts (.agg #[.pointer (some ⟨2, 282, none⟩), .pointer (some a), .int .u64 150])).run Tryz.prog w = .ok (some (282, a, 150)) w := by kernel_rfl
theorem isNilP (a p : Addr) (W : World) (ha : W.cell? a = some (.pointer (some p))) :
   (ReflectliteValue.method (ReflectliteValue.valueError "reflectlite.Value.IsNil" 0) ReflectliteValue.isNil #[.agg #[.pointer (some ⟨2, 282, none⟩), .pointer (some a), .int .u64 150]]).run Tryz.prog W = .ok (.bool false) W := by
 refine (Sem.run_bind (P := Tryz.prog) (w := W) (ReflectliteValue.parts (.agg #[.pointer (some ⟨2, 282, none⟩), .pointer (some a), .int .u64 150])) _).trans ?_
 simp only [partsP, Result.andThen]
 simp [ReflectliteValue.isNil, loadVar, isAgg, underlying, Tryz.underlying282, ha, Result.andThen]
theorem methodElem (h : Value) (w : World) : (Go.method 546 363 (.agg #[h]) "Elem").run Tryz.prog w = .ok (360, .agg #[h]) w := by kernel_rfl
theorem methodImplements (h : Value) (w : World) : (Go.method 546 363 (.agg #[h]) "Implements").run Tryz.prog w = .ok (361, .agg #[h]) w := by kernel_rfl
theorem methodAssignableTo (h : Value) (w : World) : (Go.method 546 363 (.agg #[h]) "AssignableTo").run Tryz.prog w = .ok (358, .agg #[h]) w := by kernel_rfl
theorem elemP (w : World) : (ReflectliteType.method ReflectliteType.elem #[.agg #[.pointer (some ⟨2, 282, none⟩)]]).run Tryz.prog w = .ok (.iface 363 (.agg #[.pointer (some ⟨2, 281, none⟩)])) w := by kernel_rfl
theorem implementsF (w : World) : (ReflectliteType.relation "Implements" ReflectliteType.implements_ #[.agg #[.pointer (some ⟨2, 281, none⟩)], .iface 363 (.agg #[.pointer (some ⟨2, 108, none⟩)])]).run Tryz.prog w = .ok (.bool true) w := by kernel_rfl
theorem typeOfF (v : Value) (w : World) : (ReflectliteType.typeOf #[.iface 281 v]).run Tryz.prog w = .ok (.iface 363 (.agg #[.pointer (some ⟨2, 281, none⟩)])) w := by kernel_rfl
theorem assignableF (w : World) : (ReflectliteType.relation "AssignableTo" ReflectliteType.assignableTo #[.agg #[.pointer (some ⟨2, 281, none⟩)], .iface 363 (.agg #[.pointer (some ⟨2, 281, none⟩)])]).run Tryz.prog w = .ok (.bool true) w := by kernel_rfl
theorem valueOfF (k : Int) (w : World) : (ReflectliteValue.unpack (.iface 281 (.agg #[.int .i64 k]))).run Tryz.prog w
   = .ok (.agg #[.pointer (some ⟨2, 281, none⟩), .pointer (some ⟨w.heap.size, 0, none⟩), .int .u64 153]) (w.alloc (.cells #[.int .i64 k] 281)) := by kernel_rfl
theorem elemOfP (w : World) : (Rtype.elem? 282).run Tryz.prog w = .ok (some 281) w := by kernel_rfl
theorem mkF (p : Addr) (w : World) : (ReflectliteValue.mk 281 p ReflectliteValue.flagAddr).run Tryz.prog w = .ok (.agg #[.pointer (some ⟨2, 281, none⟩), .pointer (some p), .int .u64 409]) w := by kernel_rfl
theorem elemVP (a p : Addr) (W : World) (ha : W.cell? a = some (.pointer (some p))) :
   (ReflectliteValue.method (ReflectliteValue.valueError "reflectlite.Value.Elem" 0) ReflectliteValue.elem #[.agg #[.pointer (some ⟨2, 282, none⟩), .pointer (some a), .int .u64 150]]).run Tryz.prog W
     = .ok (.agg #[.pointer (some ⟨2, 281, none⟩), .pointer (some p), .int .u64 409]) W := by
 refine (Sem.run_bind (P := Tryz.prog) (w := W) (ReflectliteValue.parts (.agg #[.pointer (some ⟨2, 282, none⟩), .pointer (some a), .int .u64 150])) _).trans ?_
 simp only [partsP, Result.andThen]
 simp [ReflectliteValue.elem, loadVar, isAgg, underlying, Tryz.underlying282, ha, Result.andThen, elemOfP, mkF]
theorem partsFa (a : Addr) (w : World) : (ReflectliteValue.parts (.agg #[.pointer (some ⟨2, 281, none⟩), .pointer (some a), .int .u64 409])).run Tryz.prog w = .ok (some (281, a, 409)) w := by kernel_rfl
theorem partsF (a : Addr) (w : World) : (ReflectliteValue.parts (.agg #[.pointer (some ⟨2, 281, none⟩), .pointer (some a), .int .u64 153])).run Tryz.prog w = .ok (some (281, a, 153)) w := by kernel_rfl
theorem directF (w : World) : (Rtype.directlyAssignable 281 281).run Tryz.prog w = .ok true w := by kernel_rfl
theorem setF (ta b : Addr) (k : Int) (old : Value) (W : World) (hb : W.cell? b = some (.int .i64 k)) (ht : W.cell? ta = some old) (hf : W.frozen? ta = false) :
   (ReflectliteValue.set #[.agg #[.pointer (some ⟨2, 281, none⟩), .pointer (some ta), .int .u64 409], .agg #[.pointer (some ⟨2, 281, none⟩), .pointer (some b), .int .u64 153]]).run Tryz.prog W
     = .ok (.tuple #[]) (W.setCell ta (.int .i64 k)) := by
 refine (Sem.run_bind (P := Tryz.prog) (w := W) (ReflectliteValue.parts (.agg #[.pointer (some ⟨2, 281, none⟩), .pointer (some ta), .int .u64 409])) _).trans ?_
 simp only [partsFa, Result.andThen]
 refine (Sem.run_bind (P := Tryz.prog) (w := W) (ReflectliteValue.parts (.agg #[.pointer (some ⟨2, 281, none⟩), .pointer (some b), .int .u64 153])) _).trans ?_
 simp only [partsF, Result.andThen]
 simp [ReflectliteValue.flagAddr, loadVar, isAgg, underlying, Tryz.underlying281, Result.andThen]
 have hl : (loadCells b 1).run Tryz.prog W = .ok #[.int .i64 k] W := by (
 have := run_loadCells_list (P := Tryz.prog) W b [.int .i64 k] (fun j v hj => by
   match j, hj with
   | 0, hj => (
 obtain rfl : Value.int .i64 k = v := by simpa using hj
 simpa [Addr.add] using hb)
   | j + 1, hj => simp at hj)
 simpa using this)
 rw [hl]
 simp only [directF, if_true]
 simp [storeVar, Value.cells, storeCells, Addr.add, Result.andThen]
 rw [run_store Tryz.prog W ta _ _ (by rfl)]
 simp [ht, hf]
theorem as_hit (k : Int) (t : Addr) (old : Value) (w : World) (hg : Glob w) (ht0 : w.cell? t = some old) (hf0 : w.frozen? t = false) :
   Calls Tryz.prog 163 #[.iface 281 (.agg #[.int .i64 k]), .iface 282 (.pointer (some t))] w fun ev w' => ev = .returned (.bool true) ∧ ∃ W, Below w.heap.size w W ∧ w' = W.setCell t (.int .i64 k) := by
 unfold Glob at hg
 have h6 := @run_callFunc_extern Tryz.prog 228 _ (fun args => ReflectliteValue.unpack (args.getD 0 (.tuple #[]))) Tryz.func228 (by kernel_rfl) (by kernel_rfl) (by kernel_rfl) (by kernel_rfl)
 have h7 := @run_callFunc_extern Tryz.prog 229 _ (ReflectliteValue.methodAny (ReflectliteValue.valueError "reflectlite.Value.Type" 0) (fun t _ _ _ => ReflectliteType.toType t)) Tryz.func229 (by kernel_rfl) (by kernel_rfl) (by kernel_rfl) (by kernel_rfl)
 have h8 := @run_callFunc_extern Tryz.prog 230 _ (ReflectliteValue.method (ReflectliteValue.valueError "reflectlite.Value.IsNil" 0) ReflectliteValue.isNil) Tryz.func230 (by kernel_rfl) (by kernel_rfl) (by kernel_rfl) (by kernel_rfl)
 have h27 := @run_callFunc_extern Tryz.prog 346 _ (ReflectliteType.abiMethod fun t => do pure (.int .u8 (← Rtype.kind t))) Tryz.func346 (by kernel_rfl) (by kernel_rfl) (by kernel_rfl) (by kernel_rfl)
 have h37 := @run_callFunc_extern Tryz.prog 360 _ (ReflectliteType.method ReflectliteType.elem) Tryz.func360 (by kernel_rfl) (by kernel_rfl) (by kernel_rfl) (by kernel_rfl)
 have h38 := @run_callFunc_extern Tryz.prog 361 _ (ReflectliteType.relation "Implements" ReflectliteType.implements_) Tryz.func361 (by kernel_rfl) (by kernel_rfl) (by kernel_rfl) (by kernel_rfl)
 have h10 := @run_callFunc_extern Tryz.prog 279 _ ReflectliteType.typeOf Tryz.func279 (by kernel_rfl) (by kernel_rfl) (by kernel_rfl) (by kernel_rfl)
 have h35 := @run_callFunc_extern Tryz.prog 358 _ (ReflectliteType.relation "AssignableTo" ReflectliteType.assignableTo) Tryz.func358 (by kernel_rfl) (by kernel_rfl) (by kernel_rfl) (by kernel_rfl)
 have h11 := @run_callFunc_extern Tryz.prog 280 _ (ReflectliteValue.method (ReflectliteValue.valueError "reflectlite.Value.Elem" 0) ReflectliteValue.elem) Tryz.func280 (by kernel_rfl) (by kernel_rfl) (by kernel_rfl) (by kernel_rfl)
 have h12 := @run_callFunc_extern Tryz.prog 281 _ ReflectliteValue.set Tryz.func281 (by kernel_rfl) (by kernel_rfl) (by kernel_rfl) (by kernel_rfl)
 have tO := typeOfF
 have mA := methodAssignableTo
 have a25 := assignableF
 have v25 := valueOfF k
 have f6 := valueOfP
 have f7 := typeP
 have mK := methodKind
 have mE := methodElem
 have mI := methodImplements
 have k27 := kindP
 have k25 := kindF
 have e27 := elemP
 have i25 := implementsF
 have n8 := isNilP ⟨w.heap.size, 0, none⟩ t ((w.alloc (.cells #[.pointer (some t)] 282)).alloc (.cells #[.pointer (some ⟨2, 282, none⟩), .pointer (some ⟨w.heap.size, 0, none⟩), .int .u64 150] 316)) (by simp)
 have hlt : 0 < w.heap.size := cell_lt hg
 have hg2 : ((w.alloc (.cells #[.pointer (some t)] 282)).alloc (.cells #[.pointer (some ⟨2, 282, none⟩), .pointer (some ⟨w.heap.size, 0, none⟩), .int .u64 150] 316)).cell? ⟨0, 0, none⟩ = some (.iface 363 (.agg #[.pointer (some ⟨2, 108, none⟩)])) := by
   rw [World.cell?_alloc_lt _ _ ⟨0, 0, none⟩ (by simp), World.cell?_alloc_lt _ _ ⟨0, 0, none⟩ hlt]; exact hg
 have htl : t.block < w.heap.size := cell_lt ht0
 have el := elemVP ⟨w.heap.size, 0, none⟩ t (((w.alloc (.cells #[.pointer (some t)] 282)).alloc (.cells #[.pointer (some ⟨2, 282, none⟩), .pointer (some ⟨w.heap.size, 0, none⟩), .int .u64 150] 316)).alloc (.cells #[.pointer (some ⟨2, 282, none⟩), .pointer (some ⟨w.heap.size, 0, none⟩), .int .u64 150] 316)) (by rw [World.cell?_alloc_lt _ _ ⟨w.heap.size, 0, none⟩ (by simp; omega)]; simp)
 have st := setF t ⟨w.heap.size + 1 + 1 + 1, 0, none⟩ k old ((((w.alloc (.cells #[.pointer (some t)] 282)).alloc (.cells #[.pointer (some ⟨2, 282, none⟩), .pointer (some ⟨w.heap.size, 0, none⟩), .int .u64 150] 316)).alloc (.cells #[.pointer (some ⟨2, 282, none⟩), .pointer (some ⟨w.heap.size, 0, none⟩), .int .u64 150] 316)).alloc (.cells #[.int .i64 k] 281))
   (by rw [World.cell?_alloc_at _ _ _ _ (by simp)]; rfl)
   (by rw [World.cell?_alloc_lt _ _ t (by simp; omega), World.cell?_alloc_lt _ _ t (by simp; omega), World.cell?_alloc_lt _ _ t (by simp; omega), World.cell?_alloc_lt _ _ t htl]; exact ht0)
   (by rw [World.frozen?_alloc_old _ _ t (by simp; omega), World.frozen?_alloc_old _ _ t (by simp; omega), World.frozen?_alloc_old _ _ t (by simp; omega), World.frozen?_alloc_old _ _ t (Nat.ne_of_lt htl)]; exact hf0)
 go_enter Tryz.func163, Tryz.ntmps163
 go_wp2
 refine wp_loop_rounds 1 ?_
 rw [rounds_succ]
 go_wp2
 go_ret
 refine ⟨rfl, _, ?_, rfl⟩
 exact ((((Below.refl _ w).alloc (Nat.le_refl _) _).alloc (by simp) _).alloc (by simp; omega) _).alloc (by simp; omega) _
end Go.Proofs.YtopcefhncildnaaGreatDoor.W
namespace Go.Proofs.YtopcefhncildnaaGreatDoor.W
open Go.RowKit
abbrev faultV (k : Int) : Value := .iface 281 (.agg #[.int .i64 k])
theorem numberOf_nil (w : World) : Calls Tryz.prog 131 #[.nilIface] w fun e w' => e = .returned (.int .i64 0) ∧ Below w.heap.size w w' := by
 have HA := as_nil (.iface 282 (.pointer (some ⟨w.heap.size, 0, none⟩))) (w.alloc (.cells #[.int .i64 0] 281))
 have HB : Hid (Below w.heap.size w (w.alloc (.cells #[.int .i64 0] 281))) := (Below.refl _ w).alloc (Nat.le_refl _) _
 go_enter Tryz.func131, Tryz.ntmps131
 go_wp2_with fail
 refine HA.mono ?_
 rintro e w1 ⟨rfl, rfl⟩
 go_wp2
 go_ret
 exact ⟨rfl, HB.out⟩
theorem numberOf_fault (k : Int) (w : World) (hg : Glob w) : Calls Tryz.prog 131 #[faultV k] w fun e w' => e = .returned (.int .i64 k) ∧ Below w.heap.size w w' := by
 obtain ⟨W, hW⟩ := exa (w.alloc (.cells #[.int .i64 0] 281))
 have hb : Below w.heap.size w W := by rw [hW]; exact (Below.refl _ w).alloc (Nat.le_refl _) _
 have hP : Box W w.heap.size 281 #[.int .i64 0] := by rw [hW]; exact Box.new w 281 _
 have HA := as_hit k ⟨w.heap.size, 0, none⟩ _ W (hg.below hb hg.lt) (hP.cell 0 rfl) (hP.frozen 0)
 have HW : Hid (Below w.heap.size w W ∧ Box W w.heap.size 281 #[.int .i64 0]) := ⟨hb, hP⟩
 clear hb hP hg
 go_enter Tryz.func131, Tryz.ntmps131
 go_wp2_with fail
 rw [← hW]
 clear hW
 refine HA.mono ?_
 rintro e w1 ⟨rfl, V, hbV, rfl⟩
 have hPV := (HW.out.2.below hbV HW.out.2.lt).set 0 (.int .i64 k)
 have g0 := hPV.cell 0 (u := .int .i64 k) rfl
 have HB : Hid (Below w.heap.size w (V.setCell ⟨w.heap.size, 0, none⟩ (.int .i64 k))) := (below_any HW.out.1 hbV).setCell (p := ⟨w.heap.size, 0, none⟩) (Nat.le_refl _) _
 obtain ⟨V2, hV2⟩ := exa (V.setCell ⟨w.heap.size, 0, none⟩ (.int .i64 k))
 rw [← hV2] at g0 HB ⊢
 clear hPV hbV HA hV2
 go_wp2
 go_ret
 exact ⟨rfl, HB.out⟩
end Go.Proofs.YtopcefhncildnaaGreatDoor.W
