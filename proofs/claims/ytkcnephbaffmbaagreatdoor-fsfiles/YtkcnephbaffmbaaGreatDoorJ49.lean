/-
  The document's Create and Mkdir: what is made of every state.
  The document's Unlink and Rmdir: what is removed of every state.
  The document's file, Read, Stat and List: what is read and told of every state and path.
  The document's Create, Mkdir, Unlink and Rmdir: what each tells of every state and path.
  The document's Write and Truncate: what is written and cut of every state and path.
  The document's Write and Truncate: what is written and cut of every state and path.
-/
import Derived.Test.YtkcnephbaffmbaaGreatDoorJ47
import Derived.Test.YtkcnephbaffmbaaGreatDoorJ48
set_option maxRecDepth 100000
set_option maxHeartbeats 16000000
namespace Go.Proofs.YtkcnephbaffmbaaGreatDoor
open Go.RowKit
open D (En ArgE OwnE Chk there fnd aerr aval ins nameOk)
open P (ArgT OwnT serr sval)
def Stopped (P : Prop) : Prop := P
theorem Stopped.intro {P : Prop} (h : Stopped P) : P := h
theorem no_told {s : St} {ps : List ByteArray} {K : Int} {s' : St} {k : Int} (h : Ok s) (hp : psE ps = 0) (h1 : K = k) (hk : k ≠ 0) : Told s ps K s' k ([], 0) := .inr (.inr (.inl ⟨h, hp, by rw [h1]; exact hk, h1.symm, rfl⟩))
theorem yes_told {s : St} {ps : List ByteArray} {K : Int} {s' : St} (h : Ok s) (hp : psE ps = 0) (h1 : K = 0) : Told s ps K s' 0 s' := .inr (.inr (.inr ⟨h, hp, h1, rfl, rfl⟩))
end Go.Proofs.YtkcnephbaffmbaaGreatDoor
namespace Go.Proofs.YtkcnephbaffmbaaGreatDoor
open Go.RowKit
open D (En ArgE OwnE Chk there fnd)
open P (ArgT OwnT serr sval)
theorem filE_walk {s : St} {xs : List ByteArray} (h : (wlk s.1 1 xs).2 ≠ 0) : filE s.1 xs = (wlk s.1 1 xs).2 := by unfold filE; rw [if_neg h]
theorem dirE_walk {s : St} {xs : List ByteArray} (h : (wlk s.1 1 xs).2 ≠ 0) : dirE s.1 xs = (wlk s.1 1 xs).2 := by unfold dirE; rw [if_neg h]
theorem filE_dir {s : St} {xs : List ByteArray} (h : (wlk s.1 1 xs).2 = 0) (hd : isD (tgt s xs) = true) : filE s.1 xs = 104 := by unfold filE; rw [if_pos h, show gt s.1 (wlk s.1 1 xs).1 = tgt s xs from rfl, if_pos hd]
theorem filE_zero {s : St} {xs : List ByteArray} (h : (wlk s.1 1 xs).2 = 0) (hd : isD (tgt s xs) = false) : filE s.1 xs = 0 := by unfold filE; rw [if_pos h, show gt s.1 (wlk s.1 1 xs).1 = tgt s xs from rfl, if_neg (by rw [hd]; decide)]
theorem dirE_not {s : St} {xs : List ByteArray} (h : (wlk s.1 1 xs).2 = 0) (hd : isD (tgt s xs) = false) : dirE s.1 xs = 103 := by unfold dirE; rw [if_pos h, show gt s.1 (wlk s.1 1 xs).1 = tgt s xs from rfl, if_pos hd]
theorem dirE_zero {s : St} {xs : List ByteArray} (h : (wlk s.1 1 xs).2 = 0) (hd : isD (tgt s xs) = true) : dirE s.1 xs = 0 := by unfold dirE; rw [if_pos h, show gt s.1 (wlk s.1 1 xs).1 = tgt s xs from rfl, if_neg (by rw [hd]; decide)]
end Go.Proofs.YtkcnephbaffmbaaGreatDoor
namespace Go.Proofs.YtkcnephbaffmbaaGreatDoor
open Go.RowKit
open D (En ArgE Chk)
open F (flR rdE rdO)
open P (ArgT OwnT serr sval)
def Filed (s : St) (p : ByteArray) (i k : Int) : Prop := (¬ Ok s ∧ k = 9) ∨ (Ok s ∧ serr p ≠ 0 ∧ k = serr p) ∨ (Ok s ∧ serr p = 0 ∧ k = filE s.1 (sval p) ∧ (k = 0 → ∃ at' : Nat, i = (at' : Int) ∧ s.1[at']? = some (tgt s (sval p))))
theorem rfile_any (n0 : Nat) (a : Option Addr) (c : Nat) (s : St) (p : ByteArray) (w : World) (hA : ndsR.lies n0 w [.slice a s.1.length c] s.1) (hM : FitsS s.1) :
   Calls Tryz.prog 85 #[.agg #[.slice a s.1.length c, .int .i64 s.2], .string p] w fun e w' => (∃ i k, e = .returned (.tuple #[.int .i64 i, .int .i64 k]) ∧ Filed s p i k) ∧ Below w.heap.size w w' := by
 obtain ⟨post, hpost⟩ : ∃ post : Ending → World → Prop, post = fun e w' => (∃ i k, e = .returned (.tuple #[.int .i64 i, .int .i64 k]) ∧ Filed s p i k) ∧ Below w.heap.size w w' := ⟨_, rfl⟩
 have HPo : Hid (∀ i k w', Filed s p i k → Below w.heap.size w w' → post (.returned (.tuple #[.int .i64 i, .int .i64 k])) w') := fun i k w' h1 h2 => by rw [hpost]; exact ⟨⟨i, k, rfl, h1⟩, h2⟩
 rw [← hpost]
 clear hpost
 obtain ⟨W, hW⟩ := exa (w.alloc (.cells #[.slice a s.1.length c, .int .i64 s.2] 24))
 have hb : Below w.heap.size w W := by rw [hW]; exact (Below.refl _ w).alloc (Nat.le_refl _) _
 have HW : Hid (Below w.heap.size w W ∧ Box W w.heap.size 24 #[.slice a s.1.length c, .int .i64 s.2] ∧ ndsR.lies n0 W [.slice a s.1.length c] s.1) := ⟨hb, by rw [hW]; exact Box.new _ _ _, ndsR.below hA hb⟩
 have HC1 := rfind10_any n0 a c s p W HW.out.2.2 hM
 have HPL : Hid (∀ V (i : Int), Below W.heap.size W V → Calls Tryz.prog 75 #[.agg #[.slice a s.1.length c, .int .i64 s.2], .int .i64 i] V fun e w' => e = .returned (.int .i64 (plc s.1 i)) ∧ Below V.heap.size V w') := fun V i hV => rplace_any n0 a c s.1 s.2 i V (ndsR.below HW.out.2.2 hV)
 obtain ⟨g0, g1, -, -⟩ := HW.out.2.1.two
 obtain ⟨n, hn⟩ := exa (s.1.length)
 obtain ⟨nx, hnx⟩ := exa (s.2)
 have HN : Hid (n = s.1.length) := hn
 rw [← hn] at HW HC1 HPL hW g0 ⊢
 rw [← hnx] at HW HC1 HPL hW g1 ⊢
 rw [hW] at g0 g1
 clear hA hb hM hn hnx
 go_enter Tryz.func85, Tryz.ntmps85
 go_wp2_with fail
 rw [← hW]
 clear hW g0 g1
 refine HC1.mono ?_
 rintro e w1 ⟨⟨i1, k1, rfl, hf⟩, hb1⟩
 have HB1 : Hid (Below W.heap.size W w1) := hb1
 clear hb1 HC1
 by_cases hk0 : k1 = 0
 case neg => (
 have HF : Hid (Filed s p 0 k1) := by (
 rcases hf with ⟨h1, _, h3⟩ | ⟨h1, h2, _, h3⟩ | ⟨h1, h2, _, h3⟩
 · exact .inl ⟨h1, h3⟩
 · exact .inr (.inl ⟨h1, h2, h3⟩)
 · exact .inr (.inr ⟨h1, h2, by rw [h3]; exact (filE_walk (by rw [← h3]; exact hk0)).symm, fun h => absurd h hk0⟩))
 clear hf
 go_wp2
 exact HPo.out _ _ _ HF.out (below_any HW.out.1 HB1.out))
 subst hk0
 obtain ⟨hO, hp0, hi1, hw0⟩ : Ok s ∧ serr p = 0 ∧ i1 = (wlk s.1 1 (sval p)).1 ∧ (wlk s.1 1 (sval p)).2 = 0 := by (
 rcases hf with ⟨_, _, h3⟩ | ⟨_, h2, _, h3⟩ | ⟨h1, h2, h3, h4⟩
 · omega
 · exact absurd h3.symm h2
 · exact ⟨h1, h2, h3, h4.symm⟩)
 have HO : Hid (Ok s ∧ serr p = 0 ∧ (wlk s.1 1 (sval p)).2 = 0) := ⟨hO, hp0, hw0⟩
 obtain ⟨hqm, hqi, -⟩ := hO.wk.lead hw0
 obtain ⟨q, hq⟩ := exa (tgt s (sval p))
 rw [← hq] at hqm hqi
 obtain ⟨at', hat, hpc⟩ := plc_mem hO.wk.up hqm
 have HQ : Hid (q = tgt s (sval p) ∧ s.1[at']? = some q) := ⟨hq, hat⟩
 have HC2 := HPL.out w1 i1 HB1.out
 rw [hi1, hqi, hpc, ← hqi, ← hi1] at HC2
 obtain ⟨b, o, ea, ec, fa, fc, hix, hall⟩ := ndr_at HW.out.2.2 at' q hat
 obtain ⟨pd, hpd⟩ := exa (isD q)
 have HD : Hid (pd = isD q) := hpd
 have HPD : Hid (∀ V, Below W.heap.size W V → V.cell? ⟨b, o + 1, none⟩ = some (.bool pd)) := fun V hV => by rw [hpd]; exact (hall V hV).1.2.1
 have hatn : (at' : Int) < (n : Int) := by (
 have h1 := (List.getElem?_eq_some_iff.1 hat).1
 have h2 := HN.out
 omega)
 obtain ⟨g0, g1, -, -⟩ := (HW.out.2.1.below HB1.out HW.out.2.1.lt).two
 clear hf hO hp0 hi1 hw0 hqm hqi hq hat hpc hall hpd
 go_wp2_with fail
 refine HC2.mono ?_
 rintro e w2 ⟨rfl, hb2⟩
 have HB2 : Hid (Below W.heap.size W w2) := below_any HB1.out hb2
 clear hb2 HC2 g0 g1
 obtain ⟨g0, g1, -, -⟩ := (HW.out.2.1.below HB2.out HW.out.2.1.lt).two
 have gd := HPD.out w2 HB2.out
 cases pd
 · have HF : Hid (Filed s p at' 0) := by
     have h1 := HD.out
     rw [HQ.out.1] at h1
     exact .inr (.inr ⟨HO.out.1, HO.out.2.1, (filE_zero HO.out.2.2 h1.symm).symm, fun _ => ⟨at', rfl, by rw [← HQ.out.1]; exact HQ.out.2⟩⟩)
   go_wp2
   exact HPo.out _ _ _ HF.out (below_any HW.out.1 HB2.out)
 · have HF : Hid (Filed s p 0 104) := by
     have h1 := HD.out
     rw [HQ.out.1] at h1
     exact .inr (.inr ⟨HO.out.1, HO.out.2.1, (filE_dir HO.out.2.2 h1.symm).symm, fun h => absurd h (by decide)⟩)
   go_wp2
   exact HPo.out _ _ _ HF.out (below_any HW.out.1 HB2.out)
theorem rRead_any (n0 : Nat) (a : Option Addr) (c : Nat) (s : St) (p : ByteArray) (off m : Int) (ho : I64 off) (hm : I64 m) (w : World) (hA : ndsR.lies n0 w [.slice a s.1.length c] s.1) (hM : FitsS s.1) :
   Calls Tryz.prog 35 #[.agg #[.slice a s.1.length c, .int .i64 s.2], .string p, .int .i64 off, .int .i64 m] w fun e w' => (∃ v O k, e = .returned (.tuple #[v, .int .i64 k]) ∧ Arg w.heap.size w' v O ∧ Readed s p off m O k) ∧ Below w.heap.size w w' := by
 obtain ⟨post, hpost⟩ : ∃ post : Ending → World → Prop, post = fun e w' => (∃ v O k, e = .returned (.tuple #[v, .int .i64 k]) ∧ Arg w.heap.size w' v O ∧ Readed s p off m O k) ∧ Below w.heap.size w w' := ⟨_, rfl⟩
 have HPo : Hid (∀ v O k w', Arg w.heap.size w' v O → Readed s p off m O k → Below w.heap.size w w' → post (.returned (.tuple #[v, .int .i64 k])) w') := fun v O k w' h1 h2 h3 => by rw [hpost]; exact ⟨⟨v, O, k, rfl, h1, h2⟩, h3⟩
 rw [← hpost]
 clear hpost
 obtain ⟨W, hW⟩ := exa (w.alloc (.cells #[.slice a s.1.length c, .int .i64 s.2] 24))
 have hb : Below w.heap.size w W := by rw [hW]; exact (Below.refl _ w).alloc (Nat.le_refl _) _
 have HW : Hid (Below w.heap.size w W ∧ Box W w.heap.size 24 #[.slice a s.1.length c, .int .i64 s.2] ∧ ndsR.lies n0 W [.slice a s.1.length c] s.1) := ⟨hb, by rw [hW]; exact Box.new _ _ _, ndsR.below hA hb⟩
 have HC1 := rfile_any n0 a c s p W HW.out.2.2 hM
 obtain ⟨g0, g1, -, -⟩ := HW.out.2.1.two
 obtain ⟨n, hn⟩ := exa (s.1.length)
 obtain ⟨nx, hnx⟩ := exa (s.2)
 have HN : Hid (n = s.1.length ∧ I64 off ∧ I64 m) := ⟨hn, ho, hm⟩
 rw [← hn] at HW HC1 hW g0 ⊢
 rw [← hnx] at HW HC1 hW g1 ⊢
 rw [hW] at g0 g1
 clear hA hb hM hn hnx ho hm
 go_enter Tryz.func35, Tryz.ntmps35
 go_wp2_with fail
 rw [← hW]
 clear hW g0 g1
 refine HC1.mono ?_
 rintro e w1 ⟨⟨i1, k1, rfl, hf⟩, hb1⟩
 have HB1 : Hid (Below W.heap.size W w1) := hb1
 clear hb1 HC1
 by_cases hk0 : k1 = 0
 case neg => (
 have HF : Hid (Readed s p off m [] k1) := by (
 rcases hf with ⟨h1, h3⟩ | ⟨h1, h2, h3⟩ | ⟨h1, h2, h3, _⟩
 · exact .inl ⟨h1, rfl, h3⟩
 · exact .inr (.inl ⟨h1, h2, rfl, h3⟩)
 · have h4 : filE s.1 (sval p) ≠ 0 := by rw [← h3]; exact hk0
   exact .inr (.inr ⟨h1, h2, by unfold frO; rw [if_pos h4], by unfold frE; rw [if_pos h4]; exact h3⟩))
 clear hf
 go_wp2
 exact HPo.out _ _ _ _ (F.arg_nil _ _) HF.out (below_any HW.out.1 HB1.out))
 subst hk0
 obtain ⟨hO, hp0, hfz, hex⟩ : Ok s ∧ serr p = 0 ∧ filE s.1 (sval p) = 0 ∧ ∃ at' : Nat, i1 = (at' : Int) ∧ s.1[at']? = some (tgt s (sval p)) := by (
 rcases hf with ⟨_, h3⟩ | ⟨_, h2, h3⟩ | ⟨h1, h2, h3, h4⟩
 · omega
 · exact absurd h3.symm h2
 · exact ⟨h1, h2, h3.symm, h4 rfl⟩)
 obtain ⟨at', rfl, hat⟩ := hex
 obtain ⟨q, hq⟩ := exa (tgt s (sval p))
 rw [← hq] at hat
 have HQ : Hid (q = tgt s (sval p) ∧ Ok s ∧ serr p = 0 ∧ filE s.1 (sval p) = 0) := ⟨hq, hO, hp0, hfz⟩
 obtain ⟨b, o, ea, ec, fa, fc, hix, hall⟩ := ndr_at HW.out.2.2 at' q hat
 obtain ⟨pz, hpz⟩ := exa ((fi q).1)
 obtain ⟨fl, hfl⟩ := exa ((fi q).2.length)
 rw [← hpz, ← hfl] at hall
 have HFC : Hid (∀ V, Below W.heap.size W V → V.cell? ⟨b, o + 4, none⟩ = some (.int .i64 pz) ∧ V.cell? ⟨b, o + 4 + 1, none⟩ = some (.slice fa fl fc) ∧ flR.lies n0 V [.int .i64 pz, .slice fa fl fc] (fi q)) := fun V hV => ⟨(hall V hV).1.2.2.2.2.1, (hall V hV).1.2.2.2.2.2, by have := (hall V hV).2.file; rw [← hpz] at this; exact this⟩
 have hatn : (at' : Int) < (n : Int) := by (
 have h1 := (List.getElem?_eq_some_iff.1 hat).1
 have h2 := HN.out.1
 omega)
 have HC2 := F.rread_any n0 [.int .i64 pz, .slice fa fl fc] (fi q) off m w1 (HFC.out w1 HB1.out).2.2 HN.out.2.1 HN.out.2.2
 obtain ⟨c4, c5, -⟩ := HFC.out w1 HB1.out
 obtain ⟨g0, g1, -, -⟩ := (HW.out.2.1.below HB1.out HW.out.2.1.lt).two
 clear hf hO hp0 hfz hq hat hall hpz hfl
 have c5' : w1.cell? ⟨b, o + 5, none⟩ = some (.slice fa fl fc) := c5
 obtain ⟨k2, hk2⟩ := exa (rdE (fi q) off m)
 have HK2 : Hid (k2 = rdE (fi q) off m) := hk2
 rw [← hk2] at HC2
 clear hk2
 go_wp2_with fail
 refine HC2.mono ?_
 rintro e w2 ⟨⟨v2, rfl, hA2⟩, hb2⟩
 have HB2 : Hid (Below W.heap.size W w2 ∧ Arg w1.heap.size w2 v2 (rdO (fi q) off m)) := ⟨below_any HB1.out hb2, hA2⟩
 have HF : Hid (Readed s p off m (rdO (fi q) off m) k2) := by (
 have h4 : ¬ filE s.1 (sval p) ≠ 0 := fun h => h HQ.out.2.2.2
 refine .inr (.inr ⟨HQ.out.2.1, HQ.out.2.2.1, ?_, ?_⟩)
 · unfold frO; rw [if_neg h4, HQ.out.1]
 · unfold frE; rw [if_neg h4, HK2.out, HQ.out.1])
 clear hA2 hb2 HC2 c4 c5 c5' g0 g1
 go_wp2
 exact HPo.out _ _ _ _ (HB2.out.2.weaken (Nat.le_trans HW.out.1.size HB1.out.size)) HF.out (below_any HW.out.1 HB2.out.1)
theorem rStat_any (n0 : Nat) (a : Option Addr) (c : Nat) (s : St) (p : ByteArray) (w : World) (hA : ndsR.lies n0 w [.slice a s.1.length c] s.1) (hM : FitsS s.1) :
   Calls Tryz.prog 41 #[.agg #[.slice a s.1.length c, .int .i64 s.2], .string p] w fun e w' => (∃ N k, e = .returned (.tuple #[.int .i64 N.1, .bool (isD N), .int .i64 ((fi N).1 + ((en N).length : Int)), .int .i64 (lk N), .int .i64 k]) ∧ Stated s p N k) ∧ Below w.heap.size w w' := by
 obtain ⟨post, hpost⟩ : ∃ post : Ending → World → Prop, post = fun e w' => (∃ N k, e = .returned (.tuple #[.int .i64 N.1, .bool (isD N), .int .i64 ((fi N).1 + ((en N).length : Int)), .int .i64 (lk N), .int .i64 k]) ∧ Stated s p N k) ∧ Below w.heap.size w w' := ⟨_, rfl⟩
 have HPo : Hid (∀ (i : Int) (d : Bool) (z k2 k : Int) w', (∃ N : Nd, i = N.1 ∧ d = isD N ∧ z = (fi N).1 + ((en N).length : Int) ∧ k2 = lk N ∧ Stated s p N k) → Below w.heap.size w w' → post (.returned (.tuple #[.int .i64 i, .bool d, .int .i64 z, .int .i64 k2, .int .i64 k])) w') := fun i d z k2 k w' ⟨N, h1, h2, h3, h4, h5⟩ h6 => by rw [hpost, h1, h2, h3, h4]; exact ⟨⟨N, k, rfl, h5⟩, h6⟩
 rw [← hpost]
 clear hpost
 obtain ⟨W, hW⟩ := exa (w.alloc (.cells #[.slice a s.1.length c, .int .i64 s.2] 24))
 have hb : Below w.heap.size w W := by rw [hW]; exact (Below.refl _ w).alloc (Nat.le_refl _) _
 have HW : Hid (Below w.heap.size w W ∧ Box W w.heap.size 24 #[.slice a s.1.length c, .int .i64 s.2] ∧ ndsR.lies n0 W [.slice a s.1.length c] s.1) := ⟨hb, by rw [hW]; exact Box.new _ _ _, ndsR.below hA hb⟩
 have HC1 := rfind10_any n0 a c s p W HW.out.2.2 hM
 have HPL : Hid (∀ V (i : Int), Below W.heap.size W V → Calls Tryz.prog 75 #[.agg #[.slice a s.1.length c, .int .i64 s.2], .int .i64 i] V fun e w' => e = .returned (.int .i64 (plc s.1 i)) ∧ Below V.heap.size V w') := fun V i hV => rplace_any n0 a c s.1 s.2 i V (ndsR.below HW.out.2.2 hV)
 obtain ⟨g0, g1, -, -⟩ := HW.out.2.1.two
 obtain ⟨n, hn⟩ := exa (s.1.length)
 obtain ⟨nx, hnx⟩ := exa (s.2)
 have HN : Hid (n = s.1.length) := hn
 rw [← hn] at HW HC1 HPL hW g0 ⊢
 rw [← hnx] at HW HC1 HPL hW g1 ⊢
 rw [hW] at g0 g1
 clear hA hb hM hn hnx
 go_enter Tryz.func41, Tryz.ntmps41
 go_wp2_with fail
 rw [← hW]
 clear hW g0 g1
 refine HC1.mono ?_
 rintro e w1 ⟨⟨i1, k1, rfl, hf⟩, hb1⟩
 have HB1 : Hid (Below W.heap.size W w1) := hb1
 clear hb1 HC1
 by_cases hk0 : k1 = 0
 case neg => (
 have HF : Hid (∃ N : Nd, (0 : Int) = N.1 ∧ false = isD N ∧ (0 : Int) = (fi N).1 + ((en N).length : Int) ∧ (0 : Int) = lk N ∧ Stated s p N k1) := by (
 refine ⟨nd0, rfl, rfl, rfl, rfl, ?_⟩
 rcases hf with ⟨h1, _, h3⟩ | ⟨h1, h2, _, h3⟩ | ⟨h1, h2, _, h3⟩
 · exact .inl ⟨h1, rfl, h3⟩
 · exact .inr (.inl ⟨h1, h2, rfl, h3⟩)
 · exact .inr (.inr ⟨h1, h2, by unfold statN; rw [if_neg (by rw [← h3]; exact hk0)], h3⟩))
 clear hf
 go_wp2
 refine bodyPost_ret (v := .tuple #[.int .i64 0, .bool false, .int .i64 0, .int .i64 0, .int .i64 k1]) (by simp [results, Tryz.results41, go_sem, *]) rfl (HPo.out _ _ _ _ _ _ HF.out (below_any HW.out.1 HB1.out)))
 subst hk0
 obtain ⟨hO, hp0, hi1, hw0⟩ : Ok s ∧ serr p = 0 ∧ i1 = (wlk s.1 1 (sval p)).1 ∧ (wlk s.1 1 (sval p)).2 = 0 := by (
 rcases hf with ⟨_, _, h3⟩ | ⟨_, h2, _, h3⟩ | ⟨h1, h2, h3, h4⟩
 · omega
 · exact absurd h3.symm h2
 · exact ⟨h1, h2, h3, h4.symm⟩)
 have HO : Hid (Ok s ∧ serr p = 0 ∧ (wlk s.1 1 (sval p)).2 = 0) := ⟨hO, hp0, hw0⟩
 obtain ⟨hqm, hqi, -⟩ := hO.wk.lead hw0
 obtain ⟨q, hq⟩ := exa (tgt s (sval p))
 rw [← hq] at hqm hqi
 obtain ⟨at', hat, hpc⟩ := plc_mem hO.wk.up hqm
 have HQ : Hid (q = tgt s (sval p) ∧ q ∈ s.1 ∧ i1 = q.1) := ⟨hq, hqm, hi1.trans hqi⟩
 have HP' : Hid (∀ V, Below w1.heap.size w1 V → Calls Tryz.prog 75 #[.agg #[.slice a n c, .int .i64 nx], .int .i64 i1] V fun e w' => e = .returned (.int .i64 at') ∧ Below V.heap.size V w') := fun V hV => by (
 have hh := HPL.out V i1 (below_any HB1.out hV)
 rw [hi1, hqi, hpc, ← hqi, ← hi1] at hh
 exact hh)
 obtain ⟨b1, o1, ea, ec, fa, fc, hix, hall⟩ := ndr_at HW.out.2.2 at' q hat
 obtain ⟨el, hel⟩ := exa ((en q).length)
 obtain ⟨fl, hfl⟩ := exa ((fi q).2.length)
 obtain ⟨pi, hpi⟩ := exa (q.1)
 obtain ⟨pd, hpd⟩ := exa (isD q)
 obtain ⟨pl, hpl'⟩ := exa (lk q)
 obtain ⟨pz, hpz⟩ := exa ((fi q).1)
 rw [← hel, ← hfl, ← hpi, ← hpd, ← hpl', ← hpz] at hall
 have HS : Hid (∀ V, Below w1.heap.size w1 V → V.cell? ⟨w.heap.size, 0, none⟩ = some (.slice a n c) ∧ V.cell? ⟨w.heap.size, 1, none⟩ = some (.int .i64 nx) ∧ V.cell? ⟨b1, o1, none⟩ = some (.int .i64 pi) ∧ V.cell? ⟨b1, o1 + 1, none⟩ = some (.bool pd) ∧ V.cell? ⟨b1, o1 + 2, none⟩ = some (.int .i64 pl) ∧ V.cell? ⟨b1, o1 + 3, none⟩ = some (.slice ea el ec) ∧ V.cell? ⟨b1, o1 + 4, none⟩ = some (.int .i64 pz) ∧ V.cell? ⟨b1, o1 + 5, none⟩ = some (.slice fa fl fc)) := fun V hV => by
   obtain ⟨g0, g1, -, -⟩ := (HW.out.2.1.below (below_any HB1.out hV) HW.out.2.1.lt).two
   exact ⟨g0, g1, (hall V (below_any HB1.out hV)).1⟩
 have HAE : Hid (∀ V, Below w1.heap.size w1 V → ArgE n0 V (.slice ea el ec) (en q)) := fun V hV => (hall V (below_any HB1.out hV)).2.1
 have HD : Hid (pd = isD q ∧ el = (en q).length ∧ pi = q.1 ∧ pl = lk q ∧ pz = (fi q).1) := ⟨hpd, hel, hpi, hpl', hpz⟩
 have hatn : (at' : Int) < (n : Int) := by (
 have h1 := (List.getElem?_eq_some_iff.1 hat).1
 have h2 := HN.out
 omega)
 clear hf hO hp0 hi1 hw0 hqm hqi hq hat hpc hall hel hfl hpi hpd hpl' hpz
 go_upto_region 4 with fail
 go_cut [11] (fun v wx => ∃ dd, v = .pointer (some ⟨dd, 0, none⟩) ∧ Hid (Below w1.heap.size w1 wx ∧ Box wx dd 78 #[.int .i64 pi, .bool pd, .int .i64 pl, .slice ea el ec, .int .i64 pz, .slice fa fl fc]))
 case first => (
 refine AnyBut.begin (fun W => W.cell? ⟨w.heap.size, 0, none⟩ = some (.slice a n c) ∧ W.cell? ⟨w.heap.size, 1, none⟩ = some (.int .i64 nx) ∧ W.cell? ⟨b1, o1, none⟩ = some (.int .i64 pi) ∧ W.cell? ⟨b1, o1 + 1, none⟩ = some (.bool pd) ∧ W.cell? ⟨b1, o1 + 2, none⟩ = some (.int .i64 pl) ∧ W.cell? ⟨b1, o1 + 3, none⟩ = some (.slice ea el ec) ∧ W.cell? ⟨b1, o1 + 4, none⟩ = some (.int .i64 pz) ∧ W.cell? ⟨b1, o1 + 5, none⟩ = some (.slice fa fl fc)) 8 (by kernel_rfl) ?_
 have hSS := HS.out w1.drew (Below.refl _ w1).drew
 refine ty 0 22 hSS ?_; simp only [ua,ub,uc,ud]
 refine ty 1 23 hSS ?_; simp only [ua,ub,uc,ud]
 refine ty 2 24 hSS ?_; simp only [ua,ub,uc,ud]
 refine ty 3 25 hSS ?_; simp only [ua,ub,uc,ud]
 refine AnyBut.two (i := 4) (j := 7) (by kernel_rfl) rfl rfl (fun K hK => ?_) (fun K hK => ?_)
 · go_simp
   refine Calls.mono (HP'.out w1.drew (Below.refl _ w1).drew) ?_
   rintro e wp ⟨rfl, hbp⟩
   dsimp only
   have hbp1 : Below w1.heap.size w1 wp := below_any (Below.refl _ w1).drew hbp
   refine hK.out _ _ (HS.out wp hbp1) ?_
   clear hK hSS
   have hSS := HS.out wp hbp1
   refine ty 5 27 hSS ?_; simp only [ua,ub,uc,ud]
   refine ty 6 28 hSS ?_; simp only [ua,ub,uc,ud]
   refine AnyBut.step (i := 7) (by kernel_rfl) rfl (fun K hK => ?_)
   go_simp
   refine hK.out _ _ (HS.out _ (hbp1.alloc hbp1.size _)) ?_
   clear hK hSS
   refine AnyBut.last (by kernel_rfl) (by kernel_rfl) rfl (fun K hK => ?_)
   go_simp
   refine hK.out _ _ ?_
   clear hK
   rename_i J K1 hJ hM K2 K3
   refine hM _ _ (Go.Met.intro (hJ _ _ ?_))
   refine ⟨?m5a0, ?m5a1, ?m5a2, ?m5a3, ?m5a4, ?m5a5, ?m5a6, ?m5a7, ?m5a8, ?m5a9, ?m5a10, ?m5a11, ?m5a12, ?m5a13, ?m5a14, ?m5a15, ?m5a16, ?m5a17, ?m5a18, ?m5a19, ?m5a20, ?m5a21, ?m5a22, ?m5a23, ?m5a24, ?m5a25, ?m5a26, ?m5a27, ?m5a28, ?m5a29, ?m5a30, ?rel5, ?fr5⟩
   case fr5 => rfl
   case rel5 => exact ⟨_, rfl, hbp1.alloc hbp1.size _, Box.new _ _ _⟩
 · go_simp
   have hbz : Below w1.heap.size w1 (w1.alloc (.cells #[.int .i64 0, .bool false, .int .i64 0, .slice none 0 0, .int .i64 0, .slice none 0 0] 78)).drew := ((Below.refl _ w1).alloc (Nat.le_refl _) _).drew
   have hBz : Box (w1.alloc (.cells #[.int .i64 0, .bool false, .int .i64 0, .slice none 0 0, .int .i64 0, .slice none 0 0] 78)).drew w1.heap.size 78 #[.int .i64 0, .bool false, .int .i64 0, .slice none 0 0, .int .i64 0, .slice none 0 0] := Box.drew (Box.new _ _ _)
   refine hK.out _ _ (HS.out _ hbz) ?_
   clear hK hSS
   refine AnyBut.step (i := 4) (by kernel_rfl) rfl (fun K hK => ?_)
   go_simp
   refine Calls.mono (HP'.out _ hbz) ?_
   rintro e wp ⟨rfl, hbp⟩
   dsimp only
   have hbp1 : Below w1.heap.size w1 wp := below_any hbz hbp
   have hBp : Box wp w1.heap.size 78 #[.int .i64 0, .bool false, .int .i64 0, .slice none 0 0, .int .i64 0, .slice none 0 0] := hBz.below hbp hBz.lt
   refine hK.out _ _ (HS.out wp hbp1) ?_
   clear hK
   have hSS := HS.out wp hbp1
   refine ty 5 27 hSS ?_; simp only [ua,ub,uc,ud]
   refine ty 6 28 hSS ?_; simp only [ua,ub,uc,ud]
   obtain ⟨z0, z1, z2, z3, z4, z5⟩ := hBp.six
   have y0 := hBp.frozen 0
   have y1 := hBp.frozen 1
   have y2 := hBp.frozen 2
   have y3 := hBp.frozen 3
   have y4 := hBp.frozen 4
   have y5 := hBp.frozen 5
   refine AnyBut.last (by kernel_rfl) (by kernel_rfl) rfl (fun K hK => ?_)
   go_simp
   refine hK.out _ _ ?_
   clear hK
   rename_i J K1 hJ hM K2 K3
   refine hM _ _ (Go.Met.intro (hJ _ _ ?_))
   refine ⟨?m6a0, ?m6a1, ?m6a2, ?m6a3, ?m6a4, ?m6a5, ?m6a6, ?m6a7, ?m6a8, ?m6a9, ?m6a10, ?m6a11, ?m6a12, ?m6a13, ?m6a14, ?m6a15, ?m6a16, ?m6a17, ?m6a18, ?m6a19, ?m6a20, ?m6a21, ?m6a22, ?m6a23, ?m6a24, ?m6a25, ?m6a26, ?m6a27, ?m6a28, ?m6a29, ?m6a30, ?rel6, ?fr6⟩
   case fr6 => rfl
   case rel6 => exact ⟨_, rfl, six_set hbp1 (Nat.le_refl _) hBp _ _ _ _ _ _⟩)
 case rest => (
 obtain ⟨dd, rfl, HBV⟩ := hcut
 obtain ⟨V, hV⟩ := exa (wc)
 rw [← hV] at HBV ⊢
 clear hV
 have HBV1 : Hid (Below W.heap.size W V) := below_any HB1.out HBV.out.1
 obtain ⟨v0, v1, v2, v3, v4, v5⟩ := HBV.out.2.six
 have hl2 := run_len Tryz.underlying73 ea el ec
 have HST : Hid (Stated s p q 0) := .inr (.inr ⟨HO.out.1, HO.out.2.1, by unfold statN; rw [if_pos HO.out.2.2]; exact HQ.out.1, HO.out.2.2.symm⟩)
 cases hpd : pd
 case true => (
 subst hpd
 have HF : Hid (∃ N : Nd, i1 = N.1 ∧ true = isD N ∧ (el : Int) = (fi N).1 + ((en N).length : Int) ∧ pl = lk N ∧ Stated s p N 0) := ⟨q, HQ.out.2.2, HD.out.1, by rw [(HO.out.1.wk.dirs q HQ.out.2.1 HD.out.1.symm).2, ← HD.out.2.1]; simp, HD.out.2.2.2.1, HST.out⟩
 go_wp2
 go_quiet (fail)
 go_wp2
 refine bodyPost_ret (v := .tuple #[.int .i64 i1, .bool true, .int .i64 el, .int .i64 pl, .int .i64 0]) (by simp [results, Tryz.results41, go_sem, *]) rfl (HPo.out _ _ _ _ _ _ HF.out (below_drewN (below_any HW.out.1 HBV1.out) _)))
 case false => (
 subst hpd
 have HF : Hid (∃ N : Nd, i1 = N.1 ∧ false = isD N ∧ pz = (fi N).1 + ((en N).length : Int) ∧ pl = lk N ∧ Stated s p N 0) := ⟨q, HQ.out.2.2, HD.out.1, by rw [(HO.out.1.wk.files q HQ.out.2.1 HD.out.1.symm).1, ← HD.out.2.2.2.2]; simp, HD.out.2.2.2.1, HST.out⟩
 go_wp2
 go_quiet (fail)
 go_wp2
 refine bodyPost_ret (v := .tuple #[.int .i64 i1, .bool false, .int .i64 pz, .int .i64 pl, .int .i64 0]) (by simp [results, Tryz.results41, go_sem, *]) rfl (HPo.out _ _ _ _ _ _ HF.out (below_drewN (below_any HW.out.1 HBV1.out) _))))
theorem rList_any (n0 : Nat) (a : Option Addr) (c : Nat) (s : St) (p : ByteArray) (w : World) (hA : ndsR.lies n0 w [.slice a s.1.length c] s.1) (hM : FitsS s.1) :
   Calls Tryz.prog 37 #[.agg #[.slice a s.1.length c, .int .i64 s.2], .string p] w fun e w' => (∃ v O k, e = .returned (.tuple #[v, .int .i64 k]) ∧ OwnT w.heap.size w' v O ∧ Listed s p O k) ∧ Below w.heap.size w w' := by
 obtain ⟨post, hpost⟩ : ∃ post : Ending → World → Prop, post = fun e w' => (∃ v O k, e = .returned (.tuple #[v, .int .i64 k]) ∧ OwnT w.heap.size w' v O ∧ Listed s p O k) ∧ Below w.heap.size w w' := ⟨_, rfl⟩
 have HPo : Hid (∀ v O k w', OwnT w.heap.size w' v O → Listed s p O k → Below w.heap.size w w' → post (.returned (.tuple #[v, .int .i64 k])) w') := fun v O k w' h1 h2 h3 => by rw [hpost]; exact ⟨⟨v, O, k, rfl, h1, h2⟩, h3⟩
 rw [← hpost]
 clear hpost
 obtain ⟨W, hW⟩ := exa (w.alloc (.cells #[.slice a s.1.length c, .int .i64 s.2] 24))
 have hb : Below w.heap.size w W := by rw [hW]; exact (Below.refl _ w).alloc (Nat.le_refl _) _
 have HW : Hid (Below w.heap.size w W ∧ Box W w.heap.size 24 #[.slice a s.1.length c, .int .i64 s.2] ∧ ndsR.lies n0 W [.slice a s.1.length c] s.1) := ⟨hb, by rw [hW]; exact Box.new _ _ _, ndsR.below hA hb⟩
 have HC1 := rfind10_any n0 a c s p W HW.out.2.2 hM
 have HPL : Hid (∀ V (i : Int), Below W.heap.size W V → Calls Tryz.prog 75 #[.agg #[.slice a s.1.length c, .int .i64 s.2], .int .i64 i] V fun e w' => e = .returned (.int .i64 (plc s.1 i)) ∧ Below V.heap.size V w') := fun V i hV => rplace_any n0 a c s.1 s.2 i V (ndsR.below HW.out.2.2 hV)
 obtain ⟨g0, g1, -, -⟩ := HW.out.2.1.two
 obtain ⟨n, hn⟩ := exa (s.1.length)
 obtain ⟨nx, hnx⟩ := exa (s.2)
 have HN : Hid (n = s.1.length) := hn
 rw [← hn] at HW HC1 HPL hW g0 ⊢
 rw [← hnx] at HW HC1 HPL hW g1 ⊢
 rw [hW] at g0 g1
 clear hA hb hM hn hnx
 go_enter Tryz.func37, Tryz.ntmps37
 go_wp2_with fail
 rw [← hW]
 clear hW g0 g1
 refine HC1.mono ?_
 rintro e w1 ⟨⟨i1, k1, rfl, hf⟩, hb1⟩
 have HB1 : Hid (Below W.heap.size W w1) := hb1
 clear hb1 HC1
 by_cases hk0 : k1 = 0
 case neg => (
 have HF : Hid (Listed s p [] k1) := by (
 rcases hf with ⟨h1, _, h3⟩ | ⟨h1, h2, _, h3⟩ | ⟨h1, h2, _, h3⟩
 · exact .inl ⟨h1, rfl, h3⟩
 · exact .inr (.inl ⟨h1, h2, rfl, h3⟩)
 · have h4 : (wlk s.1 1 (sval p)).2 ≠ 0 := by rw [← h3]; exact hk0
   exact .inr (.inr ⟨h1, h2, by unfold lsO; rw [if_pos (by rw [dirE_walk h4]; exact h4)], by rw [dirE_walk h4]; exact h3⟩))
 clear hf
 go_wp2
 exact HPo.out _ _ _ _ (OwnT.nil _ _) HF.out (below_any HW.out.1 HB1.out))
 subst hk0
 obtain ⟨hO, hp0, hi1, hw0⟩ : Ok s ∧ serr p = 0 ∧ i1 = (wlk s.1 1 (sval p)).1 ∧ (wlk s.1 1 (sval p)).2 = 0 := by (
 rcases hf with ⟨_, _, h3⟩ | ⟨_, h2, _, h3⟩ | ⟨h1, h2, h3, h4⟩
 · omega
 · exact absurd h3.symm h2
 · exact ⟨h1, h2, h3, h4.symm⟩)
 have HO : Hid (Ok s ∧ serr p = 0 ∧ (wlk s.1 1 (sval p)).2 = 0) := ⟨hO, hp0, hw0⟩
 obtain ⟨hqm, hqi, -⟩ := hO.wk.lead hw0
 obtain ⟨q, hq⟩ := exa (tgt s (sval p))
 rw [← hq] at hqm hqi
 obtain ⟨at', hat, hpc⟩ := plc_mem hO.wk.up hqm
 have HQ : Hid (q = tgt s (sval p) ∧ q ∈ s.1 ∧ i1 = q.1) := ⟨hq, hqm, hi1.trans hqi⟩
 have HP' : Hid (∀ V, Below w1.heap.size w1 V → Calls Tryz.prog 75 #[.agg #[.slice a n c, .int .i64 nx], .int .i64 i1] V fun e w' => e = .returned (.int .i64 at') ∧ Below V.heap.size V w') := fun V hV => by (
 have hh := HPL.out V i1 (below_any HB1.out hV)
 rw [hi1, hqi, hpc, ← hqi, ← hi1] at hh
 exact hh)
 obtain ⟨b1, o1, ea, ec, fa, fc, hix, hall⟩ := ndr_at HW.out.2.2 at' q hat
 obtain ⟨el, hel⟩ := exa ((en q).length)
 obtain ⟨fl, hfl⟩ := exa ((fi q).2.length)
 obtain ⟨pi, hpi⟩ := exa (q.1)
 obtain ⟨pd, hpd⟩ := exa (isD q)
 obtain ⟨pl, hpl'⟩ := exa (lk q)
 obtain ⟨pz, hpz⟩ := exa ((fi q).1)
 rw [← hel, ← hfl, ← hpi, ← hpd, ← hpl', ← hpz] at hall
 have HS : Hid (∀ V, Below w1.heap.size w1 V → V.cell? ⟨w.heap.size, 0, none⟩ = some (.slice a n c) ∧ V.cell? ⟨w.heap.size, 1, none⟩ = some (.int .i64 nx) ∧ V.cell? ⟨b1, o1, none⟩ = some (.int .i64 pi) ∧ V.cell? ⟨b1, o1 + 1, none⟩ = some (.bool pd) ∧ V.cell? ⟨b1, o1 + 2, none⟩ = some (.int .i64 pl) ∧ V.cell? ⟨b1, o1 + 3, none⟩ = some (.slice ea el ec) ∧ V.cell? ⟨b1, o1 + 4, none⟩ = some (.int .i64 pz) ∧ V.cell? ⟨b1, o1 + 5, none⟩ = some (.slice fa fl fc)) := fun V hV => by
   obtain ⟨g0, g1, -, -⟩ := (HW.out.2.1.below (below_any HB1.out hV) HW.out.2.1.lt).two
   exact ⟨g0, g1, (hall V (below_any HB1.out hV)).1⟩
 have HAE : Hid (∀ V, Below w1.heap.size w1 V → ArgE n0 V (.slice ea el ec) (en q)) := fun V hV => (hall V (below_any HB1.out hV)).2.1
 have HD : Hid (pd = isD q ∧ el = (en q).length ∧ pi = q.1 ∧ pl = lk q ∧ pz = (fi q).1) := ⟨hpd, hel, hpi, hpl', hpz⟩
 have hatn : (at' : Int) < (n : Int) := by (
 have h1 := (List.getElem?_eq_some_iff.1 hat).1
 have h2 := HN.out
 omega)
 clear hf hO hp0 hi1 hw0 hqm hqi hq hat hpc hall hel hfl hpi hpd hpl' hpz
 go_upto_region 4 with fail
 go_cut [8] (fun v wx => ∃ dd, v = .pointer (some ⟨dd, 0, none⟩) ∧ Hid (Below w1.heap.size w1 wx ∧ Box wx dd 78 #[.int .i64 pi, .bool pd, .int .i64 pl, .slice ea el ec, .int .i64 pz, .slice fa fl fc]))
 case first => (
 refine AnyBut.begin (fun W => W.cell? ⟨w.heap.size, 0, none⟩ = some (.slice a n c) ∧ W.cell? ⟨w.heap.size, 1, none⟩ = some (.int .i64 nx) ∧ W.cell? ⟨b1, o1, none⟩ = some (.int .i64 pi) ∧ W.cell? ⟨b1, o1 + 1, none⟩ = some (.bool pd) ∧ W.cell? ⟨b1, o1 + 2, none⟩ = some (.int .i64 pl) ∧ W.cell? ⟨b1, o1 + 3, none⟩ = some (.slice ea el ec) ∧ W.cell? ⟨b1, o1 + 4, none⟩ = some (.int .i64 pz) ∧ W.cell? ⟨b1, o1 + 5, none⟩ = some (.slice fa fl fc)) 8 (by kernel_rfl) ?_
 have hSS := HS.out w1.drew (Below.refl _ w1).drew
 refine ty 0 20 hSS ?_; simp only [ua,ub,uc,ud]
 refine ty 1 21 hSS ?_; simp only [ua,ub,uc,ud]
 refine ty 2 22 hSS ?_; simp only [ua,ub,uc,ud]
 refine ty 3 23 hSS ?_; simp only [ua,ub,uc,ud]
 refine AnyBut.two (i := 4) (j := 7) (by kernel_rfl) rfl rfl (fun K hK => ?_) (fun K hK => ?_)
 · go_simp
   refine Calls.mono (HP'.out w1.drew (Below.refl _ w1).drew) ?_
   rintro e wp ⟨rfl, hbp⟩
   dsimp only
   have hbp1 : Below w1.heap.size w1 wp := below_any (Below.refl _ w1).drew hbp
   refine hK.out _ _ (HS.out wp hbp1) ?_
   clear hK hSS
   have hSS := HS.out wp hbp1
   refine ty 5 25 hSS ?_; simp only [ua,ub,uc,ud]
   refine ty 6 26 hSS ?_; simp only [ua,ub,uc,ud]
   refine AnyBut.step (i := 7) (by kernel_rfl) rfl (fun K hK => ?_)
   go_simp
   refine hK.out _ _ (HS.out _ (hbp1.alloc hbp1.size _)) ?_
   clear hK hSS
   refine AnyBut.last (by kernel_rfl) (by kernel_rfl) rfl (fun K hK => ?_)
   go_simp
   refine hK.out _ _ ?_
   clear hK
   rename_i J K1 hJ hM K2 K3
   refine hM _ _ (Go.Met.intro (hJ _ _ ?_))
   refine ⟨?m7a0, ?m7a1, ?m7a2, ?m7a3, ?m7a4, ?m7a5, ?m7a6, ?m7a7, ?m7a8, ?m7a9, ?m7a10, ?m7a11, ?m7a12, ?m7a13, ?m7a14, ?m7a15, ?m7a16, ?m7a17, ?m7a18, ?m7a19, ?m7a20, ?m7a21, ?m7a22, ?m7a23, ?m7a24, ?m7a25, ?m7a26, ?m7a27, ?m7a28, ?m7a29, ?m7a30, ?m7a31, ?m7a32, ?m7a33, ?m7a34, ?m7a35, ?m7a36, ?rel7, ?fr7⟩
   case fr7 => rfl
   case rel7 => exact ⟨_, rfl, hbp1.alloc hbp1.size _, Box.new _ _ _⟩
 · go_simp
   have hbz : Below w1.heap.size w1 (w1.alloc (.cells #[.int .i64 0, .bool false, .int .i64 0, .slice none 0 0, .int .i64 0, .slice none 0 0] 78)).drew := ((Below.refl _ w1).alloc (Nat.le_refl _) _).drew
   have hBz : Box (w1.alloc (.cells #[.int .i64 0, .bool false, .int .i64 0, .slice none 0 0, .int .i64 0, .slice none 0 0] 78)).drew w1.heap.size 78 #[.int .i64 0, .bool false, .int .i64 0, .slice none 0 0, .int .i64 0, .slice none 0 0] := Box.drew (Box.new _ _ _)
   refine hK.out _ _ (HS.out _ hbz) ?_
   clear hK hSS
   refine AnyBut.step (i := 4) (by kernel_rfl) rfl (fun K hK => ?_)
   go_simp
   refine Calls.mono (HP'.out _ hbz) ?_
   rintro e wp ⟨rfl, hbp⟩
   dsimp only
   have hbp1 : Below w1.heap.size w1 wp := below_any hbz hbp
   have hBp : Box wp w1.heap.size 78 #[.int .i64 0, .bool false, .int .i64 0, .slice none 0 0, .int .i64 0, .slice none 0 0] := hBz.below hbp hBz.lt
   refine hK.out _ _ (HS.out wp hbp1) ?_
   clear hK
   have hSS := HS.out wp hbp1
   refine ty 5 25 hSS ?_; simp only [ua,ub,uc,ud]
   refine ty 6 26 hSS ?_; simp only [ua,ub,uc,ud]
   obtain ⟨z0, z1, z2, z3, z4, z5⟩ := hBp.six
   have y0 := hBp.frozen 0
   have y1 := hBp.frozen 1
   have y2 := hBp.frozen 2
   have y3 := hBp.frozen 3
   have y4 := hBp.frozen 4
   have y5 := hBp.frozen 5
   refine AnyBut.last (by kernel_rfl) (by kernel_rfl) rfl (fun K hK => ?_)
   go_simp
   refine hK.out _ _ ?_
   clear hK
   rename_i J K1 hJ hM K2 K3
   refine hM _ _ (Go.Met.intro (hJ _ _ ?_))
   refine ⟨?m8a0, ?m8a1, ?m8a2, ?m8a3, ?m8a4, ?m8a5, ?m8a6, ?m8a7, ?m8a8, ?m8a9, ?m8a10, ?m8a11, ?m8a12, ?m8a13, ?m8a14, ?m8a15, ?m8a16, ?m8a17, ?m8a18, ?m8a19, ?m8a20, ?m8a21, ?m8a22, ?m8a23, ?m8a24, ?m8a25, ?m8a26, ?m8a27, ?m8a28, ?m8a29, ?m8a30, ?m8a31, ?m8a32, ?m8a33, ?m8a34, ?m8a35, ?m8a36, ?rel8, ?fr8⟩
   case fr8 => rfl
   case rel8 => exact ⟨_, rfl, six_set hbp1 (Nat.le_refl _) hBp _ _ _ _ _ _⟩)
 case rest => (
 obtain ⟨dd, rfl, HBV⟩ := hcut
 obtain ⟨V, hV⟩ := exa (wc)
 rw [← hV] at HBV ⊢
 clear hV
 have HBV1 : Hid (Below W.heap.size W V) := below_any HB1.out HBV.out.1
 obtain ⟨v0, v1, v2, v3, v4, v5⟩ := HBV.out.2.six
 have hl2 := run_len Tryz.underlying73 ea el ec
 cases hpd : pd
 case false => (
 subst hpd
 have HF : Hid (Listed s p [] 103) := by (
 have h1 := HD.out.1
 rw [HQ.out.1] at h1
 have h4 := dirE_not HO.out.2.2 h1.symm
 exact .inr (.inr ⟨HO.out.1, HO.out.2.1, by unfold lsO; rw [if_pos (by rw [h4]; decide)], h4.symm⟩))
 go_wp2
 exact HPo.out _ _ _ _ (OwnT.nil _ _) HF.out (below_any HW.out.1 HBV1.out))
 subst hpd
 have hDC := (HO.out.1.wk.dirs q HQ.out.2.1 HD.out.1.symm).1
 have HF : Hid (Listed s p ((en q).map (·.1)) 0 ∧ el ≤ 63 ∧ el = (en q).length ∧ ∀ e ∈ en q, e.1.size ≤ maxLen) := by (
 have h1 := HD.out.1
 rw [HQ.out.1] at h1
 have h4 := dirE_zero HO.out.2.2 h1.symm
 refine ⟨.inr (.inr ⟨HO.out.1, HO.out.2.1, by unfold lsO; rw [if_neg (by rw [h4]; decide), ← HQ.out.1], h4.symm⟩), by rw [HD.out.2.1]; exact hDC.1, HD.out.2.1, fun e he => ?_⟩
 exact ((HAE.out V HBV.out.1).2 e he).1)
 have hel63 : el ≤ 63 := HF.out.2.1
 clear v0 v1 v2 v3 v4 v5 hDC
 obtain ⟨v0, v1, v2, v3, v4, v5⟩ := HBV.out.2.six
 go_wp2
 clear v0 v1 v2 v3 v4 v5
 go_loopw [9, 10] (fun u i wr => ∃ (j : Nat) (a' : Option Addr) (cap' : Nat), j ≤ el ∧ u = .slice a' j cap' ∧ i = .int .i64 j ∧ Hid (OwnT V.heap.size wr (.slice a' j cap') (((en q).take j).map (·.1)) ∧ Below V.heap.size V wr)) (fun _ i _ => el - (intOf i).toNat)
 case atStart => exact ⟨0, none, 0, Nat.zero_le _, rfl, rfl, OwnT.nil _ _, Below.refl _ _⟩
 case round => (
 obtain ⟨j, a', cap', hj, rfl, rfl, HJ⟩ := hrel
 have g3 := (HBV.out.2.below HJ.out.2 HBV.out.2.lt).cell 3 rfl
 by_cases hlt : j < el
 · obtain ⟨e, he⟩ := get_lt (l := en q) (k := j) (by rw [← HF.out.2.2.1]; exact hlt)
   obtain ⟨be, oe, hixe, -, d0, -⟩ := (HAE.out wr (below_any HBV.out.1 HJ.out.2)).atR j e he
   obtain ⟨x, xi⟩ := e
   simp only at d0
   have hlen : (((en q).take j).map (·.1)).length = j := by rw [List.length_map, List.length_take]; have := HF.out.2.2.1; omega
   have HOW : Hid (wr.ownsRow V.heap.size 9 1 (.slice a' j cap') j (P.tv (((en q).take j).map (·.1)))) := by (
 have := HJ.out.1.1
 rwa [hlen] at this)
   have HTK : Hid (((en q).take (j + 1)).map (·.1) = ((en q).take j).map (·.1) ++ [x] ∧ x.size ≤ maxLen ∧ (((en q).take j).map (·.1)).length = j) := ⟨by rw [take_snoc he, List.map_append]; rfl, HF.out.2.2.2 _ (List.mem_of_getElem? he), hlen⟩
   have hji : (j : Int) < (el : Int) := by omega
   clear he hlen
   go_wp2_with (at_builtin; (refine push_row (by rfl) _ _ 59 9 (by rfl) Tryz.underlying59 Tryz.info9 rfl (by omega) V.heap.size _ (P.tv (((en q).take j).map (·.1))) j [.string x] rfl (by simp [Value.oneCell']) wr (by rfl) HOW.out (by rfl) (by omega) (by omega) HJ.out.2.size ?_; intro g cap w3 hO3 hg3 hgr3 hlt3))
   have HN3 : Hid (OwnT V.heap.size w3 (.slice (some ⟨g, 0, none⟩) (j + 1) cap) (((en q).take (j + 1)).map (·.1)) ∧ Below V.heap.size V w3) := by (
 rw [HTK.out.1]
 refine ⟨⟨?_, HJ.out.1.2.snoc HTK.out.2.1⟩, (HJ.out.2.alloc HJ.out.2.size _).grown hg3 (by have := HJ.out.2.size; simp; omega) (fun k hk => by have := (HOW.out.lt k hk).1; omega)⟩
 rw [List.length_append, HTK.out.2.2]
 have h9 : P.tv (((en q).take j).map (·.1) ++ [x]) = P.tv (((en q).take j).map (·.1)) ++ [.string x] := by simp [P.tv]
 rw [h9]
 exact hO3)
   clear hO3 hg3 hgr3 hlt3
   go_wp2
   go_roundw
   case rel => exact ⟨j + 1, some ⟨g, 0, none⟩, cap, by omega, rfl, by go_num, HN3.out⟩
   case measure => simp [intOf]; omega
 · obtain rfl : j = el := by omega
   have HE : Hid (OwnT V.heap.size wr (.slice a' j cap') ((en q).map (·.1))) := by (
 have h9 := HJ.out.1
 rw [List.take_of_length_le (by have := HF.out.2.2.1; omega)] at h9
 exact h9)
   go_wp2
   exact HPo.out _ _ _ _ (HE.out.weaken (Nat.le_trans HW.out.1.size HBV1.out.size)) HF.out.1 (below_any HW.out.1 (below_any HBV1.out HJ.out.2))))
end Go.Proofs.YtkcnephbaffmbaaGreatDoor
namespace Go.Proofs.YtkcnephbaffmbaaGreatDoor
open Go.RowKit
open P (serr sval)
def FlatR (B0 : Nat) (T : Int → St → Prop) (w : World) (e : Ending) (w' : World) : Prop := (∃ (k : Int) (l : List Nd) (x : Int) (n : Nat) (a : Option Addr) (c : Nat), e = .returned (.tuple #[.agg #[.slice a n c, .int .i64 x], .int .i64 k]) ∧ n = l.length ∧ OR B0 w.heap.size w' (.slice a n c) l ∧ T k (l, x)) ∧ Below w.heap.size w w'
theorem TellsR.flat {B0 : Nat} {T : Int → St → Prop} {w w' : World} {e : Ending} (h : TellsR B0 T w e w') : FlatR B0 T w e w' := by
 obtain ⟨⟨v, k, ⟨l, x⟩, rfl, hT, hO⟩, hb⟩ := h
 obtain ⟨a, c, rfl⟩ := hO.shape
 exact ⟨⟨k, l, x, _, a, c, rfl, rfl, hO, hT⟩, hb⟩
end Go.Proofs.YtkcnephbaffmbaaGreatDoor
namespace Go.Proofs.YtkcnephbaffmbaaGreatDoor
open Go.RowKit
open D (En ArgE Chk)
open P (ArgT OwnT serr sval)
def FlatRW (B0 dl : Nat) (T : Int → St → Prop) (w : World) (e : Ending) (w' : World) : Prop := (∃ (k m : Int) (l : List Nd) (x : Int) (n : Nat) (a : Option Addr) (c : Nat), e = .returned (.tuple #[.agg #[.slice a n c, .int .i64 x], .int .i64 m, .int .i64 k]) ∧ n = l.length ∧ OR B0 w.heap.size w' (.slice a n c) l ∧ T k (l, x) ∧ ((k = 0 ∧ m = dl) ∨ (k ≠ 0 ∧ m = 0))) ∧ Below w.heap.size w w'
theorem rWrite_any (n0 : Nat) (w0 : World) (a : Option Addr) (c : Nat) (s : St) (p : ByteArray) (off : Int) (ho : I64 off) (da : Option Addr) (dl dc : Nat) (d : List Int) (n1 : Nat) (w : World) (hb0 : Below w0.heap.size w0 w) (hA : ndsR.lies n0 w0 [.slice a s.1.length c] s.1) (hM : FitsS s.1) (hd : Arg n1 w (.slice da dl dc) d) :
   Calls Tryz.prog 31 #[.agg #[.slice a s.1.length c, .int .i64 s.2], .string p, .int .i64 off, .slice da dl dc] w (FlatRW w0.heap.size dl (Told s [p] (rwE s (sval p) (F.wrE (fi (tgt s (sval p))) off d)) (filN s (tgt s (sval p)) (F.wrF (fi (tgt s (sval p))) off d))) w) := by
 obtain ⟨T, hT⟩ : ∃ T : Int → St → Prop, T = Told s [p] (rwE s (sval p) (F.wrE (fi (tgt s (sval p))) off d)) (filN s (tgt s (sval p)) (F.wrF (fi (tgt s (sval p))) off d)) := ⟨_, rfl⟩
 have HT : Hid (T = Told s [p] (rwE s (sval p) (F.wrE (fi (tgt s (sval p))) off d)) (filN s (tgt s (sval p)) (F.wrF (fi (tgt s (sval p))) off d))) := hT
 rw [← hT]
 clear hT
 obtain ⟨post, hpost⟩ : ∃ post : Ending → World → Prop, post = FlatRW w0.heap.size dl T w := ⟨_, rfl⟩
 have HNo : Hid (∀ k w', T k ([], 0) → k ≠ 0 → Below w.heap.size w w' → post (.returned (.tuple #[.agg #[.slice none 0 0, .int .i64 0], .int .i64 0, .int .i64 k])) w') := fun k w' h1 hk h2 => by rw [hpost]; exact ⟨⟨k, 0, [], 0, 0, none, 0, rfl, rfl, OR.nil _ _ _, h1, .inr ⟨hk, rfl⟩⟩, h2⟩
 have HYes : Hid (∀ a' c' l' nx' n' w', n' = l'.length → T 0 (l', nx') → OR w0.heap.size w.heap.size w' (.slice a' n' c') l' → Below w.heap.size w w' → post (.returned (.tuple #[.agg #[.slice a' n' c', .int .i64 nx'], .int .i64 dl, .int .i64 0])) w') := fun a' c' l' nx' n' w' h0 h1 h2 h3 => by rw [hpost]; exact ⟨⟨0, (dl : Int), l', nx', n', a', c', rfl, h0, h2, h1, .inl ⟨rfl, rfl⟩⟩, h3⟩
 rw [← hpost]
 clear hpost
 obtain ⟨W, hW⟩ := exa ((w.alloc (.cells #[.slice a s.1.length c, .int .i64 s.2] 24)).alloc (.cells #[.slice none 0 0, .int .i64 0] 24))
 have hb : Below w.heap.size w W := by rw [hW]; exact ((Below.refl _ w).alloc (Nat.le_refl _) _).alloc (by simp) _
 have hAw : ndsR.lies n0 w [.slice a s.1.length c] s.1 := ndsR.below hA hb0
 have hB1 : Box W w.heap.size 24 #[.slice a s.1.length c, .int .i64 s.2] := by rw [hW]; exact (Box.new _ _ _).alloc _
 have hB2 : Box W (w.heap.size + 1) 24 #[.slice none 0 0, .int .i64 0] := by (
 rw [hW]
 have := Box.new (w.alloc (.cells #[.slice a s.1.length c, .int .i64 s.2] 24)) 24 #[.slice none 0 0, .int .i64 0]
 rwa [World.size_alloc] at this)
 have HW : Hid (Below w.heap.size w W ∧ ndsR.lies n0 W [.slice a s.1.length c] s.1 ∧ W.heap.size = w.heap.size + 2 ∧ Below w0.heap.size w0 W ∧ w0.heap.size ≤ w.heap.size) := ⟨hb, ndsR.below hAw hb, by rw [hW]; simp, hb0.trans (hb.mono hb0.size), hb0.size⟩
 have HSB : Hid (∀ V, Below W.heap.size W V → V.cell? ⟨w.heap.size, 0, none⟩ = some (.slice a s.1.length c) ∧ V.cell? ⟨w.heap.size, 1, none⟩ = some (.int .i64 s.2) ∧ V.cell? ⟨w.heap.size + 1, 0, none⟩ = some (.slice none 0 0) ∧ V.cell? ⟨w.heap.size + 1, 1, none⟩ = some (.int .i64 0) ∧ V.frozen? ⟨w.heap.size + 1, 0, none⟩ = false ∧ V.frozen? ⟨w.heap.size + 1, 1, none⟩ = false) := fun V hV => by (
 obtain ⟨g0, g1, -, -⟩ := (hB1.below hV hB1.lt).two
 obtain ⟨d0, d1, d2, d3⟩ := (hB2.below hV hB2.lt).two
 exact ⟨g0, g1, d0, d1, d2, d3⟩)
 have HBW : Hid (∀ V, Below W.heap.size W V → Below w.heap.size w V) := fun V hV => below_any hb hV
 have HOW : Hid (Ok s → ∀ V, Below W.heap.size W V → Calls Tryz.prog 42 #[.agg #[.slice a s.1.length c, .int .i64 s.2]] V fun e w' => (∃ v', e = .returned (.agg #[v', .int .i64 s.2]) ∧ OR w0.heap.size V.heap.size w' v' s.1) ∧ Below V.heap.size V w') := fun hO V hV => rown_any n0 w0 a c s hO.wk V (HW.out.2.2.2.1.trans (hV.mono HW.out.2.2.2.1.size)) hA
 have HC1 := rfile_any n0 a c s p W HW.out.2.1 hM
 have HDA : Hid (∀ V, Below W.heap.size W V → Arg n1 V (.slice da dl dc) d) := fun V hV => hd.below (below_any hb hV)
 obtain ⟨g0, g1, d0, d1, e0, e1⟩ := HSB.out W (Below.refl _ _)
 obtain ⟨n, hn⟩ := exa (s.1.length)
 obtain ⟨nx, hnx⟩ := exa (s.2)
 have HN : Hid (n = s.1.length ∧ nx = s.2 ∧ I64 off) := ⟨hn, hnx, ho⟩
 rw [← hn] at HW HSB HOW HC1 g0 hW ⊢
 rw [← hnx] at HSB HOW HC1 g1 hW ⊢
 rw [hW] at g0 g1 d0 d1 e0 e1
 have hl9 := run_len Tryz.underlying47 da dl dc
 clear hb hA hAw hM hB1 hB2 hb0 hn hnx ho hd
 go_enter Tryz.func31, Tryz.ntmps31
 go_wp2_with fail
 rw [← hW]
 clear hW g0 g1 d0 d1 e0 e1
 refine HC1.mono ?_
 rintro e w1 ⟨⟨i1, k1, rfl, hf⟩, hb1⟩
 have HB1 : Hid (Below W.heap.size W w1) := hb1
 clear hb1 HC1
 obtain ⟨g0, g1, d0, d1, e0, e1⟩ := HSB.out w1 HB1.out
 by_cases hk0 : k1 = 0
 case neg => (
 have HT1 : Hid (T k1 ([], 0)) := by (
 rw [HT.out]
 rcases hf with ⟨h1, h3⟩ | ⟨h1, h2, h3⟩ | ⟨h1, h2, h3, _⟩
 · exact .inl ⟨h1, h3, rfl⟩
 · exact .inr (.inl ⟨h1, by rw [psE_one]; exact h2, by rw [psE_one]; exact h3, rfl⟩)
 · exact no_told h1 (by rw [psE_one]; exact h2) (by unfold rwE; rw [if_pos (by rw [← h3]; exact hk0)]; exact h3.symm) hk0)
 clear hf
 go_wp2
 refine bodyPost_ret (v := .tuple #[.agg #[.slice none 0 0, .int .i64 0], .int .i64 0, .int .i64 k1]) (by simp [results, Tryz.results31, go_sem, *]) rfl (HNo.out _ _ HT1.out hk0 (below_set2 (HBW.out _ HB1.out) (by omega) _ _)))
 subst hk0
 obtain ⟨hO, hp0, hfz, hex⟩ : Ok s ∧ serr p = 0 ∧ filE s.1 (sval p) = 0 ∧ ∃ at' : Nat, i1 = (at' : Int) ∧ s.1[at']? = some (tgt s (sval p)) := by (
 rcases hf with ⟨_, h3⟩ | ⟨_, h2, h3⟩ | ⟨h1, h2, h3, h4⟩
 · omega
 · exact absurd h3.symm h2
 · exact ⟨h1, h2, h3.symm, h4 rfl⟩)
 obtain ⟨at', rfl, hat⟩ := hex
 obtain ⟨q, hq⟩ := exa (tgt s (sval p))
 rw [← hq] at hat HT
 obtain ⟨E, hE⟩ := exa (F.wrE (fi q) off d)
 obtain ⟨G, hG⟩ := exa (F.wrF (fi q) off d)
 rw [← hE, ← hG] at HT
 have HQ : Hid (q = tgt s (sval p) ∧ s.1[at']? = some q ∧ Ok s ∧ psE [p] = 0 ∧ rwE s (sval p) E = E) := ⟨hq, hat, hO, by rw [psE_one]; exact hp0, by unfold rwE; rw [if_neg (fun h => h hfz)]⟩
 obtain ⟨b, o, ea, ec, fa, fc, hix, hall⟩ := ndr_at HW.out.2.1 at' q hat
 obtain ⟨pz, hpz⟩ := exa ((fi q).1)
 obtain ⟨fl, hfl⟩ := exa ((fi q).2.length)
 rw [← hpz, ← hfl] at hall
 have HFC : Hid (∀ V, Below W.heap.size W V → V.cell? ⟨b, o + 4, none⟩ = some (.int .i64 pz) ∧ V.cell? ⟨b, o + 4 + 1, none⟩ = some (.slice fa fl fc) ∧ F.flR.lies n0 V [.int .i64 pz, .slice fa fl fc] (fi q)) := fun V hV => ⟨(hall V hV).1.2.2.2.2.1, (hall V hV).1.2.2.2.2.2, by have := (hall V hV).2.file; rw [← hpz] at this; exact this⟩
 have hatn : (at' : Int) < (n : Int) := by (
 have h1 := (List.getElem?_eq_some_iff.1 hat).1
 have h2 := HN.out.1
 omega)
 have HC2 := F.rwrite_any n0 n1 [.int .i64 pz, .slice fa fl fc] (fi q) off (.slice da dl dc) d w1 (HFC.out w1 HB1.out).2.2 HN.out.2.2 (HDA.out w1 HB1.out)
 rw [← hE, ← hG] at HC2
 obtain ⟨c4, c5, -⟩ := HFC.out w1 HB1.out
 have c5' : w1.cell? ⟨b, o + 5, none⟩ = some (.slice fa fl fc) := c5
 clear hf hO hp0 hfz hq hat hall hpz hfl hE hG
 go_wp2_with fail
 refine HC2.mono ?_
 rintro e w2 ⟨⟨us2, rfl, hf2⟩, hb2⟩
 obtain ⟨fa2, fc2, rfl, hbk2, hi2, -⟩ := F.fl_viewR hf2
 obtain ⟨gz, hgz⟩ := exa (G.1)
 obtain ⟨gl, hgl⟩ := exa (G.2.length)
 rw [← hgl] at hbk2 ⊢
 rw [← hgz] at hi2 ⊢
 obtain ⟨W2, hW2⟩ := exa (w2.alloc (.cells #[.int .i64 gz, .slice fa2 gl fc2] 76))
 have hbW2 : Below w2.heap.size w2 W2 := by rw [hW2]; exact (Below.refl _ _).alloc (Nat.le_refl _) _
 have HB2 : Hid (Below W.heap.size W W2 ∧ Box W2 w2.heap.size 76 #[.int .i64 gz, .slice fa2 gl fc2] ∧ F.bksR.lies w1.heap.size W2 [.slice fa2 gl fc2] G.2 ∧ I64 gz ∧ gz = G.1 ∧ w1.heap.size ≤ w2.heap.size ∧ W2.heap.size = w2.heap.size + 1 ∧ W.heap.size ≤ w1.heap.size) := ⟨below_any HB1.out (below_any hb2 hbW2), by rw [hW2]; exact Box.new _ _ _, F.bksR.below hbk2 hbW2, hi2, hgz, hb2.size, by rw [hW2]; simp, HB1.out.size⟩
 clear c4 c5 c5' hf2 hb2 hbk2 hi2 hgz hgl HC2 hbW2 g0 g1 d0 d1 e0 e1
 obtain ⟨g0, g1, d0, d1, e0, e1⟩ := HSB.out W2 HB2.out.1
 by_cases hE0 : E = 0
 case neg => (
 have HT1 : Hid (T E ([], 0)) := by
   rw [HT.out]
   exact no_told HQ.out.2.2.1 HQ.out.2.2.2.1 HQ.out.2.2.2.2 hE0
 rw [hW2] at d0 d1 e0 e1
 go_wp2
 rw [← hW2] at d0 d1 e0 e1 ⊢
 clear hW2
 refine bodyPost_ret (v := .tuple #[.agg #[.slice none 0 0, .int .i64 0], .int .i64 0, .int .i64 E]) (by simp [results, Tryz.results31, go_sem, *]) rfl (HNo.out _ _ HT1.out hE0 (below_set2 (HBW.out _ HB2.out.1) (by omega) _ _)))
 subst hE0
 have HC3 := HOW.out HQ.out.2.2.1 W2 HB2.out.1
 rw [hW2] at g0 g1
 go_wp2_with fail
 rw [← hW2]
 clear hW2 g0 g1 d0 d1 e0 e1
 refine HC3.mono ?_
 rintro e w3 ⟨⟨v3, rfl, hor3⟩, hb3⟩
 have HB3 : Hid (Below W.heap.size W w3 ∧ Below W2.heap.size W2 w3) := ⟨below_any HB2.out.1 hb3, hb3⟩
 obtain ⟨X, hX⟩ : ∃ X : Nat → Prop, X = fun k => (w0.heap.size ≤ k ∧ k < w1.heap.size) ∨ k = w3.heap.size := ⟨_, rfl⟩
 have HX : Hid (∀ k, X k ↔ (w0.heap.size ≤ k ∧ k < w1.heap.size) ∨ k = w3.heap.size) := fun k => by rw [hX]
 obtain ⟨W5, hW5⟩ := exa (w3.alloc (.cells #[v3, .int .i64 nx] 24))
 have hbW5 : Below w3.heap.size w3 W5 := by rw [hW5]; exact (Below.refl _ w3).alloc (Nat.le_refl _) _
 have HR5 : Hid (RX X W2.heap.size W5 v3 s.1 ∧ Box W5 w3.heap.size 24 #[v3, .int .i64 nx] ∧ Below W.heap.size W W5 ∧ W2.heap.size ≤ w3.heap.size ∧ W5.heap.size = w3.heap.size + 1 ∧ Below W2.heap.size W2 W5) := by (
 refine ⟨(RX.of_or hor3).more hbW5 fun k hk => ?_, by rw [hW5]; exact Box.new _ _ _, below_any HB3.out.1 hbW5, hb3.size, by rw [hW5]; simp, below_any hb3 hbW5⟩
 have h1 := HB2.out.2.2.2.2.2
 rcases (HX.out k).1 hk with h | h
 · exact .inl ⟨h.1, by omega⟩
 · exact .inr (by omega))
 obtain ⟨g5, c5, ea5, ec5, fa5, fc5, rfl, hbg5, hgs5, hix5, hpx5, hall5⟩ := HR5.out.1.at at' q HQ.out.2.1
 rw [← HN.out.1] at hix5 HR5 hpx5 hall5 hW5 ⊢
 have HG5 : Hid (W2.heap.size ≤ g5 ∧ g5 < w3.heap.size) := by (
 have h1 := HR5.out.1.lt g5 rfl
 have h2 := hor3.owns g5 (by rw [← HN.out.1]; rfl)
 exact ⟨h1.1, by omega⟩)
 obtain ⟨hc5, hf5, hst5⟩ := hall5 W5 (Below.refl _ _)
 have hpX : ∀ w', AgX (WX X (.slice (some ⟨g5, 0, none⟩) n c5)) W5 w' → F.bksR.lies 0 w' [.slice fa2 gl fc2] G.2 := fun w' ha => by (
 refine bks_px (w := W2) (X := WX X (.slice (some ⟨g5, 0, none⟩) n c5)) HB2.out.2.2.1 (fun k hk => ?_) (fun k k1 k2 => by rw [ha k k1 (by have := HR5.out.2.2.2.2.2.size; omega)]; exact HR5.out.2.2.2.2.2.block k k2)
 have h2 := HR5.out.2.2.2
 have h4 := HG5.out
 rcases hk with hk | hk
 · rcases (HX.out k).1 hk with h | h <;> omega
 · have : g5 = k := by simpa [Value.ownBlock] using hk
   omega)
 obtain ⟨p1, hp1⟩ : ∃ p1 : Nd, p1 = (q.1, q.2.1, q.2.2.1, q.2.2.2.1, (gz, q.2.2.2.2.2)) := ⟨_, rfl⟩
 obtain ⟨p2, hp2⟩ : ∃ p2 : Nd, p2 = wF G q := ⟨_, rfl⟩
 have hI : I64 gz := HB2.out.2.2.2.1
 have hgG : gz = G.1 := HB2.out.2.2.2.2.1
 obtain ⟨W6, hW6⟩ := exa (W5.setCell ⟨g5, at' * 6 + 4, none⟩ (.int .i64 gz))
 have hR6 : RX X W2.heap.size W6 (.slice (some ⟨g5, 0, none⟩) n c5) (s.1.set at' p1) := by
   rw [hW6, hp1]
   exact hst5 4 _ (q.1, q.2.1, q.2.2.1, q.2.2.2.1, (gz, q.2.2.2.2.2)) _ _ (by omega) rfl ⟨⟨hpx5.1.1, hpx5.1.2.1, hI⟩, hpx5.2⟩
 have hlt6 : at' < s.1.length := (List.getElem?_eq_some_iff.1 HQ.out.2.1).1
 obtain ⟨g6, c6, ea6, ec6, fa6, fc6, hv6, -, -, -, hpx6, hall6⟩ := hR6.at at' p1 (by rw [List.getElem?_set_self hlt6])
 obtain ⟨hgg, -, -⟩ : (⟨g5, 0, none⟩ : Addr) = ⟨g6, 0, none⟩ ∧ n = (s.1.set at' p1).length ∧ c5 = c6 := by simpa using hv6
 obtain rfl : g5 = g6 := by simpa using hgg
 obtain ⟨hc6, hf6, hst6⟩ := hall6 W6 (Below.refl _ _)
 obtain ⟨W7, hW7⟩ := exa (W6.setCell ⟨g5, at' * 6 + 5, none⟩ (.slice fa2 gl fc2))
 have hR7 : RX X W2.heap.size W7 (.slice (some ⟨g5, 0, none⟩) n c5) (ch s.1 q.1 (wF G)) := by (
 rw [hW7, ← set_ch HQ.out.2.2.1.wk.up HQ.out.2.1, ← hp2]
 have h9 := hst6 5 (.slice fa2 gl fc2) p2 (.slice ea6 (en p1).length ec6) (.slice fa2 gl fc2) (by omega) (by rw [hp1, hp2]; unfold wF nv; simp only [List.set_cons_succ, List.set_cons_zero]; rw [hgG]) ⟨by rw [hp2]; exact ⟨hpx5.1.1, hpx5.1.2.1, by show I64 G.1; rw [← hgG]; exact hI⟩, fun w' ha => ⟨?_, ?_⟩⟩
 · rwa [List.set_set] at h9
 · have := (hpx6.2 w' ha).1
   rw [hp1] at this
   rw [hp1, hp2]; exact this
 · have h8 := hpX w' fun k k1 k2 => by
     rw [ha k k1 (by rw [hW6]; simpa [World.setCell] using k2), hW6]
     exact Below.heap_setCell _ _ _ _ fun e => k1 (.inr (by simp only at e; rw [e]; rfl))
   rw [hp2]; exact h8)
 have hbx7 : Box W7 w3.heap.size 24 #[.slice (some ⟨g5, 0, none⟩) n c5, .int .i64 nx] := by rw [hW7, hW6]; exact (HR5.out.2.1.other (by have := HG5.out; omega)).other (by have := HG5.out; omega)
 have HR7 : Hid (RX X W2.heap.size W7 (.slice (some ⟨g5, 0, none⟩) n c5) (ch s.1 q.1 (wF G)) ∧ Below W.heap.size W W7) := by (
 refine ⟨hR7, ?_⟩
 have h1 := HG5.out
 have h2 := HB2.out.2.2.2.2.2
 rw [hW7, hW6]
 exact (HR5.out.2.2.1.setCell (p := ⟨g5, at' * 6 + 4, none⟩) (by simp only; omega) _).setCell (p := ⟨g5, at' * 6 + 5, none⟩) (by simp only; omega) _)
 have hc4 := hc5.2.2.2.2.1
 have hc5' := hc5.2.2.2.2.2
 have hf4 := hf5 (at' * 6 + 4)
 have hf5' := hf5 (at' * 6 + 5)
 have hfb := HB2.out.2.1.below HR5.out.2.2.2.2.2 HB2.out.2.1.lt
 obtain ⟨z0, z1, -, -⟩ := hfb.two
 obtain ⟨t0, t1, -, -⟩ := HR5.out.2.1.two
 obtain ⟨u0, u1, -, -⟩ := hbx7.two
 obtain ⟨-, -, d0, d1, e0, e1⟩ := HSB.out W7 HR7.out.2
 rw [hW7, hW6] at u0 u1 d0 d1 e0 e1
 rw [hW5] at hc4 hc5' hf4 hf5' z0 z1 t0 t1 u0 u1 d0 d1 e0 e1
 have HTY : Hid (T 0 (ch s.1 q.1 (wF G), nx)) := by
   rw [HT.out, HN.out.2.1]
   exact yes_told HQ.out.2.2.1 HQ.out.2.2.2.1 HQ.out.2.2.2.2
 have HLN : Hid (n = (ch s.1 q.1 (wF G)).length) := show n = (ch s.1 q.1 (wF G)).length by rw [ch_length]; exact HN.out.1
 clear hor3 hb3 hX hbW5 hbg5 hgs5 hpx5 hall5 hc5 hf5 hst5 hpX hp1 hp2 hI hgG hR6 hlt6 hv6 hgg hpx6 hall6 hc6 hf6 hst6 hR7 hbx7 hfb HC3
 go_wp2
 rw [← hW5, ← hW6, ← hW7] at *
 refine bodyPost_ret (v := .tuple #[.agg #[.slice (some ⟨g5, 0, none⟩) n c5, .int .i64 nx], .int .i64 dl, .int .i64 0]) (by clear hW5 hW6 hW7; simp [results, Tryz.results31, go_sem, *]) rfl (HYes.out _ _ _ _ _ _ HLN.out HTY.out ?_ (below_set2 (HBW.out _ HR7.out.2) (by omega) _ _))
 have h1 := HB2.out.2.2.2.2.2
 have h2 := HW.out
 have h3 := HG5.out
 have hR : X (w.heap.size + 1) := (HX.out _).2 (.inl ⟨by omega, by omega⟩)
 have hn2 : (Value.slice (some ⟨g5, 0, none⟩) n c5).ownBlock ≠ some (w.heap.size + 1) := by simp [Value.ownBlock]; omega
 exact ((HR7.out.1.set hR hn2 _ _).set hR hn2 _ _).or (fun k k1 k2 => (HX.out k).2 (.inl ⟨k1, by omega⟩)) (by omega)
end Go.Proofs.YtkcnephbaffmbaaGreatDoor
namespace Go.Proofs.YtkcnephbaffmbaaGreatDoor
open Go.RowKit
open D (En ArgE Chk)
open P (ArgT OwnT serr sval)
theorem rTruncate_any (n0 : Nat) (w0 : World) (a : Option Addr) (c : Nat) (s : St) (p : ByteArray) (m : Int) (hm : I64 m) (w : World) (hb0 : Below w0.heap.size w0 w) (hA : ndsR.lies n0 w0 [.slice a s.1.length c] s.1) (hM : FitsS s.1) :
   Calls Tryz.prog 33 #[.agg #[.slice a s.1.length c, .int .i64 s.2], .string p, .int .i64 m] w (FlatR w0.heap.size (Told s [p] (rwE s (sval p) (F.trE (fi (tgt s (sval p))) m)) (filN s (tgt s (sval p)) (F.trF (fi (tgt s (sval p))) m))) w) := by
 obtain ⟨T, hT⟩ : ∃ T : Int → St → Prop, T = Told s [p] (rwE s (sval p) (F.trE (fi (tgt s (sval p))) m)) (filN s (tgt s (sval p)) (F.trF (fi (tgt s (sval p))) m)) := ⟨_, rfl⟩
 have HT : Hid (T = Told s [p] (rwE s (sval p) (F.trE (fi (tgt s (sval p))) m)) (filN s (tgt s (sval p)) (F.trF (fi (tgt s (sval p))) m))) := hT
 rw [← hT]
 clear hT
 obtain ⟨post, hpost⟩ : ∃ post : Ending → World → Prop, post = FlatR w0.heap.size T w := ⟨_, rfl⟩
 have HNo : Hid (∀ k w', T k ([], 0) → Below w.heap.size w w' → post (.returned (.tuple #[.agg #[.slice none 0 0, .int .i64 0], .int .i64 k])) w') := fun k w' h1 h2 => by rw [hpost]; exact ⟨⟨k, [], 0, 0, none, 0, rfl, rfl, OR.nil _ _ _, h1⟩, h2⟩
 have HYes : Hid (∀ a' c' l' nx' n' w', n' = l'.length → T 0 (l', nx') → OR w0.heap.size w.heap.size w' (.slice a' n' c') l' → Below w.heap.size w w' → post (.returned (.tuple #[.agg #[.slice a' n' c', .int .i64 nx'], .int .i64 0])) w') := fun a' c' l' nx' n' w' h0 h1 h2 h3 => by rw [hpost]; exact ⟨⟨0, l', nx', n', a', c', rfl, h0, h2, h1⟩, h3⟩
 rw [← hpost]
 clear hpost
 obtain ⟨W, hW⟩ := exa ((w.alloc (.cells #[.slice a s.1.length c, .int .i64 s.2] 24)).alloc (.cells #[.slice none 0 0, .int .i64 0] 24))
 have hb : Below w.heap.size w W := by rw [hW]; exact ((Below.refl _ w).alloc (Nat.le_refl _) _).alloc (by simp) _
 have hAw : ndsR.lies n0 w [.slice a s.1.length c] s.1 := ndsR.below hA hb0
 have hB1 : Box W w.heap.size 24 #[.slice a s.1.length c, .int .i64 s.2] := by rw [hW]; exact (Box.new _ _ _).alloc _
 have hB2 : Box W (w.heap.size + 1) 24 #[.slice none 0 0, .int .i64 0] := by (
 rw [hW]
 have := Box.new (w.alloc (.cells #[.slice a s.1.length c, .int .i64 s.2] 24)) 24 #[.slice none 0 0, .int .i64 0]
 rwa [World.size_alloc] at this)
 have HW : Hid (Below w.heap.size w W ∧ ndsR.lies n0 W [.slice a s.1.length c] s.1 ∧ W.heap.size = w.heap.size + 2 ∧ Below w0.heap.size w0 W ∧ w0.heap.size ≤ w.heap.size) := ⟨hb, ndsR.below hAw hb, by rw [hW]; simp, hb0.trans (hb.mono hb0.size), hb0.size⟩
 have HSB : Hid (∀ V, Below W.heap.size W V → V.cell? ⟨w.heap.size, 0, none⟩ = some (.slice a s.1.length c) ∧ V.cell? ⟨w.heap.size, 1, none⟩ = some (.int .i64 s.2) ∧ V.cell? ⟨w.heap.size + 1, 0, none⟩ = some (.slice none 0 0) ∧ V.cell? ⟨w.heap.size + 1, 1, none⟩ = some (.int .i64 0) ∧ V.frozen? ⟨w.heap.size + 1, 0, none⟩ = false ∧ V.frozen? ⟨w.heap.size + 1, 1, none⟩ = false) := fun V hV => by (
 obtain ⟨g0, g1, -, -⟩ := (hB1.below hV hB1.lt).two
 obtain ⟨d0, d1, d2, d3⟩ := (hB2.below hV hB2.lt).two
 exact ⟨g0, g1, d0, d1, d2, d3⟩)
 have HBW : Hid (∀ V, Below W.heap.size W V → Below w.heap.size w V) := fun V hV => below_any hb hV
 have HOW : Hid (Ok s → ∀ V, Below W.heap.size W V → Calls Tryz.prog 42 #[.agg #[.slice a s.1.length c, .int .i64 s.2]] V fun e w' => (∃ v', e = .returned (.agg #[v', .int .i64 s.2]) ∧ OR w0.heap.size V.heap.size w' v' s.1) ∧ Below V.heap.size V w') := fun hO V hV => rown_any n0 w0 a c s hO.wk V (HW.out.2.2.2.1.trans (hV.mono HW.out.2.2.2.1.size)) hA
 have HC1 := rfile_any n0 a c s p W HW.out.2.1 hM
 obtain ⟨g0, g1, d0, d1, e0, e1⟩ := HSB.out W (Below.refl _ _)
 obtain ⟨n, hn⟩ := exa (s.1.length)
 obtain ⟨nx, hnx⟩ := exa (s.2)
 have HN : Hid (n = s.1.length ∧ nx = s.2 ∧ I64 m) := ⟨hn, hnx, hm⟩
 rw [← hn] at HW HSB HOW HC1 g0 hW ⊢
 rw [← hnx] at HSB HOW HC1 g1 hW ⊢
 rw [hW] at g0 g1 d0 d1 e0 e1
 
 clear hb hA hAw hM hB1 hB2 hb0 hn hnx hm
 go_enter Tryz.func33, Tryz.ntmps33
 go_wp2_with fail
 rw [← hW]
 clear hW g0 g1 d0 d1 e0 e1
 refine HC1.mono ?_
 rintro e w1 ⟨⟨i1, k1, rfl, hf⟩, hb1⟩
 have HB1 : Hid (Below W.heap.size W w1) := hb1
 clear hb1 HC1
 obtain ⟨g0, g1, d0, d1, e0, e1⟩ := HSB.out w1 HB1.out
 by_cases hk0 : k1 = 0
 case neg => (
 have HT1 : Hid (T k1 ([], 0)) := by (
 rw [HT.out]
 rcases hf with ⟨h1, h3⟩ | ⟨h1, h2, h3⟩ | ⟨h1, h2, h3, _⟩
 · exact .inl ⟨h1, h3, rfl⟩
 · exact .inr (.inl ⟨h1, by rw [psE_one]; exact h2, by rw [psE_one]; exact h3, rfl⟩)
 · exact no_told h1 (by rw [psE_one]; exact h2) (by unfold rwE; rw [if_pos (by rw [← h3]; exact hk0)]; exact h3.symm) hk0)
 clear hf
 go_wp2
 refine bodyPost_ret (v := .tuple #[.agg #[.slice none 0 0, .int .i64 0], .int .i64 k1]) (by simp [results, Tryz.results33, go_sem, *]) rfl (HNo.out _ _ HT1.out (below_set2 (HBW.out _ HB1.out) (by omega) _ _)))
 subst hk0
 obtain ⟨hO, hp0, hfz, hex⟩ : Ok s ∧ serr p = 0 ∧ filE s.1 (sval p) = 0 ∧ ∃ at' : Nat, i1 = (at' : Int) ∧ s.1[at']? = some (tgt s (sval p)) := by (
 rcases hf with ⟨_, h3⟩ | ⟨_, h2, h3⟩ | ⟨h1, h2, h3, h4⟩
 · omega
 · exact absurd h3.symm h2
 · exact ⟨h1, h2, h3.symm, h4 rfl⟩)
 obtain ⟨at', rfl, hat⟩ := hex
 obtain ⟨q, hq⟩ := exa (tgt s (sval p))
 rw [← hq] at hat HT
 obtain ⟨E, hE⟩ := exa (F.trE (fi q) m)
 obtain ⟨G, hG⟩ := exa (F.trF (fi q) m)
 rw [← hE, ← hG] at HT
 have HQ : Hid (q = tgt s (sval p) ∧ s.1[at']? = some q ∧ Ok s ∧ psE [p] = 0 ∧ rwE s (sval p) E = E) := ⟨hq, hat, hO, by rw [psE_one]; exact hp0, by unfold rwE; rw [if_neg (fun h => h hfz)]⟩
 obtain ⟨b, o, ea, ec, fa, fc, hix, hall⟩ := ndr_at HW.out.2.1 at' q hat
 obtain ⟨pz, hpz⟩ := exa ((fi q).1)
 obtain ⟨fl, hfl⟩ := exa ((fi q).2.length)
 rw [← hpz, ← hfl] at hall
 have HFC : Hid (∀ V, Below W.heap.size W V → V.cell? ⟨b, o + 4, none⟩ = some (.int .i64 pz) ∧ V.cell? ⟨b, o + 4 + 1, none⟩ = some (.slice fa fl fc) ∧ F.flR.lies n0 V [.int .i64 pz, .slice fa fl fc] (fi q)) := fun V hV => ⟨(hall V hV).1.2.2.2.2.1, (hall V hV).1.2.2.2.2.2, by have := (hall V hV).2.file; rw [← hpz] at this; exact this⟩
 have hatn : (at' : Int) < (n : Int) := by (
 have h1 := (List.getElem?_eq_some_iff.1 hat).1
 have h2 := HN.out.1
 omega)
 have HC2 := F.rtrunc_any n0 [.int .i64 pz, .slice fa fl fc] (fi q) m w1 (HFC.out w1 HB1.out).2.2 HN.out.2.2
 rw [← hE, ← hG] at HC2
 obtain ⟨c4, c5, -⟩ := HFC.out w1 HB1.out
 have c5' : w1.cell? ⟨b, o + 5, none⟩ = some (.slice fa fl fc) := c5
 clear hf hO hp0 hfz hq hat hall hpz hfl hE hG
 go_wp2_with fail
 refine HC2.mono ?_
 rintro e w2 ⟨⟨us2, rfl, hf2⟩, hb2⟩
 obtain ⟨fa2, fc2, rfl, hbk2, hi2, -⟩ := F.fl_viewR hf2
 obtain ⟨gz, hgz⟩ := exa (G.1)
 obtain ⟨gl, hgl⟩ := exa (G.2.length)
 rw [← hgl] at hbk2 ⊢
 rw [← hgz] at hi2 ⊢
 obtain ⟨W2, hW2⟩ := exa (w2.alloc (.cells #[.int .i64 gz, .slice fa2 gl fc2] 76))
 have hbW2 : Below w2.heap.size w2 W2 := by rw [hW2]; exact (Below.refl _ _).alloc (Nat.le_refl _) _
 have HB2 : Hid (Below W.heap.size W W2 ∧ Box W2 w2.heap.size 76 #[.int .i64 gz, .slice fa2 gl fc2] ∧ F.bksR.lies w1.heap.size W2 [.slice fa2 gl fc2] G.2 ∧ I64 gz ∧ gz = G.1 ∧ w1.heap.size ≤ w2.heap.size ∧ W2.heap.size = w2.heap.size + 1 ∧ W.heap.size ≤ w1.heap.size) := ⟨below_any HB1.out (below_any hb2 hbW2), by rw [hW2]; exact Box.new _ _ _, F.bksR.below hbk2 hbW2, hi2, hgz, hb2.size, by rw [hW2]; simp, HB1.out.size⟩
 clear c4 c5 c5' hf2 hb2 hbk2 hi2 hgz hgl HC2 hbW2 g0 g1 d0 d1 e0 e1
 obtain ⟨g0, g1, d0, d1, e0, e1⟩ := HSB.out W2 HB2.out.1
 by_cases hE0 : E = 0
 case neg => (
 have HT1 : Hid (T E ([], 0)) := by
   rw [HT.out]
   exact no_told HQ.out.2.2.1 HQ.out.2.2.2.1 HQ.out.2.2.2.2 hE0
 rw [hW2] at d0 d1 e0 e1
 go_wp2
 rw [← hW2] at d0 d1 e0 e1 ⊢
 clear hW2
 refine bodyPost_ret (v := .tuple #[.agg #[.slice none 0 0, .int .i64 0], .int .i64 E]) (by simp [results, Tryz.results33, go_sem, *]) rfl (HNo.out _ _ HT1.out (below_set2 (HBW.out _ HB2.out.1) (by omega) _ _)))
 subst hE0
 have HC3 := HOW.out HQ.out.2.2.1 W2 HB2.out.1
 rw [hW2] at g0 g1
 go_wp2_with fail
 rw [← hW2]
 clear hW2 g0 g1 d0 d1 e0 e1
 refine HC3.mono ?_
 rintro e w3 ⟨⟨v3, rfl, hor3⟩, hb3⟩
 have HB3 : Hid (Below W.heap.size W w3 ∧ Below W2.heap.size W2 w3) := ⟨below_any HB2.out.1 hb3, hb3⟩
 obtain ⟨X, hX⟩ : ∃ X : Nat → Prop, X = fun k => (w0.heap.size ≤ k ∧ k < w1.heap.size) ∨ k = w3.heap.size := ⟨_, rfl⟩
 have HX : Hid (∀ k, X k ↔ (w0.heap.size ≤ k ∧ k < w1.heap.size) ∨ k = w3.heap.size) := fun k => by rw [hX]
 obtain ⟨W5, hW5⟩ := exa (w3.alloc (.cells #[v3, .int .i64 nx] 24))
 have hbW5 : Below w3.heap.size w3 W5 := by rw [hW5]; exact (Below.refl _ w3).alloc (Nat.le_refl _) _
 have HR5 : Hid (RX X W2.heap.size W5 v3 s.1 ∧ Box W5 w3.heap.size 24 #[v3, .int .i64 nx] ∧ Below W.heap.size W W5 ∧ W2.heap.size ≤ w3.heap.size ∧ W5.heap.size = w3.heap.size + 1 ∧ Below W2.heap.size W2 W5) := by (
 refine ⟨(RX.of_or hor3).more hbW5 fun k hk => ?_, by rw [hW5]; exact Box.new _ _ _, below_any HB3.out.1 hbW5, hb3.size, by rw [hW5]; simp, below_any hb3 hbW5⟩
 have h1 := HB2.out.2.2.2.2.2
 rcases (HX.out k).1 hk with h | h
 · exact .inl ⟨h.1, by omega⟩
 · exact .inr (by omega))
 obtain ⟨g5, c5, ea5, ec5, fa5, fc5, rfl, hbg5, hgs5, hix5, hpx5, hall5⟩ := HR5.out.1.at at' q HQ.out.2.1
 rw [← HN.out.1] at hix5 HR5 hpx5 hall5 hW5 ⊢
 have HG5 : Hid (W2.heap.size ≤ g5 ∧ g5 < w3.heap.size) := by (
 have h1 := HR5.out.1.lt g5 rfl
 have h2 := hor3.owns g5 (by rw [← HN.out.1]; rfl)
 exact ⟨h1.1, by omega⟩)
 obtain ⟨hc5, hf5, hst5⟩ := hall5 W5 (Below.refl _ _)
 have hpX : ∀ w', AgX (WX X (.slice (some ⟨g5, 0, none⟩) n c5)) W5 w' → F.bksR.lies 0 w' [.slice fa2 gl fc2] G.2 := fun w' ha => by (
 refine bks_px (w := W2) (X := WX X (.slice (some ⟨g5, 0, none⟩) n c5)) HB2.out.2.2.1 (fun k hk => ?_) (fun k k1 k2 => by rw [ha k k1 (by have := HR5.out.2.2.2.2.2.size; omega)]; exact HR5.out.2.2.2.2.2.block k k2)
 have h2 := HR5.out.2.2.2
 have h4 := HG5.out
 rcases hk with hk | hk
 · rcases (HX.out k).1 hk with h | h <;> omega
 · have : g5 = k := by simpa [Value.ownBlock] using hk
   omega)
 obtain ⟨p1, hp1⟩ : ∃ p1 : Nd, p1 = (q.1, q.2.1, q.2.2.1, q.2.2.2.1, (gz, q.2.2.2.2.2)) := ⟨_, rfl⟩
 obtain ⟨p2, hp2⟩ : ∃ p2 : Nd, p2 = wF G q := ⟨_, rfl⟩
 have hI : I64 gz := HB2.out.2.2.2.1
 have hgG : gz = G.1 := HB2.out.2.2.2.2.1
 obtain ⟨W6, hW6⟩ := exa (W5.setCell ⟨g5, at' * 6 + 4, none⟩ (.int .i64 gz))
 have hR6 : RX X W2.heap.size W6 (.slice (some ⟨g5, 0, none⟩) n c5) (s.1.set at' p1) := by
   rw [hW6, hp1]
   exact hst5 4 _ (q.1, q.2.1, q.2.2.1, q.2.2.2.1, (gz, q.2.2.2.2.2)) _ _ (by omega) rfl ⟨⟨hpx5.1.1, hpx5.1.2.1, hI⟩, hpx5.2⟩
 have hlt6 : at' < s.1.length := (List.getElem?_eq_some_iff.1 HQ.out.2.1).1
 obtain ⟨g6, c6, ea6, ec6, fa6, fc6, hv6, -, -, -, hpx6, hall6⟩ := hR6.at at' p1 (by rw [List.getElem?_set_self hlt6])
 obtain ⟨hgg, -, -⟩ : (⟨g5, 0, none⟩ : Addr) = ⟨g6, 0, none⟩ ∧ n = (s.1.set at' p1).length ∧ c5 = c6 := by simpa using hv6
 obtain rfl : g5 = g6 := by simpa using hgg
 obtain ⟨hc6, hf6, hst6⟩ := hall6 W6 (Below.refl _ _)
 obtain ⟨W7, hW7⟩ := exa (W6.setCell ⟨g5, at' * 6 + 5, none⟩ (.slice fa2 gl fc2))
 have hR7 : RX X W2.heap.size W7 (.slice (some ⟨g5, 0, none⟩) n c5) (ch s.1 q.1 (wF G)) := by (
 rw [hW7, ← set_ch HQ.out.2.2.1.wk.up HQ.out.2.1, ← hp2]
 have h9 := hst6 5 (.slice fa2 gl fc2) p2 (.slice ea6 (en p1).length ec6) (.slice fa2 gl fc2) (by omega) (by rw [hp1, hp2]; unfold wF nv; simp only [List.set_cons_succ, List.set_cons_zero]; rw [hgG]) ⟨by rw [hp2]; exact ⟨hpx5.1.1, hpx5.1.2.1, by show I64 G.1; rw [← hgG]; exact hI⟩, fun w' ha => ⟨?_, ?_⟩⟩
 · rwa [List.set_set] at h9
 · have := (hpx6.2 w' ha).1
   rw [hp1] at this
   rw [hp1, hp2]; exact this
 · have h8 := hpX w' fun k k1 k2 => by
     rw [ha k k1 (by rw [hW6]; simpa [World.setCell] using k2), hW6]
     exact Below.heap_setCell _ _ _ _ fun e => k1 (.inr (by simp only at e; rw [e]; rfl))
   rw [hp2]; exact h8)
 have hbx7 : Box W7 w3.heap.size 24 #[.slice (some ⟨g5, 0, none⟩) n c5, .int .i64 nx] := by rw [hW7, hW6]; exact (HR5.out.2.1.other (by have := HG5.out; omega)).other (by have := HG5.out; omega)
 have HR7 : Hid (RX X W2.heap.size W7 (.slice (some ⟨g5, 0, none⟩) n c5) (ch s.1 q.1 (wF G)) ∧ Below W.heap.size W W7) := by (
 refine ⟨hR7, ?_⟩
 have h1 := HG5.out
 have h2 := HB2.out.2.2.2.2.2
 rw [hW7, hW6]
 exact (HR5.out.2.2.1.setCell (p := ⟨g5, at' * 6 + 4, none⟩) (by simp only; omega) _).setCell (p := ⟨g5, at' * 6 + 5, none⟩) (by simp only; omega) _)
 have hc4 := hc5.2.2.2.2.1
 have hc5' := hc5.2.2.2.2.2
 have hf4 := hf5 (at' * 6 + 4)
 have hf5' := hf5 (at' * 6 + 5)
 have hfb := HB2.out.2.1.below HR5.out.2.2.2.2.2 HB2.out.2.1.lt
 obtain ⟨z0, z1, -, -⟩ := hfb.two
 obtain ⟨t0, t1, -, -⟩ := HR5.out.2.1.two
 obtain ⟨u0, u1, -, -⟩ := hbx7.two
 obtain ⟨-, -, d0, d1, e0, e1⟩ := HSB.out W7 HR7.out.2
 rw [hW7, hW6] at u0 u1 d0 d1 e0 e1
 rw [hW5] at hc4 hc5' hf4 hf5' z0 z1 t0 t1 u0 u1 d0 d1 e0 e1
 have HTY : Hid (T 0 (ch s.1 q.1 (wF G), nx)) := by
   rw [HT.out, HN.out.2.1]
   exact yes_told HQ.out.2.2.1 HQ.out.2.2.2.1 HQ.out.2.2.2.2
 have HLN : Hid (n = (ch s.1 q.1 (wF G)).length) := show n = (ch s.1 q.1 (wF G)).length by rw [ch_length]; exact HN.out.1
 clear hor3 hb3 hX hbW5 hbg5 hgs5 hpx5 hall5 hc5 hf5 hst5 hpX hp1 hp2 hI hgG hR6 hlt6 hv6 hgg hpx6 hall6 hc6 hf6 hst6 hR7 hbx7 hfb HC3
 go_wp2
 rw [← hW5, ← hW6, ← hW7] at *
 refine bodyPost_ret (v := .tuple #[.agg #[.slice (some ⟨g5, 0, none⟩) n c5, .int .i64 nx], .int .i64 0]) (by clear hW5 hW6 hW7; simp [results, Tryz.results33, go_sem, *]) rfl (HYes.out _ _ _ _ _ _ HLN.out HTY.out ?_ (below_set2 (HBW.out _ HR7.out.2) (by omega) _ _))
 have h1 := HB2.out.2.2.2.2.2
 have h2 := HW.out
 have h3 := HG5.out
 have hR : X (w.heap.size + 1) := (HX.out _).2 (.inl ⟨by omega, by omega⟩)
 have hn2 : (Value.slice (some ⟨g5, 0, none⟩) n c5).ownBlock ≠ some (w.heap.size + 1) := by simp [Value.ownBlock]; omega
 exact ((HR7.out.1.set hR hn2 _ _).set hR hn2 _ _).or (fun k k1 k2 => (HX.out k).2 (.inl ⟨k1, by omega⟩)) (by omega)
end Go.Proofs.YtkcnephbaffmbaaGreatDoor
