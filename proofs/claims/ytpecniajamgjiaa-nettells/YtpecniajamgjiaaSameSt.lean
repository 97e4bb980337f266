/-
  That same is true of two networks of the same data.
-/
import Derived.Test.YtpecniajamgjiaaCopy
namespace Go.Proofs.Ytpecniajamgjiaa
open Go.RowKit

set_option maxRecDepth 100000 in
set_option maxHeartbeats 4000000 in
theorem same_st (n1 n2 : Nat) (u1 u2 : List Value) (s : St) (w : World) (h1 : stN.lies n1 w u1 s) (h2 : stR.lies n2 w u2 s) :
    Calls Try.prog 19 #[.agg u1.toArray, .agg u2.toArray] w fun e w' => e = .returned (.bool true) ∧ Below w.heap.size w w' := by
  obtain ⟨a1, c1, rfl, hL1, _, hm⟩ := st_viewN h1
  obtain ⟨a2, c2, rfl, hL2, _, _⟩ := st_viewR h2
  obtain ⟨lim, l⟩ := s
  simp only at hL1 hL2 hm
  obtain ⟨n, hn⟩ : ∃ n, n = l.length := ⟨_, rfl⟩
  have HN : Hid (n = l.length) := hn
  have HL : Hid (pksN.lies n1 w [.slice a1 n c1] l ∧ pksR.lies n2 w [.slice a2 n c2] l) := by
    rw [hn]; exact ⟨hL1, hL2⟩
  rw [← hn] at hm
  unfold maxLen at hm
  simp only
  rw [← hn]
  have hl1 := run_len Try.underlying28 a1 n c1
  have hl2 := run_len Try.underlying22 a2 n c2
  obtain ⟨W, hW⟩ : ∃ W, W = (w.alloc (.cells #[.int .i64 lim, .slice a1 n c1] 30)).alloc (.cells #[.int .i64 lim, .slice a2 n c2] 24) := ⟨_, rfl⟩
  have HW : Hid (Below w.heap.size w W ∧ Box W w.heap.size 30 #[.int .i64 lim, .slice a1 n c1] ∧ Box W (w.heap.size + 1) 24 #[.int .i64 lim, .slice a2 n c2]) := by
    refine ⟨by rw [hW]; exact ((Below.refl _ w).alloc (Nat.le_refl _) _).alloc (by simp) _, by rw [hW]; exact (Box.new w 30 _).alloc _, ?_⟩
    rw [hW]
    have := Box.new (w.alloc (.cells #[.int .i64 lim, .slice a1 n c1] 30)) 24 #[.int .i64 lim, .slice a2 n c2]
    rwa [World.size_alloc] at this
  clear h1 h2 hL1 hL2 hn
  go_enter Try.func19, Try.ntmps19
  go_wp2
  rw [← hW]
  clear hW
  go_loopw [5] (fun i wr => ∃ k : Nat, k ≤ n ∧ i = .int .i64 k ∧ Below W.heap.size W wr) (fun i _ => n - (intOf i).toNat)
  case atStart => exact ⟨0, Nat.zero_le _, rfl, Below.refl _ _⟩
  case round =>
    obtain ⟨k, hk, rfl, hbel⟩ := hrel
    have HB : Hid (Below W.heap.size W wr ∧ Below w.heap.size w wr) := ⟨hbel, below_any HW.out.1 hbel⟩
    obtain ⟨g0, g1, _, _⟩ := (HW.out.2.1.below hbel HW.out.2.1.lt).two
    obtain ⟨g2, g3, _, _⟩ := (HW.out.2.2.below hbel HW.out.2.2.lt).two
    clear hbel
    by_cases hlt : k < n
    · obtain ⟨p, hp⟩ := get_lt (l := l) (k := k) (by rw [← HN.out]; exact hlt)
      obtain ⟨b1, o1, x1, y1, hix1, p0, p1, p2, hA1, hf1, ht1⟩ := pks_atN (pksN.below HL.out.1 HB.out.2) k p hp
      obtain ⟨b2, o2, x2, y2, hix2, q0, q1, q2, hA2, hf2, ht2⟩ := pks_atR (pksR.below HL.out.2 HB.out.2) k p hp
      have HC : Hid (Calls Try.prog 21 #[.agg #[.int .i64 p.1, .int .i64 p.2.1, .slice x1 p.2.2.length y1], .agg #[.int .i64 p.1, .int .i64 p.2.1, .slice x2 p.2.2.length y2]] wr.drew fun e w' => e = .returned (.bool true) ∧ Below wr.heap.size wr w') :=
        (samePacket_true n1 n2 [.int .i64 p.1, .int .i64 p.2.1, .slice x1 p.2.2.length y1] [.int .i64 p.1, .int .i64 p.2.1, .slice x2 p.2.2.length y2] p wr.drew (pkF.keep (pk_mk hA1 hf1 ht1) (.drew _ _)) (pkF.keep (pk_mk hA2 hf2 ht2) (.drew _ _))).mono fun e w' h => ⟨h.1, ((Below.refl _ wr).drew).trans h.2⟩
      obtain ⟨pf, pt, pd⟩ := p
      simp only at p0 p1 p2 q0 q1 q2 HC
      obtain ⟨m, hm'⟩ : ∃ m, m = pd.length := ⟨_, rfl⟩
      rw [← hm'] at p2 q2 HC
      have hki : (k : Int) < (n : Int) := by omega
      have HS1 : wr.drew.cell? ⟨w.heap.size, 1, none⟩ = some (.slice a1 n c1) ∧ wr.drew.cell? ⟨w.heap.size + 1, 1, none⟩ = some (.slice a2 n c2) ∧ wr.drew.cell? ⟨b1, o1, none⟩ = some (.int .i64 pf) ∧ wr.drew.cell? ⟨b1, o1 + 1, none⟩ = some (.int .i64 pt) ∧ wr.drew.cell? ⟨b1, o1 + 2, none⟩ = some (.slice x1 m y1) ∧ wr.drew.cell? ⟨b2, o2, none⟩ = some (.int .i64 pf) ∧ wr.drew.cell? ⟨b2, o2 + 1, none⟩ = some (.int .i64 pt) ∧ wr.drew.cell? ⟨b2, o2 + 2, none⟩ = some (.slice x2 m y2) := ⟨g1, g3, p0, p1, p2, q0, q1, q2⟩
      clear hp hA1 hA2 hf1 ht1 hf2 ht2 hm'
      go_wp2
      go_region_held3 (fun w' => w'.cell? ⟨w.heap.size, 1, none⟩ = some (.slice a1 n c1) ∧ w'.cell? ⟨w.heap.size + 1, 1, none⟩ = some (.slice a2 n c2) ∧ w'.cell? ⟨b1, o1, none⟩ = some (.int .i64 pf) ∧ w'.cell? ⟨b1, o1 + 1, none⟩ = some (.int .i64 pt) ∧ w'.cell? ⟨b1, o1 + 2, none⟩ = some (.slice x1 m y1) ∧ w'.cell? ⟨b2, o2, none⟩ = some (.int .i64 pf) ∧ w'.cell? ⟨b2, o2 + 1, none⟩ = some (.int .i64 pt) ∧ w'.cell? ⟨b2, o2 + 2, none⟩ = some (.slice x2 m y2))
        (first | with_reducible exact HS2 | with_reducible exact HS1)
        ((go_simp
          with_reducible refine Calls.mono HC.out ?_
          rintro e w2 ⟨rfl, hb2⟩
          have kp : ∀ (z : Addr) (u : Value), wr.cell? z = some u → w2.cell? z = some u := fun z u hz => by rw [hb2.cell (cell_lt hz)]; exact hz
          have HS2 : w2.cell? ⟨w.heap.size, 1, none⟩ = some (.slice a1 n c1) ∧ w2.cell? ⟨w.heap.size + 1, 1, none⟩ = some (.slice a2 n c2) ∧ w2.cell? ⟨b1, o1, none⟩ = some (.int .i64 pf) ∧ w2.cell? ⟨b1, o1 + 1, none⟩ = some (.int .i64 pt) ∧ w2.cell? ⟨b1, o1 + 2, none⟩ = some (.slice x1 m y1) ∧ w2.cell? ⟨b2, o2, none⟩ = some (.int .i64 pf) ∧ w2.cell? ⟨b2, o2 + 1, none⟩ = some (.int .i64 pt) ∧ w2.cell? ⟨b2, o2 + 2, none⟩ = some (.slice x2 m y2) := ⟨kp _ _ g1, kp _ _ g3, kp _ _ p0, kp _ _ p1, kp _ _ p2, kp _ _ q0, kp _ _ q1, kp _ _ q2⟩
          clear kp))
      have HB2 : Hid (Below W.heap.size W w2) := below_any HB.out.1 hb2
      clear HS1 HS2 hb2
      go_wp2
      go_roundw
      case rel => exact ⟨k + 1, by omega, by go_num, HB2.out⟩
      case measure => simp [intOf]; omega
    · obtain rfl : k = n := by omega
      go_wp2
      go_ret
      exact ⟨rfl, HB.out.2⟩

end Go.Proofs.Ytpecniajamgjiaa
